/- The contracts of the reader of drawn bytes: pick, num, of, l15Open. -/
import Derived.WalkKit
import Derived.Lib.Hide
import Derived.Test.YticfkfjijnfcbaaDoorProg
import Derived.Laws.AppendOwnNone
import Derived.OwnWalk
import Derived.WalkSmall
import Derived.Deep.QuietTactic
import Derived.BigQuiet
import Derived.IntWalk
/- Plain trees and how they lie in memory: the words that the contracts of this claim use. -/
namespace Go.Proofs.YticfkfjijnfcbaaDoor
open Go.RowKit
inductive Tr where
 | mk (ks : List Int) (cs : List Tr)
namespace Tr
mutual
def weight : Tr → Nat
 | .mk k c => k.length + weights c
def weights : List Tr → Nat
 | [] => 0
 | t :: r => 1 + weight t + weights r
end
theorem weights_append (a b : List Tr) : weights (a ++ b) = weights a + weights b := by
 induction a with
 | nil => simp [weights]
 | cons t r ih => simp [weights, ih]; omega
theorem weights_take_succ (cs : List Tr) (j : Nat) (h : j < cs.length) : weights (cs.take (j + 1)) = weights (cs.take j) + 1 + cs[j].weight := by
 rw [List.take_succ_eq_append_getElem h, weights_append]; simp [weights]; omega
theorem length_le_weights (cs : List Tr) : cs.length ≤ weights cs := by
 induction cs with
 | nil => simp
 | cons t r ih => simp [weights]; omega
theorem weights_take_ge (cs : List Tr) (j : Nat) : weights (cs.take j) + (cs.length - j) ≤ weights cs := by
 conv => rhs; rw [← List.take_append_drop j cs, weights_append]
 have := length_le_weights (cs.drop j)
 simp at this; omega
theorem weight_get_le (cs : List Tr) (j : Nat) (h : j < cs.length) : cs[j].weight + cs.length ≤ weights cs := by
 have h1 := weights_take_ge cs (j + 1)
 have h2 := weights_take_succ cs j h
 have h3 := length_le_weights (cs.take j)
 simp at h3; omega
end Tr
namespace Tr
mutual
def count : Tr → Nat
 | .mk _ c => 1 + counts c
def counts : List Tr → Nat
 | [] => 0
 | t :: r => count t + counts r
end
mutual
def depth : Tr → Nat
 | .mk _ c => depths c + 1
def depths : List Tr → Nat
 | [] => 0
 | t :: r => max (depth t) (depths r)
end
mutual
def full (n : Int) : Tr → Nat
 | .mk k c => (if (k.length : Int) = n then 1 else 0) + fulls n c
def fulls (n : Int) : List Tr → Nat
 | [] => 0
 | t :: r => full n t + fulls n r
end
theorem depths_append (a b : List Tr) : depths (a ++ b) = max (depths a) (depths b) := by
 induction a with
 | nil => simp [depths]
 | cons t r ih => simp [depths, ih]
theorem depths_take_succ (cs : List Tr) (j : Nat) (h : j < cs.length) : depths (cs.take (j + 1)) = max (depths (cs.take j)) cs[j].depth := by
 rw [List.take_succ_eq_append_getElem h, depths_append]; simp [depths]
mutual
theorem count_le : ∀ t : Tr, t.count ≤ t.weight + 1
 | .mk k c => by have := counts_le c; simp only [count, weight]; omega
theorem counts_le : ∀ c : List Tr, counts c ≤ weights c
 | [] => by simp [counts]
 | t :: r => by have := count_le t; have := counts_le r; simp only [counts, weights]; omega
end
mutual
theorem depth_le : ∀ t : Tr, t.depth ≤ t.count
 | .mk k c => by have := depths_le c; simp only [count, depth]; omega
theorem depths_le : ∀ c : List Tr, depths c ≤ counts c
 | [] => by simp [depths]
 | t :: r => by have := depth_le t; have := depths_le r; simp only [counts, depths]; omega
end
mutual
theorem full_le (n : Int) : ∀ t : Tr, t.full n ≤ t.count
 | .mk k c => by have := fulls_le n c; simp only [count, full]; split <;> omega
theorem fulls_le (n : Int) : ∀ c : List Tr, fulls n c ≤ counts c
 | [] => by simp [fulls]
 | t :: r => by have := full_le n t; have := fulls_le n r; simp only [counts, fulls]; omega
end
end Tr
def IntsIn (w : World) (B : Nat) (v : Value) (ks : List Int) : Prop :=
 ∃ (a : Option Addr) (cap : Nat), v = .slice a ks.length cap ∧ ks.length ≤ cap ∧ cap ≤ maxLen ∧ (a = none → cap = 0) ∧
   (ks = [] ∨ ∃ b o, a = some ⟨b, o, none⟩ ∧ b < B ∧ ∀ i, i < ks.length → w.cell? ⟨b, o + i, none⟩ = some (.int .i64 (ks.getD i 0)))
def KidsIn (w : World) (B : Nat) (a : Option Addr) (n : Nat) (kvs cvs : Nat → Value) : Prop :=
 n = 0 ∨ ∃ b o, a = some ⟨b, o, none⟩ ∧ b < B ∧ ∀ i, i < n →
   w.cell? ⟨b, o + i * 2, none⟩ = some (kvs i) ∧ w.cell? ⟨b, o + i * 2 + 1, none⟩ = some (cvs i)
inductive TreeIn (w : World) (B : Nat) : Value → Value → Tr → Prop where
 | mk (ks : List Int) (cs : List Tr) (kv : Value) (a : Option Addr) (cap : Nat) (kvs cvs : Nat → Value)
     (hk : IntsIn w B kv ks) (hlen : cs.length ≤ cap) (hcap : cap ≤ maxLen) (hat : KidsIn w B a cs.length kvs cvs)
     (hkids : ∀ i (h : i < cs.length), TreeIn w B (kvs i) (cvs i) cs[i]) :
     TreeIn w B kv (.slice a cs.length cap) (.mk ks cs)
theorem below_cell {B : Nat} {w w' : World} (h : Below B w w') {b o : Nat} (hb : b < B) : w'.cell? ⟨b, o, none⟩ = w.cell? ⟨b, o, none⟩ := h.cell (p := ⟨b, o, none⟩) hb
theorem box1 {w : World} {b : Nat} {x : Value} {t : TypeId} (h : w.heap[b]? = some (.cells #[x] t (0, 0))) : w.cell? ⟨b, 0, none⟩ = some x ∧ w.frozen? ⟨b, 0, none⟩ = false := by
 constructor <;> simp [World.cell?, World.frozen?, h]
theorem box2 {w : World} {b : Nat} {x y : Value} {t : TypeId} (h : w.heap[b]? = some (.cells #[x, y] t (0, 0))) :
   w.cell? ⟨b, 0, none⟩ = some x ∧ w.cell? ⟨b, 1, none⟩ = some y ∧ w.frozen? ⟨b, 0, none⟩ = false ∧ w.frozen? ⟨b, 1, none⟩ = false := by
 refine ⟨?_, ?_, ?_, ?_⟩ <;> simp [World.cell?, World.frozen?, h]
theorem new_blk (w : World) (o : Obj) : (w.alloc o).heap[w.heap.size]? = some o := by
 show (w.heap.push o)[w.heap.size]? = _
 simp
theorem old_blk (w : World) (o : Obj) (k : Nat) (h : k < w.heap.size) : (w.alloc o).heap[k]? = w.heap[k]? := Below.heap_alloc w o k h
theorem set_blk {w : World} {b o : Nat} {c : Array Value} {t : TypeId} (v : Value) (h : w.heap[b]? = some (.cells c t (0, 0))) :
   (w.setCell ⟨b, o, none⟩ v).heap[b]? = some (.cells (c.setIfInBounds o v) t (0, 0)) := by
 simp [World.setCell, Array.getElem?_modify, h]
theorem set_other (w : World) (b o : Nat) (v : Value) (k : Nat) (h : k ≠ b) : (w.setCell ⟨b, o, none⟩ v).heap[k]? = w.heap[k]? := Below.heap_setCell w ⟨b, o, none⟩ v k h
theorem IntsIn.later {w w' : World} {B C : Nat} {v : Value} {ks : List Int} (h : IntsIn w B v ks) (hb : Below C w w') (hC : B ≤ C) : IntsIn w' B v ks := by
 obtain ⟨a, cap, hv, h1, h2, hnl, h3⟩ := h
 refine ⟨a, cap, hv, h1, h2, hnl, ?_⟩
 rcases h3 with h3 | ⟨b, o, h3, h4, h5⟩
 · exact .inl h3
 · exact .inr ⟨b, o, h3, h4, fun i hi => by rw [below_cell hb (by omega)]; exact h5 i hi⟩
theorem KidsIn.later {w w' : World} {B C : Nat} {a : Option Addr} {n : Nat} {kvs cvs : Nat → Value} (h : KidsIn w B a n kvs cvs) (hb : Below C w w') (hC : B ≤ C) : KidsIn w' B a n kvs cvs := by
 rcases h with h3 | ⟨b, o, h3, h4, h5⟩
 · exact .inl h3
 · exact .inr ⟨b, o, h3, h4, fun i hi => ⟨by rw [below_cell hb (by omega)]; exact (h5 i hi).1, by rw [below_cell hb (by omega)]; exact (h5 i hi).2⟩⟩
theorem TreeIn.later {w w' : World} {B C : Nat} {kv cv : Value} {t : Tr} (h : TreeIn w B kv cv t) (hb : Below C w w') (hC : B ≤ C) : TreeIn w' B kv cv t := by
 induction h with
 | mk ks cs kv a cap kvs cvs hk hlen hcap hat hkids ih => exact TreeIn.mk ks cs kv a cap kvs cvs (hk.later hb hC) hlen hcap (hat.later hb hC) ih
theorem IntsIn.wider {w : World} {B C : Nat} {v : Value} {ks : List Int} (h : IntsIn w B v ks) (hC : B ≤ C) : IntsIn w C v ks := by
 obtain ⟨a, cap, hv, h1, h2, hnl, h3⟩ := h
 refine ⟨a, cap, hv, h1, h2, hnl, ?_⟩
 rcases h3 with h3 | ⟨b, o, h3, h4, h5⟩
 · exact .inl h3
 · exact .inr ⟨b, o, h3, by omega, h5⟩
theorem KidsIn.wider {w : World} {B C : Nat} {a : Option Addr} {n : Nat} {kvs cvs : Nat → Value} (h : KidsIn w B a n kvs cvs) (hC : B ≤ C) : KidsIn w C a n kvs cvs := by
 rcases h with h3 | ⟨b, o, h3, h4, h5⟩
 · exact .inl h3
 · exact .inr ⟨b, o, h3, by omega, h5⟩
theorem TreeIn.wider {w : World} {B C : Nat} {kv cv : Value} {t : Tr} (h : TreeIn w B kv cv t) (hC : B ≤ C) : TreeIn w C kv cv t := by
 induction h with
 | mk ks cs kv a cap kvs cvs hk hlen hcap hat hkids ih => exact TreeIn.mk ks cs kv a cap kvs cvs (hk.wider hC) hlen hcap (hat.wider hC) ih
theorem TreeIn.slices {w : World} {B : Nat} {kv cv : Value} {t : Tr} (h : TreeIn w B kv cv t) : ∃ a n c a' n' c', kv = .slice a n c ∧ cv = .slice a' n' c' := by
 cases h with
 | mk ks cs kv a cap kvs cvs hk hlen hcap hat hkids =>
   obtain ⟨ka, kcap, rfl, _⟩ := hk
   exact ⟨_, _, _, _, _, _, rfl, rfl⟩
theorem TreeIn.parts {w : World} {B : Nat} {kv cv : Value} {ks : List Int} {cs : List Tr} (h : TreeIn w B kv cv (.mk ks cs)) :
   ∃ (a : Option Addr) (cap : Nat) (kvs cvs : Nat → Value), cv = .slice a cs.length cap ∧ IntsIn w B kv ks ∧ cs.length ≤ cap ∧ cap ≤ maxLen ∧ KidsIn w B a cs.length kvs cvs ∧
     ∀ i (h : i < cs.length), TreeIn w B (kvs i) (cvs i) cs[i] := by
 cases h with
 | mk _ _ _ a cap kvs cvs hk hlen hcap hat hkids => exact ⟨a, cap, kvs, cvs, rfl, hk, hlen, hcap, hat, hkids⟩
theorem ret_int {k : IntKind} {a b : Int} (h : a = b) : Ending.returned (.int k a) = .returned (.int k b) := by rw [h]
theorem ret_bool {a b : Bool} (h : a = b) : Ending.returned (.bool a) = .returned (.bool b) := by rw [h]
end Go.Proofs.YticfkfjijnfcbaaDoor
/- Appends onto a slice of ints of the call's own. -/
namespace Go.Proofs.YticfkfjijnfcbaaDoor
open Go.RowKit
def IntsAt (w : World) (v : Value) (ks : List Int) : Prop :=
 ∃ (a : Option Addr) (cap : Nat), v = .slice a ks.length cap ∧ (a = none → cap = 0) ∧
   (ks = [] ∨ ∃ b o, a = some ⟨b, o, none⟩ ∧ ∀ i, i < ks.length → w.cell? ⟨b, o + i, none⟩ = some (.int .i64 (ks.getD i 0)))
theorem IntsIn.at {w : World} {B : Nat} {v : Value} {ks : List Int} (h : IntsIn w B v ks) : IntsAt w v ks := by
 obtain ⟨a, cap, hv, h1, h2, hnl, h3⟩ := h
 refine ⟨a, cap, hv, hnl, ?_⟩
 rcases h3 with h3 | ⟨b, o, h3, _, h4⟩
 · exact .inl h3
 · exact .inr ⟨b, o, h3, h4⟩
abbrev IntsOwn (w : World) (lo : Nat) (v : Value) (ks : List Int) : Prop := w.ownsRow lo 3 1 v ks.length (ks.map (Value.int .i64))
theorem IntsOwn.in {w : World} {lo : Nat} {v : Value} {ks : List Int} (h : IntsOwn w lo v ks) : IntsIn w w.heap.size v ks := by
 have h0 := h
 obtain ⟨h1, ⟨h2, h3⟩ | ⟨g, cap, cur, hv, hb, hg, hn, hm, hs, ht⟩⟩ := h
 · obtain rfl : ks = [] := List.length_eq_zero_iff.1 h3
   exact ⟨none, 0, h2, by simp, by unfold maxLen; omega, fun _ => rfl, .inl rfl⟩
 · refine ⟨_, cap, hv, hn, hm, by simp, .inr ⟨g, 0, rfl, (Array.getElem?_eq_some_iff.1 hg).1, fun i hi => ?_⟩⟩
   subst hv
   rw [Nat.zero_add, World.ownsRow.cellAt h0 i (by omega)]
   simp [hi]
theorem IntsOwn.later {w w' : World} {lo C : Nat} {v : Value} {ks : List Int} (h : IntsOwn w lo v ks) (hb : Below C w w') (hC : w.heap.size ≤ C) : IntsOwn w' lo v ks := by
 obtain ⟨h1, h2 | ⟨g, cap, cur, hv, hbb, hg, hr⟩⟩ := h
 · exact ⟨h1, .inl h2⟩
 · exact ⟨h1, .inr ⟨g, cap, cur, hv, hbb, (hb.block g (by have := (Array.getElem?_eq_some_iff.1 hg).1; omega)).trans hg, hr⟩⟩
theorem IntsOwn.lower {w : World} {lo lo' : Nat} {v : Value} {ks : List Int} (h : IntsOwn w lo v ks) (hl : lo' ≤ lo) : IntsOwn w lo' v ks := by
 obtain ⟨h1, h2 | ⟨g, cap, cur, hv, hbb, hr⟩⟩ := h
 · exact ⟨h1, .inl h2⟩
 · exact ⟨h1, .inr ⟨g, cap, cur, hv, by omega, hr⟩⟩
theorem IntsOwn.shown {w : World} {lo : Nat} {v : Value} {ks : List Int} (h : IntsOwn w lo v ks) : ∃ a c, v = .slice a ks.length c := by
 obtain ⟨h1, ⟨h2, h3⟩ | ⟨g, cap, cur, hv, hbb, hr⟩⟩ := h
 · exact ⟨_, _, by rw [h2, h3]⟩
 · exact ⟨_, _, hv⟩
theorem IntsOwn.alloc' {w : World} {lo : Nat} {v : Value} {ks : List Int} (h : IntsOwn w lo v ks) (o : Obj) : IntsOwn (w.alloc o) lo v ks := World.ownsRow.alloc h o
theorem IntsAt.one (w : World) (x : Int) : IntsAt (w.alloc (.cells #[.int .i64 x] 3)) (.slice (some ⟨w.heap.size, 0, none⟩) 1 1) [x] :=
 ⟨_, _, rfl, by simp, .inr ⟨_, 0, rfl, fun i hi => by
   obtain rfl : i = 0 := by simpa using hi
   rw [World.cell?_alloc_at _ _ _ _ rfl]; rfl⟩⟩
theorem Tryd.infoTree : (Tryd.prog.info? 33).map (fun i => (i.zero, i.size, i.bytes)) = some (some (.agg #[.slice none 0 0, .slice none 0 0]), 2, 48) := by kernel_rfl
theorem Tryd.appInfo : (Tryd.prog.info? 3).map (fun i => (i.zero, i.size, i.bytes)) = some (some (.int .i64 0), 1, 8) := by kernel_rfl
theorem wpList_append_ints {w : World} {ops : Array Oper} {rest : List Oper} {o : Oper} {a : Act} {Q : Exit → Act → World → Prop} (hgd : o.guard = none) (s x : Operand)
   (ho : o.op = .call { callee := .builtin .append, args := #[s, x], argTypes := #[22, 22] })
   (lo : Nat) (v y : Value) (xs ms : List Int) (hs : a.eval s = v) (hown : IntsOwn w lo v xs) (hx : a.eval x = y) (hsrc : IntsAt w y ms)
   (hlen : xs.length + ms.length ≤ 17592186044416) (hlo : lo ≤ w.heap.size)
   (h : ∀ v' w', IntsOwn w' lo v' (xs ++ ms) → Below lo w w' → w.grownBy w' v.ownBlock → (∃ a c, v' = .slice a (xs ++ ms).length c) → wpList Tryd.prog ops Q rest (a.put o.dst v') w') : wpList Tryd.prog ops Q (o :: rest) a w := by
 obtain ⟨i0, hi, hz0, hz1, hz2⟩ := info_parts Tryd.appInfo
 obtain ⟨pa, cap, rfl, hnl, hat⟩ := hsrc
 rcases pa with _ | p
 · obtain rfl := hnl rfl
   obtain rfl : ms = [] := by
     rcases hat with h | ⟨b, o, h, _⟩
     · exact h
     · cases h
   refine wpList_append_own_none hgd s x 22 ho lo 3 i0 1 Tryd.underlying22 hi v _ _ hs hown hx (h v w (by simpa using hown) (Below.refl _ _) (World.grownBy.refl _ _) ?_)
   simpa using IntsOwn.shown hown
 · refine wpList_append_own w hgd s x 22 ho lo 3 i0 (.int .i64 0) 1 8 Tryd.underlying22 hi hz0 hz1 hz2 rfl (by decide) v _ _ hs hown p ms.length cap (ms.map (Value.int .i64)) hx (by simp) (fun j u hj => ?_) (ints_oneCell .i64 ms) (by unfold maxLen; omega) (by omega) hlo (fun v' w' hown' hgrow _ => ?_)
   · have hjl : j < ms.length := by
       have := (List.getElem?_eq_some_iff.1 hj).1
       simpa using this
     rcases hat with h | ⟨b, o, h, hc⟩
     · simp [h] at hjl
     · cases h
       have hu : u = .int .i64 (ms.getD j 0) := by
         rw [List.getElem?_map] at hj
         simp [hjl] at hj
         simp [← hj, hjl]
       rw [hu, Addr.add_lit]
       exact hc j hjl
   · have hown2 : IntsOwn w' lo v' (xs ++ ms) := by
       unfold IntsOwn
       rw [List.length_append, List.map_append]
       exact hown'
     refine h v' w' hown2 ((Below.refl lo w).grown hgrow hlo (fun k hk => (hown.lt k hk).1)) hgrow (IntsOwn.shown hown2)
end Go.Proofs.YticfkfjijnfcbaaDoor
/- The contracts of the reader of drawn bytes: pick, num, of, l15Open. -/
namespace Go.Proofs.YticfkfjijnfcbaaDoor
open Go.RowKit
def Rd (w : World) (B r : Nat) (bs : List Nat) (p : Nat) : Prop :=
 ∃ (a : Option Addr) (cap : Nat), w.heap[r]? = some (.cells #[.slice a bs.length cap, .int .i64 p] 143 (0, 0)) ∧ bs.length ≤ 2000 ∧ (∀ x ∈ bs, x < 256) ∧ B ≤ r ∧
   (bs = [] ∨ ∃ b o, a = some ⟨b, o, none⟩ ∧ b < B ∧ ∀ i, i < bs.length → w.cell? ⟨b, o + i, none⟩ = some (.int .u8 (bs.getD i 0 : Nat)))
theorem xorNat (a b : Nat) (ha : a < 4611686018427387904) (hb : b < 4611686018427387904) : bits .xor .i64 (a : Int) (b : Int) = ((a ^^^ b : Nat) : Int) := by
 have hx : a ^^^ b < 2 ^ 62 := Nat.xor_lt_two_pow (by omega) (by omega)
 have h1 : (BitVec.ofInt 64 (a : Int)).toNat = a := by
   rw [BitVec.ofInt_natCast, BitVec.toNat_ofNat]; exact Nat.mod_eq_of_lt (by omega)
 have h2 : (BitVec.ofInt 64 (b : Int)).toNat = b := by
   rw [BitVec.ofInt_natCast, BitVec.toNat_ofNat]; exact Nat.mod_eq_of_lt (by omega)
 show IntKind.i64.wrap ((BitVec.ofInt 64 (a : Int) ^^^ BitVec.ofInt 64 (b : Int)).toNat : Int) = _
 rw [BitVec.toNat_xor, h1, h2, IntKind.wrap_i64]
 omega
theorem mix_nonneg (z1 z2 p L : Nat) (h1 : z1 < 256) (h2 : z2 < 256) (hp : p ≤ 1000000000) :
   ∃ N : Nat, bits .xor .i64 ((z1 : Int) * 131 + (z2 : Int) * 1117 + (p : Int) * 29 + (p : Int) / (L : Int) * 53) (((z1 : Int) * 131 + (z2 : Int) * 1117 + (p : Int) * 29 + (p : Int) / (L : Int) * 53) / 64) = (N : Int) := by
 have hq : p / L ≤ p := Nat.div_le_self _ _
 have e1 : (z1 : Int) * 131 + (z2 : Int) * 1117 + (p : Int) * 29 + (p : Int) / (L : Int) * 53 = ((z1 * 131 + z2 * 1117 + p * 29 + p / L * 53 : Nat) : Int) := by
   rw [← Int.natCast_ediv p L]; omega
 rw [e1]
 have e2 : ((z1 * 131 + z2 * 1117 + p * 29 + p / L * 53 : Nat) : Int) / 64 = (((z1 * 131 + z2 * 1117 + p * 29 + p / L * 53) / 64 : Nat) : Int) := by omega
 rw [e2, xorNat _ _ (by omega) (by omega)]
 exact ⟨_, rfl⟩
def Picked (w : World) (r p : Nat) (n : Int) (e : Ending) (w' : World) : Prop :=
 ∃ (x : Int) (m : Nat), e = .returned (.int .i64 x) ∧ 0 ≤ x ∧ (1 ≤ n → x < n) ∧ (n < 1 → x = 0) ∧ w' = (w.setCell ⟨r, 1, none⟩ (.int .i64 (p + 1))).drewN m
set_option maxHeartbeats 2000000 in
set_option maxRecDepth 100000 in
theorem pick_c (w : World) (B r : Nat) (bs : List Nat) (p : Nat) (n : Int) (h : Rd w B r bs p) (hp : p ≤ 1000000000) (hn1 : -1000000000 ≤ n) (hn2 : n ≤ 1000000000) :
   Calls Tryd.prog 98 #[.pointer (some ⟨r, 0, none⟩), .int .i64 n] w (Picked w r p n) := by
 obtain ⟨a, cap, hblk, hlen, hby, hBr, hat⟩ := h
 obtain ⟨x1, x2, x3, x4⟩ := box2 hblk
 have HAT := Lib.hid hat
 have HBY := Lib.hid hby
 have HBK := Lib.hid hblk
 have hrl : r < w.heap.size := (Array.getElem?_eq_some_iff.1 hblk).1
 have y0 := set_blk (o := 1) (.int .i64 ((p : Int) + 1)) hblk
 obtain ⟨y1, y2, y3, y4⟩ := box2 y0
 clear hat hby hblk y0
 by_cases hn : n < 1
 · go_enter Tryd.func98, Tryd.ntmps98
   go_wp2_with fail
   go_ret
   exact ⟨0, 0, rfl, Int.le_refl _, fun h => by omega, fun _ => rfl, rfl⟩
 · by_cases hl0 : bs.length = 0
   · have hl0' : ((bs.length : Int) == 0) = true := by simp [List.length_eq_zero_iff.1 hl0]
     clear hl0
     go_enter Tryd.func98, Tryd.ntmps98
     go_wp2_with fail
     go_ret
     exact ⟨0, 0, rfl, Int.le_refl _, fun h => by omega, fun _ => rfl, rfl⟩
   · have hl0' : ((bs.length : Int) == 0) = false := beq_eq_false_iff_ne.2 (by omega)
     rcases HAT.out with h | ⟨b, o, rfl, hb, hat⟩
     · rw [h] at hl0; simp at hl0
     have hcell : ∀ i, i < bs.length → (w.setCell ⟨r, 1, none⟩ (.int .i64 ((p : Int) + 1))).cell? ⟨b, o + i, none⟩ = some (.int .u8 (bs.getD i 0 : Nat)) := fun i hi => by
       rw [World.cell?_of_block (w := w) (set_other _ _ _ _ _ (by show b ≠ r; omega))]; exact hat i hi
     have hrange : ∀ i, i < bs.length → bs.getD i 0 < 256 := fun i hi => HBY.out _ (by rw [List.getD_eq_getElem?_getD, List.getElem?_eq_getElem hi]; exact List.getElem_mem hi)
     by_cases hpl : p < bs.length
     · have c1 := hcell p hpl
       have hr1 := hrange p hpl
       clear hat hcell hrange
       generalize bs.getD p 0 = z at c1 hr1
       have hz : (0 : Int) ≤ (z : Int) := by omega
       go_enter Tryd.func98, Tryd.ntmps98
       go_wp2_with fail
       go_ret
       exact ⟨_, 0, rfl, Int.emod_nonneg _ (by omega), fun h => Int.emod_lt_of_pos _ (by omega), fun h => by omega, rfl⟩
     · have hl1 : 0 < bs.length := by omega
       obtain ⟨L, hL⟩ : ∃ L, L = bs.length := ⟨_, rfl⟩
       have hq1 : p % L < L := Nat.mod_lt _ (by omega)
       have hq2 : (p * 7 + 3) % L < L := Nat.mod_lt _ (by omega)
       have hq3 : p / L ≤ p := Nat.div_le_self _ _
       have c1 := hcell (p % L) (by omega)
       have c2 := hcell ((p * 7 + 3) % L) (by omega)
       have hr1 := hrange (p % L) (by omega)
       have hr2 := hrange ((p * 7 + 3) % L) (by omega)
       clear hat hcell hrange
       rw [← hL] at y1 hlen hl0' hl1 hpl hl0
       clear x1
       generalize bs.getD (p % L) 0 = z1 at c1 hr1
       generalize bs.getD ((p * 7 + 3) % L) 0 = z2 at c2 hr2
       have HL := Lib.hid hL
       clear hL HAT HBY HBK
       have i1 : (0 : Int) ≤ ((p : Int) * 7 + 3) % (L : Int) := Int.emod_nonneg _ (by omega)
       have i2 : ((p : Int) * 7 + 3) % (L : Int) < (L : Int) := Int.emod_lt_of_pos _ (by omega)
       have i3 : (0 : Int) ≤ (p : Int) % (L : Int) := Int.emod_nonneg _ (by omega)
       have i4 : (p : Int) % (L : Int) < (L : Int) := Int.emod_lt_of_pos _ (by omega)
       have i5 : (0 : Int) ≤ (p : Int) / (L : Int) := Int.ediv_nonneg (by omega) (by omega)
       have i6 : (p : Int) / (L : Int) ≤ (p : Int) := Int.ediv_le_self _ (by omega)
       go_enter Tryd.func98, Tryd.ntmps98
       go_wp2_with fail
       go_quiet (fail)
       go_wp2_with fail
       go_ret
       obtain ⟨N, hN⟩ := mix_nonneg z1 z2 p L hr1 hr2 hp
       rw [hN]
       refine ⟨_, nq, rfl, ?_, ?_, ?_, rfl⟩
       · rw [Int.tmod_eq_emod_of_nonneg (by omega)]; exact Int.emod_nonneg _ (by omega)
       · intro _; rw [Int.tmod_eq_emod_of_nonneg (by omega)]; exact Int.emod_lt_of_pos _ (by omega)
       · intro h; omega
theorem Rd.picked {w : World} {B r p : Nat} {bs : List Nat} (h : Rd w B r bs p) (m : Nat) : Rd ((w.setCell ⟨r, 1, none⟩ (.int .i64 (p + 1))).drewN m) B r bs (p + 1) := by
 obtain ⟨a, cap, hblk, hlen, hby, hBr, hat⟩ := h
 refine ⟨a, cap, ?_, hlen, hby, hBr, ?_⟩
 · have := set_blk (o := 1) (.int .i64 ((p : Int) + 1)) hblk
   simpa using this
 · rcases hat with h | ⟨b, o, h1, h2, h3⟩
   · exact .inl h
   · exact .inr ⟨b, o, h1, h2, fun i hi => by
       show (w.setCell ⟨r, 1, none⟩ (.int .i64 (p + 1))).cell? _ = _
       rw [World.cell?_of_block (w := w) (set_other _ _ _ _ _ (by show b ≠ r; omega))]; exact h3 i hi⟩
end Go.Proofs.YticfkfjijnfcbaaDoor
