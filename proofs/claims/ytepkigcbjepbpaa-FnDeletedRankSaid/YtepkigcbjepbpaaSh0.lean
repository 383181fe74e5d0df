/- Keys in order: plain data, and the contract of the model's l1Keys. -/
import Derived.WalkKit
import Derived.Lib.Hide
import Derived.Test.YtepkigcbjepbpaaProg
import Derived.Laws.AppendOwnNone
import Derived.OwnWalk
import Derived.WalkSmall
import Derived.Deep.AppendLies
import Derived.Lib.SliceRun
import Derived.Maps.AppendAt

/- Plain trees and how they lie in memory: the words that the contracts of this claim use. -/
namespace Go.Proofs.Ytepkigcbjepbpaa
open Go.RowKit

inductive Tr where
  | mk (ks : List Int) (cs : List Tr)

namespace Tr
mutual
def weight : Tr → Nat
  | .mk k c => k.length + weights c
def weights : List Tr → Nat
  | [] => 0
  | t :: r => 1 + weight t + weights r
end

theorem weights_append (a b : List Tr) : weights (a ++ b) = weights a + weights b := by
  induction a with
  | nil => simp [weights]
  | cons t r ih => simp [weights, ih]; omega

theorem weights_take_succ (cs : List Tr) (j : Nat) (h : j < cs.length) : weights (cs.take (j + 1)) = weights (cs.take j) + 1 + cs[j].weight := by
  rw [List.take_succ_eq_append_getElem h, weights_append]; simp [weights]; omega

theorem length_le_weights (cs : List Tr) : cs.length ≤ weights cs := by
  induction cs with
  | nil => simp
  | cons t r ih => simp [weights]; omega

theorem weights_take_ge (cs : List Tr) (j : Nat) : weights (cs.take j) + (cs.length - j) ≤ weights cs := by
  conv => rhs; rw [← List.take_append_drop j cs, weights_append]
  have := length_le_weights (cs.drop j)
  simp at this; omega

theorem weight_get_le (cs : List Tr) (j : Nat) (h : j < cs.length) : cs[j].weight + cs.length ≤ weights cs := by
  have h1 := weights_take_ge cs (j + 1)
  have h2 := weights_take_succ cs j h
  have h3 := length_le_weights (cs.take j)
  simp at h3; omega
end Tr

namespace Tr
mutual
def count : Tr → Nat
  | .mk _ c => 1 + counts c
def counts : List Tr → Nat
  | [] => 0
  | t :: r => count t + counts r
end
mutual
def depth : Tr → Nat
  | .mk _ c => depths c + 1
def depths : List Tr → Nat
  | [] => 0
  | t :: r => max (depth t) (depths r)
end
mutual
def full (n : Int) : Tr → Nat
  | .mk k c => (if (k.length : Int) = n then 1 else 0) + fulls n c
def fulls (n : Int) : List Tr → Nat
  | [] => 0
  | t :: r => full n t + fulls n r
end

theorem depths_append (a b : List Tr) : depths (a ++ b) = max (depths a) (depths b) := by
  induction a with
  | nil => simp [depths]
  | cons t r ih => simp [depths, ih]
theorem depths_take_succ (cs : List Tr) (j : Nat) (h : j < cs.length) : depths (cs.take (j + 1)) = max (depths (cs.take j)) cs[j].depth := by
  rw [List.take_succ_eq_append_getElem h, depths_append]; simp [depths]
mutual
theorem count_le : ∀ t : Tr, t.count ≤ t.weight + 1
  | .mk k c => by have := counts_le c; simp only [count, weight]; omega
theorem counts_le : ∀ c : List Tr, counts c ≤ weights c
  | [] => by simp [counts]
  | t :: r => by have := count_le t; have := counts_le r; simp only [counts, weights]; omega
end
mutual
theorem depth_le : ∀ t : Tr, t.depth ≤ t.count
  | .mk k c => by have := depths_le c; simp only [count, depth]; omega
theorem depths_le : ∀ c : List Tr, depths c ≤ counts c
  | [] => by simp [depths]
  | t :: r => by have := depth_le t; have := depths_le r; simp only [counts, depths]; omega
end
mutual
theorem full_le (n : Int) : ∀ t : Tr, t.full n ≤ t.count
  | .mk k c => by have := fulls_le n c; simp only [count, full]; split <;> omega
theorem fulls_le (n : Int) : ∀ c : List Tr, fulls n c ≤ counts c
  | [] => by simp [fulls]
  | t :: r => by have := full_le n t; have := fulls_le n r; simp only [counts, fulls]; omega
end
end Tr

def IntsIn (w : World) (B : Nat) (v : Value) (ks : List Int) : Prop :=
  ∃ (a : Option Addr) (cap : Nat), v = .slice a ks.length cap ∧ ks.length ≤ cap ∧ cap ≤ maxLen ∧ (a = none → cap = 0) ∧
    (ks = [] ∨ ∃ b o, a = some ⟨b, o, none⟩ ∧ b < B ∧ ∀ i, i < ks.length → w.cell? ⟨b, o + i, none⟩ = some (.int .i64 (ks.getD i 0)))

def KidsIn (w : World) (B : Nat) (a : Option Addr) (n : Nat) (kvs cvs : Nat → Value) : Prop :=
  n = 0 ∨ ∃ b o, a = some ⟨b, o, none⟩ ∧ b < B ∧ ∀ i, i < n →
    w.cell? ⟨b, o + i * 2, none⟩ = some (kvs i) ∧ w.cell? ⟨b, o + i * 2 + 1, none⟩ = some (cvs i)

inductive TreeIn (w : World) (B : Nat) : Value → Value → Tr → Prop where
  | mk (ks : List Int) (cs : List Tr) (kv : Value) (a : Option Addr) (cap : Nat) (kvs cvs : Nat → Value)
      (hk : IntsIn w B kv ks) (hlen : cs.length ≤ cap) (hcap : cap ≤ maxLen) (hat : KidsIn w B a cs.length kvs cvs)
      (hkids : ∀ i (h : i < cs.length), TreeIn w B (kvs i) (cvs i) cs[i]) :
      TreeIn w B kv (.slice a cs.length cap) (.mk ks cs)

theorem below_cell {B : Nat} {w w' : World} (h : Below B w w') {b o : Nat} (hb : b < B) : w'.cell? ⟨b, o, none⟩ = w.cell? ⟨b, o, none⟩ := h.cell (p := ⟨b, o, none⟩) hb

theorem box1 {w : World} {b : Nat} {x : Value} {t : TypeId} (h : w.heap[b]? = some (.cells #[x] t (0, 0))) : w.cell? ⟨b, 0, none⟩ = some x ∧ w.frozen? ⟨b, 0, none⟩ = false := by
  constructor <;> simp [World.cell?, World.frozen?, h]
theorem box2 {w : World} {b : Nat} {x y : Value} {t : TypeId} (h : w.heap[b]? = some (.cells #[x, y] t (0, 0))) :
    w.cell? ⟨b, 0, none⟩ = some x ∧ w.cell? ⟨b, 1, none⟩ = some y ∧ w.frozen? ⟨b, 0, none⟩ = false ∧ w.frozen? ⟨b, 1, none⟩ = false := by
  refine ⟨?_, ?_, ?_, ?_⟩ <;> simp [World.cell?, World.frozen?, h]
theorem new_blk (w : World) (o : Obj) : (w.alloc o).heap[w.heap.size]? = some o := by
  show (w.heap.push o)[w.heap.size]? = _
  simp
theorem old_blk (w : World) (o : Obj) (k : Nat) (h : k < w.heap.size) : (w.alloc o).heap[k]? = w.heap[k]? := Below.heap_alloc w o k h
theorem set_blk {w : World} {b o : Nat} {c : Array Value} {t : TypeId} (v : Value) (h : w.heap[b]? = some (.cells c t (0, 0))) :
    (w.setCell ⟨b, o, none⟩ v).heap[b]? = some (.cells (c.setIfInBounds o v) t (0, 0)) := by
  simp [World.setCell, Array.getElem?_modify, h]
theorem set_other (w : World) (b o : Nat) (v : Value) (k : Nat) (h : k ≠ b) : (w.setCell ⟨b, o, none⟩ v).heap[k]? = w.heap[k]? := Below.heap_setCell w ⟨b, o, none⟩ v k h

theorem IntsIn.later {w w' : World} {B C : Nat} {v : Value} {ks : List Int} (h : IntsIn w B v ks) (hb : Below C w w') (hC : B ≤ C) : IntsIn w' B v ks := by
  obtain ⟨a, cap, hv, h1, h2, hnl, h3⟩ := h
  refine ⟨a, cap, hv, h1, h2, hnl, ?_⟩
  rcases h3 with h3 | ⟨b, o, h3, h4, h5⟩
  · exact .inl h3
  · exact .inr ⟨b, o, h3, h4, fun i hi => by rw [below_cell hb (by omega)]; exact h5 i hi⟩

theorem KidsIn.later {w w' : World} {B C : Nat} {a : Option Addr} {n : Nat} {kvs cvs : Nat → Value} (h : KidsIn w B a n kvs cvs) (hb : Below C w w') (hC : B ≤ C) : KidsIn w' B a n kvs cvs := by
  rcases h with h3 | ⟨b, o, h3, h4, h5⟩
  · exact .inl h3
  · exact .inr ⟨b, o, h3, h4, fun i hi => ⟨by rw [below_cell hb (by omega)]; exact (h5 i hi).1, by rw [below_cell hb (by omega)]; exact (h5 i hi).2⟩⟩

theorem TreeIn.later {w w' : World} {B C : Nat} {kv cv : Value} {t : Tr} (h : TreeIn w B kv cv t) (hb : Below C w w') (hC : B ≤ C) : TreeIn w' B kv cv t := by
  induction h with
  | mk ks cs kv a cap kvs cvs hk hlen hcap hat hkids ih => exact TreeIn.mk ks cs kv a cap kvs cvs (hk.later hb hC) hlen hcap (hat.later hb hC) ih

theorem IntsIn.wider {w : World} {B C : Nat} {v : Value} {ks : List Int} (h : IntsIn w B v ks) (hC : B ≤ C) : IntsIn w C v ks := by
  obtain ⟨a, cap, hv, h1, h2, hnl, h3⟩ := h
  refine ⟨a, cap, hv, h1, h2, hnl, ?_⟩
  rcases h3 with h3 | ⟨b, o, h3, h4, h5⟩
  · exact .inl h3
  · exact .inr ⟨b, o, h3, by omega, h5⟩

theorem KidsIn.wider {w : World} {B C : Nat} {a : Option Addr} {n : Nat} {kvs cvs : Nat → Value} (h : KidsIn w B a n kvs cvs) (hC : B ≤ C) : KidsIn w C a n kvs cvs := by
  rcases h with h3 | ⟨b, o, h3, h4, h5⟩
  · exact .inl h3
  · exact .inr ⟨b, o, h3, by omega, h5⟩

theorem TreeIn.wider {w : World} {B C : Nat} {kv cv : Value} {t : Tr} (h : TreeIn w B kv cv t) (hC : B ≤ C) : TreeIn w C kv cv t := by
  induction h with
  | mk ks cs kv a cap kvs cvs hk hlen hcap hat hkids ih => exact TreeIn.mk ks cs kv a cap kvs cvs (hk.wider hC) hlen hcap (hat.wider hC) ih

theorem TreeIn.slices {w : World} {B : Nat} {kv cv : Value} {t : Tr} (h : TreeIn w B kv cv t) : ∃ a n c a' n' c', kv = .slice a n c ∧ cv = .slice a' n' c' := by
  cases h with
  | mk ks cs kv a cap kvs cvs hk hlen hcap hat hkids =>
    obtain ⟨ka, kcap, rfl, _⟩ := hk
    exact ⟨_, _, _, _, _, _, rfl, rfl⟩

theorem TreeIn.parts {w : World} {B : Nat} {kv cv : Value} {ks : List Int} {cs : List Tr} (h : TreeIn w B kv cv (.mk ks cs)) :
    ∃ (a : Option Addr) (cap : Nat) (kvs cvs : Nat → Value), cv = .slice a cs.length cap ∧ IntsIn w B kv ks ∧ cs.length ≤ cap ∧ cap ≤ maxLen ∧ KidsIn w B a cs.length kvs cvs ∧
      ∀ i (h : i < cs.length), TreeIn w B (kvs i) (cvs i) cs[i] := by
  cases h with
  | mk _ _ _ a cap kvs cvs hk hlen hcap hat hkids => exact ⟨a, cap, kvs, cvs, rfl, hk, hlen, hcap, hat, hkids⟩

theorem ret_int {k : IntKind} {a b : Int} (h : a = b) : Ending.returned (.int k a) = .returned (.int k b) := by rw [h]
theorem ret_bool {a b : Bool} (h : a = b) : Ending.returned (.bool a) = .returned (.bool b) := by rw [h]

end Go.Proofs.Ytepkigcbjepbpaa

/- Appends onto a slice of ints of the call's own. -/
namespace Go.Proofs.Ytepkigcbjepbpaa
open Go.RowKit

def IntsAt (w : World) (v : Value) (ks : List Int) : Prop :=
  ∃ (a : Option Addr) (cap : Nat), v = .slice a ks.length cap ∧ (a = none → cap = 0) ∧
    (ks = [] ∨ ∃ b o, a = some ⟨b, o, none⟩ ∧ ∀ i, i < ks.length → w.cell? ⟨b, o + i, none⟩ = some (.int .i64 (ks.getD i 0)))

theorem IntsIn.at {w : World} {B : Nat} {v : Value} {ks : List Int} (h : IntsIn w B v ks) : IntsAt w v ks := by
  obtain ⟨a, cap, hv, h1, h2, hnl, h3⟩ := h
  refine ⟨a, cap, hv, hnl, ?_⟩
  rcases h3 with h3 | ⟨b, o, h3, _, h4⟩
  · exact .inl h3
  · exact .inr ⟨b, o, h3, h4⟩

abbrev IntsOwn (w : World) (lo : Nat) (v : Value) (ks : List Int) : Prop := w.ownsRow lo 3 1 v ks.length (ks.map (Value.int .i64))

theorem IntsOwn.in {w : World} {lo : Nat} {v : Value} {ks : List Int} (h : IntsOwn w lo v ks) : IntsIn w w.heap.size v ks := by
  have h0 := h
  obtain ⟨h1, ⟨h2, h3⟩ | ⟨g, cap, cur, hv, hb, hg, hn, hm, hs, ht⟩⟩ := h
  · obtain rfl : ks = [] := List.length_eq_zero_iff.1 h3
    exact ⟨none, 0, h2, by simp, by unfold maxLen; omega, fun _ => rfl, .inl rfl⟩
  · refine ⟨_, cap, hv, hn, hm, by simp, .inr ⟨g, 0, rfl, (Array.getElem?_eq_some_iff.1 hg).1, fun i hi => ?_⟩⟩
    subst hv
    rw [Nat.zero_add, World.ownsRow.cellAt h0 i (by omega)]
    simp [hi]

theorem IntsOwn.later {w w' : World} {lo C : Nat} {v : Value} {ks : List Int} (h : IntsOwn w lo v ks) (hb : Below C w w') (hC : w.heap.size ≤ C) : IntsOwn w' lo v ks := by
  obtain ⟨h1, h2 | ⟨g, cap, cur, hv, hbb, hg, hr⟩⟩ := h
  · exact ⟨h1, .inl h2⟩
  · exact ⟨h1, .inr ⟨g, cap, cur, hv, hbb, (hb.block g (by have := (Array.getElem?_eq_some_iff.1 hg).1; omega)).trans hg, hr⟩⟩

theorem IntsOwn.lower {w : World} {lo lo' : Nat} {v : Value} {ks : List Int} (h : IntsOwn w lo v ks) (hl : lo' ≤ lo) : IntsOwn w lo' v ks := by
  obtain ⟨h1, h2 | ⟨g, cap, cur, hv, hbb, hr⟩⟩ := h
  · exact ⟨h1, .inl h2⟩
  · exact ⟨h1, .inr ⟨g, cap, cur, hv, by omega, hr⟩⟩

theorem IntsOwn.shown {w : World} {lo : Nat} {v : Value} {ks : List Int} (h : IntsOwn w lo v ks) : ∃ a c, v = .slice a ks.length c := by
  obtain ⟨h1, ⟨h2, h3⟩ | ⟨g, cap, cur, hv, hbb, hr⟩⟩ := h
  · exact ⟨_, _, by rw [h2, h3]⟩
  · exact ⟨_, _, hv⟩

theorem IntsOwn.alloc' {w : World} {lo : Nat} {v : Value} {ks : List Int} (h : IntsOwn w lo v ks) (o : Obj) : IntsOwn (w.alloc o) lo v ks := World.ownsRow.alloc h o

theorem IntsAt.one (w : World) (x : Int) : IntsAt (w.alloc (.cells #[.int .i64 x] 3)) (.slice (some ⟨w.heap.size, 0, none⟩) 1 1) [x] :=
  ⟨_, _, rfl, by simp, .inr ⟨_, 0, rfl, fun i hi => by
    obtain rfl : i = 0 := by simpa using hi
    rw [World.cell?_alloc_at _ _ _ _ rfl]; rfl⟩⟩

theorem Try.infoTree : (Try.prog.info? 29).map (fun i => (i.zero, i.size, i.bytes)) = some (some (.agg #[.slice none 0 0, .slice none 0 0]), 2, 48) := by kernel_rfl

theorem Try.appInfo : (Try.prog.info? 3).map (fun i => (i.zero, i.size, i.bytes)) = some (some (.int .i64 0), 1, 8) := by kernel_rfl

theorem wpList_append_ints {w : World} {ops : Array Oper} {rest : List Oper} {o : Oper} {a : Act} {Q : Exit → Act → World → Prop} (hgd : o.guard = none) (s x : Operand)
    (ho : o.op = .call { callee := .builtin .append, args := #[s, x], argTypes := #[22, 22] })
    (lo : Nat) (v y : Value) (xs ms : List Int) (hs : a.eval s = v) (hown : IntsOwn w lo v xs) (hx : a.eval x = y) (hsrc : IntsAt w y ms)
    (hlen : xs.length + ms.length ≤ 17592186044416) (hlo : lo ≤ w.heap.size)
    (h : ∀ v' w', IntsOwn w' lo v' (xs ++ ms) → Below lo w w' → w.grownBy w' v.ownBlock → (∃ a c, v' = .slice a (xs ++ ms).length c) → wpList Try.prog ops Q rest (a.put o.dst v') w') : wpList Try.prog ops Q (o :: rest) a w := by
  obtain ⟨i0, hi, hz0, hz1, hz2⟩ := info_parts Try.appInfo
  obtain ⟨pa, cap, rfl, hnl, hat⟩ := hsrc
  rcases pa with _ | p
  · obtain rfl := hnl rfl
    obtain rfl : ms = [] := by
      rcases hat with h | ⟨b, o, h, _⟩
      · exact h
      · cases h
    refine wpList_append_own_none hgd s x 22 ho lo 3 i0 1 Try.underlying22 hi v _ _ hs hown hx (h v w (by simpa using hown) (Below.refl _ _) (World.grownBy.refl _ _) ?_)
    simpa using IntsOwn.shown hown
  · refine wpList_append_own w hgd s x 22 ho lo 3 i0 (.int .i64 0) 1 8 Try.underlying22 hi hz0 hz1 hz2 rfl (by decide) v _ _ hs hown p ms.length cap (ms.map (Value.int .i64)) hx (by simp) (fun j u hj => ?_) (ints_oneCell .i64 ms) (by unfold maxLen; omega) (by omega) hlo (fun v' w' hown' hgrow _ => ?_)
    · have hjl : j < ms.length := by
        have := (List.getElem?_eq_some_iff.1 hj).1
        simpa using this
      rcases hat with h | ⟨b, o, h, hc⟩
      · simp [h] at hjl
      · cases h
        have hu : u = .int .i64 (ms.getD j 0) := by
          rw [List.getElem?_map] at hj
          simp [hjl] at hj
          simp [← hj, hjl]
        rw [hu, Addr.add_lit]
        exact hc j hjl
    · have hown2 : IntsOwn w' lo v' (xs ++ ms) := by
        unfold IntsOwn
        rw [List.length_append, List.map_append]
        exact hown'
      refine h v' w' hown2 ((Below.refl lo w).grown hgrow hlo (fun k hk => (hown.lt k hk).1)) hgrow (IntsOwn.shown hown2)
end Go.Proofs.Ytepkigcbjepbpaa

/- The program's own copy of a tree: nodes behind pointers; how they lie in memory; the contract of slices.Clone at ints. -/
namespace Go.Proofs.Ytepkigcbjepbpaa
open Go.RowKit

def IntsR (w : World) (lo hi : Nat) (v : Value) (ks : List Int) : Prop :=
  ∃ (a : Option Addr) (cap : Nat), v = .slice a ks.length cap ∧ ks.length ≤ cap ∧ cap ≤ maxLen ∧ (a = none → cap = 0) ∧
    (ks = [] ∨ ∃ b o, a = some ⟨b, o, none⟩ ∧ lo ≤ b ∧ b < hi ∧ ∀ i, i < ks.length → w.cell? ⟨b, o + i, none⟩ = some (.int .i64 (ks.getD i 0)))

def PtrsR (w : World) (lo hi : Nat) (a : Option Addr) (n : Nat) (ps : Nat → Nat) : Prop :=
  n = 0 ∨ ∃ b o, a = some ⟨b, o, none⟩ ∧ lo ≤ b ∧ b < hi ∧ ∀ i, i < n → w.cell? ⟨b, o + i, none⟩ = some (.pointer (some ⟨ps i, 0, none⟩))

inductive NodeIn (w : World) : Nat → Nat → Nat → Tr → Prop where
  | mk (ks : List Int) (cs : List Tr) (lo hi b : Nat) (kv : Value) (a : Option Addr) (cap : Nat) (ps s : Nat → Nat)
      (hlo : lo ≤ b) (hhi : b < hi) (hs0 : b < s 0) (hsn : s cs.length ≤ hi) (hs : ∀ i, i < cs.length → s i ≤ s (i + 1))
      (hbox : w.heap[b]? = some (.cells #[kv, .slice a cs.length cap] 93 (0, 0)))
      (hk : IntsR w lo hi kv ks) (hlen : cs.length ≤ cap) (hcap : cap ≤ maxLen) (hat : PtrsR w lo hi a cs.length ps)
      (hkids : ∀ i (h : i < cs.length), NodeIn w (s i) (s (i + 1)) (ps i) cs[i]) :
      NodeIn w lo hi b (.mk ks cs)

theorem cell_of_blk {w w' : World} {b o : Nat} (h : w'.heap[b]? = w.heap[b]?) : w'.cell? ⟨b, o, none⟩ = w.cell? ⟨b, o, none⟩ := World.cell?_of_block (w := w) (a := ⟨b, o, none⟩) h

theorem IntsR.same {w w' : World} {lo hi : Nat} {v : Value} {ks : List Int} (h : IntsR w lo hi v ks) (hb : ∀ k, lo ≤ k → k < hi → w'.heap[k]? = w.heap[k]?) : IntsR w' lo hi v ks := by
  obtain ⟨a, cap, hv, h1, h2, hnl, h3⟩ := h
  refine ⟨a, cap, hv, h1, h2, hnl, ?_⟩
  rcases h3 with h3 | ⟨b, o, h3, h4, h5, h6⟩
  · exact .inl h3
  · exact .inr ⟨b, o, h3, h4, h5, fun i hi => by rw [cell_of_blk (hb b h4 h5)]; exact h6 i hi⟩

theorem IntsR.widen {w : World} {lo hi lo' hi' : Nat} {v : Value} {ks : List Int} (h : IntsR w lo hi v ks) (h1 : lo' ≤ lo) (h2 : hi ≤ hi') : IntsR w lo' hi' v ks := by
  obtain ⟨a, cap, hv, g1, g2, hnl, h3⟩ := h
  refine ⟨a, cap, hv, g1, g2, hnl, ?_⟩
  rcases h3 with h3 | ⟨b, o, h3, h4, h5, h6⟩
  · exact .inl h3
  · exact .inr ⟨b, o, h3, by omega, by omega, h6⟩

theorem IntsR.in {w : World} {lo hi : Nat} {v : Value} {ks : List Int} (h : IntsR w lo hi v ks) : IntsIn w hi v ks := by
  obtain ⟨a, cap, hv, g1, g2, hnl, h3⟩ := h
  refine ⟨a, cap, hv, g1, g2, hnl, ?_⟩
  rcases h3 with h3 | ⟨b, o, h3, h4, h5, h6⟩
  · exact .inl h3
  · exact .inr ⟨b, o, h3, h5, h6⟩

theorem PtrsR.same {w w' : World} {lo hi n : Nat} {a : Option Addr} {ps : Nat → Nat} (h : PtrsR w lo hi a n ps) (hb : ∀ k, lo ≤ k → k < hi → w'.heap[k]? = w.heap[k]?) : PtrsR w' lo hi a n ps := by
  rcases h with h3 | ⟨b, o, h3, h4, h5, h6⟩
  · exact .inl h3
  · exact .inr ⟨b, o, h3, h4, h5, fun i hi => by rw [cell_of_blk (hb b h4 h5)]; exact h6 i hi⟩

theorem PtrsR.widen {w : World} {lo hi lo' hi' n : Nat} {a : Option Addr} {ps : Nat → Nat} (h : PtrsR w lo hi a n ps) (h1 : lo' ≤ lo) (h2 : hi ≤ hi') : PtrsR w lo' hi' a n ps := by
  rcases h with h3 | ⟨b, o, h3, h4, h5, h6⟩
  · exact .inl h3
  · exact .inr ⟨b, o, h3, by omega, by omega, h6⟩

theorem steps_le {s : Nat → Nat} {n : Nat} (hs : ∀ i, i < n → s i ≤ s (i + 1)) : ∀ i j, i ≤ j → j ≤ n → s i ≤ s j := by
  intro i j hij
  induction hij with
  | refl => intro _; exact Nat.le_refl _
  | step h ih => intro hj; exact Nat.le_trans (ih (by omega)) (hs _ (by omega))

theorem NodeIn.widen {w : World} {lo hi b : Nat} {t : Tr} (h : NodeIn w lo hi b t) : ∀ {lo' hi' : Nat}, lo' ≤ lo → hi ≤ hi' → NodeIn w lo' hi' b t := by
  cases h with
  | mk ks cs lo hi b kv a cap ps s hlo hhi hs0 hsn hs hbox hk hlen hcap hat hkids =>
    intro lo' hi' h1 h2
    exact .mk ks cs lo' hi' b kv a cap ps s (by omega) (by omega) hs0 (by omega) hs hbox (hk.widen h1 h2) hlen hcap (hat.widen h1 h2) hkids

theorem NodeIn.same {w w' : World} {lo hi b : Nat} {t : Tr} (h : NodeIn w lo hi b t) : (∀ k, lo ≤ k → k < hi → w'.heap[k]? = w.heap[k]?) → NodeIn w' lo hi b t := by
  induction h with
  | mk ks cs lo hi b kv a cap ps s hlo hhi hs0 hsn hs hbox hk hlen hcap hat hkids ih =>
    intro hb
    refine .mk ks cs lo hi b kv a cap ps s hlo hhi hs0 hsn hs ((hb b hlo hhi).trans hbox) (hk.same hb) hlen hcap (hat.same hb) (fun i hi' => ih i hi' (fun k h1 h2 => hb k ?_ ?_))
    · have := steps_le hs 0 i (by omega) (by omega); omega
    · have := steps_le hs (i + 1) cs.length (by omega) (by omega); omega

theorem NodeIn.range {w : World} {lo hi b : Nat} {t : Tr} (h : NodeIn w lo hi b t) : lo ≤ b ∧ b < hi ∧ b < w.heap.size := by
  cases h with
  | mk ks cs lo hi b kv a cap ps s hlo hhi hs0 hsn hs hbox hk hlen hcap hat hkids => exact ⟨hlo, hhi, (Array.getElem?_eq_some_iff.1 hbox).1⟩

theorem IntsOwn.inR {w : World} {lo : Nat} {v : Value} {ks : List Int} (h : IntsOwn w lo v ks) : IntsR w lo w.heap.size v ks := by
  have h0 := h
  obtain ⟨h1, ⟨h2, h3⟩ | ⟨g, cap, cur, hv, hb, hg, hn, hm, hs, ht⟩⟩ := h
  · obtain rfl : ks = [] := List.length_eq_zero_iff.1 h3
    exact ⟨none, 0, h2, by simp, by unfold maxLen; omega, fun _ => rfl, .inl rfl⟩
  · refine ⟨_, cap, hv, hn, hm, by simp, .inr ⟨g, 0, rfl, hb, (Array.getElem?_eq_some_iff.1 hg).1, fun i hi => ?_⟩⟩
    subst hv
    rw [Nat.zero_add, World.ownsRow.cellAt h0 i (by omega)]
    simp [hi]

set_option maxRecDepth 100000 in
set_option maxHeartbeats 1000000 in
theorem clone_c {v : Value} {ks : List Int} (w : World) (hk : IntsAt w v ks) (hn : ks.length ≤ 1048576) :
    Calls Try.prog 88 #[v] w fun e w' => ∃ v', e = .returned v' ∧ IntsOwn w' w.heap.size v' ks ∧ Below w.heap.size w w' := by
  obtain ⟨a, cap, rfl, hnl, h3⟩ := hk
  have q22 : ∀ (w : World) (a : Option Addr) (n c n' c' : Nat), (binOp .eql 22 (.slice a n c) (.slice none n' c')).run Try.prog w = .ok (.bool a.isNone) w := fun w a n c n' c' => Lib.run_eql_slice_nil w _ _ a n c n' c' Try.underlying22
  have h00 : IntsOwn (w.alloc (.cells #[] 3)) w.heap.size (.slice (some ⟨w.heap.size, 0, none⟩) 0 0) [] := World.ownsRow_made w #[] 0 (Nat.le_refl _) (by unfold maxLen; omega) rfl
  have hb0 : Below w.heap.size w (w.alloc (.cells #[] 3)) := (Below.refl _ _).alloc (Nat.le_refl _) _
  rcases a with _ | p
  · obtain rfl := hnl rfl
    obtain rfl : ks = [] := by
      rcases h3 with h | ⟨b, o, h, _⟩
      · exact h
      · cases h
    clear h3 h00 hb0
    go_enter Try.func88, Try.ntmps88
    go_wp2_with fail
    go_ret
    exact ⟨_, rfl, ⟨rfl, .inl ⟨rfl, rfl⟩⟩, Below.refl _ _⟩
  · have hsrc : IntsAt (w.alloc (.cells #[] 3)) (.slice (some p) ks.length cap) ks := by
      refine ⟨some p, cap, rfl, by simp, ?_⟩
      rcases h3 with h | ⟨b, o, h, hc⟩
      · exact .inl h
      · refine .inr ⟨b, o, h, fun i hi => ?_⟩
        have h1 := hc i hi
        rw [below_cell hb0 (World.block_lt_of_cell? w _ h1)]
        exact h1
    have H00 := Lib.hid h00
    have HB0 := Lib.hid hb0
    have HSRC := Lib.hid hsrc
    have hln : ([] : List Int).length + ks.length ≤ 17592186044416 := by simp; omega
    have hlo : w.heap.size ≤ (w.alloc (.cells #[] 3)).heap.size := by simp
    have HLN := Lib.hid hln
    have HLO := Lib.hid hlo
    clear h3 h00 hb0 hsrc hn hnl hln hlo
    go_enter Try.func88, Try.ntmps88
    go_wp2_with (at_builtin; refine wpList_append_ints rfl _ _ rfl w.heap.size _ _ [] ks rfl H00.out rfl HSRC.out HLN.out HLO.out ?_; intro v2 w2 hown2 hbel2 _ hsh2; obtain ⟨a2, c2, rfl⟩ := hsh2; have HOX := Lib.hid hown2; have HBX := Lib.hid hbel2; clear hown2 hbel2)
    go_ret
    exact ⟨_, rfl, by simpa using HOX.out, HB0.out.trans HBX.out⟩
end Go.Proofs.Ytepkigcbjepbpaa

/- Keys in order: plain data, and the contract of the model's l1Keys. -/
namespace Go.Proofs.Ytepkigcbjepbpaa
open Go.RowKit

namespace Tr
def part (kss : List (List Int)) (ks : List Int) (i : Nat) : List Int := (kss[i]?).getD [] ++ (ks[i]?).toList
def upto (kss : List (List Int)) (ks : List Int) (n : Nat) : List Int := (List.range n).flatMap (part kss ks)
mutual
def keys : Tr → List Int
  | .mk k c => upto (keyss c) k (max k.length c.length)
def keyss : List Tr → List (List Int)
  | [] => []
  | t :: r => keys t :: keyss r
end
theorem upto_succ (kss : List (List Int)) (ks : List Int) (n : Nat) : upto kss ks (n + 1) = upto kss ks n ++ part kss ks n := by
  simp [upto, List.range_succ]
theorem upto_mono (kss : List (List Int)) (ks : List Int) (j n : Nat) (h : j ≤ n) : (upto kss ks j).length ≤ (upto kss ks n).length := by
  induction h with
  | refl => exact Nat.le_refl _
  | step _ ih => rw [upto_succ, List.length_append]; omega
theorem length_keyss (c : List Tr) : (keyss c).length = c.length := by
  induction c with
  | nil => rfl
  | cons t r ih => simp [keyss, ih]
theorem keyss_get (c : List Tr) (i : Nat) (h : i < c.length) : (keyss c)[i]? = some c[i].keys := by
  induction c generalizing i with
  | nil => simp at h
  | cons t r ih =>
    cases i with
    | zero => simp [keyss]
    | succ i => simpa [keyss] using ih i (by simpa using h)
def lens : List (List Int) → Nat
  | [] => 0
  | a :: r => a.length + lens r
theorem lens_append (a b : List (List Int)) : lens (a ++ b) = lens a + lens b := by
  induction a with
  | nil => simp [lens]
  | cons t r ih => simp [lens, ih]; omega
theorem upto_length (kss : List (List Int)) (ks : List Int) (n : Nat) : (upto kss ks n).length = lens (kss.take n) + (ks.take n).length := by
  induction n with
  | zero => simp [upto, lens]
  | succ n ih =>
    rw [upto_succ, List.length_append, ih]
    have e1 : lens (kss.take (n + 1)) = lens (kss.take n) + ((kss[n]?).getD []).length := by
      by_cases h : n < kss.length
      · rw [List.take_succ_eq_append_getElem h, lens_append]; simp [lens, h]
      · rw [List.take_of_length_le (by omega), List.take_of_length_le (by omega)]; simp [List.getElem?_eq_none (Nat.le_of_not_lt h)]
    have e2 : (ks.take (n + 1)).length = (ks.take n).length + ((ks[n]?).toList).length := by
      by_cases h : n < ks.length
      · rw [List.take_succ_eq_append_getElem h, List.length_append]; simp [h]
      · rw [List.take_of_length_le (by omega), List.take_of_length_le (by omega)]; simp [List.getElem?_eq_none (Nat.le_of_not_lt h)]
    rw [e1, e2]
    simp only [part, List.length_append]
    omega
mutual
theorem keys_length_le : ∀ t : Tr, t.keys.length ≤ t.weight
  | .mk k c => by
    have h := keyss_lens_le c
    have hk := length_keyss c
    simp only [keys, weight, upto_length]
    rw [List.take_of_length_le (by omega), List.take_of_length_le (by omega)]
    omega
theorem keyss_lens_le : ∀ c : List Tr, lens (keyss c) ≤ weights c
  | [] => by simp [keyss, lens]
  | t :: r => by
    have h1 := keys_length_le t
    have h2 := keyss_lens_le r
    simp only [keyss, lens, weights]
    omega
end
end Tr

set_option maxHeartbeats 1000000 in
theorem specKeys_c {w : World} {B : Nat} {kv cv : Value} {t : Tr} (ht : TreeIn w B kv cv t) (hw : t.weight ≤ 1048576) :
    ∀ w', Below B w w' → B ≤ w'.heap.size →
    Calls Try.prog 68 #[.agg #[kv, cv]] w' fun e w'' => ∃ v, e = .returned v ∧ IntsOwn w'' w'.heap.size v t.keys ∧ Below w'.heap.size w' w'' := by
  induction ht with
  | mk ks cs kv a cap kvs cvs hk hlen hcap hat hkids ih =>
    intro w' hbw hB
    have hkl := Tr.keys_length_le (.mk ks cs)
    simp only [Tr.weight] at hw hkl
    unfold maxLen at hcap
    obtain ⟨ka, kcap, rfl, k1, k2, knl, k3⟩ := hk.later hbw (Nat.le_refl _)
    unfold maxLen at k2
    have HK := Lib.hid k3
    have HAT := Lib.hid (hat.later hbw (Nat.le_refl _))
    have IH := Lib.hid ih
    have HKI := Lib.hid hkids
    clear hk k3 hat ih hkids
    rcases Nat.lt_or_ge ks.length cs.length with hmx | hmx
    · have hmax : max ks.length cs.length = cs.length := by omega
      go_enter Try.func68, Try.ntmps68
      go_wp2_with fail
      obtain ⟨W1, hW1⟩ : ∃ W1, W1 = w'.alloc (.cells #[.slice ka ks.length kcap, .slice a cs.length cap] 29) := ⟨_, rfl⟩
      rw [← hW1]
      have hs1 : W1.heap.size = w'.heap.size + 1 := by rw [hW1]; simp
      have hb1 : Below w'.heap.size w' W1 := by rw [hW1]; exact (Below.refl _ _).alloc (Nat.le_refl _) _
      have kb : W1.heap[w'.heap.size]? = some (.cells #[.slice ka ks.length kcap, .slice a cs.length cap] 29 (0, 0)) := by rw [hW1, new_blk]
      clear hW1
      have h00 : IntsOwn (W1.alloc (.cells #[] 3)) (w'.heap.size + 1) (.slice (some ⟨w'.heap.size + 1, 0, none⟩) 0 0) [] := by
        rw [← hs1]; exact World.ownsRow_made W1 #[] 0 (Nat.le_refl _) (by unfold maxLen; omega) rfl
      have H00 := Lib.hid h00
      have HB1 := Lib.hid hb1
      have HKB := Lib.hid kb
      clear h00 hb1 kb
      go_loopw [3, 13] (fun l i wr => ∃ (j : Nat), j ≤ cs.length ∧ i = .int .i64 j ∧ IntsOwn wr (w'.heap.size + 1) l (Tr.upto (Tr.keyss cs) ks j) ∧ Below (w'.heap.size + 1) W1 wr) (fun _ i _ => cs.length - (intOf i).toNat)
      case atStart => exact ⟨0, Nat.zero_le _, rfl, H00.out, (Below.refl _ _).alloc (by omega) _⟩
      case round =>
        obtain ⟨j, hj, rfl, hown, hbel⟩ := hrel
        have hsz := hbel.size
        have hbx := (hbel.block w'.heap.size (by omega)).trans HKB.out
        obtain ⟨x1, x2, x3, x4⟩ := box2 hbx
        have hbw' : Below w'.heap.size w' wr := HB1.out.trans (hbel.mono (by omega))
        clear hbx
        by_cases hlt : j < cs.length
        · have hm := Tr.upto_mono (Tr.keyss cs) ks (j + 1) cs.length hlt
          have hsu := Tr.upto_succ (Tr.keyss cs) ks j
          have hfin : (Tr.upto (Tr.keyss cs) ks cs.length).length ≤ 1048576 := by simp only [Tr.keys, hmax] at hkl; omega
          have hfin2 : (Tr.upto (Tr.keyss cs) ks (j + 1)).length ≤ 1048576 := by omega
          have HSU := Lib.hid hsu
          have HM := Lib.hid hfin2
          clear hm hsu hfin hfin2
          by_cases hkey : j < ks.length
          · have hkid : j < cs.length := by omega
            rcases HAT.out with h | ⟨b, off, rfl, hb, hat⟩
            · omega
            obtain ⟨ha, hc⟩ := hat j hkid
            rw [← below_cell hbw' (by omega)] at ha hc
            have hC := fun w1 h1 h2 => IH.out j hkid (by have := Tr.weight_get_le cs j hkid; omega) w1 h1 h2
            have HC := Lib.hid hC
            have HKF := Lib.hid (Tr.keyss_get cs j hkid)
            obtain ⟨oa, oc, rfl⟩ := IntsOwn.shown hown
            have HO := Lib.hid hown
            clear hat hC hown
            rcases HK.out with h | ⟨b2, off2, rfl, hb2, hat2⟩
            · simp [h] at hkey
            have hk2 := hat2 j hkey
            have hk3 : ks[j]? = some (ks.getD j 0) := by simp [hkey]
            have HK3 := Lib.hid hk3
            have HAT2 := Lib.hid hk2
            clear hat2 hk3 hk2
            generalize ks.getD j 0 = x at HK3 HAT2
            have hp : Tr.part (Tr.keyss cs) ks j = cs[j].keys ++ [x] := by simp only [Tr.part, HKF.out, HK3.out]; simp
            have HP := Lib.hid hp
            clear hp
            go_wp2_with fail
            refine (HC.out _ (hbw.trans (hbw'.mono hB)) (by omega)).mono ?_
            rintro e w1 ⟨v1, rfl, hv1, hb1⟩
            obtain ⟨va, vc, rfl⟩ := IntsOwn.shown hv1
            have hz1 := hb1.size
            have HV := Lib.hid (IntsIn.at (IntsOwn.in hv1))
            have HO1 := Lib.hid (IntsOwn.later HO.out hb1 (Nat.le_refl _))
            have hbel1 : Below (w'.heap.size + 1) W1 w1 := hbel.trans (hb1.mono (by omega))
            have HB2 := Lib.hid hbel1
            clear hv1 hb1 hbel1
            have hlen : (Tr.upto (Tr.keyss cs) ks j).length + cs[j].keys.length ≤ 17592186044416 := by
              have h := HM.out; rw [HSU.out] at h; simp only [Tr.part, HKF.out, List.length_append, Option.getD_some] at h; omega
            have hloo : w'.heap.size + 1 ≤ w1.heap.size := by omega
            have HLEN := Lib.hid hlen
            clear hlen
            go_wp2_with (first | (at_builtin; refine wpList_append_ints rfl _ _ rfl (w'.heap.size + 1) _ _ _ cs[j].keys rfl HO1.out rfl HV.out HLEN.out hloo ?_; intro v2 w2 hown2 hbel2 _ hsh2; obtain ⟨a2, c2, rfl⟩ := hsh2; have hcur := HB2.out.trans hbel2; have hsz2 := hcur.size; have hbw2 : Below w'.heap.size w' w2 := HB1.out.trans (hcur.mono (by omega)); have hbx2 := (hcur.block w'.heap.size (by omega)).trans HKB.out; clear x1 x2 x3 x4; obtain ⟨x1, x2, x3, x4⟩ := box2 hbx2; generalize hL2 : Tr.upto (Tr.keyss cs) ks j ++ cs[j].keys = L2 at hown2 ⊢; have HL2 := Lib.hid hL2; have HOX := Lib.hid hown2; clear hbx2 hbel2 hown2 hL2 HO1 HV; have hk2 := HAT2.out; rw [← below_cell hbw2 (by omega)] at hk2; have HOXX := Lib.hid (IntsOwn.alloc' HOX.out (.cells #[.int .i64 x] 3)); have HSX := Lib.hid (IntsAt.one w2 x); have hlo9 : w'.heap.size + 1 ≤ (w2.alloc (.cells #[.int .i64 x] 3)).heap.size := (by rw [World.size_alloc]; omega); have HLEN9 : Hid (L2.length + [x].length ≤ 17592186044416) := Lib.hid (by have h := HM.out; rw [HSU.out, HP.out, ← List.append_assoc, HL2.out, List.length_append] at h; omega)) | (at_builtin; refine wpList_append_ints rfl _ _ rfl (w'.heap.size + 1) _ _ _ [x] rfl HOXX.out rfl HSX.out HLEN9.out hlo9 ?_; intro v9 w9 hown9 hbel9 _ hsh9; obtain ⟨a9, c9, rfl⟩ := hsh9; have hbn : Below (w'.heap.size + 1) W1 w9 := (hcur.alloc (by omega) _).trans hbel9; generalize hL3 : L2 ++ [x] = L3 at hown9 ⊢; have HL3 := Lib.hid hL3; have HN := Lib.hid (And.intro hown9 hbn); clear hown9 hbel9 hbn hL3))
            go_roundw
            case rel => exact ⟨j + 1, by omega, by go_num, by rw [HSU.out, HP.out, ← List.append_assoc, HL2.out, HL3.out]; exact HN.out.1, HN.out.2⟩
            case measure => simp [intOf]; omega
          · have hkid : j < cs.length := by omega
            rcases HAT.out with h | ⟨b, off, rfl, hb, hat⟩
            · omega
            obtain ⟨ha, hc⟩ := hat j hkid
            rw [← below_cell hbw' (by omega)] at ha hc
            have hC := fun w1 h1 h2 => IH.out j hkid (by have := Tr.weight_get_le cs j hkid; omega) w1 h1 h2
            have HC := Lib.hid hC
            have HKF := Lib.hid (Tr.keyss_get cs j hkid)
            obtain ⟨oa, oc, rfl⟩ := IntsOwn.shown hown
            have HO := Lib.hid hown
            clear hat hC hown
            have hk3 : ks[j]? = none := List.getElem?_eq_none (by omega)
            have hp : Tr.part (Tr.keyss cs) ks j = cs[j].keys := by simp only [Tr.part, HKF.out, hk3]; simp
            have HP := Lib.hid hp
            clear hp
            clear hk3
            go_wp2_with fail
            refine (HC.out _ (hbw.trans (hbw'.mono hB)) (by omega)).mono ?_
            rintro e w1 ⟨v1, rfl, hv1, hb1⟩
            obtain ⟨va, vc, rfl⟩ := IntsOwn.shown hv1
            have hz1 := hb1.size
            have HV := Lib.hid (IntsIn.at (IntsOwn.in hv1))
            have HO1 := Lib.hid (IntsOwn.later HO.out hb1 (Nat.le_refl _))
            have hbel1 : Below (w'.heap.size + 1) W1 w1 := hbel.trans (hb1.mono (by omega))
            have HB2 := Lib.hid hbel1
            clear hv1 hb1 hbel1
            have hlen : (Tr.upto (Tr.keyss cs) ks j).length + cs[j].keys.length ≤ 17592186044416 := by
              have h := HM.out; rw [HSU.out] at h; simp only [Tr.part, HKF.out, List.length_append, Option.getD_some] at h; omega
            have hloo : w'.heap.size + 1 ≤ w1.heap.size := by omega
            have HLEN := Lib.hid hlen
            clear hlen
            go_wp2_with (at_builtin; refine wpList_append_ints rfl _ _ rfl (w'.heap.size + 1) _ _ _ cs[j].keys rfl HO1.out rfl HV.out HLEN.out hloo ?_; intro v2 w2 hown2 hbel2 _ hsh2; obtain ⟨a2, c2, rfl⟩ := hsh2; have hcur := HB2.out.trans hbel2; have hsz2 := hcur.size; have hbw2 : Below w'.heap.size w' w2 := HB1.out.trans (hcur.mono (by omega)); have hbx2 := (hcur.block w'.heap.size (by omega)).trans HKB.out; clear x1 x2 x3 x4; obtain ⟨x1, x2, x3, x4⟩ := box2 hbx2; generalize hL2 : Tr.upto (Tr.keyss cs) ks j ++ cs[j].keys = L2 at hown2 ⊢; have HL2 := Lib.hid hL2; have HOX := Lib.hid hown2; clear hbx2 hbel2 hown2 hL2 HO1 HV)
            go_roundw
            case rel => exact ⟨j + 1, by omega, by go_num, by rw [HSU.out, HP.out, HL2.out]; exact HOX.out, hcur⟩
            case measure => simp [intOf]; omega
        · obtain rfl : j = cs.length := by omega
          have HO := Lib.hid hown
          clear hown
          go_wp2_with fail
          go_ret
          exact ⟨_, rfl, by simp only [Tr.keys, hmax]; exact IntsOwn.lower HO.out (by omega), hbw'⟩
    · have hmax : max ks.length cs.length = ks.length := by omega
      go_enter Try.func68, Try.ntmps68
      go_wp2_with fail
      obtain ⟨W1, hW1⟩ : ∃ W1, W1 = w'.alloc (.cells #[.slice ka ks.length kcap, .slice a cs.length cap] 29) := ⟨_, rfl⟩
      rw [← hW1]
      have hs1 : W1.heap.size = w'.heap.size + 1 := by rw [hW1]; simp
      have hb1 : Below w'.heap.size w' W1 := by rw [hW1]; exact (Below.refl _ _).alloc (Nat.le_refl _) _
      have kb : W1.heap[w'.heap.size]? = some (.cells #[.slice ka ks.length kcap, .slice a cs.length cap] 29 (0, 0)) := by rw [hW1, new_blk]
      clear hW1
      have h00 : IntsOwn (W1.alloc (.cells #[] 3)) (w'.heap.size + 1) (.slice (some ⟨w'.heap.size + 1, 0, none⟩) 0 0) [] := by
        rw [← hs1]; exact World.ownsRow_made W1 #[] 0 (Nat.le_refl _) (by unfold maxLen; omega) rfl
      have H00 := Lib.hid h00
      have HB1 := Lib.hid hb1
      have HKB := Lib.hid kb
      clear h00 hb1 kb
      go_loopw [3, 13] (fun l i wr => ∃ (j : Nat), j ≤ ks.length ∧ i = .int .i64 j ∧ IntsOwn wr (w'.heap.size + 1) l (Tr.upto (Tr.keyss cs) ks j) ∧ Below (w'.heap.size + 1) W1 wr) (fun _ i _ => ks.length - (intOf i).toNat)
      case atStart => exact ⟨0, Nat.zero_le _, rfl, H00.out, (Below.refl _ _).alloc (by omega) _⟩
      case round =>
        obtain ⟨j, hj, rfl, hown, hbel⟩ := hrel
        have hsz := hbel.size
        have hbx := (hbel.block w'.heap.size (by omega)).trans HKB.out
        obtain ⟨x1, x2, x3, x4⟩ := box2 hbx
        have hbw' : Below w'.heap.size w' wr := HB1.out.trans (hbel.mono (by omega))
        clear hbx
        by_cases hlt : j < ks.length
        · have hm := Tr.upto_mono (Tr.keyss cs) ks (j + 1) ks.length hlt
          have hsu := Tr.upto_succ (Tr.keyss cs) ks j
          have hfin : (Tr.upto (Tr.keyss cs) ks ks.length).length ≤ 1048576 := by simp only [Tr.keys, hmax] at hkl; omega
          have hfin2 : (Tr.upto (Tr.keyss cs) ks (j + 1)).length ≤ 1048576 := by omega
          have HSU := Lib.hid hsu
          have HM := Lib.hid hfin2
          clear hm hsu hfin hfin2
          by_cases hkid : j < cs.length
          · have hkey : j < ks.length := by omega
            rcases HAT.out with h | ⟨b, off, rfl, hb, hat⟩
            · omega
            obtain ⟨ha, hc⟩ := hat j hkid
            rw [← below_cell hbw' (by omega)] at ha hc
            have hC := fun w1 h1 h2 => IH.out j hkid (by have := Tr.weight_get_le cs j hkid; omega) w1 h1 h2
            have HC := Lib.hid hC
            have HKF := Lib.hid (Tr.keyss_get cs j hkid)
            obtain ⟨oa, oc, rfl⟩ := IntsOwn.shown hown
            have HO := Lib.hid hown
            clear hat hC hown
            rcases HK.out with h | ⟨b2, off2, rfl, hb2, hat2⟩
            · simp [h] at hkey
            have hk2 := hat2 j hkey
            have hk3 : ks[j]? = some (ks.getD j 0) := by simp [hkey]
            have HK3 := Lib.hid hk3
            have HAT2 := Lib.hid hk2
            clear hat2 hk3 hk2
            generalize ks.getD j 0 = x at HK3 HAT2
            have hp : Tr.part (Tr.keyss cs) ks j = cs[j].keys ++ [x] := by simp only [Tr.part, HKF.out, HK3.out]; simp
            have HP := Lib.hid hp
            clear hp
            go_wp2_with fail
            refine (HC.out _ (hbw.trans (hbw'.mono hB)) (by omega)).mono ?_
            rintro e w1 ⟨v1, rfl, hv1, hb1⟩
            obtain ⟨va, vc, rfl⟩ := IntsOwn.shown hv1
            have hz1 := hb1.size
            have HV := Lib.hid (IntsIn.at (IntsOwn.in hv1))
            have HO1 := Lib.hid (IntsOwn.later HO.out hb1 (Nat.le_refl _))
            have hbel1 : Below (w'.heap.size + 1) W1 w1 := hbel.trans (hb1.mono (by omega))
            have HB2 := Lib.hid hbel1
            clear hv1 hb1 hbel1
            have hlen : (Tr.upto (Tr.keyss cs) ks j).length + cs[j].keys.length ≤ 17592186044416 := by
              have h := HM.out; rw [HSU.out] at h; simp only [Tr.part, HKF.out, List.length_append, Option.getD_some] at h; omega
            have hloo : w'.heap.size + 1 ≤ w1.heap.size := by omega
            have HLEN := Lib.hid hlen
            clear hlen
            go_wp2_with (first | (at_builtin; refine wpList_append_ints rfl _ _ rfl (w'.heap.size + 1) _ _ _ cs[j].keys rfl HO1.out rfl HV.out HLEN.out hloo ?_; intro v2 w2 hown2 hbel2 _ hsh2; obtain ⟨a2, c2, rfl⟩ := hsh2; have hcur := HB2.out.trans hbel2; have hsz2 := hcur.size; have hbw2 : Below w'.heap.size w' w2 := HB1.out.trans (hcur.mono (by omega)); have hbx2 := (hcur.block w'.heap.size (by omega)).trans HKB.out; clear x1 x2 x3 x4; obtain ⟨x1, x2, x3, x4⟩ := box2 hbx2; generalize hL2 : Tr.upto (Tr.keyss cs) ks j ++ cs[j].keys = L2 at hown2 ⊢; have HL2 := Lib.hid hL2; have HOX := Lib.hid hown2; clear hbx2 hbel2 hown2 hL2 HO1 HV; have hk2 := HAT2.out; rw [← below_cell hbw2 (by omega)] at hk2; have HOXX := Lib.hid (IntsOwn.alloc' HOX.out (.cells #[.int .i64 x] 3)); have HSX := Lib.hid (IntsAt.one w2 x); have hlo9 : w'.heap.size + 1 ≤ (w2.alloc (.cells #[.int .i64 x] 3)).heap.size := (by rw [World.size_alloc]; omega); have HLEN9 : Hid (L2.length + [x].length ≤ 17592186044416) := Lib.hid (by have h := HM.out; rw [HSU.out, HP.out, ← List.append_assoc, HL2.out, List.length_append] at h; omega)) | (at_builtin; refine wpList_append_ints rfl _ _ rfl (w'.heap.size + 1) _ _ _ [x] rfl HOXX.out rfl HSX.out HLEN9.out hlo9 ?_; intro v9 w9 hown9 hbel9 _ hsh9; obtain ⟨a9, c9, rfl⟩ := hsh9; have hbn : Below (w'.heap.size + 1) W1 w9 := (hcur.alloc (by omega) _).trans hbel9; generalize hL3 : L2 ++ [x] = L3 at hown9 ⊢; have HL3 := Lib.hid hL3; have HN := Lib.hid (And.intro hown9 hbn); clear hown9 hbel9 hbn hL3))
            go_roundw
            case rel => exact ⟨j + 1, by omega, by go_num, by rw [HSU.out, HP.out, ← List.append_assoc, HL2.out, HL3.out]; exact HN.out.1, HN.out.2⟩
            case measure => simp [intOf]; omega
          · have hkey : j < ks.length := by omega
            have hkf : (Tr.keyss cs)[j]? = none := List.getElem?_eq_none (by rw [Tr.length_keyss]; omega)
            obtain ⟨oa, oc, rfl⟩ := IntsOwn.shown hown
            have HOX := Lib.hid hown
            have hcur := hbel
            rcases HK.out with h | ⟨b2, off2, rfl, hb2, hat2⟩
            · simp [h] at hkey
            have hk2 := hat2 j hkey
            have hk3 : ks[j]? = some (ks.getD j 0) := by simp [hkey]
            have HK3 := Lib.hid hk3
            have HAT2 := Lib.hid hk2
            clear hat2 hk3 hk2
            generalize ks.getD j 0 = x at HK3 HAT2
            have hp : Tr.part (Tr.keyss cs) ks j = [x] := by simp only [Tr.part, hkf, HK3.out]; simp
            have HP := Lib.hid hp
            clear hp
            clear hkf hown
            have hk2 := HAT2.out
            rw [← below_cell hbw' (by omega)] at hk2
            have HOXX := Lib.hid (IntsOwn.alloc' HOX.out (.cells #[.int .i64 x] 3))
            have HSX := Lib.hid (IntsAt.one wr x)
            have hlo9 : w'.heap.size + 1 ≤ (wr.alloc (.cells #[.int .i64 x] 3)).heap.size := by rw [World.size_alloc]; omega
            have HLEN9 : Hid ((Tr.upto (Tr.keyss cs) ks j).length + [x].length ≤ 17592186044416) := Lib.hid (by have h := HM.out; rw [HSU.out, HP.out, List.length_append] at h; omega)
            go_wp2_with (at_builtin; refine wpList_append_ints rfl _ _ rfl (w'.heap.size + 1) _ _ _ [x] rfl HOXX.out rfl HSX.out HLEN9.out hlo9 ?_; intro v9 w9 hown9 hbel9 _ hsh9; obtain ⟨a9, c9, rfl⟩ := hsh9; have hbn : Below (w'.heap.size + 1) W1 w9 := (hcur.alloc (by omega) _).trans hbel9; generalize hL3 : Tr.upto (Tr.keyss cs) ks j ++ [x] = L3 at hown9 ⊢; have HL3 := Lib.hid hL3; have HN := Lib.hid (And.intro hown9 hbn); clear hown9 hbel9 hbn hL3)
            go_roundw
            case rel => exact ⟨j + 1, by omega, by go_num, by rw [HSU.out, HP.out, HL3.out]; exact HN.out.1, HN.out.2⟩
            case measure => simp [intOf]; omega
        · obtain rfl : j = ks.length := by omega
          have HO := Lib.hid hown
          clear hown
          go_wp2_with fail
          go_ret
          exact ⟨_, rfl, by simp only [Tr.keys, hmax]; exact IntsOwn.lower HO.out (by omega), hbw'⟩
end Go.Proofs.Ytepkigcbjepbpaa
