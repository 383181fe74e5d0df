/- The program's own copy of a tree: nodes behind pointers; how they lie in memory; the contract of slices.Clone at ints. -/
import Derived.WalkKit
import Derived.Lib.Hide
import Derived.Test.YtananonjomfpkaaProg
import Derived.Laws.AppendOwnNone
import Derived.OwnWalk
import Derived.WalkSmall
import Derived.Deep.AppendLies
import Derived.Lib.SliceRun
/- Plain trees and how they lie in memory: the words that the contracts of this claim use. -/
namespace Go.Proofs.Ytananonjomfpkaa
open Go.RowKit
inductive Tr where
 | mk (ks : List Int) (cs : List Tr)
namespace Tr
mutual
def weight : Tr → Nat
 | .mk k c => k.length + weights c
def weights : List Tr → Nat
 | [] => 0
 | t :: r => 1 + weight t + weights r
end
end Tr
namespace Tr
mutual
def count : Tr → Nat
 | .mk _ c => 1 + counts c
def counts : List Tr → Nat
 | [] => 0
 | t :: r => count t + counts r
end
mutual
def depth : Tr → Nat
 | .mk _ c => depths c + 1
def depths : List Tr → Nat
 | [] => 0
 | t :: r => max (depth t) (depths r)
end
mutual
def full (n : Int) : Tr → Nat
 | .mk k c => (if (k.length : Int) = n then 1 else 0) + fulls n c
def fulls (n : Int) : List Tr → Nat
 | [] => 0
 | t :: r => full n t + fulls n r
end
mutual
theorem count_le : ∀ t : Tr, t.count ≤ t.weight + 1
 | .mk k c => by have := counts_le c; simp only [count, weight]; omega
theorem counts_le : ∀ c : List Tr, counts c ≤ weights c
 | [] => by simp [counts]
 | t :: r => by have := count_le t; have := counts_le r; simp only [counts, weights]; omega
end
mutual
theorem depth_le : ∀ t : Tr, t.depth ≤ t.count
 | .mk k c => by have := depths_le c; simp only [count, depth]; omega
theorem depths_le : ∀ c : List Tr, depths c ≤ counts c
 | [] => by simp [depths]
 | t :: r => by have := depth_le t; have := depths_le r; simp only [counts, depths]; omega
end
mutual
theorem full_le (n : Int) : ∀ t : Tr, t.full n ≤ t.count
 | .mk k c => by have := fulls_le n c; simp only [count, full]; split <;> omega
theorem fulls_le (n : Int) : ∀ c : List Tr, fulls n c ≤ counts c
 | [] => by simp [fulls]
 | t :: r => by have := full_le n t; have := fulls_le n r; simp only [counts, fulls]; omega
end
end Tr
def IntsIn (w : World) (B : Nat) (v : Value) (ks : List Int) : Prop :=
 ∃ (a : Option Addr) (cap : Nat), v = .slice a ks.length cap ∧ ks.length ≤ cap ∧ cap ≤ maxLen ∧ (a = none → cap = 0) ∧
   (ks = [] ∨ ∃ b o, a = some ⟨b, o, none⟩ ∧ b < B ∧ ∀ i, i < ks.length → w.cell? ⟨b, o + i, none⟩ = some (.int .i64 (ks.getD i 0)))
def KidsIn (w : World) (B : Nat) (a : Option Addr) (n : Nat) (kvs cvs : Nat → Value) : Prop :=
 n = 0 ∨ ∃ b o, a = some ⟨b, o, none⟩ ∧ b < B ∧ ∀ i, i < n →
   w.cell? ⟨b, o + i * 2, none⟩ = some (kvs i) ∧ w.cell? ⟨b, o + i * 2 + 1, none⟩ = some (cvs i)
inductive TreeIn (w : World) (B : Nat) : Value → Value → Tr → Prop where
 | mk (ks : List Int) (cs : List Tr) (kv : Value) (a : Option Addr) (cap : Nat) (kvs cvs : Nat → Value)
     (hk : IntsIn w B kv ks) (hlen : cs.length ≤ cap) (hcap : cap ≤ maxLen) (hat : KidsIn w B a cs.length kvs cvs)
     (hkids : ∀ i (h : i < cs.length), TreeIn w B (kvs i) (cvs i) cs[i]) :
     TreeIn w B kv (.slice a cs.length cap) (.mk ks cs)
theorem below_cell {B : Nat} {w w' : World} (h : Below B w w') {b o : Nat} (hb : b < B) : w'.cell? ⟨b, o, none⟩ = w.cell? ⟨b, o, none⟩ := h.cell (p := ⟨b, o, none⟩) hb
theorem new_blk (w : World) (o : Obj) : (w.alloc o).heap[w.heap.size]? = some o := by
 show (w.heap.push o)[w.heap.size]? = _
 simp
theorem set_blk {w : World} {b o : Nat} {c : Array Value} {t : TypeId} (v : Value) (h : w.heap[b]? = some (.cells c t (0, 0))) :
   (w.setCell ⟨b, o, none⟩ v).heap[b]? = some (.cells (c.setIfInBounds o v) t (0, 0)) := by
 simp [World.setCell, Array.getElem?_modify, h]
theorem set_other (w : World) (b o : Nat) (v : Value) (k : Nat) (h : k ≠ b) : (w.setCell ⟨b, o, none⟩ v).heap[k]? = w.heap[k]? := Below.heap_setCell w ⟨b, o, none⟩ v k h
theorem IntsIn.later {w w' : World} {B C : Nat} {v : Value} {ks : List Int} (h : IntsIn w B v ks) (hb : Below C w w') (hC : B ≤ C) : IntsIn w' B v ks := by
 obtain ⟨a, cap, hv, h1, h2, hnl, h3⟩ := h
 refine ⟨a, cap, hv, h1, h2, hnl, ?_⟩
 rcases h3 with h3 | ⟨b, o, h3, h4, h5⟩
 · exact .inl h3
 · exact .inr ⟨b, o, h3, h4, fun i hi => by rw [below_cell hb (by omega)]; exact h5 i hi⟩
theorem IntsIn.wider {w : World} {B C : Nat} {v : Value} {ks : List Int} (h : IntsIn w B v ks) (hC : B ≤ C) : IntsIn w C v ks := by
 obtain ⟨a, cap, hv, h1, h2, hnl, h3⟩ := h
 refine ⟨a, cap, hv, h1, h2, hnl, ?_⟩
 rcases h3 with h3 | ⟨b, o, h3, h4, h5⟩
 · exact .inl h3
 · exact .inr ⟨b, o, h3, by omega, h5⟩
theorem ret_bool {a b : Bool} (h : a = b) : Ending.returned (.bool a) = .returned (.bool b) := by rw [h]
end Go.Proofs.Ytananonjomfpkaa
/- Appends onto a slice of ints of the call's own. -/
namespace Go.Proofs.Ytananonjomfpkaa
open Go.RowKit
def IntsAt (w : World) (v : Value) (ks : List Int) : Prop :=
 ∃ (a : Option Addr) (cap : Nat), v = .slice a ks.length cap ∧ (a = none → cap = 0) ∧
   (ks = [] ∨ ∃ b o, a = some ⟨b, o, none⟩ ∧ ∀ i, i < ks.length → w.cell? ⟨b, o + i, none⟩ = some (.int .i64 (ks.getD i 0)))
theorem IntsIn.at {w : World} {B : Nat} {v : Value} {ks : List Int} (h : IntsIn w B v ks) : IntsAt w v ks := by
 obtain ⟨a, cap, hv, h1, h2, hnl, h3⟩ := h
 refine ⟨a, cap, hv, hnl, ?_⟩
 rcases h3 with h3 | ⟨b, o, h3, _, h4⟩
 · exact .inl h3
 · exact .inr ⟨b, o, h3, h4⟩
abbrev IntsOwn (w : World) (lo : Nat) (v : Value) (ks : List Int) : Prop := w.ownsRow lo 3 1 v ks.length (ks.map (Value.int .i64))
theorem IntsOwn.in {w : World} {lo : Nat} {v : Value} {ks : List Int} (h : IntsOwn w lo v ks) : IntsIn w w.heap.size v ks := by
 have h0 := h
 obtain ⟨h1, ⟨h2, h3⟩ | ⟨g, cap, cur, hv, hb, hg, hn, hm, hs, ht⟩⟩ := h
 · obtain rfl : ks = [] := List.length_eq_zero_iff.1 h3
   exact ⟨none, 0, h2, by simp, by unfold maxLen; omega, fun _ => rfl, .inl rfl⟩
 · refine ⟨_, cap, hv, hn, hm, by simp, .inr ⟨g, 0, rfl, (Array.getElem?_eq_some_iff.1 hg).1, fun i hi => ?_⟩⟩
   subst hv
   rw [Nat.zero_add, World.ownsRow.cellAt h0 i (by omega)]
   simp [hi]
theorem IntsOwn.inB {w : World} {lo B : Nat} {v : Value} {ks : List Int} (h : IntsOwn w lo v ks) (hB : w.heap.size ≤ B) : IntsIn w B v ks := (IntsOwn.in h).wider hB
theorem IntsOwn.later {w w' : World} {lo C : Nat} {v : Value} {ks : List Int} (h : IntsOwn w lo v ks) (hb : Below C w w') (hC : w.heap.size ≤ C) : IntsOwn w' lo v ks := by
 obtain ⟨h1, h2 | ⟨g, cap, cur, hv, hbb, hg, hr⟩⟩ := h
 · exact ⟨h1, .inl h2⟩
 · exact ⟨h1, .inr ⟨g, cap, cur, hv, hbb, (hb.block g (by have := (Array.getElem?_eq_some_iff.1 hg).1; omega)).trans hg, hr⟩⟩
theorem IntsOwn.lower {w : World} {lo lo' : Nat} {v : Value} {ks : List Int} (h : IntsOwn w lo v ks) (hl : lo' ≤ lo) : IntsOwn w lo' v ks := by
 obtain ⟨h1, h2 | ⟨g, cap, cur, hv, hbb, hr⟩⟩ := h
 · exact ⟨h1, .inl h2⟩
 · exact ⟨h1, .inr ⟨g, cap, cur, hv, by omega, hr⟩⟩
theorem IntsOwn.shown {w : World} {lo : Nat} {v : Value} {ks : List Int} (h : IntsOwn w lo v ks) : ∃ a c, v = .slice a ks.length c := by
 obtain ⟨h1, ⟨h2, h3⟩ | ⟨g, cap, cur, hv, hbb, hr⟩⟩ := h
 · exact ⟨_, _, by rw [h2, h3]⟩
 · exact ⟨_, _, hv⟩
theorem IntsOwn.alloc' {w : World} {lo : Nat} {v : Value} {ks : List Int} (h : IntsOwn w lo v ks) (o : Obj) : IntsOwn (w.alloc o) lo v ks := World.ownsRow.alloc h o
theorem IntsAt.one (w : World) (x : Int) : IntsAt (w.alloc (.cells #[.int .i64 x] 3)) (.slice (some ⟨w.heap.size, 0, none⟩) 1 1) [x] :=
 ⟨_, _, rfl, by simp, .inr ⟨_, 0, rfl, fun i hi => by
   obtain rfl : i = 0 := by simpa using hi
   rw [World.cell?_alloc_at _ _ _ _ rfl]; rfl⟩⟩
theorem Try.appInfo : (Try.prog.info? 3).map (fun i => (i.zero, i.size, i.bytes)) = some (some (.int .i64 0), 1, 8) := by kernel_rfl
theorem wpList_append_ints {w : World} {ops : Array Oper} {rest : List Oper} {o : Oper} {a : Act} {Q : Exit → Act → World → Prop} (hgd : o.guard = none) (s x : Operand)
   (ho : o.op = .call { callee := .builtin .append, args := #[s, x], argTypes := #[23, 23] })
   (lo : Nat) (v y : Value) (xs ms : List Int) (hs : a.eval s = v) (hown : IntsOwn w lo v xs) (hx : a.eval x = y) (hsrc : IntsAt w y ms)
   (hlen : xs.length + ms.length ≤ 17592186044416) (hlo : lo ≤ w.heap.size)
   (h : ∀ v' w', IntsOwn w' lo v' (xs ++ ms) → Below lo w w' → w.grownBy w' v.ownBlock → (∃ a c, v' = .slice a (xs ++ ms).length c) → wpList Try.prog ops Q rest (a.put o.dst v') w') : wpList Try.prog ops Q (o :: rest) a w := by
 obtain ⟨i0, hi, hz0, hz1, hz2⟩ := info_parts Try.appInfo
 obtain ⟨pa, cap, rfl, hnl, hat⟩ := hsrc
 rcases pa with _ | p
 · obtain rfl := hnl rfl
   obtain rfl : ms = [] := by
     rcases hat with h | ⟨b, o, h, _⟩
     · exact h
     · cases h
   refine wpList_append_own_none hgd s x 23 ho lo 3 i0 1 Try.underlying23 hi v _ _ hs hown hx (h v w (by simpa using hown) (Below.refl _ _) (World.grownBy.refl _ _) ?_)
   simpa using IntsOwn.shown hown
 · refine wpList_append_own w hgd s x 23 ho lo 3 i0 (.int .i64 0) 1 8 Try.underlying23 hi hz0 hz1 hz2 rfl (by decide) v _ _ hs hown p ms.length cap (ms.map (Value.int .i64)) hx (by simp) (fun j u hj => ?_) (ints_oneCell .i64 ms) (by unfold maxLen; omega) (by omega) hlo (fun v' w' hown' hgrow _ => ?_)
   · have hjl : j < ms.length := by
       have := (List.getElem?_eq_some_iff.1 hj).1
       simpa using this
     rcases hat with h | ⟨b, o, h, hc⟩
     · simp [h] at hjl
     · cases h
       have hu : u = .int .i64 (ms.getD j 0) := by
         rw [List.getElem?_map] at hj
         simp [hjl] at hj
         simp [← hj, hjl]
       rw [hu, Addr.add_lit]
       exact hc j hjl
   · have hown2 : IntsOwn w' lo v' (xs ++ ms) := by
       unfold IntsOwn
       rw [List.length_append, List.map_append]
       exact hown'
     refine h v' w' hown2 ((Below.refl lo w).grown hgrow hlo (fun k hk => (hown.lt k hk).1)) hgrow (IntsOwn.shown hown2)
end Go.Proofs.Ytananonjomfpkaa
/- The program's own copy of a tree: nodes behind pointers; how they lie in memory; the contract of slices.Clone at ints. -/
namespace Go.Proofs.Ytananonjomfpkaa
open Go.RowKit
def IntsR (w : World) (lo hi : Nat) (v : Value) (ks : List Int) : Prop :=
 ∃ (a : Option Addr) (cap : Nat), v = .slice a ks.length cap ∧ ks.length ≤ cap ∧ cap ≤ maxLen ∧ (a = none → cap = 0) ∧
   (ks = [] ∨ ∃ b o, a = some ⟨b, o, none⟩ ∧ lo ≤ b ∧ b < hi ∧ ∀ i, i < ks.length → w.cell? ⟨b, o + i, none⟩ = some (.int .i64 (ks.getD i 0)))
def PtrsR (w : World) (lo hi : Nat) (a : Option Addr) (n : Nat) (ps : Nat → Nat) : Prop :=
 n = 0 ∨ ∃ b o, a = some ⟨b, o, none⟩ ∧ lo ≤ b ∧ b < hi ∧ ∀ i, i < n → w.cell? ⟨b, o + i, none⟩ = some (.pointer (some ⟨ps i, 0, none⟩))
inductive NodeIn (w : World) : Nat → Nat → Nat → Tr → Prop where
 | mk (ks : List Int) (cs : List Tr) (lo hi b : Nat) (kv : Value) (a : Option Addr) (cap : Nat) (ps s : Nat → Nat)
     (hlo : lo ≤ b) (hhi : b < hi) (hs0 : b < s 0) (hsn : s cs.length ≤ hi) (hs : ∀ i, i < cs.length → s i ≤ s (i + 1))
     (hbox : w.heap[b]? = some (.cells #[kv, .slice a cs.length cap] 99 (0, 0)))
     (hk : IntsR w lo hi kv ks) (hlen : cs.length ≤ cap) (hcap : cap ≤ maxLen) (hat : PtrsR w lo hi a cs.length ps)
     (hkids : ∀ i (h : i < cs.length), NodeIn w (s i) (s (i + 1)) (ps i) cs[i]) :
     NodeIn w lo hi b (.mk ks cs)
set_option maxRecDepth 100000 in
set_option maxHeartbeats 1000000 in
theorem clone_c {v : Value} {ks : List Int} (w : World) (hk : IntsAt w v ks) (hn : ks.length ≤ 1048576) :
   Calls Try.prog 97 #[v] w fun e w' => ∃ v', e = .returned v' ∧ IntsOwn w' w.heap.size v' ks ∧ Below w.heap.size w w' := by
 obtain ⟨a, cap, rfl, hnl, h3⟩ := hk
 have q22 : ∀ (w : World) (a : Option Addr) (n c n' c' : Nat), (binOp .eql 23 (.slice a n c) (.slice none n' c')).run Try.prog w = .ok (.bool a.isNone) w := fun w a n c n' c' => Lib.run_eql_slice_nil w _ _ a n c n' c' Try.underlying23
 have h00 : IntsOwn (w.alloc (.cells #[] 3)) w.heap.size (.slice (some ⟨w.heap.size, 0, none⟩) 0 0) [] := World.ownsRow_made w #[] 0 (Nat.le_refl _) (by unfold maxLen; omega) rfl
 have hb0 : Below w.heap.size w (w.alloc (.cells #[] 3)) := (Below.refl _ _).alloc (Nat.le_refl _) _
 rcases a with _ | p
 · obtain rfl := hnl rfl
   obtain rfl : ks = [] := by
     rcases h3 with h | ⟨b, o, h, _⟩
     · exact h
     · cases h
   clear h3 h00 hb0
   go_enter Try.func97, Try.ntmps97
   go_wp2_with fail
   go_ret
   exact ⟨_, rfl, ⟨rfl, .inl ⟨rfl, rfl⟩⟩, Below.refl _ _⟩
 · have hsrc : IntsAt (w.alloc (.cells #[] 3)) (.slice (some p) ks.length cap) ks := by
     refine ⟨some p, cap, rfl, by simp, ?_⟩
     rcases h3 with h | ⟨b, o, h, hc⟩
     · exact .inl h
     · refine .inr ⟨b, o, h, fun i hi => ?_⟩
       have h1 := hc i hi
       rw [below_cell hb0 (World.block_lt_of_cell? w _ h1)]
       exact h1
   have H00 := Lib.hid h00
   have HB0 := Lib.hid hb0
   have HSRC := Lib.hid hsrc
   have hln : ([] : List Int).length + ks.length ≤ 17592186044416 := by simp; omega
   have hlo : w.heap.size ≤ (w.alloc (.cells #[] 3)).heap.size := by simp
   have HLN := Lib.hid hln
   have HLO := Lib.hid hlo
   clear h3 h00 hb0 hsrc hn hnl hln hlo
   go_enter Try.func97, Try.ntmps97
   go_wp2_with (at_builtin; refine wpList_append_ints rfl _ _ rfl w.heap.size _ _ [] ks rfl H00.out rfl HSRC.out HLN.out HLO.out ?_; intro v2 w2 hown2 hbel2 _ hsh2; obtain ⟨a2, c2, rfl⟩ := hsh2; have HOX := Lib.hid hown2; have HBX := Lib.hid hbel2; clear hown2 hbel2)
   go_ret
   exact ⟨_, rfl, by simpa using HOX.out, HB0.out.trans HBX.out⟩
end Go.Proofs.Ytananonjomfpkaa
