/- Finding: what the planting of a tree and the making of the iterator over the way down leave. -/
import Derived.Test.YticfkfjijnfcbaaDoorCxS11
import Derived.Test.YticfkfjijnfcbaaDoorCxS12
import Derived.Sort.QuietIn
import Derived.TacticsInMore
import Derived.RangeFuncCalls
/- The model's NextKey, PrevKey, RankOf. -/
namespace Go.Proofs.YticfkfjijnfcbaaDoor
open Go.RowKit
theorem next_at {key : Int} {ks : List Int} {j : Nat} (h : place (key + 1) ks = j) : Tr.optOr (ks.find? (fun x => decide (key + 1 ≤ x))) (0, false) = if j < ks.length then (ks.getD j 0, true) else (0, false) := by
 rw [find_place, h]
 by_cases hj : j < ks.length
 · rw [if_pos hj]; simp [Tr.optOr, hj, List.getD_eq_getElem?_getD]
 · rw [if_neg hj, List.getElem?_eq_none (by omega)]; rfl
theorem ret_ib {a a' : Int} {b b' : Bool} (h : a = a') (h2 : b = b') : Ending.returned (.tuple #[.int .i64 a, .bool b]) = .returned (.tuple #[.int .i64 a', .bool b']) := by rw [h, h2]
-- END
-- END
def Tr.rankB (key : Int) (t : Tr) : Int := if t.someB then (place key t.keys : Int) else -1
end Go.Proofs.YticfkfjijnfcbaaDoor
/- Regions that draw their order and only read, inside a round of a loop over an iterator. -/
namespace Go.Proofs.YticfkfjijnfcbaaDoor
open Go.RowKit
def undeferred (o : Oper) : Bool := match o.op with | .defer _ => false | _ => true
variable {F : Fence} {n : Nat} {P : Program} {ops : Array Oper} {Q : Exit → Act → World → Prop} {md : Region.Mode}
end Go.Proofs.YticfkfjijnfcbaaDoor
/- Finding: what the planting of a tree and the making of the iterator over the way down leave. -/
namespace Go.Proofs.YticfkfjijnfcbaaDoor
open Go.RowKit
def DownAt (B gf : Nat) (n : Int) (t : Tr) (s : Value) (W : World) : Prop :=
 ∃ lo hi b q bn bf : Nat, s = .func (.func 118) #[] #[.pointer (some ⟨bn, 0, none⟩), .pointer (some ⟨bf, 0, none⟩)] ∧ NodeIn W lo hi b t ∧ B ≤ lo ∧ hi ≤ W.heap.size ∧ B ≤ q ∧ B ≤ bn ∧ B ≤ bf ∧
   W.heap[bn]? = some (.cells #[.pointer (some ⟨b, 0, none⟩)] 99 (0, 0)) ∧
   W.heap[bf]? = some (.cells #[.func (.func gf) #[] #[.pointer (some ⟨q, 0, none⟩)]] 86 (0, 0)) ∧
   W.heap[q]? = some (.cells #[.int .i64 n] 3 (0, 0))
theorem downAt_mk {B gf : Nat} {n : Int} {t : Tr} {wp w8 wl : World} {nb : Nat} (hB : B ≤ wp.heap.size) (hnd : NodeIn w8 wp.heap.size w8.heap.size nb t) (hl : wl.heap = w8.heap) (hs8 : wp.heap.size ≤ w8.heap.size) :
   DownAt B gf n t (.func (.func 118) #[] #[.pointer (some ⟨(wl.alloc (.cells #[.int .i64 n] 3)).heap.size, 0, none⟩), .pointer (some ⟨(wl.alloc (.cells #[.int .i64 n] 3)).heap.size + 1, 0, none⟩)])
     (((wl.alloc (.cells #[.int .i64 n] 3)).alloc (.cells #[.pointer (some ⟨nb, 0, none⟩)] 99)).alloc (.cells #[.func (.func gf) #[] #[.pointer (some ⟨wl.heap.size, 0, none⟩)]] 86)) := by
 have hls : wl.heap.size = w8.heap.size := by rw [hl]
 refine ⟨wp.heap.size, w8.heap.size, nb, wl.heap.size, _, _, rfl, hnd.same (fun k _ h => ?_), hB, by simp; omega, by omega, by simp; omega, by simp; omega, ?_, ?_, ?_⟩
 · rw [old_blk _ _ _ (by simp <;> omega), old_blk _ _ _ (by simp <;> omega), old_blk _ _ _ (by omega), hl]
 · rw [old_blk _ _ _ (by simp), new_blk]
 · rw [show (wl.alloc (.cells #[.int .i64 n] 3)).heap.size + 1 = ((wl.alloc (.cells #[.int .i64 n] 3)).alloc (.cells #[.pointer (some ⟨nb, 0, none⟩)] 99)).heap.size by simp, new_blk]
 · rw [old_blk _ _ _ (by simp <;> omega), old_blk _ _ _ (by simp), new_blk]
end Go.Proofs.YticfkfjijnfcbaaDoor
