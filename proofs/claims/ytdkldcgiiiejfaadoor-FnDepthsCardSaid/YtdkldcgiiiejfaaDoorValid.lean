/- The contracts of the model's TreeValid and what it calls. -/
import Derived.Test.YtdkldcgiiiejfaaDoorProg
import Derived.Test.YtdkldcgiiiejfaaDoorBase
import Derived.Test.YtdkldcgiiiejfaaDoorDa0
import Derived.Test.YtdkldcgiiiejfaaDoorKeys
import Derived.Test.YtdkldcgiiiejfaaDoorSpecTree
import Derived.Test.YtdkldcgiiiejfaaDoorDa1
namespace Go.Proofs.YtdkldcgiiiejfaaDoor
open Go.RowKit

namespace Tr
mutual
/-- Whether all nodes have as many keys as they have to, and all leaves are as deep as told. -/
def nodesB (wide least depth : Int) : Tr → Bool
  | .mk k c => inB k.length least wide && ((decide (c.length = 0)) == (decide (depth = 1))) &&
      (decide (c.length = 0) || (decide (c.length = k.length + 1) && !decide (k.length = 0) && nodesAllB wide (depth - 1) c))
def nodesAllB (wide depth : Int) : List Tr → Bool
  | [] => true
  | t :: r => nodesB wide (wide / 2) depth t && nodesAllB wide depth r
end
theorem nodesAllB_get {wide depth : Int} {c : List Tr} (h : nodesAllB wide depth c = true) (i : Nat) (hi : i < c.length) : nodesB wide (wide / 2) depth c[i] = true := by
  induction c generalizing i with
  | nil => simp at hi
  | cons t r ih =>
    simp only [nodesAllB, Bool.and_eq_true] at h
    cases i with
    | zero => exact h.1
    | succ i => exact ih h.2 i (by simpa using hi)
theorem nodesAllB_of {wide depth : Int} {c : List Tr} (h : ∀ i (hi : i < c.length), nodesB wide (wide / 2) depth c[i] = true) : nodesAllB wide depth c = true := by
  induction c with
  | nil => rfl
  | cons t r ih =>
    simp only [nodesAllB, Bool.and_eq_true]
    exact ⟨h 0 (by simp), ih (fun i hi => h (i + 1) (by simpa using hi))⟩
theorem nodesAllB_not {wide depth : Int} {c : List Tr} (i : Nat) (hi : i < c.length) (h : nodesB wide (wide / 2) depth c[i] = false) : nodesAllB wide depth c = false := by
  cases hh : nodesAllB wide depth c with
  | false => rfl
  | true => rw [nodesAllB_get hh i hi] at h; cases h
end Tr


end Go.Proofs.YtdkldcgiiiejfaaDoor
