/- The shape of a coloured tree as plain data; the program's count of black nodes. -/
import Derived.Test.YtodcapgmhginoaaProg
import Derived.Test.YtodcapgmhginoaaBvS0
import Derived.Test.YtodcapgmhginoaaBvS2
import Derived.Test.YtodcapgmhginoaaBvS3
import Derived.WalkKit
namespace Go.Proofs.Ytodcapgmhginoaa
open Go.RowKit

namespace Bt
/-- There is a red node. -/
def redN (t : Bt) : Bool := decide (t.cs.length = 2) && t.red
/-- How many black nodes lie on each way down, if the shape is that of a coloured tree. -/
def shape : Bt → Option Nat
  | .mk k r [] => if k = 0 ∧ r = false then some 0 else none
  | .mk _ r [a, b] => match shape a, shape b with
    | some x, some y => if x ≠ y ∨ (r && (a.redN || b.redN)) = true then none else some (if r then x else x + 1)
    | _, _ => none
  | _ => none
/-- What the program's count answers. -/
def blk (L : Int) (t : Bt) : Int := match t.shape with
  | some n => if (n : Int) ≤ L then n else -1
  | none => -1
theorem red_shape {t : Bt} {n : Nat} (h : t.shape = some n) : t.redN = t.red := by
  match t, h with
  | .mk k r [], h =>
    simp only [shape] at h
    by_cases hc : k = 0 ∧ r = false
    · simp [redN, red, cs, hc.2]
    · rw [if_neg hc] at h; cases h
  | .mk _ r [a, b], h => simp [redN, red, cs]
  | .mk _ _ [_], h => simp [shape] at h
  | .mk _ _ (_ :: _ :: _ :: _), h => simp [shape] at h
theorem blk_lo (L : Int) (t : Bt) : -1 ≤ t.blk L := by unfold blk; split <;> (try split) <;> omega
theorem blk_hi (L : Int) (t : Bt) (hL : -1 ≤ L) : t.blk L ≤ L := by unfold blk; split <;> (try split) <;> omega
theorem blk_none {t : Bt} (h : t.shape = none) (L : Int) : t.blk L = -1 := by unfold blk; rw [h]
/-- A node's count, of its kids' counts. -/
theorem blk_node (k : Int) (r : Bool) (a b : Bt) (L : Int) :
    (Bt.mk k r [a, b]).blk L = (if (r = false ∧ L < 1) ∨ (r && (a.red || b.red)) = true then -1 else if a.blk (L - (if r then 0 else 1)) < 0 ∨ b.blk (L - (if r then 0 else 1)) ≠ a.blk (L - (if r then 0 else 1)) then -1 else a.blk (L - (if r then 0 else 1)) + (if r then 0 else 1)) := by
  cases ha : a.shape with
  | none =>
    have h1 : (Bt.mk k r [a, b]).shape = none := by simp [shape, ha]
    rw [blk_none h1, blk_none ha]
    split
    · rfl
    · rw [if_pos (.inl (by omega))]
  | some x =>
    cases hb : b.shape with
    | none =>
      have h1 : (Bt.mk k r [a, b]).shape = none := by simp [shape, ha, hb]
      rw [blk_none h1, blk_none hb]
      split
      · rfl
      · by_cases h : a.blk (L - (if r then 0 else 1)) < 0
        · rw [if_pos (.inl h)]
        · rw [if_pos (.inr (by omega))]
    | some y =>
      have e1 := red_shape ha
      have e2 := red_shape hb
      unfold blk
      simp only [shape, ha, hb, e1, e2]
      cases r <;> cases a.red <;> cases b.red <;> simp <;> (repeat' split) <;> (try simp_all) <;> (try omega)
end Bt
end Go.Proofs.Ytodcapgmhginoaa
