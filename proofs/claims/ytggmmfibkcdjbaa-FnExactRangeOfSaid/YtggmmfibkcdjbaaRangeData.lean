/- Finding: plain data: the keys of a range. -/
import Derived.Test.YtggmmfibkcdjbaaBase
import Derived.Test.YtggmmfibkcdjbaaKeys
import Derived.Test.YtggmmfibkcdjbaaValid
import Derived.Test.YtggmmfibkcdjbaaPathData
import Derived.Test.YtggmmfibkcdjbaaFindData
namespace Go.Proofs.Ytggmmfibkcdjbaa
open Go.RowKit

/-- The keys from a number to a number. -/
def rangeL (low high : Int) (keys : List Int) : List Int := keys.filter (fun k => inB k low high)
theorem rangeL_snoc (low high : Int) (a : List Int) (x : Int) : rangeL low high (a ++ [x]) = if inB x low high = true then rangeL low high a ++ [x] else rangeL low high a := by
  unfold rangeL
  rw [List.filter_append]
  cases h : inB x low high with
  | true => simp [List.filter_cons, h]
  | false => simp [List.filter_cons, h]
theorem rangeL_len (low high : Int) (a : List Int) : (rangeL low high a).length ≤ a.length := List.length_filter_le _ _
theorem rangeL_none {low high : Int} (h : ¬ low ≤ high) (keys : List Int) : rangeL low high keys = [] := by
  unfold rangeL
  rw [List.filter_eq_nil_iff]
  intro x _
  simp only [inB, Bool.and_eq_true, decide_eq_true_eq]
  omega
theorem filter_all {p : Int → Bool} : ∀ {l : List Int}, (∀ x ∈ l, p x = true) → l.filter p = l
  | [], _ => rfl
  | x :: r, h => by rw [List.filter_cons, if_pos (h x (by simp)), filter_all (fun y hy => h y (by simp [hy]))]

/-- In a list that ascends, they are what lies between two places. -/
theorem rangeL_cut {low high : Int} (hlh : low ≤ high) {keys : List Int} (hs : keys.Pairwise (· < ·)) : rangeL low high keys = (keys.drop (place low keys)).take (place (high + 1) keys - place low keys) := by
  induction keys with
  | nil => rfl
  | cons x r ih =>
    have hr := List.pairwise_cons.1 hs
    have ih := ih hr.2
    unfold rangeL at ih ⊢
    rw [List.filter_cons]
    simp only [place]
    by_cases h1 : x < low
    · have hin : inB x low high = false := inB_false (by omega)
      rw [hin, if_pos h1, if_pos (show x < high + 1 by omega)]
      simp only [Bool.false_eq_true, if_false, List.drop_succ_cons]
      rw [ih]
      congr 1; omega
    · rw [if_neg h1]
      have hp0 : place low r = 0 := by
        cases r with
        | nil => rfl
        | cons y r' =>
          have := hr.1 y (by simp)
          simp only [place]; rw [if_neg (by omega)]
      rw [hp0] at ih
      simp only [List.drop_zero, Nat.sub_zero] at ih ⊢
      by_cases h2 : x < high + 1
      · have hin : inB x low high = true := inB_true (by omega) (by omega)
        rw [hin, if_pos h2, if_pos rfl, ih]; rfl
      · have hin : inB x low high = false := inB_false (by omega)
        have hp1 : place (high + 1) r = 0 := by
          cases r with
          | nil => rfl
          | cons y r' =>
            have := hr.1 y (by simp)
            simp only [place]; rw [if_neg (by omega)]
        rw [hin, if_neg h2, ih, hp1]; rfl

def Tr.rangeB (low high : Int) (t : Tr) : List Int := if t.someB then rangeL low high t.keys else []
theorem rangeB_is (low high : Int) (t : Tr) : (t.someB = true → t.rangeB low high = rangeL low high t.keys) ∧ (t.someB = false → t.rangeB low high = []) := by
  unfold Tr.rangeB; constructor <;> intro h <;> simp [h]
theorem rangeB_len (low high : Int) (t : Tr) : (t.rangeB low high).length ≤ t.weight := by
  have h1 := Tr.keys_length_le t
  have h2 := rangeL_len low high t.keys
  unfold Tr.rangeB
  split
  · omega
  · simp
end Go.Proofs.Ytggmmfibkcdjbaa
