/- The model's NextKey, PrevKey, RankOf. -/
import Derived.Test.YtgbgdanbdbojaaaProg
import Derived.Test.YtgbgdanbdbojaaaSh0
import Derived.Test.YtgbgdanbdbojaaaSh7
import Derived.Test.YtgbgdanbdbojaaaSh9
import Derived.Test.YtgbgdanbdbojaaaSh12
import Derived.Test.YtgbgdanbdbojaaaPathSpec
import Derived.Test.YtgbgdanbdbojaaaSh21
namespace Go.Proofs.Ytgbgdanbdbojaaa
open Go.RowKit

theorem next_at {key : Int} {ks : List Int} {j : Nat} (h : place (key + 1) ks = j) : Tr.optOr (ks.find? (fun x => decide (key + 1 ≤ x))) (0, false) = if j < ks.length then (ks.getD j 0, true) else (0, false) := by
  rw [find_place, h]
  by_cases hj : j < ks.length
  · rw [if_pos hj]; simp [Tr.optOr, hj, List.getD_eq_getElem?_getD]
  · rw [if_neg hj, List.getElem?_eq_none (by omega)]; rfl

theorem ret_ib {a a' : Int} {b b' : Bool} (h : a = a') (h2 : b = b') : Ending.returned (.tuple #[.int .i64 a, .bool b]) = .returned (.tuple #[.int .i64 a', .bool b']) := by rw [h, h2]


-- END


-- END

/-- How many keys are less than a number, in a tree that is valid. -/
def Tr.rankB (key : Int) (t : Tr) : Int := if t.someB then (place key t.keys : Int) else -1
theorem rankB_is (key : Int) (t : Tr) : (t.someB = true → t.rankB key = (place key t.keys : Int)) ∧ (t.someB = false → t.rankB key = -1) := by
  unfold Tr.rankB; constructor <;> intro h <;> simp [h]


end Go.Proofs.Ytgbgdanbdbojaaa
