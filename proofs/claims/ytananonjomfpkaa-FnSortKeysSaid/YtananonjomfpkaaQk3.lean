/- Whether a number lies between two others; the model's l1In and l1Wide. -/
import Derived.Test.YtananonjomfpkaaQk0
/- The contracts of the model's functions on trees: CountNodes, l1Depth, FullNodes. -/
namespace Go.Proofs.Ytananonjomfpkaa
open Go.RowKit
end Go.Proofs.Ytananonjomfpkaa
/- Whether a number lies between two others; the model's l1In and l1Wide. -/
namespace Go.Proofs.Ytananonjomfpkaa
open Go.RowKit
def inB (n lo hi : Int) : Bool := decide (lo ≤ n) && decide (n ≤ hi)
theorem inB_true {n lo hi : Int} (h : lo ≤ n) (h' : n ≤ hi) : inB n lo hi = true := by simp [inB, h, h']
theorem inB_false {n lo hi : Int} (h : ¬ (lo ≤ n ∧ n ≤ hi)) : inB n lo hi = false := by
 simp only [inB, Bool.and_eq_false_iff, decide_eq_false_iff_not]; omega
theorem l1In_c (n lo hi : Int) (w : World) : Calls Try.prog 88 #[.int .i64 n, .int .i64 lo, .int .i64 hi] w fun e w' => e = .returned (.bool (inB n lo hi)) ∧ w = w' := by
 by_cases h1 : lo ≤ n
 · by_cases h2 : n ≤ hi
   · go_enter Try.func88, Try.ntmps88
     go_wp2_with fail
     go_ret
     exact ⟨ret_bool (inB_true h1 h2).symm, rfl⟩
   · go_enter Try.func88, Try.ntmps88
     go_wp2_with fail
     go_ret
     exact ⟨ret_bool (inB_false (by omega)).symm, rfl⟩
 · go_enter Try.func88, Try.ntmps88
   go_wp2_with fail
   go_ret
   exact ⟨ret_bool (inB_false (by omega)).symm, rfl⟩
end Go.Proofs.Ytananonjomfpkaa
