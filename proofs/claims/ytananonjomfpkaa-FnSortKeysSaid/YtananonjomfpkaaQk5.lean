/- The iterator inOrder, and the contracts of ascends, isWide, isKey. -/
import Derived.Test.YtananonjomfpkaaQkS5
/- The contracts of isKey and isWide. -/
namespace Go.Proofs.Ytananonjomfpkaa
open Go.RowKit
theorem isKey_c (n : Int) (w : World) : Calls Try.prog 102 #[.int .i64 n] w fun e w' => e = .returned (.bool (inB n 0 99)) ∧ w' = w := by
 by_cases h1 : 0 ≤ n
 · by_cases h2 : n ≤ 99
   · have hin : inB n 0 99 = true := inB_true h1 h2
     have HI := Lib.hid hin
     clear hin
     go_enter Try.func102, Try.ntmps102
     go_wp2
     go_ret
     exact ⟨ret_bool HI.out.symm, rfl⟩
   · have hin : inB n 0 99 = false := inB_false (by omega)
     have HI := Lib.hid hin
     clear hin
     go_enter Try.func102, Try.ntmps102
     go_wp2
     go_ret
     exact ⟨ret_bool HI.out.symm, rfl⟩
 · have hin : inB n 0 99 = false := inB_false (by omega)
   have HI := Lib.hid hin
   clear hin
   go_enter Try.func102, Try.ntmps102
   go_wp2
   go_ret
   exact ⟨ret_bool HI.out.symm, rfl⟩
end Go.Proofs.Ytananonjomfpkaa
/- The iterator inOrder, and the contracts of ascends, isWide, isKey. -/
namespace Go.Proofs.Ytananonjomfpkaa
open Go.RowKit
attribute [local go_sem] Oper.semAt_some
def lastOf (pre : List Int) : Int := pre.getLast?.getD (-1)
end Go.Proofs.Ytananonjomfpkaa
