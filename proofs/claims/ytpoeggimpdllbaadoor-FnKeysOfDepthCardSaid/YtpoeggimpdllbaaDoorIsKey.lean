/- The contracts of isKey and isWide. -/
import Derived.Test.YtpoeggimpdllbaaDoorProg
import Derived.Test.YtpoeggimpdllbaaDoorBase
import Derived.Test.YtpoeggimpdllbaaDoorInB
import Derived.Lib.Hide
namespace Go.Proofs.YtpoeggimpdllbaaDoor
open Go.RowKit


theorem isWide_c (n : Int) (w : World) : Calls Tryd.prog 20 #[.int .i64 n] w fun e w' => e = .returned (.bool (inB n 2 6)) ∧ w' = w := by
  by_cases h1 : 2 ≤ n
  · by_cases h2 : n ≤ 6
    · have hin : inB n 2 6 = true := inB_true h1 h2
      have HI := Lib.hid hin
      clear hin
      go_enter Tryd.func20, Tryd.ntmps20
      go_wp2
      go_ret
      exact ⟨ret_bool HI.out.symm, rfl⟩
    · have hin : inB n 2 6 = false := inB_false (by omega)
      have HI := Lib.hid hin
      clear hin
      go_enter Tryd.func20, Tryd.ntmps20
      go_wp2
      go_ret
      exact ⟨ret_bool HI.out.symm, rfl⟩
  · have hin : inB n 2 6 = false := inB_false (by omega)
    have HI := Lib.hid hin
    clear hin
    go_enter Tryd.func20, Tryd.ntmps20
    go_wp2
    go_ret
    exact ⟨ret_bool HI.out.symm, rfl⟩
end Go.Proofs.YtpoeggimpdllbaaDoor
