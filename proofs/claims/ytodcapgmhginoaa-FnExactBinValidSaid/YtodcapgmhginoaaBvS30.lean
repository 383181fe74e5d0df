/- The contracts of isKey and isWide. -/
import Derived.Test.YtodcapgmhginoaaProg
import Derived.Test.YtodcapgmhginoaaBvS0
import Derived.Test.YtodcapgmhginoaaBvS12
import Derived.Lib.Hide
namespace Go.Proofs.Ytodcapgmhginoaa
open Go.RowKit

theorem isKey_c (n : Int) (w : World) : Calls Try.prog 95 #[.int .i64 n] w fun e w' => e = .returned (.bool (inB n 0 99)) ∧ w' = w := by
  by_cases h1 : 0 ≤ n
  · by_cases h2 : n ≤ 99
    · have hin : inB n 0 99 = true := inB_true h1 h2
      have HI := Lib.hid hin
      clear hin
      go_enter Try.func95, Try.ntmps95
      go_wp2
      go_ret
      exact ⟨ret_bool HI.out.symm, rfl⟩
    · have hin : inB n 0 99 = false := inB_false (by omega)
      have HI := Lib.hid hin
      clear hin
      go_enter Try.func95, Try.ntmps95
      go_wp2
      go_ret
      exact ⟨ret_bool HI.out.symm, rfl⟩
  · have hin : inB n 0 99 = false := inB_false (by omega)
    have HI := Lib.hid hin
    clear hin
    go_enter Try.func95, Try.ntmps95
    go_wp2
    go_ret
    exact ⟨ret_bool HI.out.symm, rfl⟩

theorem isWide_c (n : Int) (w : World) : Calls Try.prog 64 #[.int .i64 n] w fun e w' => e = .returned (.bool (inB n 2 6)) ∧ w' = w := by
  by_cases h1 : 2 ≤ n
  · by_cases h2 : n ≤ 6
    · have hin : inB n 2 6 = true := inB_true h1 h2
      have HI := Lib.hid hin
      clear hin
      go_enter Try.func64, Try.ntmps64
      go_wp2
      go_ret
      exact ⟨ret_bool HI.out.symm, rfl⟩
    · have hin : inB n 2 6 = false := inB_false (by omega)
      have HI := Lib.hid hin
      clear hin
      go_enter Try.func64, Try.ntmps64
      go_wp2
      go_ret
      exact ⟨ret_bool HI.out.symm, rfl⟩
  · have hin : inB n 2 6 = false := inB_false (by omega)
    have HI := Lib.hid hin
    clear hin
    go_enter Try.func64, Try.ntmps64
    go_wp2
    go_ret
    exact ⟨ret_bool HI.out.symm, rfl⟩
end Go.Proofs.Ytodcapgmhginoaa
