/- The laws on how many keys a tree of a depth has and how deep a tree of so many keys is: their walks. -/
import Derived.Test.YtpoeggimpdllbaaDoorProg
import Derived.Test.YtpoeggimpdllbaaDoorBase
import Derived.Test.YtpoeggimpdllbaaDoorSizes
namespace Go.Proofs.YtpoeggimpdllbaaDoor
open Go.RowKit

theorem exLeastKeys_c (w : World) (ht : TabAt w 0 tabL) (a b : Int) : Calls Tryd.prog 4 #[.int .i64 a, .int .i64 b] w fun e w' => e = .returned (.bool true) ∧ w' = w := by
  have HS := Lib.hid (specLeastKeys_c w a b)
  have HI := Lib.hid (LeastKeys_c w ht a b)
  generalize leastV a b = z at HS HI
  clear ht
  go_enter Tryd.func4, Tryd.ntmps4
  go_wp2_with fail
  refine HS.out.mono ?_
  rintro e w1 ⟨rfl, rfl⟩
  go_wp2_with fail
  refine HI.out.mono ?_
  rintro e w1 ⟨rfl, rfl⟩
  go_wp2_with fail
  go_ret
  exact ⟨rfl, rfl⟩

theorem exMostKeys_c (w : World) (ht : TabAt w 1 tabM) (a b : Int) : Calls Tryd.prog 5 #[.int .i64 a, .int .i64 b] w fun e w' => e = .returned (.bool true) ∧ w' = w := by
  have HS := Lib.hid (specMostKeys_c w a b)
  have HI := Lib.hid (MostKeys_c w ht a b)
  generalize mostV a b = z at HS HI
  clear ht
  go_enter Tryd.func5, Tryd.ntmps5
  go_wp2_with fail
  refine HS.out.mono ?_
  rintro e w1 ⟨rfl, rfl⟩
  go_wp2_with fail
  refine HI.out.mono ?_
  rintro e w1 ⟨rfl, rfl⟩
  go_wp2_with fail
  go_ret
  exact ⟨rfl, rfl⟩

theorem exLeastDepth_c (w : World) (ht : TabAt w 1 tabM) (a b : Int) : Calls Tryd.prog 6 #[.int .i64 a, .int .i64 b] w fun e w' => e = .returned (.bool true) ∧ w' = w := by
  have HS := Lib.hid (specLeastDepth_c w a b)
  have HI := Lib.hid (LeastDepth_c w ht a b)
  generalize leastD a b = z at HS HI
  clear ht
  go_enter Tryd.func6, Tryd.ntmps6
  go_wp2_with fail
  refine HS.out.mono ?_
  rintro e w1 ⟨rfl, rfl⟩
  go_wp2_with fail
  refine HI.out.mono ?_
  rintro e w1 ⟨rfl, rfl⟩
  go_wp2_with fail
  go_ret
  exact ⟨rfl, rfl⟩

theorem exMostDepth_c (w : World) (ht : TabAt w 0 tabL) (a b : Int) : Calls Tryd.prog 7 #[.int .i64 a, .int .i64 b] w fun e w' => e = .returned (.bool true) ∧ w' = w := by
  have HS := Lib.hid (specMostDepth_c w a b)
  have HI := Lib.hid (MostDepth_c w ht a b)
  generalize mostD a b = z at HS HI
  clear ht
  go_enter Tryd.func7, Tryd.ntmps7
  go_wp2_with fail
  refine HS.out.mono ?_
  rintro e w1 ⟨rfl, rfl⟩
  go_wp2_with fail
  refine HI.out.mono ?_
  rintro e w1 ⟨rfl, rfl⟩
  go_wp2_with fail
  go_ret
  exact ⟨rfl, rfl⟩
end Go.Proofs.YtpoeggimpdllbaaDoor
