/- The program's two tables of sizes, and what reads them: leastKeys, mostKeys, leastDepth, mostDepth. -/
import Derived.Test.YtpoeggimpdllbaaDoorProg
import Derived.Test.YtpoeggimpdllbaaDoorBase
import Derived.Test.YtpoeggimpdllbaaDoorDraw1
import Derived.Test.YtpoeggimpdllbaaDoorInB
import Derived.Test.YtpoeggimpdllbaaDoorIsKey
namespace Go.Proofs.YtpoeggimpdllbaaDoor
open Go.RowKit

/-- The first table, row by row. -/
def tabL : List Int := [0, 3, 7, 15, 31, 63, 127, 255, 0, 3, 7, 15, 31, 63, 127, 255, 0, 5, 17, 53, 161, 485, 1457, 4373, 0, 5, 17, 53, 161, 485, 1457, 4373, 0, 7, 31, 127, 511, 2047, 8191, 32767]
/-- The second one. -/
def tabM : List Int := [2, 8, 26, 80, 242, 728, 2186, 6560, 3, 15, 63, 255, 1023, 4095, 16383, 65535, 4, 24, 124, 624, 3124, 15624, 78124, 390624, 5, 35, 215, 1295, 7775, 46655, 279935, 1679615, 6, 48, 342, 2400, 16806, 117648, 823542, 5764800]
/-- A table of 40 ints in block g. -/
def TabAt (w : World) (g : Nat) (xs : List Int) : Prop := ∀ i, i < 40 → w.cell? ⟨g, i, none⟩ = some (.int .i64 (xs.getD i 0))

theorem tabL_at : ∀ i < 5, ∀ j < 8, tabL.getD (i * 8 + j) 0 = lowN (i + 2) (j + 1) := by decide
theorem tabM_at : ∀ i < 5, ∀ j < 8, tabM.getD (i * 8 + j) 0 = mostN (i + 2) (j + 1) := by decide

set_option maxHeartbeats 1000000 in
theorem leastKeys_c (w : World) (ht : TabAt w 0 tabL) (wd d : Nat) (h1 : 2 ≤ wd) (h2 : wd ≤ 6) (h3 : 1 ≤ d) (h4 : d ≤ 8) :
    Calls Tryd.prog 22 #[.int .i64 wd, .int .i64 d] w fun e w' => e = .returned (.int .i64 (lowN wd d)) ∧ w' = w := by
  obtain ⟨i, rfl⟩ : ∃ i, wd = i + 2 := ⟨wd - 2, by omega⟩
  obtain ⟨j, rfl⟩ : ∃ j, d = j + 1 := ⟨d - 1, by omega⟩
  have hc := ht (i * 8 + j) (by omega)
  rw [tabL_at i (by omega) j (by omega)] at hc
  generalize lowN (i + 2) (j + 1) = z at hc
  have e1 : ((i + 2 : Nat) : Int) - 2 = (i : Int) := by omega
  have e2 : ((j + 1 : Nat) : Int) - 1 = (j : Int) := by omega
  clear ht
  go_enter Tryd.func22, Tryd.ntmps22
  go_wp2_with fail
  go_ret
  exact ⟨rfl, rfl⟩

set_option maxHeartbeats 1000000 in
theorem mostKeys_c (w : World) (ht : TabAt w 1 tabM) (wd d : Nat) (h1 : 2 ≤ wd) (h2 : wd ≤ 6) (h3 : 1 ≤ d) (h4 : d ≤ 8) :
    Calls Tryd.prog 23 #[.int .i64 wd, .int .i64 d] w fun e w' => e = .returned (.int .i64 (mostN wd d)) ∧ w' = w := by
  obtain ⟨i, rfl⟩ : ∃ i, wd = i + 2 := ⟨wd - 2, by omega⟩
  obtain ⟨j, rfl⟩ : ∃ j, d = j + 1 := ⟨d - 1, by omega⟩
  have hc := ht (i * 8 + j) (by omega)
  rw [tabM_at i (by omega) j (by omega)] at hc
  generalize mostN (i + 2) (j + 1) = z at hc
  have e1 : ((i + 2 : Nat) : Int) - 2 = (i : Int) := by omega
  have e2 : ((j + 1 : Nat) : Int) - 1 = (j : Int) := by omega
  clear ht
  go_enter Tryd.func23, Tryd.ntmps23
  go_wp2_with fail
  go_ret
  exact ⟨rfl, rfl⟩
end Go.Proofs.YtpoeggimpdllbaaDoor
