/- The two tables of sizes, out of what the program's text lays. -/
import Derived.Test.YtdkldcgiiiejfaaDoorProg
import Derived.Test.YtdkldcgiiiejfaaDoorBase
import Derived.Lib.Hide
import Derived.Test.YtdkldcgiiiejfaaDoorDraw1
import Derived.Test.YtdkldcgiiiejfaaDoorRows
import Derived.LaidMore
import Derived.OpenShut
import Derived.ProofKit
import Derived.Stop.Joined
import Derived.OpenVars

/- Whether a number lies between two others; the model's l1In and l1Wide. -/
namespace Go.Proofs.YtdkldcgiiiejfaaDoor
open Go.RowKit

/-- Whether a number lies between two others. -/
def inB (n lo hi : Int) : Bool := decide (lo ≤ n) && decide (n ≤ hi)
theorem inB_true {n lo hi : Int} (h : lo ≤ n) (h' : n ≤ hi) : inB n lo hi = true := by simp [inB, h, h']
theorem inB_false {n lo hi : Int} (h : ¬ (lo ≤ n ∧ n ≤ hi)) : inB n lo hi = false := by
  simp only [inB, Bool.and_eq_false_iff, decide_eq_false_iff_not]; omega

theorem l1In_c (n lo hi : Int) (w : World) : Calls Tryd.prog 25 #[.int .i64 n, .int .i64 lo, .int .i64 hi] w fun e w' => e = .returned (.bool (inB n lo hi)) ∧ w = w' := by
  by_cases h1 : lo ≤ n
  · by_cases h2 : n ≤ hi
    · go_enter Tryd.func25, Tryd.ntmps25
      go_wp2_with fail
      go_ret
      exact ⟨ret_bool (inB_true h1 h2).symm, rfl⟩
    · go_enter Tryd.func25, Tryd.ntmps25
      go_wp2_with fail
      go_ret
      exact ⟨ret_bool (inB_false (by omega)).symm, rfl⟩
  · go_enter Tryd.func25, Tryd.ntmps25
    go_wp2_with fail
    go_ret
    exact ⟨ret_bool (inB_false (by omega)).symm, rfl⟩

theorem l1Wide_c (n : Int) (w : World) : Calls Tryd.prog 24 #[.int .i64 n] w fun e w' => e = .returned (.bool (inB n 2 6)) ∧ w = w' := by
  go_enter Tryd.func24, Tryd.ntmps24
  go_wp2_with fail
  refine (l1In_c n 2 6 _).mono ?_
  rintro e w1 ⟨rfl, rfl⟩
  go_wp2_with fail
  go_ret
  exact ⟨rfl, rfl⟩
end Go.Proofs.YtdkldcgiiiejfaaDoor

/- The contracts of isKey and isWide. -/
namespace Go.Proofs.YtdkldcgiiiejfaaDoor
open Go.RowKit

theorem isKey_c (n : Int) (w : World) : Calls Tryd.prog 42 #[.int .i64 n] w fun e w' => e = .returned (.bool (inB n 0 99)) ∧ w' = w := by
  by_cases h1 : 0 ≤ n
  · by_cases h2 : n ≤ 99
    · have hin : inB n 0 99 = true := inB_true h1 h2
      have HI := Lib.hid hin
      clear hin
      go_enter Tryd.func42, Tryd.ntmps42
      go_wp2
      go_ret
      exact ⟨ret_bool HI.out.symm, rfl⟩
    · have hin : inB n 0 99 = false := inB_false (by omega)
      have HI := Lib.hid hin
      clear hin
      go_enter Tryd.func42, Tryd.ntmps42
      go_wp2
      go_ret
      exact ⟨ret_bool HI.out.symm, rfl⟩
  · have hin : inB n 0 99 = false := inB_false (by omega)
    have HI := Lib.hid hin
    clear hin
    go_enter Tryd.func42, Tryd.ntmps42
    go_wp2
    go_ret
    exact ⟨ret_bool HI.out.symm, rfl⟩

theorem isWide_c (n : Int) (w : World) : Calls Tryd.prog 20 #[.int .i64 n] w fun e w' => e = .returned (.bool (inB n 2 6)) ∧ w' = w := by
  by_cases h1 : 2 ≤ n
  · by_cases h2 : n ≤ 6
    · have hin : inB n 2 6 = true := inB_true h1 h2
      have HI := Lib.hid hin
      clear hin
      go_enter Tryd.func20, Tryd.ntmps20
      go_wp2
      go_ret
      exact ⟨ret_bool HI.out.symm, rfl⟩
    · have hin : inB n 2 6 = false := inB_false (by omega)
      have HI := Lib.hid hin
      clear hin
      go_enter Tryd.func20, Tryd.ntmps20
      go_wp2
      go_ret
      exact ⟨ret_bool HI.out.symm, rfl⟩
  · have hin : inB n 2 6 = false := inB_false (by omega)
    have HI := Lib.hid hin
    clear hin
    go_enter Tryd.func20, Tryd.ntmps20
    go_wp2
    go_ret
    exact ⟨ret_bool HI.out.symm, rfl⟩
end Go.Proofs.YtdkldcgiiiejfaaDoor

/- The program's two tables of sizes, and what reads them: leastKeys, mostKeys, leastDepth, mostDepth. -/
namespace Go.Proofs.YtdkldcgiiiejfaaDoor
open Go.RowKit

/-- The first table, row by row. -/
def tabL : List Int := [0, 3, 7, 15, 31, 63, 127, 255, 0, 3, 7, 15, 31, 63, 127, 255, 0, 5, 17, 53, 161, 485, 1457, 4373, 0, 5, 17, 53, 161, 485, 1457, 4373, 0, 7, 31, 127, 511, 2047, 8191, 32767]
/-- The second one. -/
def tabM : List Int := [2, 8, 26, 80, 242, 728, 2186, 6560, 3, 15, 63, 255, 1023, 4095, 16383, 65535, 4, 24, 124, 624, 3124, 15624, 78124, 390624, 5, 35, 215, 1295, 7775, 46655, 279935, 1679615, 6, 48, 342, 2400, 16806, 117648, 823542, 5764800]
/-- A table of 40 ints in block g. -/
def TabAt (w : World) (g : Nat) (xs : List Int) : Prop := ∀ i, i < 40 → w.cell? ⟨g, i, none⟩ = some (.int .i64 (xs.getD i 0))

theorem tabL_at : ∀ i < 5, ∀ j < 8, tabL.getD (i * 8 + j) 0 = lowN (i + 2) (j + 1) := by decide
theorem tabM_at : ∀ i < 5, ∀ j < 8, tabM.getD (i * 8 + j) 0 = mostN (i + 2) (j + 1) := by decide

set_option maxHeartbeats 1000000 in
theorem leastKeys_c (w : World) (ht : TabAt w 0 tabL) (wd d : Nat) (h1 : 2 ≤ wd) (h2 : wd ≤ 6) (h3 : 1 ≤ d) (h4 : d ≤ 8) :
    Calls Tryd.prog 33 #[.int .i64 wd, .int .i64 d] w fun e w' => e = .returned (.int .i64 (lowN wd d)) ∧ w' = w := by
  obtain ⟨i, rfl⟩ : ∃ i, wd = i + 2 := ⟨wd - 2, by omega⟩
  obtain ⟨j, rfl⟩ : ∃ j, d = j + 1 := ⟨d - 1, by omega⟩
  have hc := ht (i * 8 + j) (by omega)
  rw [tabL_at i (by omega) j (by omega)] at hc
  generalize lowN (i + 2) (j + 1) = z at hc
  have e1 : ((i + 2 : Nat) : Int) - 2 = (i : Int) := by omega
  have e2 : ((j + 1 : Nat) : Int) - 1 = (j : Int) := by omega
  clear ht
  go_enter Tryd.func33, Tryd.ntmps33
  go_wp2_with fail
  go_ret
  exact ⟨rfl, rfl⟩

set_option maxHeartbeats 1000000 in
theorem mostKeys_c (w : World) (ht : TabAt w 1 tabM) (wd d : Nat) (h1 : 2 ≤ wd) (h2 : wd ≤ 6) (h3 : 1 ≤ d) (h4 : d ≤ 8) :
    Calls Tryd.prog 34 #[.int .i64 wd, .int .i64 d] w fun e w' => e = .returned (.int .i64 (mostN wd d)) ∧ w' = w := by
  obtain ⟨i, rfl⟩ : ∃ i, wd = i + 2 := ⟨wd - 2, by omega⟩
  obtain ⟨j, rfl⟩ : ∃ j, d = j + 1 := ⟨d - 1, by omega⟩
  have hc := ht (i * 8 + j) (by omega)
  rw [tabM_at i (by omega) j (by omega)] at hc
  generalize mostN (i + 2) (j + 1) = z at hc
  have e1 : ((i + 2 : Nat) : Int) - 2 = (i : Int) := by omega
  have e2 : ((j + 1 : Nat) : Int) - 1 = (j : Int) := by omega
  clear ht
  go_enter Tryd.func34, Tryd.ntmps34
  go_wp2_with fail
  go_ret
  exact ⟨rfl, rfl⟩
end Go.Proofs.YtdkldcgiiiejfaaDoor

/- The two tables of sizes, out of what the program's text lays. -/
namespace Go.Proofs.YtdkldcgiiiejfaaDoor
open Go.ChangeShapes Go.WideShapes Go.ChangeAt Go.RowKit
variable {H : Type} {enc : TypeId × Value → H} {W : World} {base : Nat} {spare : Nat → Bool} {held : Bool}

theorem Tryd.cellsInt : Tryd.prog.cellsOf 3 = 1 := by kernel_rfl
theorem Tryd.cellsRow8 : Tryd.prog.cellsOf 68 = 8 := by kernel_rfl

/-- A row of 8 ints, cell by cell. -/
theorem row8 (zs : List Int) {fuel : Nat} {cs : List Value} {p : List MemPlace} (h : DataW.trod enc Tryd.prog W base spare held fuel 68 cs = some (.agg (zs.map fun z => .lit (.int .i64 z)), p)) :
    ∀ j, j < 8 → cs[j]? = some (.int .i64 (zs.getD j 0)) := by
  obtain ⟨xs, m, rfl, hx, hlen, hn, hel⟩ := DataW.trod_array Tryd.underlying68 h
  simp only [Prod.mk.injEq, DataW.agg.injEq] at hx
  have hzl : zs.length = 8 := by have := congrArg List.length hx.1; simpa [hn] using this
  intro j hj
  have h1 := hel j hj
  have hj' : j < xs.length := by omega
  rw [List.getElem?_eq_getElem hj', Tryd.cellsInt] at h1
  obtain ⟨n, e1, e2, _⟩ := DataW.trod_int Tryd.underlying3 h1
  have hz : (zs.map fun z => (DataW.lit (.int .i64 z) : DataW H))[j]? = (xs.map (·.1))[j]? := by rw [hx.1]
  rw [List.getElem?_map, List.getElem?_map, List.getElem?_eq_getElem hj', List.getElem?_eq_getElem (by omega : j < zs.length), e2] at hz
  simp only [Option.map_some, Option.some.injEq, DataW.lit.injEq, Lit.int.injEq, true_and] at hz
  have e3 : ((cs.drop (j * 1)).take 1)[0]? = some (.int .i64 n) := by rw [e1]; rfl
  rw [List.getElem?_take_of_lt (by omega), List.getElem?_drop] at e3
  rw [show j * 1 + 0 = j by omega] at e3
  rw [e3, ← hz, List.getD_eq_getElem?_getD, List.getElem?_eq_getElem (by omega : j < zs.length)]
  rfl

/-- A table of 5 such rows. -/
theorem table40 (zss : List (List Int)) {fuel : Nat} {cs : List Value} {p : List MemPlace} (h : DataW.trod enc Tryd.prog W base spare held fuel 69 cs = some (.agg (zss.map fun zs => .agg (zs.map fun z => .lit (.int .i64 z))), p)) :
    ∀ i, i < 5 → ∀ j, j < 8 → cs[i * 8 + j]? = some (.int .i64 ((zss.getD i []).getD j 0)) := by
  obtain ⟨xs, m, rfl, hx, hlen, hn, hel⟩ := DataW.trod_array Tryd.underlying69 h
  simp only [Prod.mk.injEq, DataW.agg.injEq] at hx
  have hzl : zss.length = 5 := by have := congrArg List.length hx.1; simpa [hn] using this
  intro i hi j hj
  have h1 := hel i hi
  have hi' : i < xs.length := by omega
  have hi2 : i < zss.length := by omega
  have hz : (zss.map fun zs => (DataW.agg (zs.map fun z => .lit (.int .i64 z)) : DataW H))[i]? = (xs.map (·.1))[i]? := by rw [hx.1]
  rw [List.getElem?_map, List.getElem?_map, List.getElem?_eq_getElem hi', List.getElem?_eq_getElem hi2] at hz
  simp only [Option.map_some, Option.some.injEq] at hz
  rw [List.getElem?_eq_getElem hi', Tryd.cellsRow8] at h1
  have h2 := row8 (zss[i]) (p := xs[i].2) (h1.trans (by rw [hz])) j hj
  rw [List.getElem?_take_of_lt hj, List.getElem?_drop] at h2
  rw [h2, List.getD_eq_getElem?_getD (l := zss), List.getElem?_eq_getElem hi2]
  rfl

theorem tab_at {g : Nat} {n : String} {cs : Array Value} (hg : Tryd.prog.globalNamed n = some g) (hv : W.var? Tryd.prog n = some cs) (xs : List Int) (zss : List (List Int))
    (hxs : ∀ i < 5, ∀ j < 8, xs.getD (i * 8 + j) 0 = (zss.getD i []).getD j 0)
    (h : ∀ i, i < 5 → ∀ j, j < 8 → cs.toList[i * 8 + j]? = some (.int .i64 ((zss.getD i []).getD j 0))) : TabAt W g xs := by
  intro k hk
  rw [World.var?_cell hg hv]
  have h1 := h (k / 8) (by omega) (k % 8) (by omega)
  rw [← hxs (k / 8) (by omega) (k % 8) (by omega), show k / 8 * 8 + k % 8 = k by omega] at h1
  simpa using h1

def rowsL : List (List Int) := [[0, 3, 7, 15, 31, 63, 127, 255], [0, 3, 7, 15, 31, 63, 127, 255], [0, 5, 17, 53, 161, 485, 1457, 4373], [0, 5, 17, 53, 161, 485, 1457, 4373], [0, 7, 31, 127, 511, 2047, 8191, 32767]]
def rowsM : List (List Int) := [[2, 8, 26, 80, 242, 728, 2186, 6560], [3, 15, 63, 255, 1023, 4095, 16383, 65535], [4, 24, 124, 624, 3124, 15624, 78124, 390624], [5, 35, 215, 1295, 7775, 46655, 279935, 1679615], [6, 48, 342, 2400, 16806, 117648, 823542, 5764800]]
theorem rowsL_at : ∀ i < 5, ∀ j < 8, tabL.getD (i * 8 + j) 0 = (rowsL.getD i []).getD j 0 := by decide
theorem rowsM_at : ∀ i < 5, ∀ j < 8, tabM.getD (i * 8 + j) 0 = (rowsM.getD i []).getD j 0 := by decide

theorem gLeast : Tryd.prog.globalNamed "loop.example/fulltrees/impl.leastSizes" = some 0 := by kernel_rfl
theorem gMost : Tryd.prog.globalNamed "loop.example/fulltrees/impl.mostSizes" = some 1 := by kernel_rfl
theorem tLeast : (Tryd.prog.globals[0]?).map (·.type) = some 69 := by kernel_rfl
theorem tMost : (Tryd.prog.globals[1]?).map (·.type) = some 69 := by kernel_rfl

def laidL : List (String × DataW Unit) := [("loop.example/fulltrees/impl.leastSizes", Rows.laid_loop_example_fulltrees_impl_leastSizes)]
def laidM : List (String × DataW Unit) := [("loop.example/fulltrees/impl.mostSizes", Rows.laid_loop_example_fulltrees_impl_mostSizes)]
def laidLM : List (String × DataW Unit) := [("loop.example/fulltrees/impl.leastSizes", Rows.laid_loop_example_fulltrees_impl_leastSizes), ("loop.example/fulltrees/impl.mostSizes", Rows.laid_loop_example_fulltrees_impl_mostSizes)]

theorem of_laidL (h : laidMetH Tryd.prog laidL W) : TabAt W 0 tabL := by
  rw [MakeChecks.laidMetH_plain _ _ _ (by kernel_rfl)] at h
  obtain ⟨ps, ⟨g0, t0, cs0, f0, p0, q0, hg0, ht0, hv0, hd0, _, _⟩, _, _⟩ := h
  obtain rfl := Option.some.inj (gLeast.symm.trans hg0)
  obtain rfl := Option.some.inj (tLeast.symm.trans ht0)
  exact tab_at hg0 hv0 tabL rowsL rowsL_at (table40 rowsL hd0)

theorem of_laidM (h : laidMetH Tryd.prog laidM W) : TabAt W 1 tabM := by
  rw [MakeChecks.laidMetH_plain _ _ _ (by kernel_rfl)] at h
  obtain ⟨ps, ⟨g0, t0, cs0, f0, p0, q0, hg0, ht0, hv0, hd0, _, _⟩, _, _⟩ := h
  obtain rfl := Option.some.inj (gMost.symm.trans hg0)
  obtain rfl := Option.some.inj (tMost.symm.trans ht0)
  exact tab_at hg0 hv0 tabM rowsM rowsM_at (table40 rowsM hd0)

theorem of_laidLM (h : laidMetH Tryd.prog laidLM W) : TabAt W 0 tabL ∧ TabAt W 1 tabM ∧ 2 ≤ W.heap.size := by
  rw [MakeChecks.laidMetH_plain _ _ _ (by kernel_rfl)] at h
  obtain ⟨ps, ⟨g0, t0, cs0, f0, p0, q0, hg0, ht0, hv0, hd0, ⟨g1, t1, cs1, f1, p1, q1, hg1, ht1, hv1, hd1, _, _⟩, _⟩, _, _⟩ := h
  obtain rfl := Option.some.inj (gLeast.symm.trans hg0)
  obtain rfl := Option.some.inj (tLeast.symm.trans ht0)
  obtain rfl := Option.some.inj (gMost.symm.trans hg1)
  obtain rfl := Option.some.inj (tMost.symm.trans ht1)
  have hM := tab_at hg1 hv1 tabM rowsM rowsM_at (table40 rowsM hd1)
  exact ⟨tab_at hg0 hv0 tabL rowsL rowsL_at (table40 rowsL hd0), hM, World.block_lt_of_cell? W _ (hM 0 (by omega))⟩
end Go.Proofs.YtdkldcgiiiejfaaDoor
