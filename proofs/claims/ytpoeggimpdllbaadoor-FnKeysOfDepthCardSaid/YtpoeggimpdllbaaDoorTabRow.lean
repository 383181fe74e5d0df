/- The two tables of sizes, out of what the program's text lays. -/
import Derived.Test.YtpoeggimpdllbaaDoorRows
import Derived.Test.YtpoeggimpdllbaaDoorBase
import Derived.Test.YtpoeggimpdllbaaDoorTabs
import Derived.LaidMore
import Derived.OpenShut
import Derived.ProofKit
import Derived.Stop.Joined
import Derived.OpenVars
namespace Go.Proofs.YtpoeggimpdllbaaDoor
open Go.ChangeShapes Go.WideShapes Go.ChangeAt Go.RowKit
variable {H : Type} {enc : TypeId × Value → H} {W : World} {base : Nat} {spare : Nat → Bool} {held : Bool}

theorem Tryd.cellsInt : Tryd.prog.cellsOf 3 = 1 := by kernel_rfl
theorem Tryd.cellsRow8 : Tryd.prog.cellsOf 39 = 8 := by kernel_rfl

/-- A row of 8 ints, cell by cell. -/
theorem row8 (zs : List Int) {fuel : Nat} {cs : List Value} {p : List MemPlace} (h : DataW.trod enc Tryd.prog W base spare held fuel 39 cs = some (.agg (zs.map fun z => .lit (.int .i64 z)), p)) :
    ∀ j, j < 8 → cs[j]? = some (.int .i64 (zs.getD j 0)) := by
  obtain ⟨xs, m, rfl, hx, hlen, hn, hel⟩ := DataW.trod_array Tryd.underlying39 h
  simp only [Prod.mk.injEq, DataW.agg.injEq] at hx
  have hzl : zs.length = 8 := by have := congrArg List.length hx.1; simpa [hn] using this
  intro j hj
  have h1 := hel j hj
  have hj' : j < xs.length := by omega
  rw [List.getElem?_eq_getElem hj', Tryd.cellsInt] at h1
  obtain ⟨n, e1, e2, _⟩ := DataW.trod_int Tryd.underlying3 h1
  have hz : (zs.map fun z => (DataW.lit (.int .i64 z) : DataW H))[j]? = (xs.map (·.1))[j]? := by rw [hx.1]
  rw [List.getElem?_map, List.getElem?_map, List.getElem?_eq_getElem hj', List.getElem?_eq_getElem (by omega : j < zs.length), e2] at hz
  simp only [Option.map_some, Option.some.injEq, DataW.lit.injEq, Lit.int.injEq, true_and] at hz
  have e3 : ((cs.drop (j * 1)).take 1)[0]? = some (.int .i64 n) := by rw [e1]; rfl
  rw [List.getElem?_take_of_lt (by omega), List.getElem?_drop] at e3
  rw [show j * 1 + 0 = j by omega] at e3
  rw [e3, ← hz, List.getD_eq_getElem?_getD, List.getElem?_eq_getElem (by omega : j < zs.length)]
  rfl

/-- A table of 5 such rows. -/
theorem table40 (zss : List (List Int)) {fuel : Nat} {cs : List Value} {p : List MemPlace} (h : DataW.trod enc Tryd.prog W base spare held fuel 40 cs = some (.agg (zss.map fun zs => .agg (zs.map fun z => .lit (.int .i64 z))), p)) :
    ∀ i, i < 5 → ∀ j, j < 8 → cs[i * 8 + j]? = some (.int .i64 ((zss.getD i []).getD j 0)) := by
  obtain ⟨xs, m, rfl, hx, hlen, hn, hel⟩ := DataW.trod_array Tryd.underlying40 h
  simp only [Prod.mk.injEq, DataW.agg.injEq] at hx
  have hzl : zss.length = 5 := by have := congrArg List.length hx.1; simpa [hn] using this
  intro i hi j hj
  have h1 := hel i hi
  have hi' : i < xs.length := by omega
  have hi2 : i < zss.length := by omega
  have hz : (zss.map fun zs => (DataW.agg (zs.map fun z => .lit (.int .i64 z)) : DataW H))[i]? = (xs.map (·.1))[i]? := by rw [hx.1]
  rw [List.getElem?_map, List.getElem?_map, List.getElem?_eq_getElem hi', List.getElem?_eq_getElem hi2] at hz
  simp only [Option.map_some, Option.some.injEq] at hz
  rw [List.getElem?_eq_getElem hi', Tryd.cellsRow8] at h1
  have h2 := row8 (zss[i]) (p := xs[i].2) (h1.trans (by rw [hz])) j hj
  rw [List.getElem?_take_of_lt hj, List.getElem?_drop] at h2
  rw [h2, List.getD_eq_getElem?_getD (l := zss), List.getElem?_eq_getElem hi2]
  rfl

theorem tab_at {g : Nat} {n : String} {cs : Array Value} (hg : Tryd.prog.globalNamed n = some g) (hv : W.var? Tryd.prog n = some cs) (xs : List Int) (zss : List (List Int))
    (hxs : ∀ i < 5, ∀ j < 8, xs.getD (i * 8 + j) 0 = (zss.getD i []).getD j 0)
    (h : ∀ i, i < 5 → ∀ j, j < 8 → cs.toList[i * 8 + j]? = some (.int .i64 ((zss.getD i []).getD j 0))) : TabAt W g xs := by
  intro k hk
  rw [World.var?_cell hg hv]
  have h1 := h (k / 8) (by omega) (k % 8) (by omega)
  rw [← hxs (k / 8) (by omega) (k % 8) (by omega), show k / 8 * 8 + k % 8 = k by omega] at h1
  simpa using h1

def rowsL : List (List Int) := [[0, 3, 7, 15, 31, 63, 127, 255], [0, 3, 7, 15, 31, 63, 127, 255], [0, 5, 17, 53, 161, 485, 1457, 4373], [0, 5, 17, 53, 161, 485, 1457, 4373], [0, 7, 31, 127, 511, 2047, 8191, 32767]]
def rowsM : List (List Int) := [[2, 8, 26, 80, 242, 728, 2186, 6560], [3, 15, 63, 255, 1023, 4095, 16383, 65535], [4, 24, 124, 624, 3124, 15624, 78124, 390624], [5, 35, 215, 1295, 7775, 46655, 279935, 1679615], [6, 48, 342, 2400, 16806, 117648, 823542, 5764800]]
theorem rowsL_at : ∀ i < 5, ∀ j < 8, tabL.getD (i * 8 + j) 0 = (rowsL.getD i []).getD j 0 := by decide
theorem rowsM_at : ∀ i < 5, ∀ j < 8, tabM.getD (i * 8 + j) 0 = (rowsM.getD i []).getD j 0 := by decide

theorem gLeast : Tryd.prog.globalNamed "loop.example/fulltrees/impl.leastSizes" = some 0 := by kernel_rfl
theorem gMost : Tryd.prog.globalNamed "loop.example/fulltrees/impl.mostSizes" = some 1 := by kernel_rfl
theorem tLeast : (Tryd.prog.globals[0]?).map (·.type) = some 40 := by kernel_rfl
theorem tMost : (Tryd.prog.globals[1]?).map (·.type) = some 40 := by kernel_rfl

def laidL : List (String × DataW Unit) := [("loop.example/fulltrees/impl.leastSizes", Rows.laid_loop_example_fulltrees_impl_leastSizes)]
def laidM : List (String × DataW Unit) := [("loop.example/fulltrees/impl.mostSizes", Rows.laid_loop_example_fulltrees_impl_mostSizes)]
def laidLM : List (String × DataW Unit) := [("loop.example/fulltrees/impl.leastSizes", Rows.laid_loop_example_fulltrees_impl_leastSizes), ("loop.example/fulltrees/impl.mostSizes", Rows.laid_loop_example_fulltrees_impl_mostSizes)]

theorem of_laidL (h : laidMetH Tryd.prog laidL W) : TabAt W 0 tabL := by
  rw [MakeChecks.laidMetH_plain _ _ _ (by kernel_rfl)] at h
  obtain ⟨ps, ⟨g0, t0, cs0, f0, p0, q0, hg0, ht0, hv0, hd0, _, _⟩, _, _⟩ := h
  obtain rfl := Option.some.inj (gLeast.symm.trans hg0)
  obtain rfl := Option.some.inj (tLeast.symm.trans ht0)
  exact tab_at hg0 hv0 tabL rowsL rowsL_at (table40 rowsL hd0)

theorem of_laidM (h : laidMetH Tryd.prog laidM W) : TabAt W 1 tabM := by
  rw [MakeChecks.laidMetH_plain _ _ _ (by kernel_rfl)] at h
  obtain ⟨ps, ⟨g0, t0, cs0, f0, p0, q0, hg0, ht0, hv0, hd0, _, _⟩, _, _⟩ := h
  obtain rfl := Option.some.inj (gMost.symm.trans hg0)
  obtain rfl := Option.some.inj (tMost.symm.trans ht0)
  exact tab_at hg0 hv0 tabM rowsM rowsM_at (table40 rowsM hd0)

theorem of_laidLM (h : laidMetH Tryd.prog laidLM W) : TabAt W 0 tabL ∧ TabAt W 1 tabM ∧ 2 ≤ W.heap.size := by
  rw [MakeChecks.laidMetH_plain _ _ _ (by kernel_rfl)] at h
  obtain ⟨ps, ⟨g0, t0, cs0, f0, p0, q0, hg0, ht0, hv0, hd0, ⟨g1, t1, cs1, f1, p1, q1, hg1, ht1, hv1, hd1, _, _⟩, _⟩, _, _⟩ := h
  obtain rfl := Option.some.inj (gLeast.symm.trans hg0)
  obtain rfl := Option.some.inj (tLeast.symm.trans ht0)
  obtain rfl := Option.some.inj (gMost.symm.trans hg1)
  obtain rfl := Option.some.inj (tMost.symm.trans ht1)
  have hM := tab_at hg1 hv1 tabM rowsM rowsM_at (table40 rowsM hd1)
  exact ⟨tab_at hg0 hv0 tabL rowsL rowsL_at (table40 rowsL hd0), hM, World.block_lt_of_cell? W _ (hM 0 (by omega))⟩
end Go.Proofs.YtpoeggimpdllbaaDoor
