/-
  DERIVED. GIVEN WITH THE SEED: THE PROGRAM's TIES (one call each: nine closed facts by the kernel) AND EACH ROW's TIE, after the 31st guide's Derived/Test/Toyas{Tie, Card}.lean. No idea stands in it: it is a product of the set-up. Laid BY PROGRAM, IN A SANDBOX (cutbox-door.mjs). By AI agents, Wed Nov 11 2026. No macro, syntax, notation, axiom, sorry.
-/
import Derived.Test.YtdkldcgiiiejfaaDoorRows
import Derived.LaidByTextLater
import Derived.SevenTiedAt
import Derived.LaidSub
import Derived.LaidOnce
namespace Go.Proofs.YtdkldcgiiiejfaaDoor
open Go
set_option maxRecDepth 100000
theorem seatTie1 : Tryd.prog.laidByTextLater [("loop.example/fulltrees/impl.leastSizes", Rows.laid_loop_example_fulltrees_impl_leastSizes), ("loop.example/fulltrees/impl.mostSizes", Rows.laid_loop_example_fulltrees_impl_mostSizes)] [.data, .data] true :=
  Program.laidByTextLater_by_one 29 8 41 (by kernel_rfl) (by kernel_rfl) (by kernel_rfl) (by kernel_rfl) (by kernel_rfl) (by kernel_rfl) (fun _ _ => by kernel_rfl)
theorem noOwnUnsafe : Tryd.pinned.checked.prog.headLifts.contains "ownunsafe" = false := by kernel_rfl
theorem tie : Tryd.prog.laidByTextLater [("loop.example/fulltrees/impl.leastSizes", Rows.laid_loop_example_fulltrees_impl_leastSizes), ("loop.example/fulltrees/impl.mostSizes", Rows.laid_loop_example_fulltrees_impl_mostSizes)] [.data, .data] true :=
  Program.laidByTextLater.sub seatTie1 ["loop.example/fulltrees/impl.leastSizes", "loop.example/fulltrees/impl.mostSizes"] (by kernel_rfl) (by kernel_rfl)
theorem fnDepths_row_tie : Rows.fnDepthsRow.laidByTextAt .later Tryd.pinned [.data, .data] true :=
  OpenClaim.laidByTextAt_later rfl rfl tie noOwnUnsafe
theorem fnDepthsUpto_row_tie : Rows.fnDepthsUptoRow.laidByTextAt .later Tryd.pinned [.data, .data] true :=
  OpenClaim.laidByTextAt_later rfl rfl tie noOwnUnsafe
end Go.Proofs.YtdkldcgiiiejfaaDoor
