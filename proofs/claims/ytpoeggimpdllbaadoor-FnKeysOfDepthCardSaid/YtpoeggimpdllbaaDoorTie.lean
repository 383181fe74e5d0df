/-
  DERIVED. GIVEN WITH THE SEED: THE PROGRAM's TIES (one call each: nine closed facts by the kernel) AND EACH ROW's TIE, after the 31st guide's Derived/Test/Toyas{Tie, Card}.lean. No idea stands in it: it is a product of the set-up. Laid BY PROGRAM, IN A SANDBOX (cutbox-door.mjs). By AI agents, Wed Nov 11 2026. No macro, syntax, notation, axiom, sorry.
-/
import Derived.Test.YtpoeggimpdllbaaDoorRows
import Derived.LaidByTextLater
import Derived.SevenTiedAt
import Derived.LaidSub
import Derived.LaidOnce
namespace Go.Proofs.YtpoeggimpdllbaaDoor
open Go
set_option maxRecDepth 100000
theorem seatTie1 : Tryd.prog.laidByTextLater [("loop.example/fulltrees/impl.leastSizes", Rows.laid_loop_example_fulltrees_impl_leastSizes), ("loop.example/fulltrees/impl.mostSizes", Rows.laid_loop_example_fulltrees_impl_mostSizes)] [.data, .data] true :=
  Program.laidByTextLater_by_one 29 8 41 (by kernel_rfl) (by kernel_rfl) (by kernel_rfl) (by kernel_rfl) (by kernel_rfl) (by kernel_rfl) (fun _ _ => by kernel_rfl)
theorem noOwnUnsafe : Tryd.pinned.checked.prog.headLifts.contains "ownunsafe" = false := by kernel_rfl
theorem tie : Tryd.prog.laidByTextLater [("loop.example/fulltrees/impl.leastSizes", Rows.laid_loop_example_fulltrees_impl_leastSizes), ("loop.example/fulltrees/impl.mostSizes", Rows.laid_loop_example_fulltrees_impl_mostSizes)] [.data, .data] true :=
  Program.laidByTextLater.sub seatTie1 ["loop.example/fulltrees/impl.leastSizes", "loop.example/fulltrees/impl.mostSizes"] (by kernel_rfl) (by kernel_rfl)
theorem fnKeysOfDepth_row_tie : Rows.fnKeysOfDepthRow.laidByTextAt .later Tryd.pinned [.data, .data] true :=
  OpenClaim.laidByTextAt_later rfl rfl tie noOwnUnsafe
theorem tie2 : Tryd.prog.laidByTextLater [("loop.example/fulltrees/impl.leastSizes", Rows.laid_loop_example_fulltrees_impl_leastSizes)] [.data] true :=
  Program.laidByTextLater.sub seatTie1 ["loop.example/fulltrees/impl.leastSizes"] (by kernel_rfl) (by kernel_rfl)
theorem fnExactLeastKeys_row_tie : Rows.fnExactLeastKeysRow.laidByTextAt .later Tryd.pinned [.data] true :=
  OpenClaim.laidByTextAt_later rfl rfl tie2 noOwnUnsafe
theorem fnExactMostDepth_row_tie : Rows.fnExactMostDepthRow.laidByTextAt .later Tryd.pinned [.data] true :=
  OpenClaim.laidByTextAt_later rfl rfl tie2 noOwnUnsafe
theorem tie3 : Tryd.prog.laidByTextLater [("loop.example/fulltrees/impl.mostSizes", Rows.laid_loop_example_fulltrees_impl_mostSizes)] [.data] true :=
  Program.laidByTextLater.sub seatTie1 ["loop.example/fulltrees/impl.mostSizes"] (by kernel_rfl) (by kernel_rfl)
theorem fnExactMostKeys_row_tie : Rows.fnExactMostKeysRow.laidByTextAt .later Tryd.pinned [.data] true :=
  OpenClaim.laidByTextAt_later rfl rfl tie3 noOwnUnsafe
theorem fnExactLeastDepth_row_tie : Rows.fnExactLeastDepthRow.laidByTextAt .later Tryd.pinned [.data] true :=
  OpenClaim.laidByTextAt_later rfl rfl tie3 noOwnUnsafe
theorem fnKeysOfDepthUpto_row_tie : Rows.fnKeysOfDepthUptoRow.laidByTextAt .later Tryd.pinned [.data, .data] true :=
  OpenClaim.laidByTextAt_later rfl rfl tie noOwnUnsafe
theorem fnExactLeastKeysUpto_row_tie : Rows.fnExactLeastKeysUptoRow.laidByTextAt .later Tryd.pinned [.data] true :=
  OpenClaim.laidByTextAt_later rfl rfl tie2 noOwnUnsafe
theorem fnExactMostKeysUpto_row_tie : Rows.fnExactMostKeysUptoRow.laidByTextAt .later Tryd.pinned [.data] true :=
  OpenClaim.laidByTextAt_later rfl rfl tie3 noOwnUnsafe
theorem fnExactLeastDepthUpto_row_tie : Rows.fnExactLeastDepthUptoRow.laidByTextAt .later Tryd.pinned [.data] true :=
  OpenClaim.laidByTextAt_later rfl rfl tie3 noOwnUnsafe
theorem fnExactMostDepthUpto_row_tie : Rows.fnExactMostDepthUptoRow.laidByTextAt .later Tryd.pinned [.data] true :=
  OpenClaim.laidByTextAt_later rfl rfl tie2 noOwnUnsafe
end Go.Proofs.YtpoeggimpdllbaaDoor
