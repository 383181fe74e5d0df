/-
  DERIVED. GIVEN WITH THE SEED: THE CARDS: each row of YtpejnmfikjodaaaDoorRows.lean that lists a variable, with what it lists TIED to the program's text (the seventh form; the later family's looks); each row that meets fmt, with fmt's text TOLD by the authors' own Lean function (tested against real Go, not proved from fmt's source: count such statements apart). THE CARD IS WHAT COUNTS. Prove the row's statement (the work); the ties are given (YtpejnmfikjodaaaDoorTie.lean); close each card by the builder's one call (the guide's Derived/Test/ToyasCard.lean, 'card_holds'). Laid BY PROGRAM, IN A SANDBOX (cutbox-door.mjs). By AI agents, Wed Nov 11 2026. No macro, syntax, notation, axiom, sorry.
-/
import Derived.Test.YtpejnmfikjodaaaDoorRows
import GoSem.ClaimSeven
namespace Go.Proofs.YtpejnmfikjodaaaDoor
namespace Rows

/-- THE TIED CARD OF 'laws.FnRepairs'. -/
def fnRepairsCard : Claim7 := { stood := { row := fnRepairsRow, standIns := [], harness := (true, "cac734bbd97cb8f74f735234b866a8c904bbe3d20be540c597a888fe18143caf"), looks := false }, kinds := [], alts := [], laidByText := true, laidKinds := [.data, .data, .data], laidTests := true, laidLooks := .later }
def FnRepairsCardSaid : Prop := Claim7.holds Tryd.pinned (.plain (OpenSpec.ofChange fnRepairsSpec)) fnRepairsCard

/-- THE TIED CARD OF 'laws.FnExactFormatRepair'. -/
def fnExactFormatRepairCard : Claim7 := { stood := { row := fnExactFormatRepairRow, standIns := [], harness := (true, "cac734bbd97cb8f74f735234b866a8c904bbe3d20be540c597a888fe18143caf"), looks := false }, kinds := [], alts := [], laidByText := true, laidKinds := [.data, .data, .data], laidTests := true, laidLooks := .later }
def FnExactFormatRepairCardSaid : Prop := Claim7.holds Tryd.pinned (.plain (OpenSpec.ofChange fnExactFormatRepairSpec)) fnExactFormatRepairCard

/-- THE SECOND FORM's CARD OF 'laws.FnRepairs'. -/
def fnRepairsUptoCard : Claim7 := { stood := { row := fnRepairsUptoRow, standIns := [], harness := (true, "cac734bbd97cb8f74f735234b866a8c904bbe3d20be540c597a888fe18143caf"), looks := false }, kinds := [], alts := [], laidByText := true, laidKinds := [.data, .data, .data], laidTests := true, laidLooks := .later }
def FnRepairsUptoCardSaid : Prop := Claim7.holds Tryd.pinned (.plain (OpenSpec.upto fnRepairsSpec)) fnRepairsUptoCard

/-- THE SECOND FORM's CARD OF 'laws.FnExactFormatRepair'. -/
def fnExactFormatRepairUptoCard : Claim7 := { stood := { row := fnExactFormatRepairUptoRow, standIns := [], harness := (true, "cac734bbd97cb8f74f735234b866a8c904bbe3d20be540c597a888fe18143caf"), looks := false }, kinds := [], alts := [], laidByText := true, laidKinds := [.data, .data, .data], laidTests := true, laidLooks := .later }
def FnExactFormatRepairUptoCardSaid : Prop := Claim7.holds Tryd.pinned (.plain (OpenSpec.upto fnExactFormatRepairSpec)) fnExactFormatRepairUptoCard
end Rows
end Go.Proofs.YtpejnmfikjodaaaDoor
