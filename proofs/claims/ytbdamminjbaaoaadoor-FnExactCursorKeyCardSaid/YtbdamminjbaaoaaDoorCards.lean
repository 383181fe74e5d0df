/-
  DERIVED. GIVEN WITH THE SEED: THE CARDS: each row of YtbdamminjbaaoaaDoorRows.lean that lists a variable, with what it lists TIED to the program's text (the seventh form; the later family's looks); each row that meets fmt, with fmt's text TOLD by the authors' own Lean function (tested against real Go, not proved from fmt's source: count such statements apart). THE CARD IS WHAT COUNTS. Prove the row's statement (the work); the ties are given (YtbdamminjbaaoaaDoorTie.lean); close each card by the builder's one call (the guide's Derived/Test/ToyasCard.lean, 'card_holds'). Laid BY PROGRAM, IN A SANDBOX (cutbox-door.mjs). By AI agents, Wed Nov 11 2026. No macro, syntax, notation, axiom, sorry.
-/
import Derived.Test.YtbdamminjbaaoaaDoorRows
import GoSem.ClaimSeven
namespace Go.Proofs.YtbdamminjbaaoaaDoor
namespace Rows

/-- THE TIED CARD OF 'laws.FnExactCursorValid'. -/
def fnExactCursorValidCard : Claim7 := { stood := { row := fnExactCursorValidRow, standIns := [], harness := (true, "2720ab78667094ddab50329ff977be54564cab2ef30162d28d89898df6694d95"), looks := true }, kinds := [], alts := [], laidByText := true, laidKinds := [.sentinel], laidTests := true, laidLooks := .later }
def FnExactCursorValidCardSaid : Prop := Claim7.holds Tryd.pinned (.plain (OpenSpec.ofChange fnExactCursorValidSpec)) fnExactCursorValidCard

/-- THE TIED CARD OF 'laws.FnExactFirstCursor'. -/
def fnExactFirstCursorCard : Claim7 := { stood := { row := fnExactFirstCursorRow, standIns := [], harness := (true, "2720ab78667094ddab50329ff977be54564cab2ef30162d28d89898df6694d95"), looks := true }, kinds := [], alts := [], laidByText := true, laidKinds := [.sentinel, .sentinel], laidTests := true, laidLooks := .later }
def FnExactFirstCursorCardSaid : Prop := Claim7.holds Tryd.pinned (.plain (OpenSpec.ofChange fnExactFirstCursorSpec)) fnExactFirstCursorCard

/-- THE TIED CARD OF 'laws.FnExactLastCursor'. -/
def fnExactLastCursorCard : Claim7 := { stood := { row := fnExactLastCursorRow, standIns := [], harness := (true, "2720ab78667094ddab50329ff977be54564cab2ef30162d28d89898df6694d95"), looks := true }, kinds := [], alts := [], laidByText := true, laidKinds := [.sentinel, .sentinel], laidTests := true, laidLooks := .later }
def FnExactLastCursorCardSaid : Prop := Claim7.holds Tryd.pinned (.plain (OpenSpec.ofChange fnExactLastCursorSpec)) fnExactLastCursorCard

/-- THE TIED CARD OF 'laws.FnExactSeekCursor'. -/
def fnExactSeekCursorCard : Claim7 := { stood := { row := fnExactSeekCursorRow, standIns := [], harness := (true, "2720ab78667094ddab50329ff977be54564cab2ef30162d28d89898df6694d95"), looks := true }, kinds := [], alts := [], laidByText := true, laidKinds := [.sentinel, .sentinel], laidTests := true, laidLooks := .later }
def FnExactSeekCursorCardSaid : Prop := Claim7.holds Tryd.pinned (.plain (OpenSpec.ofChange fnExactSeekCursorSpec)) fnExactSeekCursorCard

/-- THE TIED CARD OF 'laws.FnExactForward'. -/
def fnExactForwardCard : Claim7 := { stood := { row := fnExactForwardRow, standIns := [], harness := (true, "2720ab78667094ddab50329ff977be54564cab2ef30162d28d89898df6694d95"), looks := true }, kinds := [], alts := [], laidByText := true, laidKinds := [.sentinel, .sentinel], laidTests := true, laidLooks := .later }
def FnExactForwardCardSaid : Prop := Claim7.holds Tryd.pinned (.plain (OpenSpec.ofChange fnExactForwardSpec)) fnExactForwardCard

/-- THE TIED CARD OF 'laws.FnExactBackward'. -/
def fnExactBackwardCard : Claim7 := { stood := { row := fnExactBackwardRow, standIns := [], harness := (true, "2720ab78667094ddab50329ff977be54564cab2ef30162d28d89898df6694d95"), looks := true }, kinds := [], alts := [], laidByText := true, laidKinds := [.sentinel, .sentinel], laidTests := true, laidLooks := .later }
def FnExactBackwardCardSaid : Prop := Claim7.holds Tryd.pinned (.plain (OpenSpec.ofChange fnExactBackwardSpec)) fnExactBackwardCard

/-- THE TIED CARD OF 'laws.FnExactCursorKey'. -/
def fnExactCursorKeyCard : Claim7 := { stood := { row := fnExactCursorKeyRow, standIns := [], harness := (true, "2720ab78667094ddab50329ff977be54564cab2ef30162d28d89898df6694d95"), looks := true }, kinds := [], alts := [], laidByText := true, laidKinds := [.sentinel], laidTests := true, laidLooks := .later }
def FnExactCursorKeyCardSaid : Prop := Claim7.holds Tryd.pinned (.plain (OpenSpec.ofChange fnExactCursorKeySpec)) fnExactCursorKeyCard

/-- THE TIED CARD OF 'laws.FnExactFormatCursor'. -/
def fnExactFormatCursorCard : Claim7 := { stood := { row := fnExactFormatCursorRow, standIns := [], harness := (true, "2720ab78667094ddab50329ff977be54564cab2ef30162d28d89898df6694d95"), looks := true }, kinds := [], alts := [], laidByText := true, laidKinds := [.data, .data, .data], laidTests := true, laidLooks := .later }
def FnExactFormatCursorCardSaid : Prop := Claim7.holds Tryd.pinned (.plain (OpenSpec.ofChange fnExactFormatCursorSpec)) fnExactFormatCursorCard

/-- THE TIED CARD OF 'laws.FnCursors'. -/
def fnCursorsCard : Claim7 := { stood := { row := fnCursorsRow, standIns := [], harness := (true, "2720ab78667094ddab50329ff977be54564cab2ef30162d28d89898df6694d95"), looks := true }, kinds := [], alts := [], laidByText := true, laidKinds := [.sentinel, .sentinel], laidTests := true, laidLooks := .later }
def FnCursorsCardSaid : Prop := Claim7.holds Tryd.pinned (.plain (OpenSpec.ofChange fnCursorsSpec)) fnCursorsCard

/-- THE TIED CARD OF 'laws.FnBack'. -/
def fnBackCard : Claim7 := { stood := { row := fnBackRow, standIns := [], harness := (true, "2720ab78667094ddab50329ff977be54564cab2ef30162d28d89898df6694d95"), looks := true }, kinds := [], alts := [], laidByText := true, laidKinds := [.sentinel, .sentinel], laidTests := true, laidLooks := .later }
def FnBackCardSaid : Prop := Claim7.holds Tryd.pinned (.plain (OpenSpec.ofChange fnBackSpec)) fnBackCard

/-- THE TIED CARD OF 'laws.FnSeek'. -/
def fnSeekCard : Claim7 := { stood := { row := fnSeekRow, standIns := [], harness := (true, "2720ab78667094ddab50329ff977be54564cab2ef30162d28d89898df6694d95"), looks := true }, kinds := [], alts := [], laidByText := true, laidKinds := [.sentinel, .sentinel], laidTests := true, laidLooks := .later }
def FnSeekCardSaid : Prop := Claim7.holds Tryd.pinned (.plain (OpenSpec.ofChange fnSeekSpec)) fnSeekCard

/-- THE SECOND FORM's CARD OF 'laws.FnExactCursorValid'. -/
def fnExactCursorValidUptoCard : Claim7 := { stood := { row := fnExactCursorValidUptoRow, standIns := [], harness := (true, "2720ab78667094ddab50329ff977be54564cab2ef30162d28d89898df6694d95"), looks := true }, kinds := [], alts := [], laidByText := true, laidKinds := [.sentinel], laidTests := true, laidLooks := .later }
def FnExactCursorValidUptoCardSaid : Prop := Claim7.holds Tryd.pinned (.plain (OpenSpec.upto fnExactCursorValidSpec)) fnExactCursorValidUptoCard

/-- THE SECOND FORM's CARD OF 'laws.FnExactFirstCursor'. -/
def fnExactFirstCursorUptoCard : Claim7 := { stood := { row := fnExactFirstCursorUptoRow, standIns := [], harness := (true, "2720ab78667094ddab50329ff977be54564cab2ef30162d28d89898df6694d95"), looks := true }, kinds := [], alts := [], laidByText := true, laidKinds := [.sentinel, .sentinel], laidTests := true, laidLooks := .later }
def FnExactFirstCursorUptoCardSaid : Prop := Claim7.holds Tryd.pinned (.plain (OpenSpec.upto fnExactFirstCursorSpec)) fnExactFirstCursorUptoCard

/-- THE SECOND FORM's CARD OF 'laws.FnExactLastCursor'. -/
def fnExactLastCursorUptoCard : Claim7 := { stood := { row := fnExactLastCursorUptoRow, standIns := [], harness := (true, "2720ab78667094ddab50329ff977be54564cab2ef30162d28d89898df6694d95"), looks := true }, kinds := [], alts := [], laidByText := true, laidKinds := [.sentinel, .sentinel], laidTests := true, laidLooks := .later }
def FnExactLastCursorUptoCardSaid : Prop := Claim7.holds Tryd.pinned (.plain (OpenSpec.upto fnExactLastCursorSpec)) fnExactLastCursorUptoCard

/-- THE SECOND FORM's CARD OF 'laws.FnExactSeekCursor'. -/
def fnExactSeekCursorUptoCard : Claim7 := { stood := { row := fnExactSeekCursorUptoRow, standIns := [], harness := (true, "2720ab78667094ddab50329ff977be54564cab2ef30162d28d89898df6694d95"), looks := true }, kinds := [], alts := [], laidByText := true, laidKinds := [.sentinel, .sentinel], laidTests := true, laidLooks := .later }
def FnExactSeekCursorUptoCardSaid : Prop := Claim7.holds Tryd.pinned (.plain (OpenSpec.upto fnExactSeekCursorSpec)) fnExactSeekCursorUptoCard

/-- THE SECOND FORM's CARD OF 'laws.FnExactForward'. -/
def fnExactForwardUptoCard : Claim7 := { stood := { row := fnExactForwardUptoRow, standIns := [], harness := (true, "2720ab78667094ddab50329ff977be54564cab2ef30162d28d89898df6694d95"), looks := true }, kinds := [], alts := [], laidByText := true, laidKinds := [.sentinel, .sentinel], laidTests := true, laidLooks := .later }
def FnExactForwardUptoCardSaid : Prop := Claim7.holds Tryd.pinned (.plain (OpenSpec.upto fnExactForwardSpec)) fnExactForwardUptoCard

/-- THE SECOND FORM's CARD OF 'laws.FnExactBackward'. -/
def fnExactBackwardUptoCard : Claim7 := { stood := { row := fnExactBackwardUptoRow, standIns := [], harness := (true, "2720ab78667094ddab50329ff977be54564cab2ef30162d28d89898df6694d95"), looks := true }, kinds := [], alts := [], laidByText := true, laidKinds := [.sentinel, .sentinel], laidTests := true, laidLooks := .later }
def FnExactBackwardUptoCardSaid : Prop := Claim7.holds Tryd.pinned (.plain (OpenSpec.upto fnExactBackwardSpec)) fnExactBackwardUptoCard

/-- THE SECOND FORM's CARD OF 'laws.FnExactCursorKey'. -/
def fnExactCursorKeyUptoCard : Claim7 := { stood := { row := fnExactCursorKeyUptoRow, standIns := [], harness := (true, "2720ab78667094ddab50329ff977be54564cab2ef30162d28d89898df6694d95"), looks := true }, kinds := [], alts := [], laidByText := true, laidKinds := [.sentinel], laidTests := true, laidLooks := .later }
def FnExactCursorKeyUptoCardSaid : Prop := Claim7.holds Tryd.pinned (.plain (OpenSpec.upto fnExactCursorKeySpec)) fnExactCursorKeyUptoCard

/-- THE SECOND FORM's CARD OF 'laws.FnExactFormatCursor'. -/
def fnExactFormatCursorUptoCard : Claim7 := { stood := { row := fnExactFormatCursorUptoRow, standIns := [], harness := (true, "2720ab78667094ddab50329ff977be54564cab2ef30162d28d89898df6694d95"), looks := true }, kinds := [], alts := [], laidByText := true, laidKinds := [.data, .data, .data], laidTests := true, laidLooks := .later }
def FnExactFormatCursorUptoCardSaid : Prop := Claim7.holds Tryd.pinned (.plain (OpenSpec.upto fnExactFormatCursorSpec)) fnExactFormatCursorUptoCard

/-- THE SECOND FORM's CARD OF 'laws.FnCursors'. -/
def fnCursorsUptoCard : Claim7 := { stood := { row := fnCursorsUptoRow, standIns := [], harness := (true, "2720ab78667094ddab50329ff977be54564cab2ef30162d28d89898df6694d95"), looks := true }, kinds := [], alts := [], laidByText := true, laidKinds := [.sentinel, .sentinel], laidTests := true, laidLooks := .later }
def FnCursorsUptoCardSaid : Prop := Claim7.holds Tryd.pinned (.plain (OpenSpec.upto fnCursorsSpec)) fnCursorsUptoCard

/-- THE SECOND FORM's CARD OF 'laws.FnBack'. -/
def fnBackUptoCard : Claim7 := { stood := { row := fnBackUptoRow, standIns := [], harness := (true, "2720ab78667094ddab50329ff977be54564cab2ef30162d28d89898df6694d95"), looks := true }, kinds := [], alts := [], laidByText := true, laidKinds := [.sentinel, .sentinel], laidTests := true, laidLooks := .later }
def FnBackUptoCardSaid : Prop := Claim7.holds Tryd.pinned (.plain (OpenSpec.upto fnBackSpec)) fnBackUptoCard

/-- THE SECOND FORM's CARD OF 'laws.FnSeek'. -/
def fnSeekUptoCard : Claim7 := { stood := { row := fnSeekUptoRow, standIns := [], harness := (true, "2720ab78667094ddab50329ff977be54564cab2ef30162d28d89898df6694d95"), looks := true }, kinds := [], alts := [], laidByText := true, laidKinds := [.sentinel, .sentinel], laidTests := true, laidLooks := .later }
def FnSeekUptoCardSaid : Prop := Claim7.holds Tryd.pinned (.plain (OpenSpec.upto fnSeekSpec)) fnSeekUptoCard
end Rows
end Go.Proofs.YtbdamminjbaaoaaDoor
