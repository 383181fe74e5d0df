/-
  DERIVED. GIVEN WITH THE SEED: THE CARDS: each row of YtlogjmjoegnkbaaDoorRows.lean that lists a variable, with what it lists TIED to the program's text (the seventh form; the later family's looks); each row that meets fmt, with fmt's text TOLD by the authors' own Lean function (tested against real Go, not proved from fmt's source: count such statements apart). THE CARD IS WHAT COUNTS. Prove the row's statement (the work); the ties are given (YtlogjmjoegnkbaaDoorTie.lean); close each card by the builder's one call (the guide's Derived/Test/ToyasCard.lean, 'card_holds'). Laid BY PROGRAM, IN A SANDBOX (cutbox-door.mjs). By AI agents, Wed Nov 11 2026. No macro, syntax, notation, axiom, sorry.
-/
import Derived.Test.YtlogjmjoegnkbaaDoorRows
import GoSem.ClaimSeven
namespace Go.Proofs.YtlogjmjoegnkbaaDoor
namespace Rows

/-- THE TIED CARD OF 'laws.FnExactFormatCursor'. -/
def fnExactFormatCursorCard : Claim7 := { stood := { row := fnExactFormatCursorRow, standIns := [], harness := (true, "0216aafd13f90dd79966fb67b8a8ec5986a8aacb381ddd68e12a9e398bf58fbf"), looks := false }, kinds := [], alts := [], laidByText := true, laidKinds := [.data, .data, .data], laidTests := true, laidLooks := .later }
def FnExactFormatCursorCardSaid : Prop := Claim7.holds Tryd.pinned (.plain (OpenSpec.ofChange fnExactFormatCursorSpec)) fnExactFormatCursorCard

/-- THE SECOND FORM's CARD OF 'laws.FnExactFormatCursor'. -/
def fnExactFormatCursorUptoCard : Claim7 := { stood := { row := fnExactFormatCursorUptoRow, standIns := [], harness := (true, "0216aafd13f90dd79966fb67b8a8ec5986a8aacb381ddd68e12a9e398bf58fbf"), looks := false }, kinds := [], alts := [], laidByText := true, laidKinds := [.data, .data, .data], laidTests := true, laidLooks := .later }
def FnExactFormatCursorUptoCardSaid : Prop := Claim7.holds Tryd.pinned (.plain (OpenSpec.upto fnExactFormatCursorSpec)) fnExactFormatCursorUptoCard
end Rows
end Go.Proofs.YtlogjmjoegnkbaaDoor
