/-
  DERIVED. GIVEN WITH THE SEED: THE CARDS: each row of YtdkldcgiiiejfaaDoorRows.lean that lists a variable, with what it lists TIED to the program's text (the seventh form; the later family's looks); each row that meets fmt, with fmt's text TOLD by the authors' own Lean function (tested against real Go, not proved from fmt's source: count such statements apart). THE CARD IS WHAT COUNTS. Prove the row's statement (the work); the ties are given (YtdkldcgiiiejfaaDoorTie.lean); close each card by the builder's one call (the guide's Derived/Test/ToyasCard.lean, 'card_holds'). Laid BY PROGRAM, IN A SANDBOX (cutbox-door.mjs). By AI agents, Wed Nov 11 2026. No macro, syntax, notation, axiom, sorry.
-/
import Derived.Test.YtdkldcgiiiejfaaDoorRows
import GoSem.ClaimSeven
namespace Go.Proofs.YtdkldcgiiiejfaaDoor
namespace Rows

/-- THE TIED CARD OF 'laws.FnDepths'. -/
def fnDepthsCard : Claim7 := { stood := { row := fnDepthsRow, standIns := [], harness := (true, "f6d18a31c340081883900a1dce23ef83c7955ea0d3348d936e250a5428727d4e"), looks := false }, kinds := [], alts := [], laidByText := true, laidKinds := [.data, .data], laidTests := true, laidLooks := .later }
def FnDepthsCardSaid : Prop := Claim7.holds Tryd.pinned (.plain (OpenSpec.ofChange fnDepthsSpec)) fnDepthsCard

/-- THE SECOND FORM's CARD OF 'laws.FnDepths'. -/
def fnDepthsUptoCard : Claim7 := { stood := { row := fnDepthsUptoRow, standIns := [], harness := (true, "f6d18a31c340081883900a1dce23ef83c7955ea0d3348d936e250a5428727d4e"), looks := false }, kinds := [], alts := [], laidByText := true, laidKinds := [.data, .data], laidTests := true, laidLooks := .later }
def FnDepthsUptoCardSaid : Prop := Claim7.holds Tryd.pinned (.plain (OpenSpec.upto fnDepthsSpec)) fnDepthsUptoCard
end Rows
end Go.Proofs.YtdkldcgiiiejfaaDoor
