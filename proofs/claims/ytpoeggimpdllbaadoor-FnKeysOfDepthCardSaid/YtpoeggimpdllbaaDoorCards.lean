/-
  DERIVED. GIVEN WITH THE SEED: THE CARDS: each row of YtpoeggimpdllbaaDoorRows.lean that lists a variable, with what it lists TIED to the program's text (the seventh form; the later family's looks); each row that meets fmt, with fmt's text TOLD by the authors' own Lean function (tested against real Go, not proved from fmt's source: count such statements apart). THE CARD IS WHAT COUNTS. Prove the row's statement (the work); the ties are given (YtpoeggimpdllbaaDoorTie.lean); close each card by the builder's one call (the guide's Derived/Test/ToyasCard.lean, 'card_holds'). Laid BY PROGRAM, IN A SANDBOX (cutbox-door.mjs). By AI agents, Wed Nov 11 2026. No macro, syntax, notation, axiom, sorry.
-/
import Derived.Test.YtpoeggimpdllbaaDoorRows
import GoSem.ClaimSeven
namespace Go.Proofs.YtpoeggimpdllbaaDoor
namespace Rows

/-- THE TIED CARD OF 'laws.FnKeysOfDepth'. -/
def fnKeysOfDepthCard : Claim7 := { stood := { row := fnKeysOfDepthRow, standIns := [], harness := (true, "8bbd7d8eb2ee780596ea8349ef1aa66ee1606e1b1b60f2edb628cb915197b738"), looks := false }, kinds := [], alts := [], laidByText := true, laidKinds := [.data, .data], laidTests := true, laidLooks := .later }
def FnKeysOfDepthCardSaid : Prop := Claim7.holds Tryd.pinned (.plain (OpenSpec.ofChange fnKeysOfDepthSpec)) fnKeysOfDepthCard

/-- THE TIED CARD OF 'laws.FnExactLeastKeys'. -/
def fnExactLeastKeysCard : Claim7 := { stood := { row := fnExactLeastKeysRow, standIns := [], harness := (true, "8bbd7d8eb2ee780596ea8349ef1aa66ee1606e1b1b60f2edb628cb915197b738"), looks := false }, kinds := [], alts := [], laidByText := true, laidKinds := [.data], laidTests := true, laidLooks := .later }
def FnExactLeastKeysCardSaid : Prop := Claim7.holds Tryd.pinned (.plain (OpenSpec.ofChange fnExactLeastKeysSpec)) fnExactLeastKeysCard

/-- THE TIED CARD OF 'laws.FnExactMostKeys'. -/
def fnExactMostKeysCard : Claim7 := { stood := { row := fnExactMostKeysRow, standIns := [], harness := (true, "8bbd7d8eb2ee780596ea8349ef1aa66ee1606e1b1b60f2edb628cb915197b738"), looks := false }, kinds := [], alts := [], laidByText := true, laidKinds := [.data], laidTests := true, laidLooks := .later }
def FnExactMostKeysCardSaid : Prop := Claim7.holds Tryd.pinned (.plain (OpenSpec.ofChange fnExactMostKeysSpec)) fnExactMostKeysCard

/-- THE TIED CARD OF 'laws.FnExactLeastDepth'. -/
def fnExactLeastDepthCard : Claim7 := { stood := { row := fnExactLeastDepthRow, standIns := [], harness := (true, "8bbd7d8eb2ee780596ea8349ef1aa66ee1606e1b1b60f2edb628cb915197b738"), looks := false }, kinds := [], alts := [], laidByText := true, laidKinds := [.data], laidTests := true, laidLooks := .later }
def FnExactLeastDepthCardSaid : Prop := Claim7.holds Tryd.pinned (.plain (OpenSpec.ofChange fnExactLeastDepthSpec)) fnExactLeastDepthCard

/-- THE TIED CARD OF 'laws.FnExactMostDepth'. -/
def fnExactMostDepthCard : Claim7 := { stood := { row := fnExactMostDepthRow, standIns := [], harness := (true, "8bbd7d8eb2ee780596ea8349ef1aa66ee1606e1b1b60f2edb628cb915197b738"), looks := false }, kinds := [], alts := [], laidByText := true, laidKinds := [.data], laidTests := true, laidLooks := .later }
def FnExactMostDepthCardSaid : Prop := Claim7.holds Tryd.pinned (.plain (OpenSpec.ofChange fnExactMostDepthSpec)) fnExactMostDepthCard

/-- THE SECOND FORM's CARD OF 'laws.FnKeysOfDepth'. -/
def fnKeysOfDepthUptoCard : Claim7 := { stood := { row := fnKeysOfDepthUptoRow, standIns := [], harness := (true, "8bbd7d8eb2ee780596ea8349ef1aa66ee1606e1b1b60f2edb628cb915197b738"), looks := false }, kinds := [], alts := [], laidByText := true, laidKinds := [.data, .data], laidTests := true, laidLooks := .later }
def FnKeysOfDepthUptoCardSaid : Prop := Claim7.holds Tryd.pinned (.plain (OpenSpec.upto fnKeysOfDepthSpec)) fnKeysOfDepthUptoCard

/-- THE SECOND FORM's CARD OF 'laws.FnExactLeastKeys'. -/
def fnExactLeastKeysUptoCard : Claim7 := { stood := { row := fnExactLeastKeysUptoRow, standIns := [], harness := (true, "8bbd7d8eb2ee780596ea8349ef1aa66ee1606e1b1b60f2edb628cb915197b738"), looks := false }, kinds := [], alts := [], laidByText := true, laidKinds := [.data], laidTests := true, laidLooks := .later }
def FnExactLeastKeysUptoCardSaid : Prop := Claim7.holds Tryd.pinned (.plain (OpenSpec.upto fnExactLeastKeysSpec)) fnExactLeastKeysUptoCard

/-- THE SECOND FORM's CARD OF 'laws.FnExactMostKeys'. -/
def fnExactMostKeysUptoCard : Claim7 := { stood := { row := fnExactMostKeysUptoRow, standIns := [], harness := (true, "8bbd7d8eb2ee780596ea8349ef1aa66ee1606e1b1b60f2edb628cb915197b738"), looks := false }, kinds := [], alts := [], laidByText := true, laidKinds := [.data], laidTests := true, laidLooks := .later }
def FnExactMostKeysUptoCardSaid : Prop := Claim7.holds Tryd.pinned (.plain (OpenSpec.upto fnExactMostKeysSpec)) fnExactMostKeysUptoCard

/-- THE SECOND FORM's CARD OF 'laws.FnExactLeastDepth'. -/
def fnExactLeastDepthUptoCard : Claim7 := { stood := { row := fnExactLeastDepthUptoRow, standIns := [], harness := (true, "8bbd7d8eb2ee780596ea8349ef1aa66ee1606e1b1b60f2edb628cb915197b738"), looks := false }, kinds := [], alts := [], laidByText := true, laidKinds := [.data], laidTests := true, laidLooks := .later }
def FnExactLeastDepthUptoCardSaid : Prop := Claim7.holds Tryd.pinned (.plain (OpenSpec.upto fnExactLeastDepthSpec)) fnExactLeastDepthUptoCard

/-- THE SECOND FORM's CARD OF 'laws.FnExactMostDepth'. -/
def fnExactMostDepthUptoCard : Claim7 := { stood := { row := fnExactMostDepthUptoRow, standIns := [], harness := (true, "8bbd7d8eb2ee780596ea8349ef1aa66ee1606e1b1b60f2edb628cb915197b738"), looks := false }, kinds := [], alts := [], laidByText := true, laidKinds := [.data], laidTests := true, laidLooks := .later }
def FnExactMostDepthUptoCardSaid : Prop := Claim7.holds Tryd.pinned (.plain (OpenSpec.upto fnExactMostDepthSpec)) fnExactMostDepthUptoCard
end Rows
end Go.Proofs.YtpoeggimpdllbaaDoor
