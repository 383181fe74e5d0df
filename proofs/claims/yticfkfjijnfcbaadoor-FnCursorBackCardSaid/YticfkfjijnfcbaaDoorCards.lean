/-
  DERIVED. GIVEN WITH THE SEED: THE CARDS: each row of YticfkfjijnfcbaaDoorRows.lean that lists a variable, with what it lists TIED to the program's text (the seventh form; the later family's looks); each row that meets fmt, with fmt's text TOLD by the authors' own Lean function (tested against real Go, not proved from fmt's source: count such statements apart). THE CARD IS WHAT COUNTS. Prove the row's statement (the work); the ties are given (YticfkfjijnfcbaaDoorTie.lean); close each card by the builder's one call (the guide's Derived/Test/ToyasCard.lean, 'card_holds'). Laid BY PROGRAM, IN A SANDBOX (cutbox-door.mjs). By AI agents, Wed Nov 11 2026. No macro, syntax, notation, axiom, sorry.
-/
import Derived.Test.YticfkfjijnfcbaaDoorRows
import GoSem.ClaimSeven
namespace Go.Proofs.YticfkfjijnfcbaaDoor
namespace Rows

/-- THE TIED CARD OF 'laws.FnExactFirstCursor'. -/
def fnExactFirstCursorCard : Claim7 := { stood := { row := fnExactFirstCursorRow, standIns := [], harness := (true, "0f951edfb4dc0770ecf1c86fc5c8607aa98a80ce9d3491ab6abaff9003ed9d22"), looks := true }, kinds := [], alts := [], laidByText := true, laidKinds := [.sentinel, .sentinel], laidTests := true, laidLooks := .later }
def FnExactFirstCursorCardSaid : Prop := Claim7.holds Tryd.pinned (.plain (OpenSpec.ofChange fnExactFirstCursorSpec)) fnExactFirstCursorCard

/-- THE TIED CARD OF 'laws.FnExactLastCursor'. -/
def fnExactLastCursorCard : Claim7 := { stood := { row := fnExactLastCursorRow, standIns := [], harness := (true, "0f951edfb4dc0770ecf1c86fc5c8607aa98a80ce9d3491ab6abaff9003ed9d22"), looks := true }, kinds := [], alts := [], laidByText := true, laidKinds := [.sentinel, .sentinel], laidTests := true, laidLooks := .later }
def FnExactLastCursorCardSaid : Prop := Claim7.holds Tryd.pinned (.plain (OpenSpec.ofChange fnExactLastCursorSpec)) fnExactLastCursorCard

/-- THE TIED CARD OF 'laws.FnExactSeekCursor'. -/
def fnExactSeekCursorCard : Claim7 := { stood := { row := fnExactSeekCursorRow, standIns := [], harness := (true, "0f951edfb4dc0770ecf1c86fc5c8607aa98a80ce9d3491ab6abaff9003ed9d22"), looks := true }, kinds := [], alts := [], laidByText := true, laidKinds := [.sentinel, .sentinel], laidTests := true, laidLooks := .later }
def FnExactSeekCursorCardSaid : Prop := Claim7.holds Tryd.pinned (.plain (OpenSpec.ofChange fnExactSeekCursorSpec)) fnExactSeekCursorCard

/-- THE TIED CARD OF 'laws.FnExactForward'. -/
def fnExactForwardCard : Claim7 := { stood := { row := fnExactForwardRow, standIns := [], harness := (true, "0f951edfb4dc0770ecf1c86fc5c8607aa98a80ce9d3491ab6abaff9003ed9d22"), looks := true }, kinds := [], alts := [], laidByText := true, laidKinds := [.sentinel, .sentinel], laidTests := true, laidLooks := .later }
def FnExactForwardCardSaid : Prop := Claim7.holds Tryd.pinned (.plain (OpenSpec.ofChange fnExactForwardSpec)) fnExactForwardCard

/-- THE TIED CARD OF 'laws.FnExactBackward'. -/
def fnExactBackwardCard : Claim7 := { stood := { row := fnExactBackwardRow, standIns := [], harness := (true, "0f951edfb4dc0770ecf1c86fc5c8607aa98a80ce9d3491ab6abaff9003ed9d22"), looks := true }, kinds := [], alts := [], laidByText := true, laidKinds := [.sentinel, .sentinel], laidTests := true, laidLooks := .later }
def FnExactBackwardCardSaid : Prop := Claim7.holds Tryd.pinned (.plain (OpenSpec.ofChange fnExactBackwardSpec)) fnExactBackwardCard

/-- THE TIED CARD OF 'laws.FnCursors'. -/
def fnCursorsCard : Claim7 := { stood := { row := fnCursorsRow, standIns := [], harness := (true, "0f951edfb4dc0770ecf1c86fc5c8607aa98a80ce9d3491ab6abaff9003ed9d22"), looks := true }, kinds := [], alts := [], laidByText := true, laidKinds := [.sentinel, .sentinel], laidTests := true, laidLooks := .later }
def FnCursorsCardSaid : Prop := Claim7.holds Tryd.pinned (.plain (OpenSpec.ofChange fnCursorsSpec)) fnCursorsCard

/-- THE TIED CARD OF 'laws.FnBack'. -/
def fnBackCard : Claim7 := { stood := { row := fnBackRow, standIns := [], harness := (true, "0f951edfb4dc0770ecf1c86fc5c8607aa98a80ce9d3491ab6abaff9003ed9d22"), looks := true }, kinds := [], alts := [], laidByText := true, laidKinds := [.sentinel, .sentinel], laidTests := true, laidLooks := .later }
def FnBackCardSaid : Prop := Claim7.holds Tryd.pinned (.plain (OpenSpec.ofChange fnBackSpec)) fnBackCard

/-- THE TIED CARD OF 'laws.FnSeek'. -/
def fnSeekCard : Claim7 := { stood := { row := fnSeekRow, standIns := [], harness := (true, "0f951edfb4dc0770ecf1c86fc5c8607aa98a80ce9d3491ab6abaff9003ed9d22"), looks := true }, kinds := [], alts := [], laidByText := true, laidKinds := [.sentinel, .sentinel], laidTests := true, laidLooks := .later }
def FnSeekCardSaid : Prop := Claim7.holds Tryd.pinned (.plain (OpenSpec.ofChange fnSeekSpec)) fnSeekCard

/-- THE TIED CARD OF 'laws.FnCursorNext'. -/
def fnCursorNextCard : Claim7 := { stood := { row := fnCursorNextRow, standIns := [], harness := (true, "0f951edfb4dc0770ecf1c86fc5c8607aa98a80ce9d3491ab6abaff9003ed9d22"), looks := true }, kinds := [], alts := [], laidByText := true, laidKinds := [.sentinel, .sentinel], laidTests := true, laidLooks := .later }
def FnCursorNextCardSaid : Prop := Claim7.holds Tryd.pinned (.plain (OpenSpec.ofChange fnCursorNextSpec)) fnCursorNextCard

/-- THE TIED CARD OF 'laws.FnCursorBack'. -/
def fnCursorBackCard : Claim7 := { stood := { row := fnCursorBackRow, standIns := [], harness := (true, "0f951edfb4dc0770ecf1c86fc5c8607aa98a80ce9d3491ab6abaff9003ed9d22"), looks := true }, kinds := [], alts := [], laidByText := true, laidKinds := [.sentinel, .sentinel], laidTests := true, laidLooks := .later }
def FnCursorBackCardSaid : Prop := Claim7.holds Tryd.pinned (.plain (OpenSpec.ofChange fnCursorBackSpec)) fnCursorBackCard

/-- THE TIED CARD OF 'laws.FnCursorRank'. -/
def fnCursorRankCard : Claim7 := { stood := { row := fnCursorRankRow, standIns := [], harness := (true, "0f951edfb4dc0770ecf1c86fc5c8607aa98a80ce9d3491ab6abaff9003ed9d22"), looks := true }, kinds := [], alts := [], laidByText := true, laidKinds := [.sentinel, .sentinel], laidTests := true, laidLooks := .later }
def FnCursorRankCardSaid : Prop := Claim7.holds Tryd.pinned (.plain (OpenSpec.ofChange fnCursorRankSpec)) fnCursorRankCard

/-- THE TIED CARD OF 'laws.FnCursorRange'. -/
def fnCursorRangeCard : Claim7 := { stood := { row := fnCursorRangeRow, standIns := [], harness := (true, "0f951edfb4dc0770ecf1c86fc5c8607aa98a80ce9d3491ab6abaff9003ed9d22"), looks := true }, kinds := [], alts := [], laidByText := true, laidKinds := [.sentinel, .sentinel], laidTests := true, laidLooks := .later }
def FnCursorRangeCardSaid : Prop := Claim7.holds Tryd.pinned (.plain (OpenSpec.ofChange fnCursorRangeSpec)) fnCursorRangeCard

/-- THE SECOND FORM's CARD OF 'laws.FnExactFirstCursor'. -/
def fnExactFirstCursorUptoCard : Claim7 := { stood := { row := fnExactFirstCursorUptoRow, standIns := [], harness := (true, "0f951edfb4dc0770ecf1c86fc5c8607aa98a80ce9d3491ab6abaff9003ed9d22"), looks := true }, kinds := [], alts := [], laidByText := true, laidKinds := [.sentinel, .sentinel], laidTests := true, laidLooks := .later }
def FnExactFirstCursorUptoCardSaid : Prop := Claim7.holds Tryd.pinned (.plain (OpenSpec.upto fnExactFirstCursorSpec)) fnExactFirstCursorUptoCard

/-- THE SECOND FORM's CARD OF 'laws.FnExactLastCursor'. -/
def fnExactLastCursorUptoCard : Claim7 := { stood := { row := fnExactLastCursorUptoRow, standIns := [], harness := (true, "0f951edfb4dc0770ecf1c86fc5c8607aa98a80ce9d3491ab6abaff9003ed9d22"), looks := true }, kinds := [], alts := [], laidByText := true, laidKinds := [.sentinel, .sentinel], laidTests := true, laidLooks := .later }
def FnExactLastCursorUptoCardSaid : Prop := Claim7.holds Tryd.pinned (.plain (OpenSpec.upto fnExactLastCursorSpec)) fnExactLastCursorUptoCard

/-- THE SECOND FORM's CARD OF 'laws.FnExactSeekCursor'. -/
def fnExactSeekCursorUptoCard : Claim7 := { stood := { row := fnExactSeekCursorUptoRow, standIns := [], harness := (true, "0f951edfb4dc0770ecf1c86fc5c8607aa98a80ce9d3491ab6abaff9003ed9d22"), looks := true }, kinds := [], alts := [], laidByText := true, laidKinds := [.sentinel, .sentinel], laidTests := true, laidLooks := .later }
def FnExactSeekCursorUptoCardSaid : Prop := Claim7.holds Tryd.pinned (.plain (OpenSpec.upto fnExactSeekCursorSpec)) fnExactSeekCursorUptoCard

/-- THE SECOND FORM's CARD OF 'laws.FnExactForward'. -/
def fnExactForwardUptoCard : Claim7 := { stood := { row := fnExactForwardUptoRow, standIns := [], harness := (true, "0f951edfb4dc0770ecf1c86fc5c8607aa98a80ce9d3491ab6abaff9003ed9d22"), looks := true }, kinds := [], alts := [], laidByText := true, laidKinds := [.sentinel, .sentinel], laidTests := true, laidLooks := .later }
def FnExactForwardUptoCardSaid : Prop := Claim7.holds Tryd.pinned (.plain (OpenSpec.upto fnExactForwardSpec)) fnExactForwardUptoCard

/-- THE SECOND FORM's CARD OF 'laws.FnExactBackward'. -/
def fnExactBackwardUptoCard : Claim7 := { stood := { row := fnExactBackwardUptoRow, standIns := [], harness := (true, "0f951edfb4dc0770ecf1c86fc5c8607aa98a80ce9d3491ab6abaff9003ed9d22"), looks := true }, kinds := [], alts := [], laidByText := true, laidKinds := [.sentinel, .sentinel], laidTests := true, laidLooks := .later }
def FnExactBackwardUptoCardSaid : Prop := Claim7.holds Tryd.pinned (.plain (OpenSpec.upto fnExactBackwardSpec)) fnExactBackwardUptoCard

/-- THE SECOND FORM's CARD OF 'laws.FnCursors'. -/
def fnCursorsUptoCard : Claim7 := { stood := { row := fnCursorsUptoRow, standIns := [], harness := (true, "0f951edfb4dc0770ecf1c86fc5c8607aa98a80ce9d3491ab6abaff9003ed9d22"), looks := true }, kinds := [], alts := [], laidByText := true, laidKinds := [.sentinel, .sentinel], laidTests := true, laidLooks := .later }
def FnCursorsUptoCardSaid : Prop := Claim7.holds Tryd.pinned (.plain (OpenSpec.upto fnCursorsSpec)) fnCursorsUptoCard

/-- THE SECOND FORM's CARD OF 'laws.FnBack'. -/
def fnBackUptoCard : Claim7 := { stood := { row := fnBackUptoRow, standIns := [], harness := (true, "0f951edfb4dc0770ecf1c86fc5c8607aa98a80ce9d3491ab6abaff9003ed9d22"), looks := true }, kinds := [], alts := [], laidByText := true, laidKinds := [.sentinel, .sentinel], laidTests := true, laidLooks := .later }
def FnBackUptoCardSaid : Prop := Claim7.holds Tryd.pinned (.plain (OpenSpec.upto fnBackSpec)) fnBackUptoCard

/-- THE SECOND FORM's CARD OF 'laws.FnSeek'. -/
def fnSeekUptoCard : Claim7 := { stood := { row := fnSeekUptoRow, standIns := [], harness := (true, "0f951edfb4dc0770ecf1c86fc5c8607aa98a80ce9d3491ab6abaff9003ed9d22"), looks := true }, kinds := [], alts := [], laidByText := true, laidKinds := [.sentinel, .sentinel], laidTests := true, laidLooks := .later }
def FnSeekUptoCardSaid : Prop := Claim7.holds Tryd.pinned (.plain (OpenSpec.upto fnSeekSpec)) fnSeekUptoCard

/-- THE SECOND FORM's CARD OF 'laws.FnCursorNext'. -/
def fnCursorNextUptoCard : Claim7 := { stood := { row := fnCursorNextUptoRow, standIns := [], harness := (true, "0f951edfb4dc0770ecf1c86fc5c8607aa98a80ce9d3491ab6abaff9003ed9d22"), looks := true }, kinds := [], alts := [], laidByText := true, laidKinds := [.sentinel, .sentinel], laidTests := true, laidLooks := .later }
def FnCursorNextUptoCardSaid : Prop := Claim7.holds Tryd.pinned (.plain (OpenSpec.upto fnCursorNextSpec)) fnCursorNextUptoCard

/-- THE SECOND FORM's CARD OF 'laws.FnCursorBack'. -/
def fnCursorBackUptoCard : Claim7 := { stood := { row := fnCursorBackUptoRow, standIns := [], harness := (true, "0f951edfb4dc0770ecf1c86fc5c8607aa98a80ce9d3491ab6abaff9003ed9d22"), looks := true }, kinds := [], alts := [], laidByText := true, laidKinds := [.sentinel, .sentinel], laidTests := true, laidLooks := .later }
def FnCursorBackUptoCardSaid : Prop := Claim7.holds Tryd.pinned (.plain (OpenSpec.upto fnCursorBackSpec)) fnCursorBackUptoCard

/-- THE SECOND FORM's CARD OF 'laws.FnCursorRank'. -/
def fnCursorRankUptoCard : Claim7 := { stood := { row := fnCursorRankUptoRow, standIns := [], harness := (true, "0f951edfb4dc0770ecf1c86fc5c8607aa98a80ce9d3491ab6abaff9003ed9d22"), looks := true }, kinds := [], alts := [], laidByText := true, laidKinds := [.sentinel, .sentinel], laidTests := true, laidLooks := .later }
def FnCursorRankUptoCardSaid : Prop := Claim7.holds Tryd.pinned (.plain (OpenSpec.upto fnCursorRankSpec)) fnCursorRankUptoCard

/-- THE SECOND FORM's CARD OF 'laws.FnCursorRange'. -/
def fnCursorRangeUptoCard : Claim7 := { stood := { row := fnCursorRangeUptoRow, standIns := [], harness := (true, "0f951edfb4dc0770ecf1c86fc5c8607aa98a80ce9d3491ab6abaff9003ed9d22"), looks := true }, kinds := [], alts := [], laidByText := true, laidKinds := [.sentinel, .sentinel], laidTests := true, laidLooks := .later }
def FnCursorRangeUptoCardSaid : Prop := Claim7.holds Tryd.pinned (.plain (OpenSpec.upto fnCursorRangeSpec)) fnCursorRangeUptoCard
end Rows
end Go.Proofs.YticfkfjijnfcbaaDoor
