/-
  NARROWER THAN 'FOR EVERY INPUT', by the rows' own cells (each row's printed sentence says how): FnExactLevelOf: loops · FnExactDeleteKey: loops.
  DERIVED. THE GIVEN ROWS OF THIS SEAT. 11 by the template 'for every input the law returns true; each argument reads behind the call as it read before'; 0 by the template 'total and deterministic' (their statements: YtjnkdbgebkajoaaTotals.lean).
  GIVEN WITH THE SEED: the statements are not yours to turn. If you find one false, say at which input.
  Laid BY PROGRAM, IN A SANDBOX (cutbox-rows.mjs): the forced cells as the released guide's own fill.sh prints them over the translation 25af8d108f68fe22… (all of the seat's roots in one cut). By AI agents, Wed Nov 11 2026. No macro, syntax, notation, axiom, sorry.
-/
import Derived.Test.YtjnkdbgebkajoaaChecked
import GoSem.Claim
import GoSem.ClaimJoined
import GoSem.ClaimMapViews
import Derived.JoinedTies
import Derived.KernelRfl
namespace Go.Proofs.Ytjnkdbgebkajoaa
/- THE CELL 'sum', in the pinned program and in every row, IS THE sha256 OF THE DUMP (.gsa) THAT YtjnkdbgebkajoaaProg.lean LOADS. Nothing in Lean hashes anything: it is a label: what it is worth is what the hold of that sum in a sandbox is worth. -/
noncomputable def Try.pinned : Pinned := { name := "ytjnkdbgebkajoaa", sum := "25af8d108f68fe222f792eb1c72997182b09b8ea7a40cf1d01ea7948fdfbd1cb", checked := Try.checked }
namespace Rows
def none {H : Type} : Left H := { results := [], args := [] }

/-- 'laws.FnSplits': WHATEVER THE INPUT: true; the input reads as it did. -/
def fnSplitsSpec : ChangeSpec := { name := "fnSplits", fn := fun _ => fun
  | [d] => { results := [.lit (.bool true)], args := [d] }
  | _ => none }
def fnSplitsRow : OpenClaim := { program := "ytjnkdbgebkajoaa", sum := "25af8d108f68fe222f792eb1c72997182b09b8ea7a40cf1d01ea7948fdfbd1cb", func := "loop.example/fulltrees/laws.FnSplits", spec := "fnSplits", unfollowed := true, recurses := true, apart := false }
def FnSplitsSaid : Prop := fnSplitsRow.holds Try.pinned (OpenSpec.ofChange fnSplitsSpec)

/-- ITS FALSE NEIGHBOUR: 'it returns false'. Refute it at one input. -/
def fnSplitsWrong : ChangeSpec := { name := "fnSplits", fn := fun _ => fun
  | [d] => { results := [.lit (.bool false)], args := [d] }
  | _ => none }
def FnSplitsWrongFalsely : Prop := fnSplitsRow.holds Try.pinned (OpenSpec.ofChange fnSplitsWrong)

/-- 'laws.FnRange': WHATEVER THE INPUT: true; the input reads as it did. -/
def fnRangeSpec : ChangeSpec := { name := "fnRange", fn := fun _ => fun
  | [d] => { results := [.lit (.bool true)], args := [d] }
  | _ => none }
def fnRangeRow : OpenClaim := { program := "ytjnkdbgebkajoaa", sum := "25af8d108f68fe222f792eb1c72997182b09b8ea7a40cf1d01ea7948fdfbd1cb", func := "loop.example/fulltrees/laws.FnRange", spec := "fnRange", unfollowed := true, recurses := true, apart := false }
def FnRangeSaid : Prop := fnRangeRow.holds Try.pinned (OpenSpec.ofChange fnRangeSpec)

/-- ITS FALSE NEIGHBOUR: 'it returns false'. Refute it at one input. -/
def fnRangeWrong : ChangeSpec := { name := "fnRange", fn := fun _ => fun
  | [d] => { results := [.lit (.bool false)], args := [d] }
  | _ => none }
def FnRangeWrongFalsely : Prop := fnRangeRow.holds Try.pinned (OpenSpec.ofChange fnRangeWrong)

/-- 'laws.FnRangeParts': WHATEVER THE INPUT: true; the input reads as it did. -/
def fnRangePartsSpec : ChangeSpec := { name := "fnRangeParts", fn := fun _ => fun
  | [d] => { results := [.lit (.bool true)], args := [d] }
  | _ => none }
def fnRangePartsRow : OpenClaim := { program := "ytjnkdbgebkajoaa", sum := "25af8d108f68fe222f792eb1c72997182b09b8ea7a40cf1d01ea7948fdfbd1cb", func := "loop.example/fulltrees/laws.FnRangeParts", spec := "fnRangeParts", unfollowed := true, recurses := true, apart := false }
def FnRangePartsSaid : Prop := fnRangePartsRow.holds Try.pinned (OpenSpec.ofChange fnRangePartsSpec)

/-- ITS FALSE NEIGHBOUR: 'it returns false'. Refute it at one input. -/
def fnRangePartsWrong : ChangeSpec := { name := "fnRangeParts", fn := fun _ => fun
  | [d] => { results := [.lit (.bool false)], args := [d] }
  | _ => none }
def FnRangePartsWrongFalsely : Prop := fnRangePartsRow.holds Try.pinned (OpenSpec.ofChange fnRangePartsWrong)

/-- 'laws.FnInsert': WHATEVER THE INPUT: true; the input reads as it did. -/
def fnInsertSpec : ChangeSpec := { name := "fnInsert", fn := fun _ => fun
  | [d] => { results := [.lit (.bool true)], args := [d] }
  | _ => none }
def fnInsertRow : OpenClaim := { program := "ytjnkdbgebkajoaa", sum := "25af8d108f68fe222f792eb1c72997182b09b8ea7a40cf1d01ea7948fdfbd1cb", func := "loop.example/fulltrees/laws.FnInsert", spec := "fnInsert", unfollowed := true, recurses := true, apart := false }
def FnInsertSaid : Prop := fnInsertRow.holds Try.pinned (OpenSpec.ofChange fnInsertSpec)

/-- ITS FALSE NEIGHBOUR: 'it returns false'. Refute it at one input. -/
def fnInsertWrong : ChangeSpec := { name := "fnInsert", fn := fun _ => fun
  | [d] => { results := [.lit (.bool false)], args := [d] }
  | _ => none }
def FnInsertWrongFalsely : Prop := fnInsertRow.holds Try.pinned (OpenSpec.ofChange fnInsertWrong)

/-- 'laws.FnPath': WHATEVER THE INPUT: true; the input reads as it did. -/
def fnPathSpec : ChangeSpec := { name := "fnPath", fn := fun _ => fun
  | [d] => { results := [.lit (.bool true)], args := [d] }
  | _ => none }
def fnPathRow : OpenClaim := { program := "ytjnkdbgebkajoaa", sum := "25af8d108f68fe222f792eb1c72997182b09b8ea7a40cf1d01ea7948fdfbd1cb", func := "loop.example/fulltrees/laws.FnPath", spec := "fnPath", unfollowed := true, recurses := true, apart := false }
def FnPathSaid : Prop := fnPathRow.holds Try.pinned (OpenSpec.ofChange fnPathSpec)

/-- ITS FALSE NEIGHBOUR: 'it returns false'. Refute it at one input. -/
def fnPathWrong : ChangeSpec := { name := "fnPath", fn := fun _ => fun
  | [d] => { results := [.lit (.bool false)], args := [d] }
  | _ => none }
def FnPathWrongFalsely : Prop := fnPathRow.holds Try.pinned (OpenSpec.ofChange fnPathWrong)

/-- 'laws.FnVisits': WHATEVER THE INPUT: true; the input reads as it did. -/
def fnVisitsSpec : ChangeSpec := { name := "fnVisits", fn := fun _ => fun
  | [d] => { results := [.lit (.bool true)], args := [d] }
  | _ => none }
def fnVisitsRow : OpenClaim := { program := "ytjnkdbgebkajoaa", sum := "25af8d108f68fe222f792eb1c72997182b09b8ea7a40cf1d01ea7948fdfbd1cb", func := "loop.example/fulltrees/laws.FnVisits", spec := "fnVisits", unfollowed := true, recurses := true, apart := false }
def FnVisitsSaid : Prop := fnVisitsRow.holds Try.pinned (OpenSpec.ofChange fnVisitsSpec)

/-- ITS FALSE NEIGHBOUR: 'it returns false'. Refute it at one input. -/
def fnVisitsWrong : ChangeSpec := { name := "fnVisits", fn := fun _ => fun
  | [d] => { results := [.lit (.bool false)], args := [d] }
  | _ => none }
def FnVisitsWrongFalsely : Prop := fnVisitsRow.holds Try.pinned (OpenSpec.ofChange fnVisitsWrong)

/-- 'laws.FnExactLevelOf': WHATEVER THE INPUT: true; the input reads as it did. -/
def fnExactLevelOfSpec : ChangeSpec := { name := "fnExactLevelOf", fn := fun _ => fun
  | [d1, d2] => { results := [.lit (.bool true)], args := [d1, d2] }
  | _ => none }
def fnExactLevelOfRow : OpenClaim := { program := "ytjnkdbgebkajoaa", sum := "25af8d108f68fe222f792eb1c72997182b09b8ea7a40cf1d01ea7948fdfbd1cb", func := "loop.example/fulltrees/laws.FnExactLevelOf", spec := "fnExactLevelOf", unfollowed := true, recurses := true, loops := true, apart := false }
def FnExactLevelOfSaid : Prop := fnExactLevelOfRow.holds Try.pinned (OpenSpec.ofChange fnExactLevelOfSpec)

/-- ITS FALSE NEIGHBOUR: 'it returns false'. Refute it at one input. -/
def fnExactLevelOfWrong : ChangeSpec := { name := "fnExactLevelOf", fn := fun _ => fun
  | [d1, d2] => { results := [.lit (.bool false)], args := [d1, d2] }
  | _ => none }
def FnExactLevelOfWrongFalsely : Prop := fnExactLevelOfRow.holds Try.pinned (OpenSpec.ofChange fnExactLevelOfWrong)

/-- 'laws.FnLevels': WHATEVER THE INPUT: true; the input reads as it did. -/
def fnLevelsSpec : ChangeSpec := { name := "fnLevels", fn := fun _ => fun
  | [d1, d2] => { results := [.lit (.bool true)], args := [d1, d2] }
  | _ => none }
def fnLevelsRow : OpenClaim := { program := "ytjnkdbgebkajoaa", sum := "25af8d108f68fe222f792eb1c72997182b09b8ea7a40cf1d01ea7948fdfbd1cb", func := "loop.example/fulltrees/laws.FnLevels", spec := "fnLevels", unfollowed := true, recurses := true, apart := false }
def FnLevelsSaid : Prop := fnLevelsRow.holds Try.pinned (OpenSpec.ofChange fnLevelsSpec)

/-- ITS FALSE NEIGHBOUR: 'it returns false'. Refute it at one input. -/
def fnLevelsWrong : ChangeSpec := { name := "fnLevels", fn := fun _ => fun
  | [d1, d2] => { results := [.lit (.bool false)], args := [d1, d2] }
  | _ => none }
def FnLevelsWrongFalsely : Prop := fnLevelsRow.holds Try.pinned (OpenSpec.ofChange fnLevelsWrong)

/-- 'laws.FnLevelNodes': WHATEVER THE INPUT: true; the input reads as it did. -/
def fnLevelNodesSpec : ChangeSpec := { name := "fnLevelNodes", fn := fun _ => fun
  | [d] => { results := [.lit (.bool true)], args := [d] }
  | _ => none }
def fnLevelNodesRow : OpenClaim := { program := "ytjnkdbgebkajoaa", sum := "25af8d108f68fe222f792eb1c72997182b09b8ea7a40cf1d01ea7948fdfbd1cb", func := "loop.example/fulltrees/laws.FnLevelNodes", spec := "fnLevelNodes", unfollowed := true, recurses := true, apart := false }
def FnLevelNodesSaid : Prop := fnLevelNodesRow.holds Try.pinned (OpenSpec.ofChange fnLevelNodesSpec)

/-- ITS FALSE NEIGHBOUR: 'it returns false'. Refute it at one input. -/
def fnLevelNodesWrong : ChangeSpec := { name := "fnLevelNodes", fn := fun _ => fun
  | [d] => { results := [.lit (.bool false)], args := [d] }
  | _ => none }
def FnLevelNodesWrongFalsely : Prop := fnLevelNodesRow.holds Try.pinned (OpenSpec.ofChange fnLevelNodesWrong)

/-- 'laws.FnExactDeleteKey': WHATEVER THE INPUT: true; the input reads as it did. -/
def fnExactDeleteKeySpec : ChangeSpec := { name := "fnExactDeleteKey", fn := fun _ => fun
  | [d1, d2, d3] => { results := [.lit (.bool true)], args := [d1, d2, d3] }
  | _ => none }
def fnExactDeleteKeyRow : OpenClaim := { program := "ytjnkdbgebkajoaa", sum := "25af8d108f68fe222f792eb1c72997182b09b8ea7a40cf1d01ea7948fdfbd1cb", func := "loop.example/fulltrees/laws.FnExactDeleteKey", spec := "fnExactDeleteKey", unfollowed := true, recurses := true, loops := true, apart := false }
def FnExactDeleteKeySaid : Prop := fnExactDeleteKeyRow.holds Try.pinned (OpenSpec.ofChange fnExactDeleteKeySpec)

/-- ITS FALSE NEIGHBOUR: 'it returns false'. Refute it at one input. -/
def fnExactDeleteKeyWrong : ChangeSpec := { name := "fnExactDeleteKey", fn := fun _ => fun
  | [d1, d2, d3] => { results := [.lit (.bool false)], args := [d1, d2, d3] }
  | _ => none }
def FnExactDeleteKeyWrongFalsely : Prop := fnExactDeleteKeyRow.holds Try.pinned (OpenSpec.ofChange fnExactDeleteKeyWrong)

/-- 'laws.FnDeletedRank': WHATEVER THE INPUT: true; the input reads as it did. -/
def fnDeletedRankSpec : ChangeSpec := { name := "fnDeletedRank", fn := fun _ => fun
  | [d] => { results := [.lit (.bool true)], args := [d] }
  | _ => none }
def fnDeletedRankRow : OpenClaim := { program := "ytjnkdbgebkajoaa", sum := "25af8d108f68fe222f792eb1c72997182b09b8ea7a40cf1d01ea7948fdfbd1cb", func := "loop.example/fulltrees/laws.FnDeletedRank", spec := "fnDeletedRank", unfollowed := true, recurses := true, apart := false }
def FnDeletedRankSaid : Prop := fnDeletedRankRow.holds Try.pinned (OpenSpec.ofChange fnDeletedRankSpec)

/-- ITS FALSE NEIGHBOUR: 'it returns false'. Refute it at one input. -/
def fnDeletedRankWrong : ChangeSpec := { name := "fnDeletedRank", fn := fun _ => fun
  | [d] => { results := [.lit (.bool false)], args := [d] }
  | _ => none }
def FnDeletedRankWrongFalsely : Prop := fnDeletedRankRow.holds Try.pinned (OpenSpec.ofChange fnDeletedRankWrong)

/- THE SECOND FORM. 'bulk': how many values and letters a reading holds, each counted each time it is reached (what is shared counts as often as it is met; a slice's spare places count too). A statement '..UptoSaid' is the law's where the arguments, and the package variables that the reading takes, are together of bulk at most 1048576: NARROWER than '..Said'. Prove '..Said' where nothing that the law and all that it calls make is longer than what came in: it says more and counts as full. Else prove '..UptoSaid'. A law counts once. -/
mutual
def uptoBulk {H : Type} : DataW H → Nat
  | .lit (.string bytes) => bytes.length + 1
  | .lit _ => 1
  | .nil => 1
  | .ptr d => uptoBulk d + 1
  | .slice elems spare => uptoBulkAll elems + uptoBulkAll spare + 1
  | .agg parts => uptoBulkAll parts + 1
  | .iface _ d => uptoBulk d + 1
  | .map entries => uptoBulkEntries entries + 1
  | .held _ => 1
def uptoBulkAll {H : Type} : List (DataW H) → Nat
  | [] => 0
  | d :: r => uptoBulk d + uptoBulkAll r
def uptoBulkEntries {H : Type} : List (Lit × DataW H) → Nat
  | [] => 0
  | x :: r => uptoBulkEntry x + uptoBulkEntries r
def uptoBulkEntry {H : Type} : Lit × DataW H → Nat
  | (.string bytes, d) => bytes.length + uptoBulk d + 1
  | (_, d) => uptoBulk d + 1
 end
def uptoSmall : (H : Type) → List (DataW H) → Bool := fun _ ds => decide (uptoBulkAll ds ≤ 1048576)
def OpenSpec.upto (s : _root_.Go.ChangeSpec) : _root_.Go.OpenSpec := { _root_.Go.OpenSpec.ofChange s with cond := some uptoSmall }

/-- 'laws.FnSplits', WHERE WHAT IT READS IS OF BULK AT MOST 1048576: true; the input reads as it did. -/
def fnSplitsUptoRow : OpenClaim := { program := "ytjnkdbgebkajoaa", sum := "25af8d108f68fe222f792eb1c72997182b09b8ea7a40cf1d01ea7948fdfbd1cb", func := "loop.example/fulltrees/laws.FnSplits", spec := "fnSplits", unfollowed := true, recurses := true, apart := false, narrowed := true }
def FnSplitsUptoSaid : Prop := fnSplitsUptoRow.holds Try.pinned (OpenSpec.upto fnSplitsSpec)

/-- 'laws.FnRange', WHERE WHAT IT READS IS OF BULK AT MOST 1048576: true; the input reads as it did. -/
def fnRangeUptoRow : OpenClaim := { program := "ytjnkdbgebkajoaa", sum := "25af8d108f68fe222f792eb1c72997182b09b8ea7a40cf1d01ea7948fdfbd1cb", func := "loop.example/fulltrees/laws.FnRange", spec := "fnRange", unfollowed := true, recurses := true, apart := false, narrowed := true }
def FnRangeUptoSaid : Prop := fnRangeUptoRow.holds Try.pinned (OpenSpec.upto fnRangeSpec)

/-- 'laws.FnRangeParts', WHERE WHAT IT READS IS OF BULK AT MOST 1048576: true; the input reads as it did. -/
def fnRangePartsUptoRow : OpenClaim := { program := "ytjnkdbgebkajoaa", sum := "25af8d108f68fe222f792eb1c72997182b09b8ea7a40cf1d01ea7948fdfbd1cb", func := "loop.example/fulltrees/laws.FnRangeParts", spec := "fnRangeParts", unfollowed := true, recurses := true, apart := false, narrowed := true }
def FnRangePartsUptoSaid : Prop := fnRangePartsUptoRow.holds Try.pinned (OpenSpec.upto fnRangePartsSpec)

/-- 'laws.FnInsert', WHERE WHAT IT READS IS OF BULK AT MOST 1048576: true; the input reads as it did. -/
def fnInsertUptoRow : OpenClaim := { program := "ytjnkdbgebkajoaa", sum := "25af8d108f68fe222f792eb1c72997182b09b8ea7a40cf1d01ea7948fdfbd1cb", func := "loop.example/fulltrees/laws.FnInsert", spec := "fnInsert", unfollowed := true, recurses := true, apart := false, narrowed := true }
def FnInsertUptoSaid : Prop := fnInsertUptoRow.holds Try.pinned (OpenSpec.upto fnInsertSpec)

/-- 'laws.FnPath', WHERE WHAT IT READS IS OF BULK AT MOST 1048576: true; the input reads as it did. -/
def fnPathUptoRow : OpenClaim := { program := "ytjnkdbgebkajoaa", sum := "25af8d108f68fe222f792eb1c72997182b09b8ea7a40cf1d01ea7948fdfbd1cb", func := "loop.example/fulltrees/laws.FnPath", spec := "fnPath", unfollowed := true, recurses := true, apart := false, narrowed := true }
def FnPathUptoSaid : Prop := fnPathUptoRow.holds Try.pinned (OpenSpec.upto fnPathSpec)

/-- 'laws.FnVisits', WHERE WHAT IT READS IS OF BULK AT MOST 1048576: true; the input reads as it did. -/
def fnVisitsUptoRow : OpenClaim := { program := "ytjnkdbgebkajoaa", sum := "25af8d108f68fe222f792eb1c72997182b09b8ea7a40cf1d01ea7948fdfbd1cb", func := "loop.example/fulltrees/laws.FnVisits", spec := "fnVisits", unfollowed := true, recurses := true, apart := false, narrowed := true }
def FnVisitsUptoSaid : Prop := fnVisitsUptoRow.holds Try.pinned (OpenSpec.upto fnVisitsSpec)

/-- 'laws.FnExactLevelOf', WHERE WHAT IT READS IS OF BULK AT MOST 1048576: true; the input reads as it did. -/
def fnExactLevelOfUptoRow : OpenClaim := { program := "ytjnkdbgebkajoaa", sum := "25af8d108f68fe222f792eb1c72997182b09b8ea7a40cf1d01ea7948fdfbd1cb", func := "loop.example/fulltrees/laws.FnExactLevelOf", spec := "fnExactLevelOf", unfollowed := true, recurses := true, loops := true, apart := false, narrowed := true }
def FnExactLevelOfUptoSaid : Prop := fnExactLevelOfUptoRow.holds Try.pinned (OpenSpec.upto fnExactLevelOfSpec)

/-- 'laws.FnLevels', WHERE WHAT IT READS IS OF BULK AT MOST 1048576: true; the input reads as it did. -/
def fnLevelsUptoRow : OpenClaim := { program := "ytjnkdbgebkajoaa", sum := "25af8d108f68fe222f792eb1c72997182b09b8ea7a40cf1d01ea7948fdfbd1cb", func := "loop.example/fulltrees/laws.FnLevels", spec := "fnLevels", unfollowed := true, recurses := true, apart := false, narrowed := true }
def FnLevelsUptoSaid : Prop := fnLevelsUptoRow.holds Try.pinned (OpenSpec.upto fnLevelsSpec)

/-- 'laws.FnLevelNodes', WHERE WHAT IT READS IS OF BULK AT MOST 1048576: true; the input reads as it did. -/
def fnLevelNodesUptoRow : OpenClaim := { program := "ytjnkdbgebkajoaa", sum := "25af8d108f68fe222f792eb1c72997182b09b8ea7a40cf1d01ea7948fdfbd1cb", func := "loop.example/fulltrees/laws.FnLevelNodes", spec := "fnLevelNodes", unfollowed := true, recurses := true, apart := false, narrowed := true }
def FnLevelNodesUptoSaid : Prop := fnLevelNodesUptoRow.holds Try.pinned (OpenSpec.upto fnLevelNodesSpec)

/-- 'laws.FnExactDeleteKey', WHERE WHAT IT READS IS OF BULK AT MOST 1048576: true; the input reads as it did. -/
def fnExactDeleteKeyUptoRow : OpenClaim := { program := "ytjnkdbgebkajoaa", sum := "25af8d108f68fe222f792eb1c72997182b09b8ea7a40cf1d01ea7948fdfbd1cb", func := "loop.example/fulltrees/laws.FnExactDeleteKey", spec := "fnExactDeleteKey", unfollowed := true, recurses := true, loops := true, apart := false, narrowed := true }
def FnExactDeleteKeyUptoSaid : Prop := fnExactDeleteKeyUptoRow.holds Try.pinned (OpenSpec.upto fnExactDeleteKeySpec)

/-- 'laws.FnDeletedRank', WHERE WHAT IT READS IS OF BULK AT MOST 1048576: true; the input reads as it did. -/
def fnDeletedRankUptoRow : OpenClaim := { program := "ytjnkdbgebkajoaa", sum := "25af8d108f68fe222f792eb1c72997182b09b8ea7a40cf1d01ea7948fdfbd1cb", func := "loop.example/fulltrees/laws.FnDeletedRank", spec := "fnDeletedRank", unfollowed := true, recurses := true, apart := false, narrowed := true }
def FnDeletedRankUptoSaid : Prop := fnDeletedRankUptoRow.holds Try.pinned (OpenSpec.upto fnDeletedRankSpec)

end Rows
end Go.Proofs.Ytjnkdbgebkajoaa
