/-
  NARROWER THAN 'FOR EVERY INPUT', by the rows' own cells (each row's printed sentence says how): FnExactTreeValid: loops · FnExactKeysOf: loops · FnExactDepthOf: loops · FnExactCountNodes: loops · FnExactSameTree: loops · FnExactLevelOf: loops · FnExactFullNodes: loops · FnExactHasKey: loops · FnExactPathOf: loops · FnExactRankOf: loops · FnExactKeyAt: loops · FnExactNextKey: loops · FnExactPrevKey: loops · FnExactRangeOf: loops · FnExactVisitsOf: loops · FnExactRangeVisits: loops.
  DERIVED. THE GIVEN ROWS OF THIS SEAT. 16 by the template 'for every input the law returns true; each argument reads behind the call as it read before'; 0 by the template 'total and deterministic' (their statements: YtggmmfibkcdjbaaTotals.lean).
  GIVEN WITH THE SEED: the statements are not yours to turn. If you find one false, say at which input.
  Laid BY PROGRAM, IN A SANDBOX (cutbox-rows.mjs): the forced cells as the released guide's own fill.sh prints them over the translation 7dab48743827bc1f… (all of the seat's roots in one cut). By AI agents, Wed Nov 11 2026. No macro, syntax, notation, axiom, sorry.
-/
import Derived.Test.YtggmmfibkcdjbaaChecked
import GoSem.Claim
import GoSem.ClaimJoined
import GoSem.ClaimMapViews
import Derived.JoinedTies
import Derived.KernelRfl
namespace Go.Proofs.Ytggmmfibkcdjbaa
/- THE CELL 'sum', in the pinned program and in every row, IS THE sha256 OF THE DUMP (.gsa) THAT YtggmmfibkcdjbaaProg.lean LOADS. Nothing in Lean hashes anything: it is a label: what it is worth is what the hold of that sum in a sandbox is worth. -/
noncomputable def Try.pinned : Pinned := { name := "ytggmmfibkcdjbaa", sum := "7dab48743827bc1f9e96a2b01af1cdd9ce2af92f116ef3f42e9283d187789a5e", checked := Try.checked }
namespace Rows
def none {H : Type} : Left H := { results := [], args := [] }

/-- 'laws.FnExactTreeValid': WHATEVER THE INPUT: true; the input reads as it did. -/
def fnExactTreeValidSpec : ChangeSpec := { name := "fnExactTreeValid", fn := fun _ => fun
  | [d1, d2] => { results := [.lit (.bool true)], args := [d1, d2] }
  | _ => none }
def fnExactTreeValidRow : OpenClaim := { program := "ytggmmfibkcdjbaa", sum := "7dab48743827bc1f9e96a2b01af1cdd9ce2af92f116ef3f42e9283d187789a5e", func := "loop.example/fulltrees/laws.FnExactTreeValid", spec := "fnExactTreeValid", unfollowed := true, recurses := true, loops := true, apart := false }
def FnExactTreeValidSaid : Prop := fnExactTreeValidRow.holds Try.pinned (OpenSpec.ofChange fnExactTreeValidSpec)

/-- ITS FALSE NEIGHBOUR: 'it returns false'. Refute it at one input. -/
def fnExactTreeValidWrong : ChangeSpec := { name := "fnExactTreeValid", fn := fun _ => fun
  | [d1, d2] => { results := [.lit (.bool false)], args := [d1, d2] }
  | _ => none }
def FnExactTreeValidWrongFalsely : Prop := fnExactTreeValidRow.holds Try.pinned (OpenSpec.ofChange fnExactTreeValidWrong)

/-- 'laws.FnExactKeysOf': WHATEVER THE INPUT: true; the input reads as it did. -/
def fnExactKeysOfSpec : ChangeSpec := { name := "fnExactKeysOf", fn := fun _ => fun
  | [d] => { results := [.lit (.bool true)], args := [d] }
  | _ => none }
def fnExactKeysOfRow : OpenClaim := { program := "ytggmmfibkcdjbaa", sum := "7dab48743827bc1f9e96a2b01af1cdd9ce2af92f116ef3f42e9283d187789a5e", func := "loop.example/fulltrees/laws.FnExactKeysOf", spec := "fnExactKeysOf", unfollowed := true, recurses := true, loops := true, apart := false }
def FnExactKeysOfSaid : Prop := fnExactKeysOfRow.holds Try.pinned (OpenSpec.ofChange fnExactKeysOfSpec)

/-- ITS FALSE NEIGHBOUR: 'it returns false'. Refute it at one input. -/
def fnExactKeysOfWrong : ChangeSpec := { name := "fnExactKeysOf", fn := fun _ => fun
  | [d] => { results := [.lit (.bool false)], args := [d] }
  | _ => none }
def FnExactKeysOfWrongFalsely : Prop := fnExactKeysOfRow.holds Try.pinned (OpenSpec.ofChange fnExactKeysOfWrong)

/-- 'laws.FnExactDepthOf': WHATEVER THE INPUT: true; the input reads as it did. -/
def fnExactDepthOfSpec : ChangeSpec := { name := "fnExactDepthOf", fn := fun _ => fun
  | [d] => { results := [.lit (.bool true)], args := [d] }
  | _ => none }
def fnExactDepthOfRow : OpenClaim := { program := "ytggmmfibkcdjbaa", sum := "7dab48743827bc1f9e96a2b01af1cdd9ce2af92f116ef3f42e9283d187789a5e", func := "loop.example/fulltrees/laws.FnExactDepthOf", spec := "fnExactDepthOf", unfollowed := true, recurses := true, loops := true, apart := false }
def FnExactDepthOfSaid : Prop := fnExactDepthOfRow.holds Try.pinned (OpenSpec.ofChange fnExactDepthOfSpec)

/-- ITS FALSE NEIGHBOUR: 'it returns false'. Refute it at one input. -/
def fnExactDepthOfWrong : ChangeSpec := { name := "fnExactDepthOf", fn := fun _ => fun
  | [d] => { results := [.lit (.bool false)], args := [d] }
  | _ => none }
def FnExactDepthOfWrongFalsely : Prop := fnExactDepthOfRow.holds Try.pinned (OpenSpec.ofChange fnExactDepthOfWrong)

/-- 'laws.FnExactCountNodes': WHATEVER THE INPUT: true; the input reads as it did. -/
def fnExactCountNodesSpec : ChangeSpec := { name := "fnExactCountNodes", fn := fun _ => fun
  | [d] => { results := [.lit (.bool true)], args := [d] }
  | _ => none }
def fnExactCountNodesRow : OpenClaim := { program := "ytggmmfibkcdjbaa", sum := "7dab48743827bc1f9e96a2b01af1cdd9ce2af92f116ef3f42e9283d187789a5e", func := "loop.example/fulltrees/laws.FnExactCountNodes", spec := "fnExactCountNodes", unfollowed := true, recurses := true, loops := true, apart := false }
def FnExactCountNodesSaid : Prop := fnExactCountNodesRow.holds Try.pinned (OpenSpec.ofChange fnExactCountNodesSpec)

/-- ITS FALSE NEIGHBOUR: 'it returns false'. Refute it at one input. -/
def fnExactCountNodesWrong : ChangeSpec := { name := "fnExactCountNodes", fn := fun _ => fun
  | [d] => { results := [.lit (.bool false)], args := [d] }
  | _ => none }
def FnExactCountNodesWrongFalsely : Prop := fnExactCountNodesRow.holds Try.pinned (OpenSpec.ofChange fnExactCountNodesWrong)

/-- 'laws.FnExactSameTree': WHATEVER THE INPUT: true; the input reads as it did. -/
def fnExactSameTreeSpec : ChangeSpec := { name := "fnExactSameTree", fn := fun _ => fun
  | [d1, d2] => { results := [.lit (.bool true)], args := [d1, d2] }
  | _ => none }
def fnExactSameTreeRow : OpenClaim := { program := "ytggmmfibkcdjbaa", sum := "7dab48743827bc1f9e96a2b01af1cdd9ce2af92f116ef3f42e9283d187789a5e", func := "loop.example/fulltrees/laws.FnExactSameTree", spec := "fnExactSameTree", recurses := true, loops := true, apart := false }
def FnExactSameTreeSaid : Prop := fnExactSameTreeRow.holds Try.pinned (OpenSpec.ofChange fnExactSameTreeSpec)

/-- ITS FALSE NEIGHBOUR: 'it returns false'. Refute it at one input. -/
def fnExactSameTreeWrong : ChangeSpec := { name := "fnExactSameTree", fn := fun _ => fun
  | [d1, d2] => { results := [.lit (.bool false)], args := [d1, d2] }
  | _ => none }
def FnExactSameTreeWrongFalsely : Prop := fnExactSameTreeRow.holds Try.pinned (OpenSpec.ofChange fnExactSameTreeWrong)

/-- 'laws.FnExactLevelOf': WHATEVER THE INPUT: true; the input reads as it did. -/
def fnExactLevelOfSpec : ChangeSpec := { name := "fnExactLevelOf", fn := fun _ => fun
  | [d1, d2] => { results := [.lit (.bool true)], args := [d1, d2] }
  | _ => none }
def fnExactLevelOfRow : OpenClaim := { program := "ytggmmfibkcdjbaa", sum := "7dab48743827bc1f9e96a2b01af1cdd9ce2af92f116ef3f42e9283d187789a5e", func := "loop.example/fulltrees/laws.FnExactLevelOf", spec := "fnExactLevelOf", unfollowed := true, recurses := true, loops := true, apart := false }
def FnExactLevelOfSaid : Prop := fnExactLevelOfRow.holds Try.pinned (OpenSpec.ofChange fnExactLevelOfSpec)

/-- ITS FALSE NEIGHBOUR: 'it returns false'. Refute it at one input. -/
def fnExactLevelOfWrong : ChangeSpec := { name := "fnExactLevelOf", fn := fun _ => fun
  | [d1, d2] => { results := [.lit (.bool false)], args := [d1, d2] }
  | _ => none }
def FnExactLevelOfWrongFalsely : Prop := fnExactLevelOfRow.holds Try.pinned (OpenSpec.ofChange fnExactLevelOfWrong)

/-- 'laws.FnExactFullNodes': WHATEVER THE INPUT: true; the input reads as it did. -/
def fnExactFullNodesSpec : ChangeSpec := { name := "fnExactFullNodes", fn := fun _ => fun
  | [d1, d2] => { results := [.lit (.bool true)], args := [d1, d2] }
  | _ => none }
def fnExactFullNodesRow : OpenClaim := { program := "ytggmmfibkcdjbaa", sum := "7dab48743827bc1f9e96a2b01af1cdd9ce2af92f116ef3f42e9283d187789a5e", func := "loop.example/fulltrees/laws.FnExactFullNodes", spec := "fnExactFullNodes", unfollowed := true, recurses := true, loops := true, apart := false }
def FnExactFullNodesSaid : Prop := fnExactFullNodesRow.holds Try.pinned (OpenSpec.ofChange fnExactFullNodesSpec)

/-- ITS FALSE NEIGHBOUR: 'it returns false'. Refute it at one input. -/
def fnExactFullNodesWrong : ChangeSpec := { name := "fnExactFullNodes", fn := fun _ => fun
  | [d1, d2] => { results := [.lit (.bool false)], args := [d1, d2] }
  | _ => none }
def FnExactFullNodesWrongFalsely : Prop := fnExactFullNodesRow.holds Try.pinned (OpenSpec.ofChange fnExactFullNodesWrong)

/-- 'laws.FnExactHasKey': WHATEVER THE INPUT: true; the input reads as it did. -/
def fnExactHasKeySpec : ChangeSpec := { name := "fnExactHasKey", fn := fun _ => fun
  | [d1, d2] => { results := [.lit (.bool true)], args := [d1, d2] }
  | _ => none }
def fnExactHasKeyRow : OpenClaim := { program := "ytggmmfibkcdjbaa", sum := "7dab48743827bc1f9e96a2b01af1cdd9ce2af92f116ef3f42e9283d187789a5e", func := "loop.example/fulltrees/laws.FnExactHasKey", spec := "fnExactHasKey", unfollowed := true, recurses := true, loops := true, apart := false }
def FnExactHasKeySaid : Prop := fnExactHasKeyRow.holds Try.pinned (OpenSpec.ofChange fnExactHasKeySpec)

/-- ITS FALSE NEIGHBOUR: 'it returns false'. Refute it at one input. -/
def fnExactHasKeyWrong : ChangeSpec := { name := "fnExactHasKey", fn := fun _ => fun
  | [d1, d2] => { results := [.lit (.bool false)], args := [d1, d2] }
  | _ => none }
def FnExactHasKeyWrongFalsely : Prop := fnExactHasKeyRow.holds Try.pinned (OpenSpec.ofChange fnExactHasKeyWrong)

/-- 'laws.FnExactPathOf': WHATEVER THE INPUT: true; the input reads as it did. -/
def fnExactPathOfSpec : ChangeSpec := { name := "fnExactPathOf", fn := fun _ => fun
  | [d1, d2] => { results := [.lit (.bool true)], args := [d1, d2] }
  | _ => none }
def fnExactPathOfRow : OpenClaim := { program := "ytggmmfibkcdjbaa", sum := "7dab48743827bc1f9e96a2b01af1cdd9ce2af92f116ef3f42e9283d187789a5e", func := "loop.example/fulltrees/laws.FnExactPathOf", spec := "fnExactPathOf", unfollowed := true, recurses := true, loops := true, apart := false }
def FnExactPathOfSaid : Prop := fnExactPathOfRow.holds Try.pinned (OpenSpec.ofChange fnExactPathOfSpec)

/-- ITS FALSE NEIGHBOUR: 'it returns false'. Refute it at one input. -/
def fnExactPathOfWrong : ChangeSpec := { name := "fnExactPathOf", fn := fun _ => fun
  | [d1, d2] => { results := [.lit (.bool false)], args := [d1, d2] }
  | _ => none }
def FnExactPathOfWrongFalsely : Prop := fnExactPathOfRow.holds Try.pinned (OpenSpec.ofChange fnExactPathOfWrong)

/-- 'laws.FnExactRankOf': WHATEVER THE INPUT: true; the input reads as it did. -/
def fnExactRankOfSpec : ChangeSpec := { name := "fnExactRankOf", fn := fun _ => fun
  | [d1, d2] => { results := [.lit (.bool true)], args := [d1, d2] }
  | _ => none }
def fnExactRankOfRow : OpenClaim := { program := "ytggmmfibkcdjbaa", sum := "7dab48743827bc1f9e96a2b01af1cdd9ce2af92f116ef3f42e9283d187789a5e", func := "loop.example/fulltrees/laws.FnExactRankOf", spec := "fnExactRankOf", unfollowed := true, recurses := true, loops := true, apart := false }
def FnExactRankOfSaid : Prop := fnExactRankOfRow.holds Try.pinned (OpenSpec.ofChange fnExactRankOfSpec)

/-- ITS FALSE NEIGHBOUR: 'it returns false'. Refute it at one input. -/
def fnExactRankOfWrong : ChangeSpec := { name := "fnExactRankOf", fn := fun _ => fun
  | [d1, d2] => { results := [.lit (.bool false)], args := [d1, d2] }
  | _ => none }
def FnExactRankOfWrongFalsely : Prop := fnExactRankOfRow.holds Try.pinned (OpenSpec.ofChange fnExactRankOfWrong)

/-- 'laws.FnExactKeyAt': WHATEVER THE INPUT: true; the input reads as it did. -/
def fnExactKeyAtSpec : ChangeSpec := { name := "fnExactKeyAt", fn := fun _ => fun
  | [d1, d2] => { results := [.lit (.bool true)], args := [d1, d2] }
  | _ => none }
def fnExactKeyAtRow : OpenClaim := { program := "ytggmmfibkcdjbaa", sum := "7dab48743827bc1f9e96a2b01af1cdd9ce2af92f116ef3f42e9283d187789a5e", func := "loop.example/fulltrees/laws.FnExactKeyAt", spec := "fnExactKeyAt", unfollowed := true, recurses := true, loops := true, apart := false }
def FnExactKeyAtSaid : Prop := fnExactKeyAtRow.holds Try.pinned (OpenSpec.ofChange fnExactKeyAtSpec)

/-- ITS FALSE NEIGHBOUR: 'it returns false'. Refute it at one input. -/
def fnExactKeyAtWrong : ChangeSpec := { name := "fnExactKeyAt", fn := fun _ => fun
  | [d1, d2] => { results := [.lit (.bool false)], args := [d1, d2] }
  | _ => none }
def FnExactKeyAtWrongFalsely : Prop := fnExactKeyAtRow.holds Try.pinned (OpenSpec.ofChange fnExactKeyAtWrong)

/-- 'laws.FnExactNextKey': WHATEVER THE INPUT: true; the input reads as it did. -/
def fnExactNextKeySpec : ChangeSpec := { name := "fnExactNextKey", fn := fun _ => fun
  | [d1, d2] => { results := [.lit (.bool true)], args := [d1, d2] }
  | _ => none }
def fnExactNextKeyRow : OpenClaim := { program := "ytggmmfibkcdjbaa", sum := "7dab48743827bc1f9e96a2b01af1cdd9ce2af92f116ef3f42e9283d187789a5e", func := "loop.example/fulltrees/laws.FnExactNextKey", spec := "fnExactNextKey", unfollowed := true, recurses := true, loops := true, apart := false }
def FnExactNextKeySaid : Prop := fnExactNextKeyRow.holds Try.pinned (OpenSpec.ofChange fnExactNextKeySpec)

/-- ITS FALSE NEIGHBOUR: 'it returns false'. Refute it at one input. -/
def fnExactNextKeyWrong : ChangeSpec := { name := "fnExactNextKey", fn := fun _ => fun
  | [d1, d2] => { results := [.lit (.bool false)], args := [d1, d2] }
  | _ => none }
def FnExactNextKeyWrongFalsely : Prop := fnExactNextKeyRow.holds Try.pinned (OpenSpec.ofChange fnExactNextKeyWrong)

/-- 'laws.FnExactPrevKey': WHATEVER THE INPUT: true; the input reads as it did. -/
def fnExactPrevKeySpec : ChangeSpec := { name := "fnExactPrevKey", fn := fun _ => fun
  | [d1, d2] => { results := [.lit (.bool true)], args := [d1, d2] }
  | _ => none }
def fnExactPrevKeyRow : OpenClaim := { program := "ytggmmfibkcdjbaa", sum := "7dab48743827bc1f9e96a2b01af1cdd9ce2af92f116ef3f42e9283d187789a5e", func := "loop.example/fulltrees/laws.FnExactPrevKey", spec := "fnExactPrevKey", unfollowed := true, recurses := true, loops := true, apart := false }
def FnExactPrevKeySaid : Prop := fnExactPrevKeyRow.holds Try.pinned (OpenSpec.ofChange fnExactPrevKeySpec)

/-- ITS FALSE NEIGHBOUR: 'it returns false'. Refute it at one input. -/
def fnExactPrevKeyWrong : ChangeSpec := { name := "fnExactPrevKey", fn := fun _ => fun
  | [d1, d2] => { results := [.lit (.bool false)], args := [d1, d2] }
  | _ => none }
def FnExactPrevKeyWrongFalsely : Prop := fnExactPrevKeyRow.holds Try.pinned (OpenSpec.ofChange fnExactPrevKeyWrong)

/-- 'laws.FnExactRangeOf': WHATEVER THE INPUT: true; the input reads as it did. -/
def fnExactRangeOfSpec : ChangeSpec := { name := "fnExactRangeOf", fn := fun _ => fun
  | [d1, d2, d3] => { results := [.lit (.bool true)], args := [d1, d2, d3] }
  | _ => none }
def fnExactRangeOfRow : OpenClaim := { program := "ytggmmfibkcdjbaa", sum := "7dab48743827bc1f9e96a2b01af1cdd9ce2af92f116ef3f42e9283d187789a5e", func := "loop.example/fulltrees/laws.FnExactRangeOf", spec := "fnExactRangeOf", unfollowed := true, recurses := true, loops := true, apart := false }
def FnExactRangeOfSaid : Prop := fnExactRangeOfRow.holds Try.pinned (OpenSpec.ofChange fnExactRangeOfSpec)

/-- ITS FALSE NEIGHBOUR: 'it returns false'. Refute it at one input. -/
def fnExactRangeOfWrong : ChangeSpec := { name := "fnExactRangeOf", fn := fun _ => fun
  | [d1, d2, d3] => { results := [.lit (.bool false)], args := [d1, d2, d3] }
  | _ => none }
def FnExactRangeOfWrongFalsely : Prop := fnExactRangeOfRow.holds Try.pinned (OpenSpec.ofChange fnExactRangeOfWrong)

/-- 'laws.FnExactVisitsOf': WHATEVER THE INPUT: true; the input reads as it did. -/
def fnExactVisitsOfSpec : ChangeSpec := { name := "fnExactVisitsOf", fn := fun _ => fun
  | [d1, d2] => { results := [.lit (.bool true)], args := [d1, d2] }
  | _ => none }
def fnExactVisitsOfRow : OpenClaim := { program := "ytggmmfibkcdjbaa", sum := "7dab48743827bc1f9e96a2b01af1cdd9ce2af92f116ef3f42e9283d187789a5e", func := "loop.example/fulltrees/laws.FnExactVisitsOf", spec := "fnExactVisitsOf", unfollowed := true, recurses := true, loops := true, apart := false }
def FnExactVisitsOfSaid : Prop := fnExactVisitsOfRow.holds Try.pinned (OpenSpec.ofChange fnExactVisitsOfSpec)

/-- ITS FALSE NEIGHBOUR: 'it returns false'. Refute it at one input. -/
def fnExactVisitsOfWrong : ChangeSpec := { name := "fnExactVisitsOf", fn := fun _ => fun
  | [d1, d2] => { results := [.lit (.bool false)], args := [d1, d2] }
  | _ => none }
def FnExactVisitsOfWrongFalsely : Prop := fnExactVisitsOfRow.holds Try.pinned (OpenSpec.ofChange fnExactVisitsOfWrong)

/-- 'laws.FnExactRangeVisits': WHATEVER THE INPUT: true; the input reads as it did. -/
def fnExactRangeVisitsSpec : ChangeSpec := { name := "fnExactRangeVisits", fn := fun _ => fun
  | [d1, d2, d3] => { results := [.lit (.bool true)], args := [d1, d2, d3] }
  | _ => none }
def fnExactRangeVisitsRow : OpenClaim := { program := "ytggmmfibkcdjbaa", sum := "7dab48743827bc1f9e96a2b01af1cdd9ce2af92f116ef3f42e9283d187789a5e", func := "loop.example/fulltrees/laws.FnExactRangeVisits", spec := "fnExactRangeVisits", unfollowed := true, recurses := true, loops := true, apart := false }
def FnExactRangeVisitsSaid : Prop := fnExactRangeVisitsRow.holds Try.pinned (OpenSpec.ofChange fnExactRangeVisitsSpec)

/-- ITS FALSE NEIGHBOUR: 'it returns false'. Refute it at one input. -/
def fnExactRangeVisitsWrong : ChangeSpec := { name := "fnExactRangeVisits", fn := fun _ => fun
  | [d1, d2, d3] => { results := [.lit (.bool false)], args := [d1, d2, d3] }
  | _ => none }
def FnExactRangeVisitsWrongFalsely : Prop := fnExactRangeVisitsRow.holds Try.pinned (OpenSpec.ofChange fnExactRangeVisitsWrong)

/- THE SECOND FORM. 'bulk': how many values and letters a reading holds, each counted each time it is reached (what is shared counts as often as it is met; a slice's spare places count too). A statement '..UptoSaid' is the law's where the arguments, and the package variables that the reading takes, are together of bulk at most 1048576: NARROWER than '..Said'. Prove '..Said' where nothing that the law and all that it calls make is longer than what came in: it says more and counts as full. Else prove '..UptoSaid'. A law counts once. -/
mutual
def uptoBulk {H : Type} : DataW H → Nat
  | .lit (.string bytes) => bytes.length + 1
  | .lit _ => 1
  | .nil => 1
  | .ptr d => uptoBulk d + 1
  | .slice elems spare => uptoBulkAll elems + uptoBulkAll spare + 1
  | .agg parts => uptoBulkAll parts + 1
  | .iface _ d => uptoBulk d + 1
  | .map entries => uptoBulkEntries entries + 1
  | .held _ => 1
def uptoBulkAll {H : Type} : List (DataW H) → Nat
  | [] => 0
  | d :: r => uptoBulk d + uptoBulkAll r
def uptoBulkEntries {H : Type} : List (Lit × DataW H) → Nat
  | [] => 0
  | x :: r => uptoBulkEntry x + uptoBulkEntries r
def uptoBulkEntry {H : Type} : Lit × DataW H → Nat
  | (.string bytes, d) => bytes.length + uptoBulk d + 1
  | (_, d) => uptoBulk d + 1
 end
def uptoSmall : (H : Type) → List (DataW H) → Bool := fun _ ds => decide (uptoBulkAll ds ≤ 1048576)
def OpenSpec.upto (s : _root_.Go.ChangeSpec) : _root_.Go.OpenSpec := { _root_.Go.OpenSpec.ofChange s with cond := some uptoSmall }

/-- 'laws.FnExactTreeValid', WHERE WHAT IT READS IS OF BULK AT MOST 1048576: true; the input reads as it did. -/
def fnExactTreeValidUptoRow : OpenClaim := { program := "ytggmmfibkcdjbaa", sum := "7dab48743827bc1f9e96a2b01af1cdd9ce2af92f116ef3f42e9283d187789a5e", func := "loop.example/fulltrees/laws.FnExactTreeValid", spec := "fnExactTreeValid", unfollowed := true, recurses := true, loops := true, apart := false, narrowed := true }
def FnExactTreeValidUptoSaid : Prop := fnExactTreeValidUptoRow.holds Try.pinned (OpenSpec.upto fnExactTreeValidSpec)

/-- 'laws.FnExactKeysOf', WHERE WHAT IT READS IS OF BULK AT MOST 1048576: true; the input reads as it did. -/
def fnExactKeysOfUptoRow : OpenClaim := { program := "ytggmmfibkcdjbaa", sum := "7dab48743827bc1f9e96a2b01af1cdd9ce2af92f116ef3f42e9283d187789a5e", func := "loop.example/fulltrees/laws.FnExactKeysOf", spec := "fnExactKeysOf", unfollowed := true, recurses := true, loops := true, apart := false, narrowed := true }
def FnExactKeysOfUptoSaid : Prop := fnExactKeysOfUptoRow.holds Try.pinned (OpenSpec.upto fnExactKeysOfSpec)

/-- 'laws.FnExactDepthOf', WHERE WHAT IT READS IS OF BULK AT MOST 1048576: true; the input reads as it did. -/
def fnExactDepthOfUptoRow : OpenClaim := { program := "ytggmmfibkcdjbaa", sum := "7dab48743827bc1f9e96a2b01af1cdd9ce2af92f116ef3f42e9283d187789a5e", func := "loop.example/fulltrees/laws.FnExactDepthOf", spec := "fnExactDepthOf", unfollowed := true, recurses := true, loops := true, apart := false, narrowed := true }
def FnExactDepthOfUptoSaid : Prop := fnExactDepthOfUptoRow.holds Try.pinned (OpenSpec.upto fnExactDepthOfSpec)

/-- 'laws.FnExactCountNodes', WHERE WHAT IT READS IS OF BULK AT MOST 1048576: true; the input reads as it did. -/
def fnExactCountNodesUptoRow : OpenClaim := { program := "ytggmmfibkcdjbaa", sum := "7dab48743827bc1f9e96a2b01af1cdd9ce2af92f116ef3f42e9283d187789a5e", func := "loop.example/fulltrees/laws.FnExactCountNodes", spec := "fnExactCountNodes", unfollowed := true, recurses := true, loops := true, apart := false, narrowed := true }
def FnExactCountNodesUptoSaid : Prop := fnExactCountNodesUptoRow.holds Try.pinned (OpenSpec.upto fnExactCountNodesSpec)

/-- 'laws.FnExactSameTree', WHERE WHAT IT READS IS OF BULK AT MOST 1048576: true; the input reads as it did. -/
def fnExactSameTreeUptoRow : OpenClaim := { program := "ytggmmfibkcdjbaa", sum := "7dab48743827bc1f9e96a2b01af1cdd9ce2af92f116ef3f42e9283d187789a5e", func := "loop.example/fulltrees/laws.FnExactSameTree", spec := "fnExactSameTree", recurses := true, loops := true, apart := false, narrowed := true }
def FnExactSameTreeUptoSaid : Prop := fnExactSameTreeUptoRow.holds Try.pinned (OpenSpec.upto fnExactSameTreeSpec)

/-- 'laws.FnExactLevelOf', WHERE WHAT IT READS IS OF BULK AT MOST 1048576: true; the input reads as it did. -/
def fnExactLevelOfUptoRow : OpenClaim := { program := "ytggmmfibkcdjbaa", sum := "7dab48743827bc1f9e96a2b01af1cdd9ce2af92f116ef3f42e9283d187789a5e", func := "loop.example/fulltrees/laws.FnExactLevelOf", spec := "fnExactLevelOf", unfollowed := true, recurses := true, loops := true, apart := false, narrowed := true }
def FnExactLevelOfUptoSaid : Prop := fnExactLevelOfUptoRow.holds Try.pinned (OpenSpec.upto fnExactLevelOfSpec)

/-- 'laws.FnExactFullNodes', WHERE WHAT IT READS IS OF BULK AT MOST 1048576: true; the input reads as it did. -/
def fnExactFullNodesUptoRow : OpenClaim := { program := "ytggmmfibkcdjbaa", sum := "7dab48743827bc1f9e96a2b01af1cdd9ce2af92f116ef3f42e9283d187789a5e", func := "loop.example/fulltrees/laws.FnExactFullNodes", spec := "fnExactFullNodes", unfollowed := true, recurses := true, loops := true, apart := false, narrowed := true }
def FnExactFullNodesUptoSaid : Prop := fnExactFullNodesUptoRow.holds Try.pinned (OpenSpec.upto fnExactFullNodesSpec)

/-- 'laws.FnExactHasKey', WHERE WHAT IT READS IS OF BULK AT MOST 1048576: true; the input reads as it did. -/
def fnExactHasKeyUptoRow : OpenClaim := { program := "ytggmmfibkcdjbaa", sum := "7dab48743827bc1f9e96a2b01af1cdd9ce2af92f116ef3f42e9283d187789a5e", func := "loop.example/fulltrees/laws.FnExactHasKey", spec := "fnExactHasKey", unfollowed := true, recurses := true, loops := true, apart := false, narrowed := true }
def FnExactHasKeyUptoSaid : Prop := fnExactHasKeyUptoRow.holds Try.pinned (OpenSpec.upto fnExactHasKeySpec)

/-- 'laws.FnExactPathOf', WHERE WHAT IT READS IS OF BULK AT MOST 1048576: true; the input reads as it did. -/
def fnExactPathOfUptoRow : OpenClaim := { program := "ytggmmfibkcdjbaa", sum := "7dab48743827bc1f9e96a2b01af1cdd9ce2af92f116ef3f42e9283d187789a5e", func := "loop.example/fulltrees/laws.FnExactPathOf", spec := "fnExactPathOf", unfollowed := true, recurses := true, loops := true, apart := false, narrowed := true }
def FnExactPathOfUptoSaid : Prop := fnExactPathOfUptoRow.holds Try.pinned (OpenSpec.upto fnExactPathOfSpec)

/-- 'laws.FnExactRankOf', WHERE WHAT IT READS IS OF BULK AT MOST 1048576: true; the input reads as it did. -/
def fnExactRankOfUptoRow : OpenClaim := { program := "ytggmmfibkcdjbaa", sum := "7dab48743827bc1f9e96a2b01af1cdd9ce2af92f116ef3f42e9283d187789a5e", func := "loop.example/fulltrees/laws.FnExactRankOf", spec := "fnExactRankOf", unfollowed := true, recurses := true, loops := true, apart := false, narrowed := true }
def FnExactRankOfUptoSaid : Prop := fnExactRankOfUptoRow.holds Try.pinned (OpenSpec.upto fnExactRankOfSpec)

/-- 'laws.FnExactKeyAt', WHERE WHAT IT READS IS OF BULK AT MOST 1048576: true; the input reads as it did. -/
def fnExactKeyAtUptoRow : OpenClaim := { program := "ytggmmfibkcdjbaa", sum := "7dab48743827bc1f9e96a2b01af1cdd9ce2af92f116ef3f42e9283d187789a5e", func := "loop.example/fulltrees/laws.FnExactKeyAt", spec := "fnExactKeyAt", unfollowed := true, recurses := true, loops := true, apart := false, narrowed := true }
def FnExactKeyAtUptoSaid : Prop := fnExactKeyAtUptoRow.holds Try.pinned (OpenSpec.upto fnExactKeyAtSpec)

/-- 'laws.FnExactNextKey', WHERE WHAT IT READS IS OF BULK AT MOST 1048576: true; the input reads as it did. -/
def fnExactNextKeyUptoRow : OpenClaim := { program := "ytggmmfibkcdjbaa", sum := "7dab48743827bc1f9e96a2b01af1cdd9ce2af92f116ef3f42e9283d187789a5e", func := "loop.example/fulltrees/laws.FnExactNextKey", spec := "fnExactNextKey", unfollowed := true, recurses := true, loops := true, apart := false, narrowed := true }
def FnExactNextKeyUptoSaid : Prop := fnExactNextKeyUptoRow.holds Try.pinned (OpenSpec.upto fnExactNextKeySpec)

/-- 'laws.FnExactPrevKey', WHERE WHAT IT READS IS OF BULK AT MOST 1048576: true; the input reads as it did. -/
def fnExactPrevKeyUptoRow : OpenClaim := { program := "ytggmmfibkcdjbaa", sum := "7dab48743827bc1f9e96a2b01af1cdd9ce2af92f116ef3f42e9283d187789a5e", func := "loop.example/fulltrees/laws.FnExactPrevKey", spec := "fnExactPrevKey", unfollowed := true, recurses := true, loops := true, apart := false, narrowed := true }
def FnExactPrevKeyUptoSaid : Prop := fnExactPrevKeyUptoRow.holds Try.pinned (OpenSpec.upto fnExactPrevKeySpec)

/-- 'laws.FnExactRangeOf', WHERE WHAT IT READS IS OF BULK AT MOST 1048576: true; the input reads as it did. -/
def fnExactRangeOfUptoRow : OpenClaim := { program := "ytggmmfibkcdjbaa", sum := "7dab48743827bc1f9e96a2b01af1cdd9ce2af92f116ef3f42e9283d187789a5e", func := "loop.example/fulltrees/laws.FnExactRangeOf", spec := "fnExactRangeOf", unfollowed := true, recurses := true, loops := true, apart := false, narrowed := true }
def FnExactRangeOfUptoSaid : Prop := fnExactRangeOfUptoRow.holds Try.pinned (OpenSpec.upto fnExactRangeOfSpec)

/-- 'laws.FnExactVisitsOf', WHERE WHAT IT READS IS OF BULK AT MOST 1048576: true; the input reads as it did. -/
def fnExactVisitsOfUptoRow : OpenClaim := { program := "ytggmmfibkcdjbaa", sum := "7dab48743827bc1f9e96a2b01af1cdd9ce2af92f116ef3f42e9283d187789a5e", func := "loop.example/fulltrees/laws.FnExactVisitsOf", spec := "fnExactVisitsOf", unfollowed := true, recurses := true, loops := true, apart := false, narrowed := true }
def FnExactVisitsOfUptoSaid : Prop := fnExactVisitsOfUptoRow.holds Try.pinned (OpenSpec.upto fnExactVisitsOfSpec)

/-- 'laws.FnExactRangeVisits', WHERE WHAT IT READS IS OF BULK AT MOST 1048576: true; the input reads as it did. -/
def fnExactRangeVisitsUptoRow : OpenClaim := { program := "ytggmmfibkcdjbaa", sum := "7dab48743827bc1f9e96a2b01af1cdd9ce2af92f116ef3f42e9283d187789a5e", func := "loop.example/fulltrees/laws.FnExactRangeVisits", spec := "fnExactRangeVisits", unfollowed := true, recurses := true, loops := true, apart := false, narrowed := true }
def FnExactRangeVisitsUptoSaid : Prop := fnExactRangeVisitsUptoRow.holds Try.pinned (OpenSpec.upto fnExactRangeVisitsSpec)

end Rows
end Go.Proofs.Ytggmmfibkcdjbaa
