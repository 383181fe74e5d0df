/-
  NARROWER THAN 'FOR EVERY INPUT', by the rows' own cells (each row's printed sentence says how): FnExactHasKey: loops · FnExactPathOf: loops · FnExactInsertKey: loops · FnExactSplitsBy: loops · FnExactGrowsBy: loops · FnExactDeleteKey: loops · FnExactDeleteAll: loops · FnExactRepairsBy: loops · FnExactRepairsOf: loops · FnExactStandIn: loops.
  DERIVED. THE GIVEN ROWS OF THIS SEAT. 12 by the template 'for every input the law returns true; each argument reads behind the call as it read before'; 0 by the template 'total and deterministic' (their statements: YteelnkhajlmnfaaTotals.lean).
  GIVEN WITH THE SEED: the statements are not yours to turn. If you find one false, say at which input.
  Laid BY PROGRAM, IN A SANDBOX (cutbox-rows.mjs): the forced cells as the released guide's own fill.sh prints them over the translation d9329addc1b88601… (all of the seat's roots in one cut). By AI agents, Wed Nov 11 2026. No macro, syntax, notation, axiom, sorry.
-/
import Derived.Test.YteelnkhajlmnfaaChecked
import GoSem.Claim
import GoSem.ClaimJoined
import GoSem.ClaimMapViews
import Derived.JoinedTies
import Derived.KernelRfl
namespace Go.Proofs.Yteelnkhajlmnfaa
/- THE CELL 'sum', in the pinned program and in every row, IS THE sha256 OF THE DUMP (.gsa) THAT YteelnkhajlmnfaaProg.lean LOADS. Nothing in Lean hashes anything: it is a label: what it is worth is what the hold of that sum in a sandbox is worth. -/
noncomputable def Try.pinned : Pinned := { name := "yteelnkhajlmnfaa", sum := "d9329addc1b88601bffd88bdff600d500dfd84e774cff03ceb532a7de88f536b", checked := Try.checked }
namespace Rows
def none {H : Type} : Left H := { results := [], args := [] }

/-- 'laws.FnExactHasKey': WHATEVER THE INPUT: true; the input reads as it did. -/
def fnExactHasKeySpec : ChangeSpec := { name := "fnExactHasKey", fn := fun _ => fun
  | [d1, d2] => { results := [.lit (.bool true)], args := [d1, d2] }
  | _ => none }
def fnExactHasKeyRow : OpenClaim := { program := "yteelnkhajlmnfaa", sum := "d9329addc1b88601bffd88bdff600d500dfd84e774cff03ceb532a7de88f536b", func := "loop.example/fulltrees/laws.FnExactHasKey", spec := "fnExactHasKey", unfollowed := true, recurses := true, loops := true, apart := false }
def FnExactHasKeySaid : Prop := fnExactHasKeyRow.holds Try.pinned (OpenSpec.ofChange fnExactHasKeySpec)

/-- ITS FALSE NEIGHBOUR: 'it returns false'. Refute it at one input. -/
def fnExactHasKeyWrong : ChangeSpec := { name := "fnExactHasKey", fn := fun _ => fun
  | [d1, d2] => { results := [.lit (.bool false)], args := [d1, d2] }
  | _ => none }
def FnExactHasKeyWrongFalsely : Prop := fnExactHasKeyRow.holds Try.pinned (OpenSpec.ofChange fnExactHasKeyWrong)

/-- 'laws.FnExactPathOf': WHATEVER THE INPUT: true; the input reads as it did. -/
def fnExactPathOfSpec : ChangeSpec := { name := "fnExactPathOf", fn := fun _ => fun
  | [d1, d2] => { results := [.lit (.bool true)], args := [d1, d2] }
  | _ => none }
def fnExactPathOfRow : OpenClaim := { program := "yteelnkhajlmnfaa", sum := "d9329addc1b88601bffd88bdff600d500dfd84e774cff03ceb532a7de88f536b", func := "loop.example/fulltrees/laws.FnExactPathOf", spec := "fnExactPathOf", unfollowed := true, recurses := true, loops := true, apart := false }
def FnExactPathOfSaid : Prop := fnExactPathOfRow.holds Try.pinned (OpenSpec.ofChange fnExactPathOfSpec)

/-- ITS FALSE NEIGHBOUR: 'it returns false'. Refute it at one input. -/
def fnExactPathOfWrong : ChangeSpec := { name := "fnExactPathOf", fn := fun _ => fun
  | [d1, d2] => { results := [.lit (.bool false)], args := [d1, d2] }
  | _ => none }
def FnExactPathOfWrongFalsely : Prop := fnExactPathOfRow.holds Try.pinned (OpenSpec.ofChange fnExactPathOfWrong)

/-- 'laws.FnExactInsertKey': WHATEVER THE INPUT: true; the input reads as it did. -/
def fnExactInsertKeySpec : ChangeSpec := { name := "fnExactInsertKey", fn := fun _ => fun
  | [d1, d2, d3] => { results := [.lit (.bool true)], args := [d1, d2, d3] }
  | _ => none }
def fnExactInsertKeyRow : OpenClaim := { program := "yteelnkhajlmnfaa", sum := "d9329addc1b88601bffd88bdff600d500dfd84e774cff03ceb532a7de88f536b", func := "loop.example/fulltrees/laws.FnExactInsertKey", spec := "fnExactInsertKey", unfollowed := true, recurses := true, loops := true, apart := false }
def FnExactInsertKeySaid : Prop := fnExactInsertKeyRow.holds Try.pinned (OpenSpec.ofChange fnExactInsertKeySpec)

/-- ITS FALSE NEIGHBOUR: 'it returns false'. Refute it at one input. -/
def fnExactInsertKeyWrong : ChangeSpec := { name := "fnExactInsertKey", fn := fun _ => fun
  | [d1, d2, d3] => { results := [.lit (.bool false)], args := [d1, d2, d3] }
  | _ => none }
def FnExactInsertKeyWrongFalsely : Prop := fnExactInsertKeyRow.holds Try.pinned (OpenSpec.ofChange fnExactInsertKeyWrong)

/-- 'laws.FnExactInsertAll': WHATEVER THE INPUT: true; the input reads as it did. -/
def fnExactInsertAllSpec : ChangeSpec := { name := "fnExactInsertAll", fn := fun _ => fun
  | [d1, d2] => { results := [.lit (.bool true)], args := [d1, d2] }
  | _ => none }
def fnExactInsertAllRow : OpenClaim := { program := "yteelnkhajlmnfaa", sum := "d9329addc1b88601bffd88bdff600d500dfd84e774cff03ceb532a7de88f536b", func := "loop.example/fulltrees/laws.FnExactInsertAll", spec := "fnExactInsertAll", unfollowed := true, recurses := true, apart := false }
def FnExactInsertAllSaid : Prop := fnExactInsertAllRow.holds Try.pinned (OpenSpec.ofChange fnExactInsertAllSpec)

/-- ITS FALSE NEIGHBOUR: 'it returns false'. Refute it at one input. -/
def fnExactInsertAllWrong : ChangeSpec := { name := "fnExactInsertAll", fn := fun _ => fun
  | [d1, d2] => { results := [.lit (.bool false)], args := [d1, d2] }
  | _ => none }
def FnExactInsertAllWrongFalsely : Prop := fnExactInsertAllRow.holds Try.pinned (OpenSpec.ofChange fnExactInsertAllWrong)

/-- 'laws.FnExactSplitsBy': WHATEVER THE INPUT: true; the input reads as it did. -/
def fnExactSplitsBySpec : ChangeSpec := { name := "fnExactSplitsBy", fn := fun _ => fun
  | [d1, d2, d3] => { results := [.lit (.bool true)], args := [d1, d2, d3] }
  | _ => none }
def fnExactSplitsByRow : OpenClaim := { program := "yteelnkhajlmnfaa", sum := "d9329addc1b88601bffd88bdff600d500dfd84e774cff03ceb532a7de88f536b", func := "loop.example/fulltrees/laws.FnExactSplitsBy", spec := "fnExactSplitsBy", unfollowed := true, recurses := true, loops := true, apart := false }
def FnExactSplitsBySaid : Prop := fnExactSplitsByRow.holds Try.pinned (OpenSpec.ofChange fnExactSplitsBySpec)

/-- ITS FALSE NEIGHBOUR: 'it returns false'. Refute it at one input. -/
def fnExactSplitsByWrong : ChangeSpec := { name := "fnExactSplitsBy", fn := fun _ => fun
  | [d1, d2, d3] => { results := [.lit (.bool false)], args := [d1, d2, d3] }
  | _ => none }
def FnExactSplitsByWrongFalsely : Prop := fnExactSplitsByRow.holds Try.pinned (OpenSpec.ofChange fnExactSplitsByWrong)

/-- 'laws.FnExactGrowsBy': WHATEVER THE INPUT: true; the input reads as it did. -/
def fnExactGrowsBySpec : ChangeSpec := { name := "fnExactGrowsBy", fn := fun _ => fun
  | [d1, d2, d3] => { results := [.lit (.bool true)], args := [d1, d2, d3] }
  | _ => none }
def fnExactGrowsByRow : OpenClaim := { program := "yteelnkhajlmnfaa", sum := "d9329addc1b88601bffd88bdff600d500dfd84e774cff03ceb532a7de88f536b", func := "loop.example/fulltrees/laws.FnExactGrowsBy", spec := "fnExactGrowsBy", unfollowed := true, recurses := true, loops := true, apart := false }
def FnExactGrowsBySaid : Prop := fnExactGrowsByRow.holds Try.pinned (OpenSpec.ofChange fnExactGrowsBySpec)

/-- ITS FALSE NEIGHBOUR: 'it returns false'. Refute it at one input. -/
def fnExactGrowsByWrong : ChangeSpec := { name := "fnExactGrowsBy", fn := fun _ => fun
  | [d1, d2, d3] => { results := [.lit (.bool false)], args := [d1, d2, d3] }
  | _ => none }
def FnExactGrowsByWrongFalsely : Prop := fnExactGrowsByRow.holds Try.pinned (OpenSpec.ofChange fnExactGrowsByWrong)

/-- 'laws.FnExactSplitsOf': WHATEVER THE INPUT: true; the input reads as it did. -/
def fnExactSplitsOfSpec : ChangeSpec := { name := "fnExactSplitsOf", fn := fun _ => fun
  | [d1, d2] => { results := [.lit (.bool true)], args := [d1, d2] }
  | _ => none }
def fnExactSplitsOfRow : OpenClaim := { program := "yteelnkhajlmnfaa", sum := "d9329addc1b88601bffd88bdff600d500dfd84e774cff03ceb532a7de88f536b", func := "loop.example/fulltrees/laws.FnExactSplitsOf", spec := "fnExactSplitsOf", unfollowed := true, recurses := true, apart := false }
def FnExactSplitsOfSaid : Prop := fnExactSplitsOfRow.holds Try.pinned (OpenSpec.ofChange fnExactSplitsOfSpec)

/-- ITS FALSE NEIGHBOUR: 'it returns false'. Refute it at one input. -/
def fnExactSplitsOfWrong : ChangeSpec := { name := "fnExactSplitsOf", fn := fun _ => fun
  | [d1, d2] => { results := [.lit (.bool false)], args := [d1, d2] }
  | _ => none }
def FnExactSplitsOfWrongFalsely : Prop := fnExactSplitsOfRow.holds Try.pinned (OpenSpec.ofChange fnExactSplitsOfWrong)

/-- 'laws.FnExactDeleteKey': WHATEVER THE INPUT: true; the input reads as it did. -/
def fnExactDeleteKeySpec : ChangeSpec := { name := "fnExactDeleteKey", fn := fun _ => fun
  | [d1, d2, d3] => { results := [.lit (.bool true)], args := [d1, d2, d3] }
  | _ => none }
def fnExactDeleteKeyRow : OpenClaim := { program := "yteelnkhajlmnfaa", sum := "d9329addc1b88601bffd88bdff600d500dfd84e774cff03ceb532a7de88f536b", func := "loop.example/fulltrees/laws.FnExactDeleteKey", spec := "fnExactDeleteKey", unfollowed := true, recurses := true, loops := true, apart := false }
def FnExactDeleteKeySaid : Prop := fnExactDeleteKeyRow.holds Try.pinned (OpenSpec.ofChange fnExactDeleteKeySpec)

/-- ITS FALSE NEIGHBOUR: 'it returns false'. Refute it at one input. -/
def fnExactDeleteKeyWrong : ChangeSpec := { name := "fnExactDeleteKey", fn := fun _ => fun
  | [d1, d2, d3] => { results := [.lit (.bool false)], args := [d1, d2, d3] }
  | _ => none }
def FnExactDeleteKeyWrongFalsely : Prop := fnExactDeleteKeyRow.holds Try.pinned (OpenSpec.ofChange fnExactDeleteKeyWrong)

/-- 'laws.FnExactDeleteAll': WHATEVER THE INPUT: true; the input reads as it did. -/
def fnExactDeleteAllSpec : ChangeSpec := { name := "fnExactDeleteAll", fn := fun _ => fun
  | [d1, d2, d3] => { results := [.lit (.bool true)], args := [d1, d2, d3] }
  | _ => none }
def fnExactDeleteAllRow : OpenClaim := { program := "yteelnkhajlmnfaa", sum := "d9329addc1b88601bffd88bdff600d500dfd84e774cff03ceb532a7de88f536b", func := "loop.example/fulltrees/laws.FnExactDeleteAll", spec := "fnExactDeleteAll", unfollowed := true, recurses := true, loops := true, apart := false }
def FnExactDeleteAllSaid : Prop := fnExactDeleteAllRow.holds Try.pinned (OpenSpec.ofChange fnExactDeleteAllSpec)

/-- ITS FALSE NEIGHBOUR: 'it returns false'. Refute it at one input. -/
def fnExactDeleteAllWrong : ChangeSpec := { name := "fnExactDeleteAll", fn := fun _ => fun
  | [d1, d2, d3] => { results := [.lit (.bool false)], args := [d1, d2, d3] }
  | _ => none }
def FnExactDeleteAllWrongFalsely : Prop := fnExactDeleteAllRow.holds Try.pinned (OpenSpec.ofChange fnExactDeleteAllWrong)

/-- 'laws.FnExactRepairsBy': WHATEVER THE INPUT: true; the input reads as it did. -/
def fnExactRepairsBySpec : ChangeSpec := { name := "fnExactRepairsBy", fn := fun _ => fun
  | [d1, d2, d3] => { results := [.lit (.bool true)], args := [d1, d2, d3] }
  | _ => none }
def fnExactRepairsByRow : OpenClaim := { program := "yteelnkhajlmnfaa", sum := "d9329addc1b88601bffd88bdff600d500dfd84e774cff03ceb532a7de88f536b", func := "loop.example/fulltrees/laws.FnExactRepairsBy", spec := "fnExactRepairsBy", unfollowed := true, recurses := true, loops := true, apart := false }
def FnExactRepairsBySaid : Prop := fnExactRepairsByRow.holds Try.pinned (OpenSpec.ofChange fnExactRepairsBySpec)

/-- ITS FALSE NEIGHBOUR: 'it returns false'. Refute it at one input. -/
def fnExactRepairsByWrong : ChangeSpec := { name := "fnExactRepairsBy", fn := fun _ => fun
  | [d1, d2, d3] => { results := [.lit (.bool false)], args := [d1, d2, d3] }
  | _ => none }
def FnExactRepairsByWrongFalsely : Prop := fnExactRepairsByRow.holds Try.pinned (OpenSpec.ofChange fnExactRepairsByWrong)

/-- 'laws.FnExactRepairsOf': WHATEVER THE INPUT: true; the input reads as it did. -/
def fnExactRepairsOfSpec : ChangeSpec := { name := "fnExactRepairsOf", fn := fun _ => fun
  | [d1, d2, d3] => { results := [.lit (.bool true)], args := [d1, d2, d3] }
  | _ => none }
def fnExactRepairsOfRow : OpenClaim := { program := "yteelnkhajlmnfaa", sum := "d9329addc1b88601bffd88bdff600d500dfd84e774cff03ceb532a7de88f536b", func := "loop.example/fulltrees/laws.FnExactRepairsOf", spec := "fnExactRepairsOf", unfollowed := true, recurses := true, loops := true, apart := false }
def FnExactRepairsOfSaid : Prop := fnExactRepairsOfRow.holds Try.pinned (OpenSpec.ofChange fnExactRepairsOfSpec)

/-- ITS FALSE NEIGHBOUR: 'it returns false'. Refute it at one input. -/
def fnExactRepairsOfWrong : ChangeSpec := { name := "fnExactRepairsOf", fn := fun _ => fun
  | [d1, d2, d3] => { results := [.lit (.bool false)], args := [d1, d2, d3] }
  | _ => none }
def FnExactRepairsOfWrongFalsely : Prop := fnExactRepairsOfRow.holds Try.pinned (OpenSpec.ofChange fnExactRepairsOfWrong)

/-- 'laws.FnExactStandIn': WHATEVER THE INPUT: true; the input reads as it did. -/
def fnExactStandInSpec : ChangeSpec := { name := "fnExactStandIn", fn := fun _ => fun
  | [d1, d2, d3] => { results := [.lit (.bool true)], args := [d1, d2, d3] }
  | _ => none }
def fnExactStandInRow : OpenClaim := { program := "yteelnkhajlmnfaa", sum := "d9329addc1b88601bffd88bdff600d500dfd84e774cff03ceb532a7de88f536b", func := "loop.example/fulltrees/laws.FnExactStandIn", spec := "fnExactStandIn", unfollowed := true, recurses := true, loops := true, apart := false }
def FnExactStandInSaid : Prop := fnExactStandInRow.holds Try.pinned (OpenSpec.ofChange fnExactStandInSpec)

/-- ITS FALSE NEIGHBOUR: 'it returns false'. Refute it at one input. -/
def fnExactStandInWrong : ChangeSpec := { name := "fnExactStandIn", fn := fun _ => fun
  | [d1, d2, d3] => { results := [.lit (.bool false)], args := [d1, d2, d3] }
  | _ => none }
def FnExactStandInWrongFalsely : Prop := fnExactStandInRow.holds Try.pinned (OpenSpec.ofChange fnExactStandInWrong)

/- THE SECOND FORM. 'bulk': how many values and letters a reading holds, each counted each time it is reached (what is shared counts as often as it is met; a slice's spare places count too). A statement '..UptoSaid' is the law's where the arguments, and the package variables that the reading takes, are together of bulk at most 1048576: NARROWER than '..Said'. Prove '..Said' where nothing that the law and all that it calls make is longer than what came in: it says more and counts as full. Else prove '..UptoSaid'. A law counts once. -/
mutual
def uptoBulk {H : Type} : DataW H → Nat
  | .lit (.string bytes) => bytes.length + 1
  | .lit _ => 1
  | .nil => 1
  | .ptr d => uptoBulk d + 1
  | .slice elems spare => uptoBulkAll elems + uptoBulkAll spare + 1
  | .agg parts => uptoBulkAll parts + 1
  | .iface _ d => uptoBulk d + 1
  | .map entries => uptoBulkEntries entries + 1
  | .held _ => 1
def uptoBulkAll {H : Type} : List (DataW H) → Nat
  | [] => 0
  | d :: r => uptoBulk d + uptoBulkAll r
def uptoBulkEntries {H : Type} : List (Lit × DataW H) → Nat
  | [] => 0
  | x :: r => uptoBulkEntry x + uptoBulkEntries r
def uptoBulkEntry {H : Type} : Lit × DataW H → Nat
  | (.string bytes, d) => bytes.length + uptoBulk d + 1
  | (_, d) => uptoBulk d + 1
 end
def uptoSmall : (H : Type) → List (DataW H) → Bool := fun _ ds => decide (uptoBulkAll ds ≤ 1048576)
def OpenSpec.upto (s : _root_.Go.ChangeSpec) : _root_.Go.OpenSpec := { _root_.Go.OpenSpec.ofChange s with cond := some uptoSmall }

/-- 'laws.FnExactHasKey', WHERE WHAT IT READS IS OF BULK AT MOST 1048576: true; the input reads as it did. -/
def fnExactHasKeyUptoRow : OpenClaim := { program := "yteelnkhajlmnfaa", sum := "d9329addc1b88601bffd88bdff600d500dfd84e774cff03ceb532a7de88f536b", func := "loop.example/fulltrees/laws.FnExactHasKey", spec := "fnExactHasKey", unfollowed := true, recurses := true, loops := true, apart := false, narrowed := true }
def FnExactHasKeyUptoSaid : Prop := fnExactHasKeyUptoRow.holds Try.pinned (OpenSpec.upto fnExactHasKeySpec)

/-- 'laws.FnExactPathOf', WHERE WHAT IT READS IS OF BULK AT MOST 1048576: true; the input reads as it did. -/
def fnExactPathOfUptoRow : OpenClaim := { program := "yteelnkhajlmnfaa", sum := "d9329addc1b88601bffd88bdff600d500dfd84e774cff03ceb532a7de88f536b", func := "loop.example/fulltrees/laws.FnExactPathOf", spec := "fnExactPathOf", unfollowed := true, recurses := true, loops := true, apart := false, narrowed := true }
def FnExactPathOfUptoSaid : Prop := fnExactPathOfUptoRow.holds Try.pinned (OpenSpec.upto fnExactPathOfSpec)

/-- 'laws.FnExactInsertKey', WHERE WHAT IT READS IS OF BULK AT MOST 1048576: true; the input reads as it did. -/
def fnExactInsertKeyUptoRow : OpenClaim := { program := "yteelnkhajlmnfaa", sum := "d9329addc1b88601bffd88bdff600d500dfd84e774cff03ceb532a7de88f536b", func := "loop.example/fulltrees/laws.FnExactInsertKey", spec := "fnExactInsertKey", unfollowed := true, recurses := true, loops := true, apart := false, narrowed := true }
def FnExactInsertKeyUptoSaid : Prop := fnExactInsertKeyUptoRow.holds Try.pinned (OpenSpec.upto fnExactInsertKeySpec)

/-- 'laws.FnExactInsertAll', WHERE WHAT IT READS IS OF BULK AT MOST 1048576: true; the input reads as it did. -/
def fnExactInsertAllUptoRow : OpenClaim := { program := "yteelnkhajlmnfaa", sum := "d9329addc1b88601bffd88bdff600d500dfd84e774cff03ceb532a7de88f536b", func := "loop.example/fulltrees/laws.FnExactInsertAll", spec := "fnExactInsertAll", unfollowed := true, recurses := true, apart := false, narrowed := true }
def FnExactInsertAllUptoSaid : Prop := fnExactInsertAllUptoRow.holds Try.pinned (OpenSpec.upto fnExactInsertAllSpec)

/-- 'laws.FnExactSplitsBy', WHERE WHAT IT READS IS OF BULK AT MOST 1048576: true; the input reads as it did. -/
def fnExactSplitsByUptoRow : OpenClaim := { program := "yteelnkhajlmnfaa", sum := "d9329addc1b88601bffd88bdff600d500dfd84e774cff03ceb532a7de88f536b", func := "loop.example/fulltrees/laws.FnExactSplitsBy", spec := "fnExactSplitsBy", unfollowed := true, recurses := true, loops := true, apart := false, narrowed := true }
def FnExactSplitsByUptoSaid : Prop := fnExactSplitsByUptoRow.holds Try.pinned (OpenSpec.upto fnExactSplitsBySpec)

/-- 'laws.FnExactGrowsBy', WHERE WHAT IT READS IS OF BULK AT MOST 1048576: true; the input reads as it did. -/
def fnExactGrowsByUptoRow : OpenClaim := { program := "yteelnkhajlmnfaa", sum := "d9329addc1b88601bffd88bdff600d500dfd84e774cff03ceb532a7de88f536b", func := "loop.example/fulltrees/laws.FnExactGrowsBy", spec := "fnExactGrowsBy", unfollowed := true, recurses := true, loops := true, apart := false, narrowed := true }
def FnExactGrowsByUptoSaid : Prop := fnExactGrowsByUptoRow.holds Try.pinned (OpenSpec.upto fnExactGrowsBySpec)

/-- 'laws.FnExactSplitsOf', WHERE WHAT IT READS IS OF BULK AT MOST 1048576: true; the input reads as it did. -/
def fnExactSplitsOfUptoRow : OpenClaim := { program := "yteelnkhajlmnfaa", sum := "d9329addc1b88601bffd88bdff600d500dfd84e774cff03ceb532a7de88f536b", func := "loop.example/fulltrees/laws.FnExactSplitsOf", spec := "fnExactSplitsOf", unfollowed := true, recurses := true, apart := false, narrowed := true }
def FnExactSplitsOfUptoSaid : Prop := fnExactSplitsOfUptoRow.holds Try.pinned (OpenSpec.upto fnExactSplitsOfSpec)

/-- 'laws.FnExactDeleteKey', WHERE WHAT IT READS IS OF BULK AT MOST 1048576: true; the input reads as it did. -/
def fnExactDeleteKeyUptoRow : OpenClaim := { program := "yteelnkhajlmnfaa", sum := "d9329addc1b88601bffd88bdff600d500dfd84e774cff03ceb532a7de88f536b", func := "loop.example/fulltrees/laws.FnExactDeleteKey", spec := "fnExactDeleteKey", unfollowed := true, recurses := true, loops := true, apart := false, narrowed := true }
def FnExactDeleteKeyUptoSaid : Prop := fnExactDeleteKeyUptoRow.holds Try.pinned (OpenSpec.upto fnExactDeleteKeySpec)

/-- 'laws.FnExactDeleteAll', WHERE WHAT IT READS IS OF BULK AT MOST 1048576: true; the input reads as it did. -/
def fnExactDeleteAllUptoRow : OpenClaim := { program := "yteelnkhajlmnfaa", sum := "d9329addc1b88601bffd88bdff600d500dfd84e774cff03ceb532a7de88f536b", func := "loop.example/fulltrees/laws.FnExactDeleteAll", spec := "fnExactDeleteAll", unfollowed := true, recurses := true, loops := true, apart := false, narrowed := true }
def FnExactDeleteAllUptoSaid : Prop := fnExactDeleteAllUptoRow.holds Try.pinned (OpenSpec.upto fnExactDeleteAllSpec)

/-- 'laws.FnExactRepairsBy', WHERE WHAT IT READS IS OF BULK AT MOST 1048576: true; the input reads as it did. -/
def fnExactRepairsByUptoRow : OpenClaim := { program := "yteelnkhajlmnfaa", sum := "d9329addc1b88601bffd88bdff600d500dfd84e774cff03ceb532a7de88f536b", func := "loop.example/fulltrees/laws.FnExactRepairsBy", spec := "fnExactRepairsBy", unfollowed := true, recurses := true, loops := true, apart := false, narrowed := true }
def FnExactRepairsByUptoSaid : Prop := fnExactRepairsByUptoRow.holds Try.pinned (OpenSpec.upto fnExactRepairsBySpec)

/-- 'laws.FnExactRepairsOf', WHERE WHAT IT READS IS OF BULK AT MOST 1048576: true; the input reads as it did. -/
def fnExactRepairsOfUptoRow : OpenClaim := { program := "yteelnkhajlmnfaa", sum := "d9329addc1b88601bffd88bdff600d500dfd84e774cff03ceb532a7de88f536b", func := "loop.example/fulltrees/laws.FnExactRepairsOf", spec := "fnExactRepairsOf", unfollowed := true, recurses := true, loops := true, apart := false, narrowed := true }
def FnExactRepairsOfUptoSaid : Prop := fnExactRepairsOfUptoRow.holds Try.pinned (OpenSpec.upto fnExactRepairsOfSpec)

/-- 'laws.FnExactStandIn', WHERE WHAT IT READS IS OF BULK AT MOST 1048576: true; the input reads as it did. -/
def fnExactStandInUptoRow : OpenClaim := { program := "yteelnkhajlmnfaa", sum := "d9329addc1b88601bffd88bdff600d500dfd84e774cff03ceb532a7de88f536b", func := "loop.example/fulltrees/laws.FnExactStandIn", spec := "fnExactStandIn", unfollowed := true, recurses := true, loops := true, apart := false, narrowed := true }
def FnExactStandInUptoSaid : Prop := fnExactStandInUptoRow.holds Try.pinned (OpenSpec.upto fnExactStandInSpec)

end Rows
end Go.Proofs.Yteelnkhajlmnfaa
