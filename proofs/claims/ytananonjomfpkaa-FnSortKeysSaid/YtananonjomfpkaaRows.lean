/-
  NARROWER THAN 'FOR EVERY INPUT', by the rows' own cells (each row's printed sentence says how): FnExactPopLeast: loops · FnExactDeleteAll: loops · FnExactRepairsOf: loops.
  DERIVED. THE GIVEN ROWS OF THIS SEAT. 12 by the template 'for every input the law returns true; each argument reads behind the call as it read before'; 0 by the template 'total and deterministic' (their statements: YtananonjomfpkaaTotals.lean).
  GIVEN WITH THE SEED: the statements are not yours to turn. If you find one false, say at which input.
  Laid BY PROGRAM, IN A SANDBOX (cutbox-rows.mjs): the forced cells as the released guide's own fill.sh prints them over the translation f100a730f551c2e6… (all of the seat's roots in one cut). By AI agents, Wed Nov 11 2026. No macro, syntax, notation, axiom, sorry.
-/
import Derived.Test.YtananonjomfpkaaChecked
import GoSem.Claim
import GoSem.ClaimJoined
import GoSem.ClaimMapViews
import Derived.JoinedTies
import Derived.KernelRfl
namespace Go.Proofs.Ytananonjomfpkaa
/- THE CELL 'sum', in the pinned program and in every row, IS THE sha256 OF THE DUMP (.gsa) THAT YtananonjomfpkaaProg.lean LOADS. Nothing in Lean hashes anything: it is a label: what it is worth is what the hold of that sum in a sandbox is worth. -/
noncomputable def Try.pinned : Pinned := { name := "ytananonjomfpkaa", sum := "f100a730f551c2e6949ef0260f272c86c27d2a03c37d8c1f36afc0334cf8931b", checked := Try.checked }
namespace Rows
def none {H : Type} : Left H := { results := [], args := [] }

/-- 'laws.FnDelete': WHATEVER THE INPUT: true; the input reads as it did. -/
def fnDeleteSpec : ChangeSpec := { name := "fnDelete", fn := fun _ => fun
  | [d] => { results := [.lit (.bool true)], args := [d] }
  | _ => none }
def fnDeleteRow : OpenClaim := { program := "ytananonjomfpkaa", sum := "f100a730f551c2e6949ef0260f272c86c27d2a03c37d8c1f36afc0334cf8931b", func := "loop.example/fulltrees/laws.FnDelete", spec := "fnDelete", unfollowed := true, recurses := true, apart := false }
def FnDeleteSaid : Prop := fnDeleteRow.holds Try.pinned (OpenSpec.ofChange fnDeleteSpec)

/-- ITS FALSE NEIGHBOUR: 'it returns false'. Refute it at one input. -/
def fnDeleteWrong : ChangeSpec := { name := "fnDelete", fn := fun _ => fun
  | [d] => { results := [.lit (.bool false)], args := [d] }
  | _ => none }
def FnDeleteWrongFalsely : Prop := fnDeleteRow.holds Try.pinned (OpenSpec.ofChange fnDeleteWrong)

/-- 'laws.FnPop': WHATEVER THE INPUT: true; the input reads as it did. -/
def fnPopSpec : ChangeSpec := { name := "fnPop", fn := fun _ => fun
  | [d] => { results := [.lit (.bool true)], args := [d] }
  | _ => none }
def fnPopRow : OpenClaim := { program := "ytananonjomfpkaa", sum := "f100a730f551c2e6949ef0260f272c86c27d2a03c37d8c1f36afc0334cf8931b", func := "loop.example/fulltrees/laws.FnPop", spec := "fnPop", unfollowed := true, recurses := true, apart := false }
def FnPopSaid : Prop := fnPopRow.holds Try.pinned (OpenSpec.ofChange fnPopSpec)

/-- ITS FALSE NEIGHBOUR: 'it returns false'. Refute it at one input. -/
def fnPopWrong : ChangeSpec := { name := "fnPop", fn := fun _ => fun
  | [d] => { results := [.lit (.bool false)], args := [d] }
  | _ => none }
def FnPopWrongFalsely : Prop := fnPopRow.holds Try.pinned (OpenSpec.ofChange fnPopWrong)

/-- 'laws.FnExactPopLeast': WHATEVER THE INPUT: true; the input reads as it did. -/
def fnExactPopLeastSpec : ChangeSpec := { name := "fnExactPopLeast", fn := fun _ => fun
  | [d1, d2] => { results := [.lit (.bool true)], args := [d1, d2] }
  | _ => none }
def fnExactPopLeastRow : OpenClaim := { program := "ytananonjomfpkaa", sum := "f100a730f551c2e6949ef0260f272c86c27d2a03c37d8c1f36afc0334cf8931b", func := "loop.example/fulltrees/laws.FnExactPopLeast", spec := "fnExactPopLeast", unfollowed := true, recurses := true, loops := true, apart := false }
def FnExactPopLeastSaid : Prop := fnExactPopLeastRow.holds Try.pinned (OpenSpec.ofChange fnExactPopLeastSpec)

/-- ITS FALSE NEIGHBOUR: 'it returns false'. Refute it at one input. -/
def fnExactPopLeastWrong : ChangeSpec := { name := "fnExactPopLeast", fn := fun _ => fun
  | [d1, d2] => { results := [.lit (.bool false)], args := [d1, d2] }
  | _ => none }
def FnExactPopLeastWrongFalsely : Prop := fnExactPopLeastRow.holds Try.pinned (OpenSpec.ofChange fnExactPopLeastWrong)

/-- 'laws.FnExactDeleteAll': WHATEVER THE INPUT: true; the input reads as it did. -/
def fnExactDeleteAllSpec : ChangeSpec := { name := "fnExactDeleteAll", fn := fun _ => fun
  | [d1, d2, d3] => { results := [.lit (.bool true)], args := [d1, d2, d3] }
  | _ => none }
def fnExactDeleteAllRow : OpenClaim := { program := "ytananonjomfpkaa", sum := "f100a730f551c2e6949ef0260f272c86c27d2a03c37d8c1f36afc0334cf8931b", func := "loop.example/fulltrees/laws.FnExactDeleteAll", spec := "fnExactDeleteAll", unfollowed := true, recurses := true, loops := true, apart := false }
def FnExactDeleteAllSaid : Prop := fnExactDeleteAllRow.holds Try.pinned (OpenSpec.ofChange fnExactDeleteAllSpec)

/-- ITS FALSE NEIGHBOUR: 'it returns false'. Refute it at one input. -/
def fnExactDeleteAllWrong : ChangeSpec := { name := "fnExactDeleteAll", fn := fun _ => fun
  | [d1, d2, d3] => { results := [.lit (.bool false)], args := [d1, d2, d3] }
  | _ => none }
def FnExactDeleteAllWrongFalsely : Prop := fnExactDeleteAllRow.holds Try.pinned (OpenSpec.ofChange fnExactDeleteAllWrong)

/-- 'laws.FnExactRepairsOf': WHATEVER THE INPUT: true; the input reads as it did. -/
def fnExactRepairsOfSpec : ChangeSpec := { name := "fnExactRepairsOf", fn := fun _ => fun
  | [d1, d2, d3] => { results := [.lit (.bool true)], args := [d1, d2, d3] }
  | _ => none }
def fnExactRepairsOfRow : OpenClaim := { program := "ytananonjomfpkaa", sum := "f100a730f551c2e6949ef0260f272c86c27d2a03c37d8c1f36afc0334cf8931b", func := "loop.example/fulltrees/laws.FnExactRepairsOf", spec := "fnExactRepairsOf", unfollowed := true, recurses := true, loops := true, apart := false }
def FnExactRepairsOfSaid : Prop := fnExactRepairsOfRow.holds Try.pinned (OpenSpec.ofChange fnExactRepairsOfSpec)

/-- ITS FALSE NEIGHBOUR: 'it returns false'. Refute it at one input. -/
def fnExactRepairsOfWrong : ChangeSpec := { name := "fnExactRepairsOf", fn := fun _ => fun
  | [d1, d2, d3] => { results := [.lit (.bool false)], args := [d1, d2, d3] }
  | _ => none }
def FnExactRepairsOfWrongFalsely : Prop := fnExactRepairsOfRow.holds Try.pinned (OpenSpec.ofChange fnExactRepairsOfWrong)

/-- 'laws.FnTwoDeletes': WHATEVER THE INPUT: true; the input reads as it did. -/
def fnTwoDeletesSpec : ChangeSpec := { name := "fnTwoDeletes", fn := fun _ => fun
  | [d] => { results := [.lit (.bool true)], args := [d] }
  | _ => none }
def fnTwoDeletesRow : OpenClaim := { program := "ytananonjomfpkaa", sum := "f100a730f551c2e6949ef0260f272c86c27d2a03c37d8c1f36afc0334cf8931b", func := "loop.example/fulltrees/laws.FnTwoDeletes", spec := "fnTwoDeletes", unfollowed := true, recurses := true, apart := false }
def FnTwoDeletesSaid : Prop := fnTwoDeletesRow.holds Try.pinned (OpenSpec.ofChange fnTwoDeletesSpec)

/-- ITS FALSE NEIGHBOUR: 'it returns false'. Refute it at one input. -/
def fnTwoDeletesWrong : ChangeSpec := { name := "fnTwoDeletes", fn := fun _ => fun
  | [d] => { results := [.lit (.bool false)], args := [d] }
  | _ => none }
def FnTwoDeletesWrongFalsely : Prop := fnTwoDeletesRow.holds Try.pinned (OpenSpec.ofChange fnTwoDeletesWrong)

/-- 'laws.FnThereAndBack': WHATEVER THE INPUT: true; the input reads as it did. -/
def fnThereAndBackSpec : ChangeSpec := { name := "fnThereAndBack", fn := fun _ => fun
  | [d] => { results := [.lit (.bool true)], args := [d] }
  | _ => none }
def fnThereAndBackRow : OpenClaim := { program := "ytananonjomfpkaa", sum := "f100a730f551c2e6949ef0260f272c86c27d2a03c37d8c1f36afc0334cf8931b", func := "loop.example/fulltrees/laws.FnThereAndBack", spec := "fnThereAndBack", unfollowed := true, recurses := true, apart := false }
def FnThereAndBackSaid : Prop := fnThereAndBackRow.holds Try.pinned (OpenSpec.ofChange fnThereAndBackSpec)

/-- ITS FALSE NEIGHBOUR: 'it returns false'. Refute it at one input. -/
def fnThereAndBackWrong : ChangeSpec := { name := "fnThereAndBack", fn := fun _ => fun
  | [d] => { results := [.lit (.bool false)], args := [d] }
  | _ => none }
def FnThereAndBackWrongFalsely : Prop := fnThereAndBackRow.holds Try.pinned (OpenSpec.ofChange fnThereAndBackWrong)

/-- 'laws.FnDeleteAll': WHATEVER THE INPUT: true; the input reads as it did. -/
def fnDeleteAllSpec : ChangeSpec := { name := "fnDeleteAll", fn := fun _ => fun
  | [d] => { results := [.lit (.bool true)], args := [d] }
  | _ => none }
def fnDeleteAllRow : OpenClaim := { program := "ytananonjomfpkaa", sum := "f100a730f551c2e6949ef0260f272c86c27d2a03c37d8c1f36afc0334cf8931b", func := "loop.example/fulltrees/laws.FnDeleteAll", spec := "fnDeleteAll", unfollowed := true, recurses := true, apart := false }
def FnDeleteAllSaid : Prop := fnDeleteAllRow.holds Try.pinned (OpenSpec.ofChange fnDeleteAllSpec)

/-- ITS FALSE NEIGHBOUR: 'it returns false'. Refute it at one input. -/
def fnDeleteAllWrong : ChangeSpec := { name := "fnDeleteAll", fn := fun _ => fun
  | [d] => { results := [.lit (.bool false)], args := [d] }
  | _ => none }
def FnDeleteAllWrongFalsely : Prop := fnDeleteAllRow.holds Try.pinned (OpenSpec.ofChange fnDeleteAllWrong)

/-- 'laws.FnRepairsOf': WHATEVER THE INPUT: true; the input reads as it did. -/
def fnRepairsOfSpec : ChangeSpec := { name := "fnRepairsOf", fn := fun _ => fun
  | [d] => { results := [.lit (.bool true)], args := [d] }
  | _ => none }
def fnRepairsOfRow : OpenClaim := { program := "ytananonjomfpkaa", sum := "f100a730f551c2e6949ef0260f272c86c27d2a03c37d8c1f36afc0334cf8931b", func := "loop.example/fulltrees/laws.FnRepairsOf", spec := "fnRepairsOf", unfollowed := true, recurses := true, apart := false }
def FnRepairsOfSaid : Prop := fnRepairsOfRow.holds Try.pinned (OpenSpec.ofChange fnRepairsOfSpec)

/-- ITS FALSE NEIGHBOUR: 'it returns false'. Refute it at one input. -/
def fnRepairsOfWrong : ChangeSpec := { name := "fnRepairsOf", fn := fun _ => fun
  | [d] => { results := [.lit (.bool false)], args := [d] }
  | _ => none }
def FnRepairsOfWrongFalsely : Prop := fnRepairsOfRow.holds Try.pinned (OpenSpec.ofChange fnRepairsOfWrong)

/-- 'laws.FnNodesJoins': WHATEVER THE INPUT: true; the input reads as it did. -/
def fnNodesJoinsSpec : ChangeSpec := { name := "fnNodesJoins", fn := fun _ => fun
  | [d] => { results := [.lit (.bool true)], args := [d] }
  | _ => none }
def fnNodesJoinsRow : OpenClaim := { program := "ytananonjomfpkaa", sum := "f100a730f551c2e6949ef0260f272c86c27d2a03c37d8c1f36afc0334cf8931b", func := "loop.example/fulltrees/laws.FnNodesJoins", spec := "fnNodesJoins", unfollowed := true, recurses := true, apart := false }
def FnNodesJoinsSaid : Prop := fnNodesJoinsRow.holds Try.pinned (OpenSpec.ofChange fnNodesJoinsSpec)

/-- ITS FALSE NEIGHBOUR: 'it returns false'. Refute it at one input. -/
def fnNodesJoinsWrong : ChangeSpec := { name := "fnNodesJoins", fn := fun _ => fun
  | [d] => { results := [.lit (.bool false)], args := [d] }
  | _ => none }
def FnNodesJoinsWrongFalsely : Prop := fnNodesJoinsRow.holds Try.pinned (OpenSpec.ofChange fnNodesJoinsWrong)

/-- 'laws.FnExactSortKeys': WHATEVER THE INPUT: true; the input reads as it did. -/
def fnExactSortKeysSpec : ChangeSpec := { name := "fnExactSortKeys", fn := fun _ => fun
  | [d] => { results := [.lit (.bool true)], args := [d] }
  | _ => none }
def fnExactSortKeysRow : OpenClaim := { program := "ytananonjomfpkaa", sum := "f100a730f551c2e6949ef0260f272c86c27d2a03c37d8c1f36afc0334cf8931b", func := "loop.example/fulltrees/laws.FnExactSortKeys", spec := "fnExactSortKeys", unfollowed := true, recurses := true, apart := false }
def FnExactSortKeysSaid : Prop := fnExactSortKeysRow.holds Try.pinned (OpenSpec.ofChange fnExactSortKeysSpec)

/-- ITS FALSE NEIGHBOUR: 'it returns false'. Refute it at one input. -/
def fnExactSortKeysWrong : ChangeSpec := { name := "fnExactSortKeys", fn := fun _ => fun
  | [d] => { results := [.lit (.bool false)], args := [d] }
  | _ => none }
def FnExactSortKeysWrongFalsely : Prop := fnExactSortKeysRow.holds Try.pinned (OpenSpec.ofChange fnExactSortKeysWrong)

/-- 'laws.FnSortKeys': WHATEVER THE INPUT: true; the input reads as it did. -/
def fnSortKeysSpec : ChangeSpec := { name := "fnSortKeys", fn := fun _ => fun
  | [d] => { results := [.lit (.bool true)], args := [d] }
  | _ => none }
def fnSortKeysRow : OpenClaim := { program := "ytananonjomfpkaa", sum := "f100a730f551c2e6949ef0260f272c86c27d2a03c37d8c1f36afc0334cf8931b", func := "loop.example/fulltrees/laws.FnSortKeys", spec := "fnSortKeys", unfollowed := true, recurses := true, apart := false }
def FnSortKeysSaid : Prop := fnSortKeysRow.holds Try.pinned (OpenSpec.ofChange fnSortKeysSpec)

/-- ITS FALSE NEIGHBOUR: 'it returns false'. Refute it at one input. -/
def fnSortKeysWrong : ChangeSpec := { name := "fnSortKeys", fn := fun _ => fun
  | [d] => { results := [.lit (.bool false)], args := [d] }
  | _ => none }
def FnSortKeysWrongFalsely : Prop := fnSortKeysRow.holds Try.pinned (OpenSpec.ofChange fnSortKeysWrong)

/- THE SECOND FORM. 'bulk': how many values and letters a reading holds, each counted each time it is reached (what is shared counts as often as it is met; a slice's spare places count too). A statement '..UptoSaid' is the law's where the arguments, and the package variables that the reading takes, are together of bulk at most 1048576: NARROWER than '..Said'. Prove '..Said' where nothing that the law and all that it calls make is longer than what came in: it says more and counts as full. Else prove '..UptoSaid'. A law counts once. -/
mutual
def uptoBulk {H : Type} : DataW H → Nat
  | .lit (.string bytes) => bytes.length + 1
  | .lit _ => 1
  | .nil => 1
  | .ptr d => uptoBulk d + 1
  | .slice elems spare => uptoBulkAll elems + uptoBulkAll spare + 1
  | .agg parts => uptoBulkAll parts + 1
  | .iface _ d => uptoBulk d + 1
  | .map entries => uptoBulkEntries entries + 1
  | .held _ => 1
def uptoBulkAll {H : Type} : List (DataW H) → Nat
  | [] => 0
  | d :: r => uptoBulk d + uptoBulkAll r
def uptoBulkEntries {H : Type} : List (Lit × DataW H) → Nat
  | [] => 0
  | x :: r => uptoBulkEntry x + uptoBulkEntries r
def uptoBulkEntry {H : Type} : Lit × DataW H → Nat
  | (.string bytes, d) => bytes.length + uptoBulk d + 1
  | (_, d) => uptoBulk d + 1
 end
def uptoSmall : (H : Type) → List (DataW H) → Bool := fun _ ds => decide (uptoBulkAll ds ≤ 1048576)
def OpenSpec.upto (s : _root_.Go.ChangeSpec) : _root_.Go.OpenSpec := { _root_.Go.OpenSpec.ofChange s with cond := some uptoSmall }

/-- 'laws.FnDelete', WHERE WHAT IT READS IS OF BULK AT MOST 1048576: true; the input reads as it did. -/
def fnDeleteUptoRow : OpenClaim := { program := "ytananonjomfpkaa", sum := "f100a730f551c2e6949ef0260f272c86c27d2a03c37d8c1f36afc0334cf8931b", func := "loop.example/fulltrees/laws.FnDelete", spec := "fnDelete", unfollowed := true, recurses := true, apart := false, narrowed := true }
def FnDeleteUptoSaid : Prop := fnDeleteUptoRow.holds Try.pinned (OpenSpec.upto fnDeleteSpec)

/-- 'laws.FnPop', WHERE WHAT IT READS IS OF BULK AT MOST 1048576: true; the input reads as it did. -/
def fnPopUptoRow : OpenClaim := { program := "ytananonjomfpkaa", sum := "f100a730f551c2e6949ef0260f272c86c27d2a03c37d8c1f36afc0334cf8931b", func := "loop.example/fulltrees/laws.FnPop", spec := "fnPop", unfollowed := true, recurses := true, apart := false, narrowed := true }
def FnPopUptoSaid : Prop := fnPopUptoRow.holds Try.pinned (OpenSpec.upto fnPopSpec)

/-- 'laws.FnExactPopLeast', WHERE WHAT IT READS IS OF BULK AT MOST 1048576: true; the input reads as it did. -/
def fnExactPopLeastUptoRow : OpenClaim := { program := "ytananonjomfpkaa", sum := "f100a730f551c2e6949ef0260f272c86c27d2a03c37d8c1f36afc0334cf8931b", func := "loop.example/fulltrees/laws.FnExactPopLeast", spec := "fnExactPopLeast", unfollowed := true, recurses := true, loops := true, apart := false, narrowed := true }
def FnExactPopLeastUptoSaid : Prop := fnExactPopLeastUptoRow.holds Try.pinned (OpenSpec.upto fnExactPopLeastSpec)

/-- 'laws.FnExactDeleteAll', WHERE WHAT IT READS IS OF BULK AT MOST 1048576: true; the input reads as it did. -/
def fnExactDeleteAllUptoRow : OpenClaim := { program := "ytananonjomfpkaa", sum := "f100a730f551c2e6949ef0260f272c86c27d2a03c37d8c1f36afc0334cf8931b", func := "loop.example/fulltrees/laws.FnExactDeleteAll", spec := "fnExactDeleteAll", unfollowed := true, recurses := true, loops := true, apart := false, narrowed := true }
def FnExactDeleteAllUptoSaid : Prop := fnExactDeleteAllUptoRow.holds Try.pinned (OpenSpec.upto fnExactDeleteAllSpec)

/-- 'laws.FnExactRepairsOf', WHERE WHAT IT READS IS OF BULK AT MOST 1048576: true; the input reads as it did. -/
def fnExactRepairsOfUptoRow : OpenClaim := { program := "ytananonjomfpkaa", sum := "f100a730f551c2e6949ef0260f272c86c27d2a03c37d8c1f36afc0334cf8931b", func := "loop.example/fulltrees/laws.FnExactRepairsOf", spec := "fnExactRepairsOf", unfollowed := true, recurses := true, loops := true, apart := false, narrowed := true }
def FnExactRepairsOfUptoSaid : Prop := fnExactRepairsOfUptoRow.holds Try.pinned (OpenSpec.upto fnExactRepairsOfSpec)

/-- 'laws.FnTwoDeletes', WHERE WHAT IT READS IS OF BULK AT MOST 1048576: true; the input reads as it did. -/
def fnTwoDeletesUptoRow : OpenClaim := { program := "ytananonjomfpkaa", sum := "f100a730f551c2e6949ef0260f272c86c27d2a03c37d8c1f36afc0334cf8931b", func := "loop.example/fulltrees/laws.FnTwoDeletes", spec := "fnTwoDeletes", unfollowed := true, recurses := true, apart := false, narrowed := true }
def FnTwoDeletesUptoSaid : Prop := fnTwoDeletesUptoRow.holds Try.pinned (OpenSpec.upto fnTwoDeletesSpec)

/-- 'laws.FnThereAndBack', WHERE WHAT IT READS IS OF BULK AT MOST 1048576: true; the input reads as it did. -/
def fnThereAndBackUptoRow : OpenClaim := { program := "ytananonjomfpkaa", sum := "f100a730f551c2e6949ef0260f272c86c27d2a03c37d8c1f36afc0334cf8931b", func := "loop.example/fulltrees/laws.FnThereAndBack", spec := "fnThereAndBack", unfollowed := true, recurses := true, apart := false, narrowed := true }
def FnThereAndBackUptoSaid : Prop := fnThereAndBackUptoRow.holds Try.pinned (OpenSpec.upto fnThereAndBackSpec)

/-- 'laws.FnDeleteAll', WHERE WHAT IT READS IS OF BULK AT MOST 1048576: true; the input reads as it did. -/
def fnDeleteAllUptoRow : OpenClaim := { program := "ytananonjomfpkaa", sum := "f100a730f551c2e6949ef0260f272c86c27d2a03c37d8c1f36afc0334cf8931b", func := "loop.example/fulltrees/laws.FnDeleteAll", spec := "fnDeleteAll", unfollowed := true, recurses := true, apart := false, narrowed := true }
def FnDeleteAllUptoSaid : Prop := fnDeleteAllUptoRow.holds Try.pinned (OpenSpec.upto fnDeleteAllSpec)

/-- 'laws.FnRepairsOf', WHERE WHAT IT READS IS OF BULK AT MOST 1048576: true; the input reads as it did. -/
def fnRepairsOfUptoRow : OpenClaim := { program := "ytananonjomfpkaa", sum := "f100a730f551c2e6949ef0260f272c86c27d2a03c37d8c1f36afc0334cf8931b", func := "loop.example/fulltrees/laws.FnRepairsOf", spec := "fnRepairsOf", unfollowed := true, recurses := true, apart := false, narrowed := true }
def FnRepairsOfUptoSaid : Prop := fnRepairsOfUptoRow.holds Try.pinned (OpenSpec.upto fnRepairsOfSpec)

/-- 'laws.FnNodesJoins', WHERE WHAT IT READS IS OF BULK AT MOST 1048576: true; the input reads as it did. -/
def fnNodesJoinsUptoRow : OpenClaim := { program := "ytananonjomfpkaa", sum := "f100a730f551c2e6949ef0260f272c86c27d2a03c37d8c1f36afc0334cf8931b", func := "loop.example/fulltrees/laws.FnNodesJoins", spec := "fnNodesJoins", unfollowed := true, recurses := true, apart := false, narrowed := true }
def FnNodesJoinsUptoSaid : Prop := fnNodesJoinsUptoRow.holds Try.pinned (OpenSpec.upto fnNodesJoinsSpec)

/-- 'laws.FnExactSortKeys', WHERE WHAT IT READS IS OF BULK AT MOST 1048576: true; the input reads as it did. -/
def fnExactSortKeysUptoRow : OpenClaim := { program := "ytananonjomfpkaa", sum := "f100a730f551c2e6949ef0260f272c86c27d2a03c37d8c1f36afc0334cf8931b", func := "loop.example/fulltrees/laws.FnExactSortKeys", spec := "fnExactSortKeys", unfollowed := true, recurses := true, apart := false, narrowed := true }
def FnExactSortKeysUptoSaid : Prop := fnExactSortKeysUptoRow.holds Try.pinned (OpenSpec.upto fnExactSortKeysSpec)

/-- 'laws.FnSortKeys', WHERE WHAT IT READS IS OF BULK AT MOST 1048576: true; the input reads as it did. -/
def fnSortKeysUptoRow : OpenClaim := { program := "ytananonjomfpkaa", sum := "f100a730f551c2e6949ef0260f272c86c27d2a03c37d8c1f36afc0334cf8931b", func := "loop.example/fulltrees/laws.FnSortKeys", spec := "fnSortKeys", unfollowed := true, recurses := true, apart := false, narrowed := true }
def FnSortKeysUptoSaid : Prop := fnSortKeysUptoRow.holds Try.pinned (OpenSpec.upto fnSortKeysSpec)

end Rows
end Go.Proofs.Ytananonjomfpkaa
