/-
  NARROWER THAN 'FOR EVERY INPUT', by the rows' own cells (each row's printed sentence says how): FnExactDeleteKey: loops · FnExactDeleteAll: loops · FnExactRepairsBy: loops · FnExactRepairsOf: loops · FnExactPopLeast: loops · FnExactCountCommon: loops · FnExactIsWithin: loops.
  DERIVED. THE GIVEN ROWS OF THIS SEAT. 11 by the template 'for every input the law returns true; each argument reads behind the call as it read before'; 0 by the template 'total and deterministic' (their statements: YtepkigcbjepbpaaTotals.lean).
  GIVEN WITH THE SEED: the statements are not yours to turn. If you find one false, say at which input.
  Laid BY PROGRAM, IN A SANDBOX (cutbox-rows.mjs): the forced cells as the released guide's own fill.sh prints them over the translation 3e93a82fb011045b… (all of the seat's roots in one cut). By AI agents, Wed Nov 11 2026. No macro, syntax, notation, axiom, sorry.
-/
import Derived.Test.YtepkigcbjepbpaaChecked
import GoSem.Claim
import GoSem.ClaimJoined
import GoSem.ClaimMapViews
import Derived.JoinedTies
import Derived.KernelRfl
namespace Go.Proofs.Ytepkigcbjepbpaa
/- THE CELL 'sum', in the pinned program and in every row, IS THE sha256 OF THE DUMP (.gsa) THAT YtepkigcbjepbpaaProg.lean LOADS. Nothing in Lean hashes anything: it is a label: what it is worth is what the hold of that sum in a sandbox is worth. -/
noncomputable def Try.pinned : Pinned := { name := "ytepkigcbjepbpaa", sum := "3e93a82fb011045bad9ce356355d1236cf43ea38af9468d66d0d709dfee56991", checked := Try.checked }
namespace Rows
def none {H : Type} : Left H := { results := [], args := [] }

/-- 'laws.FnExactDeleteKey': WHATEVER THE INPUT: true; the input reads as it did. -/
def fnExactDeleteKeySpec : ChangeSpec := { name := "fnExactDeleteKey", fn := fun _ => fun
  | [d1, d2, d3] => { results := [.lit (.bool true)], args := [d1, d2, d3] }
  | _ => none }
def fnExactDeleteKeyRow : OpenClaim := { program := "ytepkigcbjepbpaa", sum := "3e93a82fb011045bad9ce356355d1236cf43ea38af9468d66d0d709dfee56991", func := "loop.example/fulltrees/laws.FnExactDeleteKey", spec := "fnExactDeleteKey", unfollowed := true, recurses := true, loops := true, apart := false }
def FnExactDeleteKeySaid : Prop := fnExactDeleteKeyRow.holds Try.pinned (OpenSpec.ofChange fnExactDeleteKeySpec)

/-- ITS FALSE NEIGHBOUR: 'it returns false'. Refute it at one input. -/
def fnExactDeleteKeyWrong : ChangeSpec := { name := "fnExactDeleteKey", fn := fun _ => fun
  | [d1, d2, d3] => { results := [.lit (.bool false)], args := [d1, d2, d3] }
  | _ => none }
def FnExactDeleteKeyWrongFalsely : Prop := fnExactDeleteKeyRow.holds Try.pinned (OpenSpec.ofChange fnExactDeleteKeyWrong)

/-- 'laws.FnDeletedRank': WHATEVER THE INPUT: true; the input reads as it did. -/
def fnDeletedRankSpec : ChangeSpec := { name := "fnDeletedRank", fn := fun _ => fun
  | [d] => { results := [.lit (.bool true)], args := [d] }
  | _ => none }
def fnDeletedRankRow : OpenClaim := { program := "ytepkigcbjepbpaa", sum := "3e93a82fb011045bad9ce356355d1236cf43ea38af9468d66d0d709dfee56991", func := "loop.example/fulltrees/laws.FnDeletedRank", spec := "fnDeletedRank", unfollowed := true, recurses := true, apart := false }
def FnDeletedRankSaid : Prop := fnDeletedRankRow.holds Try.pinned (OpenSpec.ofChange fnDeletedRankSpec)

/-- ITS FALSE NEIGHBOUR: 'it returns false'. Refute it at one input. -/
def fnDeletedRankWrong : ChangeSpec := { name := "fnDeletedRank", fn := fun _ => fun
  | [d] => { results := [.lit (.bool false)], args := [d] }
  | _ => none }
def FnDeletedRankWrongFalsely : Prop := fnDeletedRankRow.holds Try.pinned (OpenSpec.ofChange fnDeletedRankWrong)

/-- 'laws.FnExactDeleteAll': WHATEVER THE INPUT: true; the input reads as it did. -/
def fnExactDeleteAllSpec : ChangeSpec := { name := "fnExactDeleteAll", fn := fun _ => fun
  | [d1, d2, d3] => { results := [.lit (.bool true)], args := [d1, d2, d3] }
  | _ => none }
def fnExactDeleteAllRow : OpenClaim := { program := "ytepkigcbjepbpaa", sum := "3e93a82fb011045bad9ce356355d1236cf43ea38af9468d66d0d709dfee56991", func := "loop.example/fulltrees/laws.FnExactDeleteAll", spec := "fnExactDeleteAll", unfollowed := true, recurses := true, loops := true, apart := false }
def FnExactDeleteAllSaid : Prop := fnExactDeleteAllRow.holds Try.pinned (OpenSpec.ofChange fnExactDeleteAllSpec)

/-- ITS FALSE NEIGHBOUR: 'it returns false'. Refute it at one input. -/
def fnExactDeleteAllWrong : ChangeSpec := { name := "fnExactDeleteAll", fn := fun _ => fun
  | [d1, d2, d3] => { results := [.lit (.bool false)], args := [d1, d2, d3] }
  | _ => none }
def FnExactDeleteAllWrongFalsely : Prop := fnExactDeleteAllRow.holds Try.pinned (OpenSpec.ofChange fnExactDeleteAllWrong)

/-- 'laws.FnExactRepairsBy': WHATEVER THE INPUT: true; the input reads as it did. -/
def fnExactRepairsBySpec : ChangeSpec := { name := "fnExactRepairsBy", fn := fun _ => fun
  | [d1, d2, d3] => { results := [.lit (.bool true)], args := [d1, d2, d3] }
  | _ => none }
def fnExactRepairsByRow : OpenClaim := { program := "ytepkigcbjepbpaa", sum := "3e93a82fb011045bad9ce356355d1236cf43ea38af9468d66d0d709dfee56991", func := "loop.example/fulltrees/laws.FnExactRepairsBy", spec := "fnExactRepairsBy", unfollowed := true, recurses := true, loops := true, apart := false }
def FnExactRepairsBySaid : Prop := fnExactRepairsByRow.holds Try.pinned (OpenSpec.ofChange fnExactRepairsBySpec)

/-- ITS FALSE NEIGHBOUR: 'it returns false'. Refute it at one input. -/
def fnExactRepairsByWrong : ChangeSpec := { name := "fnExactRepairsBy", fn := fun _ => fun
  | [d1, d2, d3] => { results := [.lit (.bool false)], args := [d1, d2, d3] }
  | _ => none }
def FnExactRepairsByWrongFalsely : Prop := fnExactRepairsByRow.holds Try.pinned (OpenSpec.ofChange fnExactRepairsByWrong)

/-- 'laws.FnExactRepairsOf': WHATEVER THE INPUT: true; the input reads as it did. -/
def fnExactRepairsOfSpec : ChangeSpec := { name := "fnExactRepairsOf", fn := fun _ => fun
  | [d1, d2, d3] => { results := [.lit (.bool true)], args := [d1, d2, d3] }
  | _ => none }
def fnExactRepairsOfRow : OpenClaim := { program := "ytepkigcbjepbpaa", sum := "3e93a82fb011045bad9ce356355d1236cf43ea38af9468d66d0d709dfee56991", func := "loop.example/fulltrees/laws.FnExactRepairsOf", spec := "fnExactRepairsOf", unfollowed := true, recurses := true, loops := true, apart := false }
def FnExactRepairsOfSaid : Prop := fnExactRepairsOfRow.holds Try.pinned (OpenSpec.ofChange fnExactRepairsOfSpec)

/-- ITS FALSE NEIGHBOUR: 'it returns false'. Refute it at one input. -/
def fnExactRepairsOfWrong : ChangeSpec := { name := "fnExactRepairsOf", fn := fun _ => fun
  | [d1, d2, d3] => { results := [.lit (.bool false)], args := [d1, d2, d3] }
  | _ => none }
def FnExactRepairsOfWrongFalsely : Prop := fnExactRepairsOfRow.holds Try.pinned (OpenSpec.ofChange fnExactRepairsOfWrong)

/-- 'laws.FnExactPopLeast': WHATEVER THE INPUT: true; the input reads as it did. -/
def fnExactPopLeastSpec : ChangeSpec := { name := "fnExactPopLeast", fn := fun _ => fun
  | [d1, d2] => { results := [.lit (.bool true)], args := [d1, d2] }
  | _ => none }
def fnExactPopLeastRow : OpenClaim := { program := "ytepkigcbjepbpaa", sum := "3e93a82fb011045bad9ce356355d1236cf43ea38af9468d66d0d709dfee56991", func := "loop.example/fulltrees/laws.FnExactPopLeast", spec := "fnExactPopLeast", unfollowed := true, recurses := true, loops := true, apart := false }
def FnExactPopLeastSaid : Prop := fnExactPopLeastRow.holds Try.pinned (OpenSpec.ofChange fnExactPopLeastSpec)

/-- ITS FALSE NEIGHBOUR: 'it returns false'. Refute it at one input. -/
def fnExactPopLeastWrong : ChangeSpec := { name := "fnExactPopLeast", fn := fun _ => fun
  | [d1, d2] => { results := [.lit (.bool false)], args := [d1, d2] }
  | _ => none }
def FnExactPopLeastWrongFalsely : Prop := fnExactPopLeastRow.holds Try.pinned (OpenSpec.ofChange fnExactPopLeastWrong)

/-- 'laws.FnDelete': WHATEVER THE INPUT: true; the input reads as it did. -/
def fnDeleteSpec : ChangeSpec := { name := "fnDelete", fn := fun _ => fun
  | [d] => { results := [.lit (.bool true)], args := [d] }
  | _ => none }
def fnDeleteRow : OpenClaim := { program := "ytepkigcbjepbpaa", sum := "3e93a82fb011045bad9ce356355d1236cf43ea38af9468d66d0d709dfee56991", func := "loop.example/fulltrees/laws.FnDelete", spec := "fnDelete", unfollowed := true, recurses := true, apart := false }
def FnDeleteSaid : Prop := fnDeleteRow.holds Try.pinned (OpenSpec.ofChange fnDeleteSpec)

/-- ITS FALSE NEIGHBOUR: 'it returns false'. Refute it at one input. -/
def fnDeleteWrong : ChangeSpec := { name := "fnDelete", fn := fun _ => fun
  | [d] => { results := [.lit (.bool false)], args := [d] }
  | _ => none }
def FnDeleteWrongFalsely : Prop := fnDeleteRow.holds Try.pinned (OpenSpec.ofChange fnDeleteWrong)

/-- 'laws.FnTwoDeletes': WHATEVER THE INPUT: true; the input reads as it did. -/
def fnTwoDeletesSpec : ChangeSpec := { name := "fnTwoDeletes", fn := fun _ => fun
  | [d] => { results := [.lit (.bool true)], args := [d] }
  | _ => none }
def fnTwoDeletesRow : OpenClaim := { program := "ytepkigcbjepbpaa", sum := "3e93a82fb011045bad9ce356355d1236cf43ea38af9468d66d0d709dfee56991", func := "loop.example/fulltrees/laws.FnTwoDeletes", spec := "fnTwoDeletes", unfollowed := true, recurses := true, apart := false }
def FnTwoDeletesSaid : Prop := fnTwoDeletesRow.holds Try.pinned (OpenSpec.ofChange fnTwoDeletesSpec)

/-- ITS FALSE NEIGHBOUR: 'it returns false'. Refute it at one input. -/
def fnTwoDeletesWrong : ChangeSpec := { name := "fnTwoDeletes", fn := fun _ => fun
  | [d] => { results := [.lit (.bool false)], args := [d] }
  | _ => none }
def FnTwoDeletesWrongFalsely : Prop := fnTwoDeletesRow.holds Try.pinned (OpenSpec.ofChange fnTwoDeletesWrong)

/-- 'laws.FnPop': WHATEVER THE INPUT: true; the input reads as it did. -/
def fnPopSpec : ChangeSpec := { name := "fnPop", fn := fun _ => fun
  | [d] => { results := [.lit (.bool true)], args := [d] }
  | _ => none }
def fnPopRow : OpenClaim := { program := "ytepkigcbjepbpaa", sum := "3e93a82fb011045bad9ce356355d1236cf43ea38af9468d66d0d709dfee56991", func := "loop.example/fulltrees/laws.FnPop", spec := "fnPop", unfollowed := true, recurses := true, apart := false }
def FnPopSaid : Prop := fnPopRow.holds Try.pinned (OpenSpec.ofChange fnPopSpec)

/-- ITS FALSE NEIGHBOUR: 'it returns false'. Refute it at one input. -/
def fnPopWrong : ChangeSpec := { name := "fnPop", fn := fun _ => fun
  | [d] => { results := [.lit (.bool false)], args := [d] }
  | _ => none }
def FnPopWrongFalsely : Prop := fnPopRow.holds Try.pinned (OpenSpec.ofChange fnPopWrong)

/-- 'laws.FnExactCountCommon': WHATEVER THE INPUT: true; the input reads as it did. -/
def fnExactCountCommonSpec : ChangeSpec := { name := "fnExactCountCommon", fn := fun _ => fun
  | [d1, d2] => { results := [.lit (.bool true)], args := [d1, d2] }
  | _ => none }
def fnExactCountCommonRow : OpenClaim := { program := "ytepkigcbjepbpaa", sum := "3e93a82fb011045bad9ce356355d1236cf43ea38af9468d66d0d709dfee56991", func := "loop.example/fulltrees/laws.FnExactCountCommon", spec := "fnExactCountCommon", unfollowed := true, recurses := true, loops := true, apart := false }
def FnExactCountCommonSaid : Prop := fnExactCountCommonRow.holds Try.pinned (OpenSpec.ofChange fnExactCountCommonSpec)

/-- ITS FALSE NEIGHBOUR: 'it returns false'. Refute it at one input. -/
def fnExactCountCommonWrong : ChangeSpec := { name := "fnExactCountCommon", fn := fun _ => fun
  | [d1, d2] => { results := [.lit (.bool false)], args := [d1, d2] }
  | _ => none }
def FnExactCountCommonWrongFalsely : Prop := fnExactCountCommonRow.holds Try.pinned (OpenSpec.ofChange fnExactCountCommonWrong)

/-- 'laws.FnExactIsWithin': WHATEVER THE INPUT: true; the input reads as it did. -/
def fnExactIsWithinSpec : ChangeSpec := { name := "fnExactIsWithin", fn := fun _ => fun
  | [d1, d2] => { results := [.lit (.bool true)], args := [d1, d2] }
  | _ => none }
def fnExactIsWithinRow : OpenClaim := { program := "ytepkigcbjepbpaa", sum := "3e93a82fb011045bad9ce356355d1236cf43ea38af9468d66d0d709dfee56991", func := "loop.example/fulltrees/laws.FnExactIsWithin", spec := "fnExactIsWithin", unfollowed := true, recurses := true, loops := true, apart := false }
def FnExactIsWithinSaid : Prop := fnExactIsWithinRow.holds Try.pinned (OpenSpec.ofChange fnExactIsWithinSpec)

/-- ITS FALSE NEIGHBOUR: 'it returns false'. Refute it at one input. -/
def fnExactIsWithinWrong : ChangeSpec := { name := "fnExactIsWithin", fn := fun _ => fun
  | [d1, d2] => { results := [.lit (.bool false)], args := [d1, d2] }
  | _ => none }
def FnExactIsWithinWrongFalsely : Prop := fnExactIsWithinRow.holds Try.pinned (OpenSpec.ofChange fnExactIsWithinWrong)

/- THE SECOND FORM. 'bulk': how many values and letters a reading holds, each counted each time it is reached (what is shared counts as often as it is met; a slice's spare places count too). A statement '..UptoSaid' is the law's where the arguments, and the package variables that the reading takes, are together of bulk at most 1048576: NARROWER than '..Said'. Prove '..Said' where nothing that the law and all that it calls make is longer than what came in: it says more and counts as full. Else prove '..UptoSaid'. A law counts once. -/
mutual
def uptoBulk {H : Type} : DataW H → Nat
  | .lit (.string bytes) => bytes.length + 1
  | .lit _ => 1
  | .nil => 1
  | .ptr d => uptoBulk d + 1
  | .slice elems spare => uptoBulkAll elems + uptoBulkAll spare + 1
  | .agg parts => uptoBulkAll parts + 1
  | .iface _ d => uptoBulk d + 1
  | .map entries => uptoBulkEntries entries + 1
  | .held _ => 1
def uptoBulkAll {H : Type} : List (DataW H) → Nat
  | [] => 0
  | d :: r => uptoBulk d + uptoBulkAll r
def uptoBulkEntries {H : Type} : List (Lit × DataW H) → Nat
  | [] => 0
  | x :: r => uptoBulkEntry x + uptoBulkEntries r
def uptoBulkEntry {H : Type} : Lit × DataW H → Nat
  | (.string bytes, d) => bytes.length + uptoBulk d + 1
  | (_, d) => uptoBulk d + 1
 end
def uptoSmall : (H : Type) → List (DataW H) → Bool := fun _ ds => decide (uptoBulkAll ds ≤ 1048576)
def OpenSpec.upto (s : _root_.Go.ChangeSpec) : _root_.Go.OpenSpec := { _root_.Go.OpenSpec.ofChange s with cond := some uptoSmall }

/-- 'laws.FnExactDeleteKey', WHERE WHAT IT READS IS OF BULK AT MOST 1048576: true; the input reads as it did. -/
def fnExactDeleteKeyUptoRow : OpenClaim := { program := "ytepkigcbjepbpaa", sum := "3e93a82fb011045bad9ce356355d1236cf43ea38af9468d66d0d709dfee56991", func := "loop.example/fulltrees/laws.FnExactDeleteKey", spec := "fnExactDeleteKey", unfollowed := true, recurses := true, loops := true, apart := false, narrowed := true }
def FnExactDeleteKeyUptoSaid : Prop := fnExactDeleteKeyUptoRow.holds Try.pinned (OpenSpec.upto fnExactDeleteKeySpec)

/-- 'laws.FnDeletedRank', WHERE WHAT IT READS IS OF BULK AT MOST 1048576: true; the input reads as it did. -/
def fnDeletedRankUptoRow : OpenClaim := { program := "ytepkigcbjepbpaa", sum := "3e93a82fb011045bad9ce356355d1236cf43ea38af9468d66d0d709dfee56991", func := "loop.example/fulltrees/laws.FnDeletedRank", spec := "fnDeletedRank", unfollowed := true, recurses := true, apart := false, narrowed := true }
def FnDeletedRankUptoSaid : Prop := fnDeletedRankUptoRow.holds Try.pinned (OpenSpec.upto fnDeletedRankSpec)

/-- 'laws.FnExactDeleteAll', WHERE WHAT IT READS IS OF BULK AT MOST 1048576: true; the input reads as it did. -/
def fnExactDeleteAllUptoRow : OpenClaim := { program := "ytepkigcbjepbpaa", sum := "3e93a82fb011045bad9ce356355d1236cf43ea38af9468d66d0d709dfee56991", func := "loop.example/fulltrees/laws.FnExactDeleteAll", spec := "fnExactDeleteAll", unfollowed := true, recurses := true, loops := true, apart := false, narrowed := true }
def FnExactDeleteAllUptoSaid : Prop := fnExactDeleteAllUptoRow.holds Try.pinned (OpenSpec.upto fnExactDeleteAllSpec)

/-- 'laws.FnExactRepairsBy', WHERE WHAT IT READS IS OF BULK AT MOST 1048576: true; the input reads as it did. -/
def fnExactRepairsByUptoRow : OpenClaim := { program := "ytepkigcbjepbpaa", sum := "3e93a82fb011045bad9ce356355d1236cf43ea38af9468d66d0d709dfee56991", func := "loop.example/fulltrees/laws.FnExactRepairsBy", spec := "fnExactRepairsBy", unfollowed := true, recurses := true, loops := true, apart := false, narrowed := true }
def FnExactRepairsByUptoSaid : Prop := fnExactRepairsByUptoRow.holds Try.pinned (OpenSpec.upto fnExactRepairsBySpec)

/-- 'laws.FnExactRepairsOf', WHERE WHAT IT READS IS OF BULK AT MOST 1048576: true; the input reads as it did. -/
def fnExactRepairsOfUptoRow : OpenClaim := { program := "ytepkigcbjepbpaa", sum := "3e93a82fb011045bad9ce356355d1236cf43ea38af9468d66d0d709dfee56991", func := "loop.example/fulltrees/laws.FnExactRepairsOf", spec := "fnExactRepairsOf", unfollowed := true, recurses := true, loops := true, apart := false, narrowed := true }
def FnExactRepairsOfUptoSaid : Prop := fnExactRepairsOfUptoRow.holds Try.pinned (OpenSpec.upto fnExactRepairsOfSpec)

/-- 'laws.FnExactPopLeast', WHERE WHAT IT READS IS OF BULK AT MOST 1048576: true; the input reads as it did. -/
def fnExactPopLeastUptoRow : OpenClaim := { program := "ytepkigcbjepbpaa", sum := "3e93a82fb011045bad9ce356355d1236cf43ea38af9468d66d0d709dfee56991", func := "loop.example/fulltrees/laws.FnExactPopLeast", spec := "fnExactPopLeast", unfollowed := true, recurses := true, loops := true, apart := false, narrowed := true }
def FnExactPopLeastUptoSaid : Prop := fnExactPopLeastUptoRow.holds Try.pinned (OpenSpec.upto fnExactPopLeastSpec)

/-- 'laws.FnDelete', WHERE WHAT IT READS IS OF BULK AT MOST 1048576: true; the input reads as it did. -/
def fnDeleteUptoRow : OpenClaim := { program := "ytepkigcbjepbpaa", sum := "3e93a82fb011045bad9ce356355d1236cf43ea38af9468d66d0d709dfee56991", func := "loop.example/fulltrees/laws.FnDelete", spec := "fnDelete", unfollowed := true, recurses := true, apart := false, narrowed := true }
def FnDeleteUptoSaid : Prop := fnDeleteUptoRow.holds Try.pinned (OpenSpec.upto fnDeleteSpec)

/-- 'laws.FnTwoDeletes', WHERE WHAT IT READS IS OF BULK AT MOST 1048576: true; the input reads as it did. -/
def fnTwoDeletesUptoRow : OpenClaim := { program := "ytepkigcbjepbpaa", sum := "3e93a82fb011045bad9ce356355d1236cf43ea38af9468d66d0d709dfee56991", func := "loop.example/fulltrees/laws.FnTwoDeletes", spec := "fnTwoDeletes", unfollowed := true, recurses := true, apart := false, narrowed := true }
def FnTwoDeletesUptoSaid : Prop := fnTwoDeletesUptoRow.holds Try.pinned (OpenSpec.upto fnTwoDeletesSpec)

/-- 'laws.FnPop', WHERE WHAT IT READS IS OF BULK AT MOST 1048576: true; the input reads as it did. -/
def fnPopUptoRow : OpenClaim := { program := "ytepkigcbjepbpaa", sum := "3e93a82fb011045bad9ce356355d1236cf43ea38af9468d66d0d709dfee56991", func := "loop.example/fulltrees/laws.FnPop", spec := "fnPop", unfollowed := true, recurses := true, apart := false, narrowed := true }
def FnPopUptoSaid : Prop := fnPopUptoRow.holds Try.pinned (OpenSpec.upto fnPopSpec)

/-- 'laws.FnExactCountCommon', WHERE WHAT IT READS IS OF BULK AT MOST 1048576: true; the input reads as it did. -/
def fnExactCountCommonUptoRow : OpenClaim := { program := "ytepkigcbjepbpaa", sum := "3e93a82fb011045bad9ce356355d1236cf43ea38af9468d66d0d709dfee56991", func := "loop.example/fulltrees/laws.FnExactCountCommon", spec := "fnExactCountCommon", unfollowed := true, recurses := true, loops := true, apart := false, narrowed := true }
def FnExactCountCommonUptoSaid : Prop := fnExactCountCommonUptoRow.holds Try.pinned (OpenSpec.upto fnExactCountCommonSpec)

/-- 'laws.FnExactIsWithin', WHERE WHAT IT READS IS OF BULK AT MOST 1048576: true; the input reads as it did. -/
def fnExactIsWithinUptoRow : OpenClaim := { program := "ytepkigcbjepbpaa", sum := "3e93a82fb011045bad9ce356355d1236cf43ea38af9468d66d0d709dfee56991", func := "loop.example/fulltrees/laws.FnExactIsWithin", spec := "fnExactIsWithin", unfollowed := true, recurses := true, loops := true, apart := false, narrowed := true }
def FnExactIsWithinUptoSaid : Prop := fnExactIsWithinUptoRow.holds Try.pinned (OpenSpec.upto fnExactIsWithinSpec)

end Rows
end Go.Proofs.Ytepkigcbjepbpaa
