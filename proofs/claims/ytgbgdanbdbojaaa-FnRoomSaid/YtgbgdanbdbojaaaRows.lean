/-
  No cell of these rows narrows 'for every input' (looked for: loops, veiled, ifaces, maps, wideKeys, modest, calm, conditions, laid).
  DERIVED. THE GIVEN ROWS OF THIS SEAT. 6 by the template 'for every input the law returns true; each argument reads behind the call as it read before'; 0 by the template 'total and deterministic' (their statements: YtgbgdanbdbojaaaTotals.lean).
  GIVEN WITH THE SEED: the statements are not yours to turn. If you find one false, say at which input.
  Laid BY PROGRAM, IN A SANDBOX (cutbox-rows.mjs): the forced cells as the released guide's own fill.sh prints them over the translation 448b16aa95628e4a… (all of the seat's roots in one cut). By AI agents, Wed Nov 11 2026. No macro, syntax, notation, axiom, sorry.
-/
import Derived.Test.YtgbgdanbdbojaaaChecked
import GoSem.Claim
import GoSem.ClaimJoined
import GoSem.ClaimMapViews
import Derived.JoinedTies
import Derived.KernelRfl
namespace Go.Proofs.Ytgbgdanbdbojaaa
/- THE CELL 'sum', in the pinned program and in every row, IS THE sha256 OF THE DUMP (.gsa) THAT YtgbgdanbdbojaaaProg.lean LOADS. Nothing in Lean hashes anything: it is a label: what it is worth is what the hold of that sum in a sandbox is worth. -/
noncomputable def Try.pinned : Pinned := { name := "ytgbgdanbdbojaaa", sum := "448b16aa95628e4a8221092a20cfbdb67819f4a324dbe90df2c104275c0f44c8", checked := Try.checked }
namespace Rows
def none {H : Type} : Left H := { results := [], args := [] }

/-- 'laws.FnSplits': WHATEVER THE INPUT: true; the input reads as it did. -/
def fnSplitsSpec : ChangeSpec := { name := "fnSplits", fn := fun _ => fun
  | [d] => { results := [.lit (.bool true)], args := [d] }
  | _ => none }
def fnSplitsRow : OpenClaim := { program := "ytgbgdanbdbojaaa", sum := "448b16aa95628e4a8221092a20cfbdb67819f4a324dbe90df2c104275c0f44c8", func := "loop.example/fulltrees/laws.FnSplits", spec := "fnSplits", unfollowed := true, recurses := true, apart := false }
def FnSplitsSaid : Prop := fnSplitsRow.holds Try.pinned (OpenSpec.ofChange fnSplitsSpec)

/-- ITS FALSE NEIGHBOUR: 'it returns false'. Refute it at one input. -/
def fnSplitsWrong : ChangeSpec := { name := "fnSplits", fn := fun _ => fun
  | [d] => { results := [.lit (.bool false)], args := [d] }
  | _ => none }
def FnSplitsWrongFalsely : Prop := fnSplitsRow.holds Try.pinned (OpenSpec.ofChange fnSplitsWrong)

/-- 'laws.FnTwoInserts': WHATEVER THE INPUT: true; the input reads as it did. -/
def fnTwoInsertsSpec : ChangeSpec := { name := "fnTwoInserts", fn := fun _ => fun
  | [d1, d2] => { results := [.lit (.bool true)], args := [d1, d2] }
  | _ => none }
def fnTwoInsertsRow : OpenClaim := { program := "ytgbgdanbdbojaaa", sum := "448b16aa95628e4a8221092a20cfbdb67819f4a324dbe90df2c104275c0f44c8", func := "loop.example/fulltrees/laws.FnTwoInserts", spec := "fnTwoInserts", unfollowed := true, recurses := true, apart := false }
def FnTwoInsertsSaid : Prop := fnTwoInsertsRow.holds Try.pinned (OpenSpec.ofChange fnTwoInsertsSpec)

/-- ITS FALSE NEIGHBOUR: 'it returns false'. Refute it at one input. -/
def fnTwoInsertsWrong : ChangeSpec := { name := "fnTwoInserts", fn := fun _ => fun
  | [d1, d2] => { results := [.lit (.bool false)], args := [d1, d2] }
  | _ => none }
def FnTwoInsertsWrongFalsely : Prop := fnTwoInsertsRow.holds Try.pinned (OpenSpec.ofChange fnTwoInsertsWrong)

/-- 'laws.FnNodesSplits': WHATEVER THE INPUT: true; the input reads as it did. -/
def fnNodesSplitsSpec : ChangeSpec := { name := "fnNodesSplits", fn := fun _ => fun
  | [d] => { results := [.lit (.bool true)], args := [d] }
  | _ => none }
def fnNodesSplitsRow : OpenClaim := { program := "ytgbgdanbdbojaaa", sum := "448b16aa95628e4a8221092a20cfbdb67819f4a324dbe90df2c104275c0f44c8", func := "loop.example/fulltrees/laws.FnNodesSplits", spec := "fnNodesSplits", unfollowed := true, recurses := true, apart := false }
def FnNodesSplitsSaid : Prop := fnNodesSplitsRow.holds Try.pinned (OpenSpec.ofChange fnNodesSplitsSpec)

/-- ITS FALSE NEIGHBOUR: 'it returns false'. Refute it at one input. -/
def fnNodesSplitsWrong : ChangeSpec := { name := "fnNodesSplits", fn := fun _ => fun
  | [d] => { results := [.lit (.bool false)], args := [d] }
  | _ => none }
def FnNodesSplitsWrongFalsely : Prop := fnNodesSplitsRow.holds Try.pinned (OpenSpec.ofChange fnNodesSplitsWrong)

/-- 'laws.FnStandIn': WHATEVER THE INPUT: true; the input reads as it did. -/
def fnStandInSpec : ChangeSpec := { name := "fnStandIn", fn := fun _ => fun
  | [d] => { results := [.lit (.bool true)], args := [d] }
  | _ => none }
def fnStandInRow : OpenClaim := { program := "ytgbgdanbdbojaaa", sum := "448b16aa95628e4a8221092a20cfbdb67819f4a324dbe90df2c104275c0f44c8", func := "loop.example/fulltrees/laws.FnStandIn", spec := "fnStandIn", unfollowed := true, recurses := true, apart := false }
def FnStandInSaid : Prop := fnStandInRow.holds Try.pinned (OpenSpec.ofChange fnStandInSpec)

/-- ITS FALSE NEIGHBOUR: 'it returns false'. Refute it at one input. -/
def fnStandInWrong : ChangeSpec := { name := "fnStandIn", fn := fun _ => fun
  | [d] => { results := [.lit (.bool false)], args := [d] }
  | _ => none }
def FnStandInWrongFalsely : Prop := fnStandInRow.holds Try.pinned (OpenSpec.ofChange fnStandInWrong)

/-- 'laws.FnInsertAll': WHATEVER THE INPUT: true; the input reads as it did. -/
def fnInsertAllSpec : ChangeSpec := { name := "fnInsertAll", fn := fun _ => fun
  | [d] => { results := [.lit (.bool true)], args := [d] }
  | _ => none }
def fnInsertAllRow : OpenClaim := { program := "ytgbgdanbdbojaaa", sum := "448b16aa95628e4a8221092a20cfbdb67819f4a324dbe90df2c104275c0f44c8", func := "loop.example/fulltrees/laws.FnInsertAll", spec := "fnInsertAll", unfollowed := true, recurses := true, apart := false }
def FnInsertAllSaid : Prop := fnInsertAllRow.holds Try.pinned (OpenSpec.ofChange fnInsertAllSpec)

/-- ITS FALSE NEIGHBOUR: 'it returns false'. Refute it at one input. -/
def fnInsertAllWrong : ChangeSpec := { name := "fnInsertAll", fn := fun _ => fun
  | [d] => { results := [.lit (.bool false)], args := [d] }
  | _ => none }
def FnInsertAllWrongFalsely : Prop := fnInsertAllRow.holds Try.pinned (OpenSpec.ofChange fnInsertAllWrong)

/-- 'laws.FnRoom': WHATEVER THE INPUT: true; the input reads as it did. -/
def fnRoomSpec : ChangeSpec := { name := "fnRoom", fn := fun _ => fun
  | [d1, d2] => { results := [.lit (.bool true)], args := [d1, d2] }
  | _ => none }
def fnRoomRow : OpenClaim := { program := "ytgbgdanbdbojaaa", sum := "448b16aa95628e4a8221092a20cfbdb67819f4a324dbe90df2c104275c0f44c8", func := "loop.example/fulltrees/laws.FnRoom", spec := "fnRoom", unfollowed := true, recurses := true, apart := false }
def FnRoomSaid : Prop := fnRoomRow.holds Try.pinned (OpenSpec.ofChange fnRoomSpec)

/-- ITS FALSE NEIGHBOUR: 'it returns false'. Refute it at one input. -/
def fnRoomWrong : ChangeSpec := { name := "fnRoom", fn := fun _ => fun
  | [d1, d2] => { results := [.lit (.bool false)], args := [d1, d2] }
  | _ => none }
def FnRoomWrongFalsely : Prop := fnRoomRow.holds Try.pinned (OpenSpec.ofChange fnRoomWrong)

/- THE SECOND FORM. 'bulk': how many values and letters a reading holds, each counted each time it is reached (what is shared counts as often as it is met; a slice's spare places count too). A statement '..UptoSaid' is the law's where the arguments, and the package variables that the reading takes, are together of bulk at most 1048576: NARROWER than '..Said'. Prove '..Said' where nothing that the law and all that it calls make is longer than what came in: it says more and counts as full. Else prove '..UptoSaid'. A law counts once. -/
mutual
def uptoBulk {H : Type} : DataW H → Nat
  | .lit (.string bytes) => bytes.length + 1
  | .lit _ => 1
  | .nil => 1
  | .ptr d => uptoBulk d + 1
  | .slice elems spare => uptoBulkAll elems + uptoBulkAll spare + 1
  | .agg parts => uptoBulkAll parts + 1
  | .iface _ d => uptoBulk d + 1
  | .map entries => uptoBulkEntries entries + 1
  | .held _ => 1
def uptoBulkAll {H : Type} : List (DataW H) → Nat
  | [] => 0
  | d :: r => uptoBulk d + uptoBulkAll r
def uptoBulkEntries {H : Type} : List (Lit × DataW H) → Nat
  | [] => 0
  | x :: r => uptoBulkEntry x + uptoBulkEntries r
def uptoBulkEntry {H : Type} : Lit × DataW H → Nat
  | (.string bytes, d) => bytes.length + uptoBulk d + 1
  | (_, d) => uptoBulk d + 1
 end
def uptoSmall : (H : Type) → List (DataW H) → Bool := fun _ ds => decide (uptoBulkAll ds ≤ 1048576)
def OpenSpec.upto (s : _root_.Go.ChangeSpec) : _root_.Go.OpenSpec := { _root_.Go.OpenSpec.ofChange s with cond := some uptoSmall }

/-- 'laws.FnSplits', WHERE WHAT IT READS IS OF BULK AT MOST 1048576: true; the input reads as it did. -/
def fnSplitsUptoRow : OpenClaim := { program := "ytgbgdanbdbojaaa", sum := "448b16aa95628e4a8221092a20cfbdb67819f4a324dbe90df2c104275c0f44c8", func := "loop.example/fulltrees/laws.FnSplits", spec := "fnSplits", unfollowed := true, recurses := true, apart := false, narrowed := true }
def FnSplitsUptoSaid : Prop := fnSplitsUptoRow.holds Try.pinned (OpenSpec.upto fnSplitsSpec)

/-- 'laws.FnTwoInserts', WHERE WHAT IT READS IS OF BULK AT MOST 1048576: true; the input reads as it did. -/
def fnTwoInsertsUptoRow : OpenClaim := { program := "ytgbgdanbdbojaaa", sum := "448b16aa95628e4a8221092a20cfbdb67819f4a324dbe90df2c104275c0f44c8", func := "loop.example/fulltrees/laws.FnTwoInserts", spec := "fnTwoInserts", unfollowed := true, recurses := true, apart := false, narrowed := true }
def FnTwoInsertsUptoSaid : Prop := fnTwoInsertsUptoRow.holds Try.pinned (OpenSpec.upto fnTwoInsertsSpec)

/-- 'laws.FnNodesSplits', WHERE WHAT IT READS IS OF BULK AT MOST 1048576: true; the input reads as it did. -/
def fnNodesSplitsUptoRow : OpenClaim := { program := "ytgbgdanbdbojaaa", sum := "448b16aa95628e4a8221092a20cfbdb67819f4a324dbe90df2c104275c0f44c8", func := "loop.example/fulltrees/laws.FnNodesSplits", spec := "fnNodesSplits", unfollowed := true, recurses := true, apart := false, narrowed := true }
def FnNodesSplitsUptoSaid : Prop := fnNodesSplitsUptoRow.holds Try.pinned (OpenSpec.upto fnNodesSplitsSpec)

/-- 'laws.FnStandIn', WHERE WHAT IT READS IS OF BULK AT MOST 1048576: true; the input reads as it did. -/
def fnStandInUptoRow : OpenClaim := { program := "ytgbgdanbdbojaaa", sum := "448b16aa95628e4a8221092a20cfbdb67819f4a324dbe90df2c104275c0f44c8", func := "loop.example/fulltrees/laws.FnStandIn", spec := "fnStandIn", unfollowed := true, recurses := true, apart := false, narrowed := true }
def FnStandInUptoSaid : Prop := fnStandInUptoRow.holds Try.pinned (OpenSpec.upto fnStandInSpec)

/-- 'laws.FnInsertAll', WHERE WHAT IT READS IS OF BULK AT MOST 1048576: true; the input reads as it did. -/
def fnInsertAllUptoRow : OpenClaim := { program := "ytgbgdanbdbojaaa", sum := "448b16aa95628e4a8221092a20cfbdb67819f4a324dbe90df2c104275c0f44c8", func := "loop.example/fulltrees/laws.FnInsertAll", spec := "fnInsertAll", unfollowed := true, recurses := true, apart := false, narrowed := true }
def FnInsertAllUptoSaid : Prop := fnInsertAllUptoRow.holds Try.pinned (OpenSpec.upto fnInsertAllSpec)

/-- 'laws.FnRoom', WHERE WHAT IT READS IS OF BULK AT MOST 1048576: true; the input reads as it did. -/
def fnRoomUptoRow : OpenClaim := { program := "ytgbgdanbdbojaaa", sum := "448b16aa95628e4a8221092a20cfbdb67819f4a324dbe90df2c104275c0f44c8", func := "loop.example/fulltrees/laws.FnRoom", spec := "fnRoom", unfollowed := true, recurses := true, apart := false, narrowed := true }
def FnRoomUptoSaid : Prop := fnRoomUptoRow.holds Try.pinned (OpenSpec.upto fnRoomSpec)

end Rows
end Go.Proofs.Ytgbgdanbdbojaaa
