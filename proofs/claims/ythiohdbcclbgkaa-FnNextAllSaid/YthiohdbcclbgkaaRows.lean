/-
  NARROWER THAN 'FOR EVERY INPUT', by the rows' own cells (each row's printed sentence says how): FnExactRoomOf: loops.
  DERIVED. THE GIVEN ROWS OF THIS SEAT. 12 by the template 'for every input the law returns true; each argument reads behind the call as it read before'; 0 by the template 'total and deterministic' (their statements: YthiohdbcclbgkaaTotals.lean).
  GIVEN WITH THE SEED: the statements are not yours to turn. If you find one false, say at which input.
  Laid BY PROGRAM, IN A SANDBOX (cutbox-rows.mjs): the forced cells as the released guide's own fill.sh prints them over the translation 57c73b2abfc58e30… (all of the seat's roots in one cut). By AI agents, Wed Nov 11 2026. No macro, syntax, notation, axiom, sorry.
-/
import Derived.Test.YthiohdbcclbgkaaChecked
import GoSem.Claim
import GoSem.ClaimJoined
import GoSem.ClaimMapViews
import Derived.JoinedTies
import Derived.KernelRfl
namespace Go.Proofs.Ythiohdbcclbgkaa
/- THE CELL 'sum', in the pinned program and in every row, IS THE sha256 OF THE DUMP (.gsa) THAT YthiohdbcclbgkaaProg.lean LOADS. Nothing in Lean hashes anything: it is a label: what it is worth is what the hold of that sum in a sandbox is worth. -/
noncomputable def Try.pinned : Pinned := { name := "ythiohdbcclbgkaa", sum := "57c73b2abfc58e30409c935b7f67009bbe99e8e9234fdbf06fbb3ef12bcde9c0", checked := Try.checked }
namespace Rows
def none {H : Type} : Left H := { results := [], args := [] }

/-- 'laws.FnExactInsertAll': WHATEVER THE INPUT: true; the input reads as it did. -/
def fnExactInsertAllSpec : ChangeSpec := { name := "fnExactInsertAll", fn := fun _ => fun
  | [d1, d2] => { results := [.lit (.bool true)], args := [d1, d2] }
  | _ => none }
def fnExactInsertAllRow : OpenClaim := { program := "ythiohdbcclbgkaa", sum := "57c73b2abfc58e30409c935b7f67009bbe99e8e9234fdbf06fbb3ef12bcde9c0", func := "loop.example/fulltrees/laws.FnExactInsertAll", spec := "fnExactInsertAll", unfollowed := true, recurses := true, apart := false }
def FnExactInsertAllSaid : Prop := fnExactInsertAllRow.holds Try.pinned (OpenSpec.ofChange fnExactInsertAllSpec)

/-- ITS FALSE NEIGHBOUR: 'it returns false'. Refute it at one input. -/
def fnExactInsertAllWrong : ChangeSpec := { name := "fnExactInsertAll", fn := fun _ => fun
  | [d1, d2] => { results := [.lit (.bool false)], args := [d1, d2] }
  | _ => none }
def FnExactInsertAllWrongFalsely : Prop := fnExactInsertAllRow.holds Try.pinned (OpenSpec.ofChange fnExactInsertAllWrong)

/-- 'laws.FnExactSplitsOf': WHATEVER THE INPUT: true; the input reads as it did. -/
def fnExactSplitsOfSpec : ChangeSpec := { name := "fnExactSplitsOf", fn := fun _ => fun
  | [d1, d2] => { results := [.lit (.bool true)], args := [d1, d2] }
  | _ => none }
def fnExactSplitsOfRow : OpenClaim := { program := "ythiohdbcclbgkaa", sum := "57c73b2abfc58e30409c935b7f67009bbe99e8e9234fdbf06fbb3ef12bcde9c0", func := "loop.example/fulltrees/laws.FnExactSplitsOf", spec := "fnExactSplitsOf", unfollowed := true, recurses := true, apart := false }
def FnExactSplitsOfSaid : Prop := fnExactSplitsOfRow.holds Try.pinned (OpenSpec.ofChange fnExactSplitsOfSpec)

/-- ITS FALSE NEIGHBOUR: 'it returns false'. Refute it at one input. -/
def fnExactSplitsOfWrong : ChangeSpec := { name := "fnExactSplitsOf", fn := fun _ => fun
  | [d1, d2] => { results := [.lit (.bool false)], args := [d1, d2] }
  | _ => none }
def FnExactSplitsOfWrongFalsely : Prop := fnExactSplitsOfRow.holds Try.pinned (OpenSpec.ofChange fnExactSplitsOfWrong)

/-- 'laws.FnCounts': WHATEVER THE INPUT: true; the input reads as it did. -/
def fnCountsSpec : ChangeSpec := { name := "fnCounts", fn := fun _ => fun
  | [d] => { results := [.lit (.bool true)], args := [d] }
  | _ => none }
def fnCountsRow : OpenClaim := { program := "ythiohdbcclbgkaa", sum := "57c73b2abfc58e30409c935b7f67009bbe99e8e9234fdbf06fbb3ef12bcde9c0", func := "loop.example/fulltrees/laws.FnCounts", spec := "fnCounts", unfollowed := true, recurses := true, apart := false }
def FnCountsSaid : Prop := fnCountsRow.holds Try.pinned (OpenSpec.ofChange fnCountsSpec)

/-- ITS FALSE NEIGHBOUR: 'it returns false'. Refute it at one input. -/
def fnCountsWrong : ChangeSpec := { name := "fnCounts", fn := fun _ => fun
  | [d] => { results := [.lit (.bool false)], args := [d] }
  | _ => none }
def FnCountsWrongFalsely : Prop := fnCountsRow.holds Try.pinned (OpenSpec.ofChange fnCountsWrong)

/-- 'laws.FnWidths': WHATEVER THE INPUT: true; the input reads as it did. -/
def fnWidthsSpec : ChangeSpec := { name := "fnWidths", fn := fun _ => fun
  | [d] => { results := [.lit (.bool true)], args := [d] }
  | _ => none }
def fnWidthsRow : OpenClaim := { program := "ythiohdbcclbgkaa", sum := "57c73b2abfc58e30409c935b7f67009bbe99e8e9234fdbf06fbb3ef12bcde9c0", func := "loop.example/fulltrees/laws.FnWidths", spec := "fnWidths", unfollowed := true, recurses := true, apart := false }
def FnWidthsSaid : Prop := fnWidthsRow.holds Try.pinned (OpenSpec.ofChange fnWidthsSpec)

/-- ITS FALSE NEIGHBOUR: 'it returns false'. Refute it at one input. -/
def fnWidthsWrong : ChangeSpec := { name := "fnWidths", fn := fun _ => fun
  | [d] => { results := [.lit (.bool false)], args := [d] }
  | _ => none }
def FnWidthsWrongFalsely : Prop := fnWidthsRow.holds Try.pinned (OpenSpec.ofChange fnWidthsWrong)

/-- 'laws.FnKids': WHATEVER THE INPUT: true; the input reads as it did. -/
def fnKidsSpec : ChangeSpec := { name := "fnKids", fn := fun _ => fun
  | [d] => { results := [.lit (.bool true)], args := [d] }
  | _ => none }
def fnKidsRow : OpenClaim := { program := "ythiohdbcclbgkaa", sum := "57c73b2abfc58e30409c935b7f67009bbe99e8e9234fdbf06fbb3ef12bcde9c0", func := "loop.example/fulltrees/laws.FnKids", spec := "fnKids", unfollowed := true, recurses := true, apart := false }
def FnKidsSaid : Prop := fnKidsRow.holds Try.pinned (OpenSpec.ofChange fnKidsSpec)

/-- ITS FALSE NEIGHBOUR: 'it returns false'. Refute it at one input. -/
def fnKidsWrong : ChangeSpec := { name := "fnKids", fn := fun _ => fun
  | [d] => { results := [.lit (.bool false)], args := [d] }
  | _ => none }
def FnKidsWrongFalsely : Prop := fnKidsRow.holds Try.pinned (OpenSpec.ofChange fnKidsWrong)

/-- 'laws.FnRange': WHATEVER THE INPUT: true; the input reads as it did. -/
def fnRangeSpec : ChangeSpec := { name := "fnRange", fn := fun _ => fun
  | [d] => { results := [.lit (.bool true)], args := [d] }
  | _ => none }
def fnRangeRow : OpenClaim := { program := "ythiohdbcclbgkaa", sum := "57c73b2abfc58e30409c935b7f67009bbe99e8e9234fdbf06fbb3ef12bcde9c0", func := "loop.example/fulltrees/laws.FnRange", spec := "fnRange", unfollowed := true, recurses := true, apart := false }
def FnRangeSaid : Prop := fnRangeRow.holds Try.pinned (OpenSpec.ofChange fnRangeSpec)

/-- ITS FALSE NEIGHBOUR: 'it returns false'. Refute it at one input. -/
def fnRangeWrong : ChangeSpec := { name := "fnRange", fn := fun _ => fun
  | [d] => { results := [.lit (.bool false)], args := [d] }
  | _ => none }
def FnRangeWrongFalsely : Prop := fnRangeRow.holds Try.pinned (OpenSpec.ofChange fnRangeWrong)

/-- 'laws.FnRangeParts': WHATEVER THE INPUT: true; the input reads as it did. -/
def fnRangePartsSpec : ChangeSpec := { name := "fnRangeParts", fn := fun _ => fun
  | [d] => { results := [.lit (.bool true)], args := [d] }
  | _ => none }
def fnRangePartsRow : OpenClaim := { program := "ythiohdbcclbgkaa", sum := "57c73b2abfc58e30409c935b7f67009bbe99e8e9234fdbf06fbb3ef12bcde9c0", func := "loop.example/fulltrees/laws.FnRangeParts", spec := "fnRangeParts", unfollowed := true, recurses := true, apart := false }
def FnRangePartsSaid : Prop := fnRangePartsRow.holds Try.pinned (OpenSpec.ofChange fnRangePartsSpec)

/-- ITS FALSE NEIGHBOUR: 'it returns false'. Refute it at one input. -/
def fnRangePartsWrong : ChangeSpec := { name := "fnRangeParts", fn := fun _ => fun
  | [d] => { results := [.lit (.bool false)], args := [d] }
  | _ => none }
def FnRangePartsWrongFalsely : Prop := fnRangePartsRow.holds Try.pinned (OpenSpec.ofChange fnRangePartsWrong)

/-- 'laws.FnInsert': WHATEVER THE INPUT: true; the input reads as it did. -/
def fnInsertSpec : ChangeSpec := { name := "fnInsert", fn := fun _ => fun
  | [d] => { results := [.lit (.bool true)], args := [d] }
  | _ => none }
def fnInsertRow : OpenClaim := { program := "ythiohdbcclbgkaa", sum := "57c73b2abfc58e30409c935b7f67009bbe99e8e9234fdbf06fbb3ef12bcde9c0", func := "loop.example/fulltrees/laws.FnInsert", spec := "fnInsert", unfollowed := true, recurses := true, apart := false }
def FnInsertSaid : Prop := fnInsertRow.holds Try.pinned (OpenSpec.ofChange fnInsertSpec)

/-- ITS FALSE NEIGHBOUR: 'it returns false'. Refute it at one input. -/
def fnInsertWrong : ChangeSpec := { name := "fnInsert", fn := fun _ => fun
  | [d] => { results := [.lit (.bool false)], args := [d] }
  | _ => none }
def FnInsertWrongFalsely : Prop := fnInsertRow.holds Try.pinned (OpenSpec.ofChange fnInsertWrong)

/-- 'laws.FnNextAll': WHATEVER THE INPUT: true; the input reads as it did. -/
def fnNextAllSpec : ChangeSpec := { name := "fnNextAll", fn := fun _ => fun
  | [d] => { results := [.lit (.bool true)], args := [d] }
  | _ => none }
def fnNextAllRow : OpenClaim := { program := "ythiohdbcclbgkaa", sum := "57c73b2abfc58e30409c935b7f67009bbe99e8e9234fdbf06fbb3ef12bcde9c0", func := "loop.example/fulltrees/laws.FnNextAll", spec := "fnNextAll", unfollowed := true, recurses := true, apart := false }
def FnNextAllSaid : Prop := fnNextAllRow.holds Try.pinned (OpenSpec.ofChange fnNextAllSpec)

/-- ITS FALSE NEIGHBOUR: 'it returns false'. Refute it at one input. -/
def fnNextAllWrong : ChangeSpec := { name := "fnNextAll", fn := fun _ => fun
  | [d] => { results := [.lit (.bool false)], args := [d] }
  | _ => none }
def FnNextAllWrongFalsely : Prop := fnNextAllRow.holds Try.pinned (OpenSpec.ofChange fnNextAllWrong)

/-- 'laws.FnPath': WHATEVER THE INPUT: true; the input reads as it did. -/
def fnPathSpec : ChangeSpec := { name := "fnPath", fn := fun _ => fun
  | [d] => { results := [.lit (.bool true)], args := [d] }
  | _ => none }
def fnPathRow : OpenClaim := { program := "ythiohdbcclbgkaa", sum := "57c73b2abfc58e30409c935b7f67009bbe99e8e9234fdbf06fbb3ef12bcde9c0", func := "loop.example/fulltrees/laws.FnPath", spec := "fnPath", unfollowed := true, recurses := true, apart := false }
def FnPathSaid : Prop := fnPathRow.holds Try.pinned (OpenSpec.ofChange fnPathSpec)

/-- ITS FALSE NEIGHBOUR: 'it returns false'. Refute it at one input. -/
def fnPathWrong : ChangeSpec := { name := "fnPath", fn := fun _ => fun
  | [d] => { results := [.lit (.bool false)], args := [d] }
  | _ => none }
def FnPathWrongFalsely : Prop := fnPathRow.holds Try.pinned (OpenSpec.ofChange fnPathWrong)

/-- 'laws.FnVisits': WHATEVER THE INPUT: true; the input reads as it did. -/
def fnVisitsSpec : ChangeSpec := { name := "fnVisits", fn := fun _ => fun
  | [d] => { results := [.lit (.bool true)], args := [d] }
  | _ => none }
def fnVisitsRow : OpenClaim := { program := "ythiohdbcclbgkaa", sum := "57c73b2abfc58e30409c935b7f67009bbe99e8e9234fdbf06fbb3ef12bcde9c0", func := "loop.example/fulltrees/laws.FnVisits", spec := "fnVisits", unfollowed := true, recurses := true, apart := false }
def FnVisitsSaid : Prop := fnVisitsRow.holds Try.pinned (OpenSpec.ofChange fnVisitsSpec)

/-- ITS FALSE NEIGHBOUR: 'it returns false'. Refute it at one input. -/
def fnVisitsWrong : ChangeSpec := { name := "fnVisits", fn := fun _ => fun
  | [d] => { results := [.lit (.bool false)], args := [d] }
  | _ => none }
def FnVisitsWrongFalsely : Prop := fnVisitsRow.holds Try.pinned (OpenSpec.ofChange fnVisitsWrong)

/-- 'laws.FnExactRoomOf': WHATEVER THE INPUT: true; the input reads as it did. -/
def fnExactRoomOfSpec : ChangeSpec := { name := "fnExactRoomOf", fn := fun _ => fun
  | [d1, d2] => { results := [.lit (.bool true)], args := [d1, d2] }
  | _ => none }
def fnExactRoomOfRow : OpenClaim := { program := "ythiohdbcclbgkaa", sum := "57c73b2abfc58e30409c935b7f67009bbe99e8e9234fdbf06fbb3ef12bcde9c0", func := "loop.example/fulltrees/laws.FnExactRoomOf", spec := "fnExactRoomOf", unfollowed := true, recurses := true, loops := true, apart := false }
def FnExactRoomOfSaid : Prop := fnExactRoomOfRow.holds Try.pinned (OpenSpec.ofChange fnExactRoomOfSpec)

/-- ITS FALSE NEIGHBOUR: 'it returns false'. Refute it at one input. -/
def fnExactRoomOfWrong : ChangeSpec := { name := "fnExactRoomOf", fn := fun _ => fun
  | [d1, d2] => { results := [.lit (.bool false)], args := [d1, d2] }
  | _ => none }
def FnExactRoomOfWrongFalsely : Prop := fnExactRoomOfRow.holds Try.pinned (OpenSpec.ofChange fnExactRoomOfWrong)

/- THE SECOND FORM. 'bulk': how many values and letters a reading holds, each counted each time it is reached (what is shared counts as often as it is met; a slice's spare places count too). A statement '..UptoSaid' is the law's where the arguments, and the package variables that the reading takes, are together of bulk at most 1048576: NARROWER than '..Said'. Prove '..Said' where nothing that the law and all that it calls make is longer than what came in: it says more and counts as full. Else prove '..UptoSaid'. A law counts once. -/
mutual
def uptoBulk {H : Type} : DataW H → Nat
  | .lit (.string bytes) => bytes.length + 1
  | .lit _ => 1
  | .nil => 1
  | .ptr d => uptoBulk d + 1
  | .slice elems spare => uptoBulkAll elems + uptoBulkAll spare + 1
  | .agg parts => uptoBulkAll parts + 1
  | .iface _ d => uptoBulk d + 1
  | .map entries => uptoBulkEntries entries + 1
  | .held _ => 1
def uptoBulkAll {H : Type} : List (DataW H) → Nat
  | [] => 0
  | d :: r => uptoBulk d + uptoBulkAll r
def uptoBulkEntries {H : Type} : List (Lit × DataW H) → Nat
  | [] => 0
  | x :: r => uptoBulkEntry x + uptoBulkEntries r
def uptoBulkEntry {H : Type} : Lit × DataW H → Nat
  | (.string bytes, d) => bytes.length + uptoBulk d + 1
  | (_, d) => uptoBulk d + 1
 end
def uptoSmall : (H : Type) → List (DataW H) → Bool := fun _ ds => decide (uptoBulkAll ds ≤ 1048576)
def OpenSpec.upto (s : _root_.Go.ChangeSpec) : _root_.Go.OpenSpec := { _root_.Go.OpenSpec.ofChange s with cond := some uptoSmall }

/-- 'laws.FnExactInsertAll', WHERE WHAT IT READS IS OF BULK AT MOST 1048576: true; the input reads as it did. -/
def fnExactInsertAllUptoRow : OpenClaim := { program := "ythiohdbcclbgkaa", sum := "57c73b2abfc58e30409c935b7f67009bbe99e8e9234fdbf06fbb3ef12bcde9c0", func := "loop.example/fulltrees/laws.FnExactInsertAll", spec := "fnExactInsertAll", unfollowed := true, recurses := true, apart := false, narrowed := true }
def FnExactInsertAllUptoSaid : Prop := fnExactInsertAllUptoRow.holds Try.pinned (OpenSpec.upto fnExactInsertAllSpec)

/-- 'laws.FnExactSplitsOf', WHERE WHAT IT READS IS OF BULK AT MOST 1048576: true; the input reads as it did. -/
def fnExactSplitsOfUptoRow : OpenClaim := { program := "ythiohdbcclbgkaa", sum := "57c73b2abfc58e30409c935b7f67009bbe99e8e9234fdbf06fbb3ef12bcde9c0", func := "loop.example/fulltrees/laws.FnExactSplitsOf", spec := "fnExactSplitsOf", unfollowed := true, recurses := true, apart := false, narrowed := true }
def FnExactSplitsOfUptoSaid : Prop := fnExactSplitsOfUptoRow.holds Try.pinned (OpenSpec.upto fnExactSplitsOfSpec)

/-- 'laws.FnCounts', WHERE WHAT IT READS IS OF BULK AT MOST 1048576: true; the input reads as it did. -/
def fnCountsUptoRow : OpenClaim := { program := "ythiohdbcclbgkaa", sum := "57c73b2abfc58e30409c935b7f67009bbe99e8e9234fdbf06fbb3ef12bcde9c0", func := "loop.example/fulltrees/laws.FnCounts", spec := "fnCounts", unfollowed := true, recurses := true, apart := false, narrowed := true }
def FnCountsUptoSaid : Prop := fnCountsUptoRow.holds Try.pinned (OpenSpec.upto fnCountsSpec)

/-- 'laws.FnWidths', WHERE WHAT IT READS IS OF BULK AT MOST 1048576: true; the input reads as it did. -/
def fnWidthsUptoRow : OpenClaim := { program := "ythiohdbcclbgkaa", sum := "57c73b2abfc58e30409c935b7f67009bbe99e8e9234fdbf06fbb3ef12bcde9c0", func := "loop.example/fulltrees/laws.FnWidths", spec := "fnWidths", unfollowed := true, recurses := true, apart := false, narrowed := true }
def FnWidthsUptoSaid : Prop := fnWidthsUptoRow.holds Try.pinned (OpenSpec.upto fnWidthsSpec)

/-- 'laws.FnKids', WHERE WHAT IT READS IS OF BULK AT MOST 1048576: true; the input reads as it did. -/
def fnKidsUptoRow : OpenClaim := { program := "ythiohdbcclbgkaa", sum := "57c73b2abfc58e30409c935b7f67009bbe99e8e9234fdbf06fbb3ef12bcde9c0", func := "loop.example/fulltrees/laws.FnKids", spec := "fnKids", unfollowed := true, recurses := true, apart := false, narrowed := true }
def FnKidsUptoSaid : Prop := fnKidsUptoRow.holds Try.pinned (OpenSpec.upto fnKidsSpec)

/-- 'laws.FnRange', WHERE WHAT IT READS IS OF BULK AT MOST 1048576: true; the input reads as it did. -/
def fnRangeUptoRow : OpenClaim := { program := "ythiohdbcclbgkaa", sum := "57c73b2abfc58e30409c935b7f67009bbe99e8e9234fdbf06fbb3ef12bcde9c0", func := "loop.example/fulltrees/laws.FnRange", spec := "fnRange", unfollowed := true, recurses := true, apart := false, narrowed := true }
def FnRangeUptoSaid : Prop := fnRangeUptoRow.holds Try.pinned (OpenSpec.upto fnRangeSpec)

/-- 'laws.FnRangeParts', WHERE WHAT IT READS IS OF BULK AT MOST 1048576: true; the input reads as it did. -/
def fnRangePartsUptoRow : OpenClaim := { program := "ythiohdbcclbgkaa", sum := "57c73b2abfc58e30409c935b7f67009bbe99e8e9234fdbf06fbb3ef12bcde9c0", func := "loop.example/fulltrees/laws.FnRangeParts", spec := "fnRangeParts", unfollowed := true, recurses := true, apart := false, narrowed := true }
def FnRangePartsUptoSaid : Prop := fnRangePartsUptoRow.holds Try.pinned (OpenSpec.upto fnRangePartsSpec)

/-- 'laws.FnInsert', WHERE WHAT IT READS IS OF BULK AT MOST 1048576: true; the input reads as it did. -/
def fnInsertUptoRow : OpenClaim := { program := "ythiohdbcclbgkaa", sum := "57c73b2abfc58e30409c935b7f67009bbe99e8e9234fdbf06fbb3ef12bcde9c0", func := "loop.example/fulltrees/laws.FnInsert", spec := "fnInsert", unfollowed := true, recurses := true, apart := false, narrowed := true }
def FnInsertUptoSaid : Prop := fnInsertUptoRow.holds Try.pinned (OpenSpec.upto fnInsertSpec)

/-- 'laws.FnNextAll', WHERE WHAT IT READS IS OF BULK AT MOST 1048576: true; the input reads as it did. -/
def fnNextAllUptoRow : OpenClaim := { program := "ythiohdbcclbgkaa", sum := "57c73b2abfc58e30409c935b7f67009bbe99e8e9234fdbf06fbb3ef12bcde9c0", func := "loop.example/fulltrees/laws.FnNextAll", spec := "fnNextAll", unfollowed := true, recurses := true, apart := false, narrowed := true }
def FnNextAllUptoSaid : Prop := fnNextAllUptoRow.holds Try.pinned (OpenSpec.upto fnNextAllSpec)

/-- 'laws.FnPath', WHERE WHAT IT READS IS OF BULK AT MOST 1048576: true; the input reads as it did. -/
def fnPathUptoRow : OpenClaim := { program := "ythiohdbcclbgkaa", sum := "57c73b2abfc58e30409c935b7f67009bbe99e8e9234fdbf06fbb3ef12bcde9c0", func := "loop.example/fulltrees/laws.FnPath", spec := "fnPath", unfollowed := true, recurses := true, apart := false, narrowed := true }
def FnPathUptoSaid : Prop := fnPathUptoRow.holds Try.pinned (OpenSpec.upto fnPathSpec)

/-- 'laws.FnVisits', WHERE WHAT IT READS IS OF BULK AT MOST 1048576: true; the input reads as it did. -/
def fnVisitsUptoRow : OpenClaim := { program := "ythiohdbcclbgkaa", sum := "57c73b2abfc58e30409c935b7f67009bbe99e8e9234fdbf06fbb3ef12bcde9c0", func := "loop.example/fulltrees/laws.FnVisits", spec := "fnVisits", unfollowed := true, recurses := true, apart := false, narrowed := true }
def FnVisitsUptoSaid : Prop := fnVisitsUptoRow.holds Try.pinned (OpenSpec.upto fnVisitsSpec)

/-- 'laws.FnExactRoomOf', WHERE WHAT IT READS IS OF BULK AT MOST 1048576: true; the input reads as it did. -/
def fnExactRoomOfUptoRow : OpenClaim := { program := "ythiohdbcclbgkaa", sum := "57c73b2abfc58e30409c935b7f67009bbe99e8e9234fdbf06fbb3ef12bcde9c0", func := "loop.example/fulltrees/laws.FnExactRoomOf", spec := "fnExactRoomOf", unfollowed := true, recurses := true, loops := true, apart := false, narrowed := true }
def FnExactRoomOfUptoSaid : Prop := fnExactRoomOfUptoRow.holds Try.pinned (OpenSpec.upto fnExactRoomOfSpec)

end Rows
end Go.Proofs.Ythiohdbcclbgkaa
