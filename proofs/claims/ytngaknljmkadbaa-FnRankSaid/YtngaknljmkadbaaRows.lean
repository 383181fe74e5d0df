/-
  No cell of these rows narrows 'for every input' (looked for: loops, veiled, ifaces, maps, wideKeys, modest, calm, conditions, laid).
  DERIVED. THE GIVEN ROWS OF THIS SEAT. 10 by the template 'for every input the law returns true; each argument reads behind the call as it read before'; 0 by the template 'total and deterministic' (their statements: YtngaknljmkadbaaTotals.lean).
  GIVEN WITH THE SEED: the statements are not yours to turn. If you find one false, say at which input.
  Laid BY PROGRAM, IN A SANDBOX (cutbox-rows.mjs): the forced cells as the released guide's own fill.sh prints them over the translation f25967f5a043a8ab… (all of the seat's roots in one cut). By AI agents, Wed Nov 11 2026. No macro, syntax, notation, axiom, sorry.
-/
import Derived.Test.YtngaknljmkadbaaChecked
import GoSem.Claim
import GoSem.ClaimJoined
import GoSem.ClaimMapViews
import Derived.JoinedTies
import Derived.KernelRfl
namespace Go.Proofs.Ytngaknljmkadbaa
/- THE CELL 'sum', in the pinned program and in every row, IS THE sha256 OF THE DUMP (.gsa) THAT YtngaknljmkadbaaProg.lean LOADS. Nothing in Lean hashes anything: it is a label: what it is worth is what the hold of that sum in a sandbox is worth. -/
noncomputable def Try.pinned : Pinned := { name := "ytngaknljmkadbaa", sum := "f25967f5a043a8abb0fe464e18f4c1f830b73dcbb3bc5b849827d13f800d0a56", checked := Try.checked }
namespace Rows
def none {H : Type} : Left H := { results := [], args := [] }

/-- 'laws.FnCounts': WHATEVER THE INPUT: true; the input reads as it did. -/
def fnCountsSpec : ChangeSpec := { name := "fnCounts", fn := fun _ => fun
  | [d] => { results := [.lit (.bool true)], args := [d] }
  | _ => none }
def fnCountsRow : OpenClaim := { program := "ytngaknljmkadbaa", sum := "f25967f5a043a8abb0fe464e18f4c1f830b73dcbb3bc5b849827d13f800d0a56", func := "loop.example/fulltrees/laws.FnCounts", spec := "fnCounts", unfollowed := true, recurses := true, apart := false }
def FnCountsSaid : Prop := fnCountsRow.holds Try.pinned (OpenSpec.ofChange fnCountsSpec)

/-- ITS FALSE NEIGHBOUR: 'it returns false'. Refute it at one input. -/
def fnCountsWrong : ChangeSpec := { name := "fnCounts", fn := fun _ => fun
  | [d] => { results := [.lit (.bool false)], args := [d] }
  | _ => none }
def FnCountsWrongFalsely : Prop := fnCountsRow.holds Try.pinned (OpenSpec.ofChange fnCountsWrong)

/-- 'laws.FnWidths': WHATEVER THE INPUT: true; the input reads as it did. -/
def fnWidthsSpec : ChangeSpec := { name := "fnWidths", fn := fun _ => fun
  | [d] => { results := [.lit (.bool true)], args := [d] }
  | _ => none }
def fnWidthsRow : OpenClaim := { program := "ytngaknljmkadbaa", sum := "f25967f5a043a8abb0fe464e18f4c1f830b73dcbb3bc5b849827d13f800d0a56", func := "loop.example/fulltrees/laws.FnWidths", spec := "fnWidths", unfollowed := true, recurses := true, apart := false }
def FnWidthsSaid : Prop := fnWidthsRow.holds Try.pinned (OpenSpec.ofChange fnWidthsSpec)

/-- ITS FALSE NEIGHBOUR: 'it returns false'. Refute it at one input. -/
def fnWidthsWrong : ChangeSpec := { name := "fnWidths", fn := fun _ => fun
  | [d] => { results := [.lit (.bool false)], args := [d] }
  | _ => none }
def FnWidthsWrongFalsely : Prop := fnWidthsRow.holds Try.pinned (OpenSpec.ofChange fnWidthsWrong)

/-- 'laws.FnKids': WHATEVER THE INPUT: true; the input reads as it did. -/
def fnKidsSpec : ChangeSpec := { name := "fnKids", fn := fun _ => fun
  | [d] => { results := [.lit (.bool true)], args := [d] }
  | _ => none }
def fnKidsRow : OpenClaim := { program := "ytngaknljmkadbaa", sum := "f25967f5a043a8abb0fe464e18f4c1f830b73dcbb3bc5b849827d13f800d0a56", func := "loop.example/fulltrees/laws.FnKids", spec := "fnKids", unfollowed := true, recurses := true, apart := false }
def FnKidsSaid : Prop := fnKidsRow.holds Try.pinned (OpenSpec.ofChange fnKidsSpec)

/-- ITS FALSE NEIGHBOUR: 'it returns false'. Refute it at one input. -/
def fnKidsWrong : ChangeSpec := { name := "fnKids", fn := fun _ => fun
  | [d] => { results := [.lit (.bool false)], args := [d] }
  | _ => none }
def FnKidsWrongFalsely : Prop := fnKidsRow.holds Try.pinned (OpenSpec.ofChange fnKidsWrong)

/-- 'laws.FnRank': WHATEVER THE INPUT: true; the input reads as it did. -/
def fnRankSpec : ChangeSpec := { name := "fnRank", fn := fun _ => fun
  | [d1, d2] => { results := [.lit (.bool true)], args := [d1, d2] }
  | _ => none }
def fnRankRow : OpenClaim := { program := "ytngaknljmkadbaa", sum := "f25967f5a043a8abb0fe464e18f4c1f830b73dcbb3bc5b849827d13f800d0a56", func := "loop.example/fulltrees/laws.FnRank", spec := "fnRank", unfollowed := true, recurses := true, apart := false }
def FnRankSaid : Prop := fnRankRow.holds Try.pinned (OpenSpec.ofChange fnRankSpec)

/-- ITS FALSE NEIGHBOUR: 'it returns false'. Refute it at one input. -/
def fnRankWrong : ChangeSpec := { name := "fnRank", fn := fun _ => fun
  | [d1, d2] => { results := [.lit (.bool false)], args := [d1, d2] }
  | _ => none }
def FnRankWrongFalsely : Prop := fnRankRow.holds Try.pinned (OpenSpec.ofChange fnRankWrong)

/-- 'laws.FnNext': WHATEVER THE INPUT: true; the input reads as it did. -/
def fnNextSpec : ChangeSpec := { name := "fnNext", fn := fun _ => fun
  | [d1, d2] => { results := [.lit (.bool true)], args := [d1, d2] }
  | _ => none }
def fnNextRow : OpenClaim := { program := "ytngaknljmkadbaa", sum := "f25967f5a043a8abb0fe464e18f4c1f830b73dcbb3bc5b849827d13f800d0a56", func := "loop.example/fulltrees/laws.FnNext", spec := "fnNext", unfollowed := true, recurses := true, apart := false }
def FnNextSaid : Prop := fnNextRow.holds Try.pinned (OpenSpec.ofChange fnNextSpec)

/-- ITS FALSE NEIGHBOUR: 'it returns false'. Refute it at one input. -/
def fnNextWrong : ChangeSpec := { name := "fnNext", fn := fun _ => fun
  | [d1, d2] => { results := [.lit (.bool false)], args := [d1, d2] }
  | _ => none }
def FnNextWrongFalsely : Prop := fnNextRow.holds Try.pinned (OpenSpec.ofChange fnNextWrong)

/-- 'laws.FnRange': WHATEVER THE INPUT: true; the input reads as it did. -/
def fnRangeSpec : ChangeSpec := { name := "fnRange", fn := fun _ => fun
  | [d] => { results := [.lit (.bool true)], args := [d] }
  | _ => none }
def fnRangeRow : OpenClaim := { program := "ytngaknljmkadbaa", sum := "f25967f5a043a8abb0fe464e18f4c1f830b73dcbb3bc5b849827d13f800d0a56", func := "loop.example/fulltrees/laws.FnRange", spec := "fnRange", unfollowed := true, recurses := true, apart := false }
def FnRangeSaid : Prop := fnRangeRow.holds Try.pinned (OpenSpec.ofChange fnRangeSpec)

/-- ITS FALSE NEIGHBOUR: 'it returns false'. Refute it at one input. -/
def fnRangeWrong : ChangeSpec := { name := "fnRange", fn := fun _ => fun
  | [d] => { results := [.lit (.bool false)], args := [d] }
  | _ => none }
def FnRangeWrongFalsely : Prop := fnRangeRow.holds Try.pinned (OpenSpec.ofChange fnRangeWrong)

/-- 'laws.FnPath': WHATEVER THE INPUT: true; the input reads as it did. -/
def fnPathSpec : ChangeSpec := { name := "fnPath", fn := fun _ => fun
  | [d] => { results := [.lit (.bool true)], args := [d] }
  | _ => none }
def fnPathRow : OpenClaim := { program := "ytngaknljmkadbaa", sum := "f25967f5a043a8abb0fe464e18f4c1f830b73dcbb3bc5b849827d13f800d0a56", func := "loop.example/fulltrees/laws.FnPath", spec := "fnPath", unfollowed := true, recurses := true, apart := false }
def FnPathSaid : Prop := fnPathRow.holds Try.pinned (OpenSpec.ofChange fnPathSpec)

/-- ITS FALSE NEIGHBOUR: 'it returns false'. Refute it at one input. -/
def fnPathWrong : ChangeSpec := { name := "fnPath", fn := fun _ => fun
  | [d] => { results := [.lit (.bool false)], args := [d] }
  | _ => none }
def FnPathWrongFalsely : Prop := fnPathRow.holds Try.pinned (OpenSpec.ofChange fnPathWrong)

/-- 'laws.FnRangeParts': WHATEVER THE INPUT: true; the input reads as it did. -/
def fnRangePartsSpec : ChangeSpec := { name := "fnRangeParts", fn := fun _ => fun
  | [d] => { results := [.lit (.bool true)], args := [d] }
  | _ => none }
def fnRangePartsRow : OpenClaim := { program := "ytngaknljmkadbaa", sum := "f25967f5a043a8abb0fe464e18f4c1f830b73dcbb3bc5b849827d13f800d0a56", func := "loop.example/fulltrees/laws.FnRangeParts", spec := "fnRangeParts", unfollowed := true, recurses := true, apart := false }
def FnRangePartsSaid : Prop := fnRangePartsRow.holds Try.pinned (OpenSpec.ofChange fnRangePartsSpec)

/-- ITS FALSE NEIGHBOUR: 'it returns false'. Refute it at one input. -/
def fnRangePartsWrong : ChangeSpec := { name := "fnRangeParts", fn := fun _ => fun
  | [d] => { results := [.lit (.bool false)], args := [d] }
  | _ => none }
def FnRangePartsWrongFalsely : Prop := fnRangePartsRow.holds Try.pinned (OpenSpec.ofChange fnRangePartsWrong)

/-- 'laws.FnNextAll': WHATEVER THE INPUT: true; the input reads as it did. -/
def fnNextAllSpec : ChangeSpec := { name := "fnNextAll", fn := fun _ => fun
  | [d] => { results := [.lit (.bool true)], args := [d] }
  | _ => none }
def fnNextAllRow : OpenClaim := { program := "ytngaknljmkadbaa", sum := "f25967f5a043a8abb0fe464e18f4c1f830b73dcbb3bc5b849827d13f800d0a56", func := "loop.example/fulltrees/laws.FnNextAll", spec := "fnNextAll", unfollowed := true, recurses := true, apart := false }
def FnNextAllSaid : Prop := fnNextAllRow.holds Try.pinned (OpenSpec.ofChange fnNextAllSpec)

/-- ITS FALSE NEIGHBOUR: 'it returns false'. Refute it at one input. -/
def fnNextAllWrong : ChangeSpec := { name := "fnNextAll", fn := fun _ => fun
  | [d] => { results := [.lit (.bool false)], args := [d] }
  | _ => none }
def FnNextAllWrongFalsely : Prop := fnNextAllRow.holds Try.pinned (OpenSpec.ofChange fnNextAllWrong)

/-- 'laws.FnInsert': WHATEVER THE INPUT: true; the input reads as it did. -/
def fnInsertSpec : ChangeSpec := { name := "fnInsert", fn := fun _ => fun
  | [d] => { results := [.lit (.bool true)], args := [d] }
  | _ => none }
def fnInsertRow : OpenClaim := { program := "ytngaknljmkadbaa", sum := "f25967f5a043a8abb0fe464e18f4c1f830b73dcbb3bc5b849827d13f800d0a56", func := "loop.example/fulltrees/laws.FnInsert", spec := "fnInsert", unfollowed := true, recurses := true, apart := false }
def FnInsertSaid : Prop := fnInsertRow.holds Try.pinned (OpenSpec.ofChange fnInsertSpec)

/-- ITS FALSE NEIGHBOUR: 'it returns false'. Refute it at one input. -/
def fnInsertWrong : ChangeSpec := { name := "fnInsert", fn := fun _ => fun
  | [d] => { results := [.lit (.bool false)], args := [d] }
  | _ => none }
def FnInsertWrongFalsely : Prop := fnInsertRow.holds Try.pinned (OpenSpec.ofChange fnInsertWrong)

/- THE SECOND FORM. 'bulk': how many values and letters a reading holds, each counted each time it is reached (what is shared counts as often as it is met; a slice's spare places count too). A statement '..UptoSaid' is the law's where the arguments, and the package variables that the reading takes, are together of bulk at most 1048576: NARROWER than '..Said'. Prove '..Said' where nothing that the law and all that it calls make is longer than what came in: it says more and counts as full. Else prove '..UptoSaid'. A law counts once. -/
mutual
def uptoBulk {H : Type} : DataW H → Nat
  | .lit (.string bytes) => bytes.length + 1
  | .lit _ => 1
  | .nil => 1
  | .ptr d => uptoBulk d + 1
  | .slice elems spare => uptoBulkAll elems + uptoBulkAll spare + 1
  | .agg parts => uptoBulkAll parts + 1
  | .iface _ d => uptoBulk d + 1
  | .map entries => uptoBulkEntries entries + 1
  | .held _ => 1
def uptoBulkAll {H : Type} : List (DataW H) → Nat
  | [] => 0
  | d :: r => uptoBulk d + uptoBulkAll r
def uptoBulkEntries {H : Type} : List (Lit × DataW H) → Nat
  | [] => 0
  | x :: r => uptoBulkEntry x + uptoBulkEntries r
def uptoBulkEntry {H : Type} : Lit × DataW H → Nat
  | (.string bytes, d) => bytes.length + uptoBulk d + 1
  | (_, d) => uptoBulk d + 1
 end
def uptoSmall : (H : Type) → List (DataW H) → Bool := fun _ ds => decide (uptoBulkAll ds ≤ 1048576)
def OpenSpec.upto (s : _root_.Go.ChangeSpec) : _root_.Go.OpenSpec := { _root_.Go.OpenSpec.ofChange s with cond := some uptoSmall }

/-- 'laws.FnCounts', WHERE WHAT IT READS IS OF BULK AT MOST 1048576: true; the input reads as it did. -/
def fnCountsUptoRow : OpenClaim := { program := "ytngaknljmkadbaa", sum := "f25967f5a043a8abb0fe464e18f4c1f830b73dcbb3bc5b849827d13f800d0a56", func := "loop.example/fulltrees/laws.FnCounts", spec := "fnCounts", unfollowed := true, recurses := true, apart := false, narrowed := true }
def FnCountsUptoSaid : Prop := fnCountsUptoRow.holds Try.pinned (OpenSpec.upto fnCountsSpec)

/-- 'laws.FnWidths', WHERE WHAT IT READS IS OF BULK AT MOST 1048576: true; the input reads as it did. -/
def fnWidthsUptoRow : OpenClaim := { program := "ytngaknljmkadbaa", sum := "f25967f5a043a8abb0fe464e18f4c1f830b73dcbb3bc5b849827d13f800d0a56", func := "loop.example/fulltrees/laws.FnWidths", spec := "fnWidths", unfollowed := true, recurses := true, apart := false, narrowed := true }
def FnWidthsUptoSaid : Prop := fnWidthsUptoRow.holds Try.pinned (OpenSpec.upto fnWidthsSpec)

/-- 'laws.FnKids', WHERE WHAT IT READS IS OF BULK AT MOST 1048576: true; the input reads as it did. -/
def fnKidsUptoRow : OpenClaim := { program := "ytngaknljmkadbaa", sum := "f25967f5a043a8abb0fe464e18f4c1f830b73dcbb3bc5b849827d13f800d0a56", func := "loop.example/fulltrees/laws.FnKids", spec := "fnKids", unfollowed := true, recurses := true, apart := false, narrowed := true }
def FnKidsUptoSaid : Prop := fnKidsUptoRow.holds Try.pinned (OpenSpec.upto fnKidsSpec)

/-- 'laws.FnRank', WHERE WHAT IT READS IS OF BULK AT MOST 1048576: true; the input reads as it did. -/
def fnRankUptoRow : OpenClaim := { program := "ytngaknljmkadbaa", sum := "f25967f5a043a8abb0fe464e18f4c1f830b73dcbb3bc5b849827d13f800d0a56", func := "loop.example/fulltrees/laws.FnRank", spec := "fnRank", unfollowed := true, recurses := true, apart := false, narrowed := true }
def FnRankUptoSaid : Prop := fnRankUptoRow.holds Try.pinned (OpenSpec.upto fnRankSpec)

/-- 'laws.FnNext', WHERE WHAT IT READS IS OF BULK AT MOST 1048576: true; the input reads as it did. -/
def fnNextUptoRow : OpenClaim := { program := "ytngaknljmkadbaa", sum := "f25967f5a043a8abb0fe464e18f4c1f830b73dcbb3bc5b849827d13f800d0a56", func := "loop.example/fulltrees/laws.FnNext", spec := "fnNext", unfollowed := true, recurses := true, apart := false, narrowed := true }
def FnNextUptoSaid : Prop := fnNextUptoRow.holds Try.pinned (OpenSpec.upto fnNextSpec)

/-- 'laws.FnRange', WHERE WHAT IT READS IS OF BULK AT MOST 1048576: true; the input reads as it did. -/
def fnRangeUptoRow : OpenClaim := { program := "ytngaknljmkadbaa", sum := "f25967f5a043a8abb0fe464e18f4c1f830b73dcbb3bc5b849827d13f800d0a56", func := "loop.example/fulltrees/laws.FnRange", spec := "fnRange", unfollowed := true, recurses := true, apart := false, narrowed := true }
def FnRangeUptoSaid : Prop := fnRangeUptoRow.holds Try.pinned (OpenSpec.upto fnRangeSpec)

/-- 'laws.FnPath', WHERE WHAT IT READS IS OF BULK AT MOST 1048576: true; the input reads as it did. -/
def fnPathUptoRow : OpenClaim := { program := "ytngaknljmkadbaa", sum := "f25967f5a043a8abb0fe464e18f4c1f830b73dcbb3bc5b849827d13f800d0a56", func := "loop.example/fulltrees/laws.FnPath", spec := "fnPath", unfollowed := true, recurses := true, apart := false, narrowed := true }
def FnPathUptoSaid : Prop := fnPathUptoRow.holds Try.pinned (OpenSpec.upto fnPathSpec)

/-- 'laws.FnRangeParts', WHERE WHAT IT READS IS OF BULK AT MOST 1048576: true; the input reads as it did. -/
def fnRangePartsUptoRow : OpenClaim := { program := "ytngaknljmkadbaa", sum := "f25967f5a043a8abb0fe464e18f4c1f830b73dcbb3bc5b849827d13f800d0a56", func := "loop.example/fulltrees/laws.FnRangeParts", spec := "fnRangeParts", unfollowed := true, recurses := true, apart := false, narrowed := true }
def FnRangePartsUptoSaid : Prop := fnRangePartsUptoRow.holds Try.pinned (OpenSpec.upto fnRangePartsSpec)

/-- 'laws.FnNextAll', WHERE WHAT IT READS IS OF BULK AT MOST 1048576: true; the input reads as it did. -/
def fnNextAllUptoRow : OpenClaim := { program := "ytngaknljmkadbaa", sum := "f25967f5a043a8abb0fe464e18f4c1f830b73dcbb3bc5b849827d13f800d0a56", func := "loop.example/fulltrees/laws.FnNextAll", spec := "fnNextAll", unfollowed := true, recurses := true, apart := false, narrowed := true }
def FnNextAllUptoSaid : Prop := fnNextAllUptoRow.holds Try.pinned (OpenSpec.upto fnNextAllSpec)

/-- 'laws.FnInsert', WHERE WHAT IT READS IS OF BULK AT MOST 1048576: true; the input reads as it did. -/
def fnInsertUptoRow : OpenClaim := { program := "ytngaknljmkadbaa", sum := "f25967f5a043a8abb0fe464e18f4c1f830b73dcbb3bc5b849827d13f800d0a56", func := "loop.example/fulltrees/laws.FnInsert", spec := "fnInsert", unfollowed := true, recurses := true, apart := false, narrowed := true }
def FnInsertUptoSaid : Prop := fnInsertUptoRow.holds Try.pinned (OpenSpec.upto fnInsertSpec)

end Rows
end Go.Proofs.Ytngaknljmkadbaa
