/-
  NARROWER THAN 'FOR EVERY INPUT', by the rows' own cells (each row's printed sentence says how): FnExactTreeValid: loops · FnExactKeysOf: loops · FnExactCountNodes: loops · FnExactFullNodes: loops · FnExactDepthOf: loops · FnExactSameTree: loops · FnExactBinKeys: loops · FnExactBinDepth: loops · FnExactBinValid: loops · FnExactBlackDepth: loops · FnExactToColours: loops · FnExactInsertBin: loops · FnExactFromColours: loops.
  DERIVED. THE GIVEN ROWS OF THIS SEAT. 13 by the template 'for every input the law returns true; each argument reads behind the call as it read before'; 0 by the template 'total and deterministic' (their statements: YtodcapgmhginoaaTotals.lean).
  GIVEN WITH THE SEED: the statements are not yours to turn. If you find one false, say at which input.
  Laid BY PROGRAM, IN A SANDBOX (cutbox-rows.mjs): the forced cells as the released guide's own fill.sh prints them over the translation b103fe9bcc348f62… (all of the seat's roots in one cut). By AI agents, Wed Nov 11 2026. No macro, syntax, notation, axiom, sorry.
-/
import Derived.Test.YtodcapgmhginoaaChecked
import GoSem.Claim
import GoSem.ClaimJoined
import GoSem.ClaimMapViews
import Derived.JoinedTies
import Derived.KernelRfl
namespace Go.Proofs.Ytodcapgmhginoaa
/- THE CELL 'sum', in the pinned program and in every row, IS THE sha256 OF THE DUMP (.gsa) THAT YtodcapgmhginoaaProg.lean LOADS. Nothing in Lean hashes anything: it is a label: what it is worth is what the hold of that sum in a sandbox is worth. -/
noncomputable def Try.pinned : Pinned := { name := "ytodcapgmhginoaa", sum := "b103fe9bcc348f62d65341d934ee938cfcfbf6857c1f8b67f96d292ba7f10549", checked := Try.checked }
namespace Rows
def none {H : Type} : Left H := { results := [], args := [] }

/-- 'laws.FnExactTreeValid': WHATEVER THE INPUT: true; the input reads as it did. -/
def fnExactTreeValidSpec : ChangeSpec := { name := "fnExactTreeValid", fn := fun _ => fun
  | [d1, d2] => { results := [.lit (.bool true)], args := [d1, d2] }
  | _ => none }
def fnExactTreeValidRow : OpenClaim := { program := "ytodcapgmhginoaa", sum := "b103fe9bcc348f62d65341d934ee938cfcfbf6857c1f8b67f96d292ba7f10549", func := "loop.example/fulltrees/laws.FnExactTreeValid", spec := "fnExactTreeValid", unfollowed := true, recurses := true, loops := true, apart := false }
def FnExactTreeValidSaid : Prop := fnExactTreeValidRow.holds Try.pinned (OpenSpec.ofChange fnExactTreeValidSpec)

/-- ITS FALSE NEIGHBOUR: 'it returns false'. Refute it at one input. -/
def fnExactTreeValidWrong : ChangeSpec := { name := "fnExactTreeValid", fn := fun _ => fun
  | [d1, d2] => { results := [.lit (.bool false)], args := [d1, d2] }
  | _ => none }
def FnExactTreeValidWrongFalsely : Prop := fnExactTreeValidRow.holds Try.pinned (OpenSpec.ofChange fnExactTreeValidWrong)

/-- 'laws.FnExactKeysOf': WHATEVER THE INPUT: true; the input reads as it did. -/
def fnExactKeysOfSpec : ChangeSpec := { name := "fnExactKeysOf", fn := fun _ => fun
  | [d] => { results := [.lit (.bool true)], args := [d] }
  | _ => none }
def fnExactKeysOfRow : OpenClaim := { program := "ytodcapgmhginoaa", sum := "b103fe9bcc348f62d65341d934ee938cfcfbf6857c1f8b67f96d292ba7f10549", func := "loop.example/fulltrees/laws.FnExactKeysOf", spec := "fnExactKeysOf", unfollowed := true, recurses := true, loops := true, apart := false }
def FnExactKeysOfSaid : Prop := fnExactKeysOfRow.holds Try.pinned (OpenSpec.ofChange fnExactKeysOfSpec)

/-- ITS FALSE NEIGHBOUR: 'it returns false'. Refute it at one input. -/
def fnExactKeysOfWrong : ChangeSpec := { name := "fnExactKeysOf", fn := fun _ => fun
  | [d] => { results := [.lit (.bool false)], args := [d] }
  | _ => none }
def FnExactKeysOfWrongFalsely : Prop := fnExactKeysOfRow.holds Try.pinned (OpenSpec.ofChange fnExactKeysOfWrong)

/-- 'laws.FnExactCountNodes': WHATEVER THE INPUT: true; the input reads as it did. -/
def fnExactCountNodesSpec : ChangeSpec := { name := "fnExactCountNodes", fn := fun _ => fun
  | [d] => { results := [.lit (.bool true)], args := [d] }
  | _ => none }
def fnExactCountNodesRow : OpenClaim := { program := "ytodcapgmhginoaa", sum := "b103fe9bcc348f62d65341d934ee938cfcfbf6857c1f8b67f96d292ba7f10549", func := "loop.example/fulltrees/laws.FnExactCountNodes", spec := "fnExactCountNodes", unfollowed := true, recurses := true, loops := true, apart := false }
def FnExactCountNodesSaid : Prop := fnExactCountNodesRow.holds Try.pinned (OpenSpec.ofChange fnExactCountNodesSpec)

/-- ITS FALSE NEIGHBOUR: 'it returns false'. Refute it at one input. -/
def fnExactCountNodesWrong : ChangeSpec := { name := "fnExactCountNodes", fn := fun _ => fun
  | [d] => { results := [.lit (.bool false)], args := [d] }
  | _ => none }
def FnExactCountNodesWrongFalsely : Prop := fnExactCountNodesRow.holds Try.pinned (OpenSpec.ofChange fnExactCountNodesWrong)

/-- 'laws.FnExactFullNodes': WHATEVER THE INPUT: true; the input reads as it did. -/
def fnExactFullNodesSpec : ChangeSpec := { name := "fnExactFullNodes", fn := fun _ => fun
  | [d1, d2] => { results := [.lit (.bool true)], args := [d1, d2] }
  | _ => none }
def fnExactFullNodesRow : OpenClaim := { program := "ytodcapgmhginoaa", sum := "b103fe9bcc348f62d65341d934ee938cfcfbf6857c1f8b67f96d292ba7f10549", func := "loop.example/fulltrees/laws.FnExactFullNodes", spec := "fnExactFullNodes", unfollowed := true, recurses := true, loops := true, apart := false }
def FnExactFullNodesSaid : Prop := fnExactFullNodesRow.holds Try.pinned (OpenSpec.ofChange fnExactFullNodesSpec)

/-- ITS FALSE NEIGHBOUR: 'it returns false'. Refute it at one input. -/
def fnExactFullNodesWrong : ChangeSpec := { name := "fnExactFullNodes", fn := fun _ => fun
  | [d1, d2] => { results := [.lit (.bool false)], args := [d1, d2] }
  | _ => none }
def FnExactFullNodesWrongFalsely : Prop := fnExactFullNodesRow.holds Try.pinned (OpenSpec.ofChange fnExactFullNodesWrong)

/-- 'laws.FnExactDepthOf': WHATEVER THE INPUT: true; the input reads as it did. -/
def fnExactDepthOfSpec : ChangeSpec := { name := "fnExactDepthOf", fn := fun _ => fun
  | [d] => { results := [.lit (.bool true)], args := [d] }
  | _ => none }
def fnExactDepthOfRow : OpenClaim := { program := "ytodcapgmhginoaa", sum := "b103fe9bcc348f62d65341d934ee938cfcfbf6857c1f8b67f96d292ba7f10549", func := "loop.example/fulltrees/laws.FnExactDepthOf", spec := "fnExactDepthOf", unfollowed := true, recurses := true, loops := true, apart := false }
def FnExactDepthOfSaid : Prop := fnExactDepthOfRow.holds Try.pinned (OpenSpec.ofChange fnExactDepthOfSpec)

/-- ITS FALSE NEIGHBOUR: 'it returns false'. Refute it at one input. -/
def fnExactDepthOfWrong : ChangeSpec := { name := "fnExactDepthOf", fn := fun _ => fun
  | [d] => { results := [.lit (.bool false)], args := [d] }
  | _ => none }
def FnExactDepthOfWrongFalsely : Prop := fnExactDepthOfRow.holds Try.pinned (OpenSpec.ofChange fnExactDepthOfWrong)

/-- 'laws.FnExactSameTree': WHATEVER THE INPUT: true; the input reads as it did. -/
def fnExactSameTreeSpec : ChangeSpec := { name := "fnExactSameTree", fn := fun _ => fun
  | [d1, d2] => { results := [.lit (.bool true)], args := [d1, d2] }
  | _ => none }
def fnExactSameTreeRow : OpenClaim := { program := "ytodcapgmhginoaa", sum := "b103fe9bcc348f62d65341d934ee938cfcfbf6857c1f8b67f96d292ba7f10549", func := "loop.example/fulltrees/laws.FnExactSameTree", spec := "fnExactSameTree", unfollowed := true, recurses := true, loops := true, apart := false }
def FnExactSameTreeSaid : Prop := fnExactSameTreeRow.holds Try.pinned (OpenSpec.ofChange fnExactSameTreeSpec)

/-- ITS FALSE NEIGHBOUR: 'it returns false'. Refute it at one input. -/
def fnExactSameTreeWrong : ChangeSpec := { name := "fnExactSameTree", fn := fun _ => fun
  | [d1, d2] => { results := [.lit (.bool false)], args := [d1, d2] }
  | _ => none }
def FnExactSameTreeWrongFalsely : Prop := fnExactSameTreeRow.holds Try.pinned (OpenSpec.ofChange fnExactSameTreeWrong)

/-- 'laws.FnExactBinKeys': WHATEVER THE INPUT: true; the input reads as it did. -/
def fnExactBinKeysSpec : ChangeSpec := { name := "fnExactBinKeys", fn := fun _ => fun
  | [d] => { results := [.lit (.bool true)], args := [d] }
  | _ => none }
def fnExactBinKeysRow : OpenClaim := { program := "ytodcapgmhginoaa", sum := "b103fe9bcc348f62d65341d934ee938cfcfbf6857c1f8b67f96d292ba7f10549", func := "loop.example/fulltrees/laws.FnExactBinKeys", spec := "fnExactBinKeys", unfollowed := true, recurses := true, loops := true, apart := false }
def FnExactBinKeysSaid : Prop := fnExactBinKeysRow.holds Try.pinned (OpenSpec.ofChange fnExactBinKeysSpec)

/-- ITS FALSE NEIGHBOUR: 'it returns false'. Refute it at one input. -/
def fnExactBinKeysWrong : ChangeSpec := { name := "fnExactBinKeys", fn := fun _ => fun
  | [d] => { results := [.lit (.bool false)], args := [d] }
  | _ => none }
def FnExactBinKeysWrongFalsely : Prop := fnExactBinKeysRow.holds Try.pinned (OpenSpec.ofChange fnExactBinKeysWrong)

/-- 'laws.FnExactBinDepth': WHATEVER THE INPUT: true; the input reads as it did. -/
def fnExactBinDepthSpec : ChangeSpec := { name := "fnExactBinDepth", fn := fun _ => fun
  | [d] => { results := [.lit (.bool true)], args := [d] }
  | _ => none }
def fnExactBinDepthRow : OpenClaim := { program := "ytodcapgmhginoaa", sum := "b103fe9bcc348f62d65341d934ee938cfcfbf6857c1f8b67f96d292ba7f10549", func := "loop.example/fulltrees/laws.FnExactBinDepth", spec := "fnExactBinDepth", unfollowed := true, recurses := true, loops := true, apart := false }
def FnExactBinDepthSaid : Prop := fnExactBinDepthRow.holds Try.pinned (OpenSpec.ofChange fnExactBinDepthSpec)

/-- ITS FALSE NEIGHBOUR: 'it returns false'. Refute it at one input. -/
def fnExactBinDepthWrong : ChangeSpec := { name := "fnExactBinDepth", fn := fun _ => fun
  | [d] => { results := [.lit (.bool false)], args := [d] }
  | _ => none }
def FnExactBinDepthWrongFalsely : Prop := fnExactBinDepthRow.holds Try.pinned (OpenSpec.ofChange fnExactBinDepthWrong)

/-- 'laws.FnExactBinValid': WHATEVER THE INPUT: true; the input reads as it did. -/
def fnExactBinValidSpec : ChangeSpec := { name := "fnExactBinValid", fn := fun _ => fun
  | [d] => { results := [.lit (.bool true)], args := [d] }
  | _ => none }
def fnExactBinValidRow : OpenClaim := { program := "ytodcapgmhginoaa", sum := "b103fe9bcc348f62d65341d934ee938cfcfbf6857c1f8b67f96d292ba7f10549", func := "loop.example/fulltrees/laws.FnExactBinValid", spec := "fnExactBinValid", unfollowed := true, recurses := true, loops := true, apart := false }
def FnExactBinValidSaid : Prop := fnExactBinValidRow.holds Try.pinned (OpenSpec.ofChange fnExactBinValidSpec)

/-- ITS FALSE NEIGHBOUR: 'it returns false'. Refute it at one input. -/
def fnExactBinValidWrong : ChangeSpec := { name := "fnExactBinValid", fn := fun _ => fun
  | [d] => { results := [.lit (.bool false)], args := [d] }
  | _ => none }
def FnExactBinValidWrongFalsely : Prop := fnExactBinValidRow.holds Try.pinned (OpenSpec.ofChange fnExactBinValidWrong)

/-- 'laws.FnExactBlackDepth': WHATEVER THE INPUT: true; the input reads as it did. -/
def fnExactBlackDepthSpec : ChangeSpec := { name := "fnExactBlackDepth", fn := fun _ => fun
  | [d] => { results := [.lit (.bool true)], args := [d] }
  | _ => none }
def fnExactBlackDepthRow : OpenClaim := { program := "ytodcapgmhginoaa", sum := "b103fe9bcc348f62d65341d934ee938cfcfbf6857c1f8b67f96d292ba7f10549", func := "loop.example/fulltrees/laws.FnExactBlackDepth", spec := "fnExactBlackDepth", unfollowed := true, recurses := true, loops := true, apart := false }
def FnExactBlackDepthSaid : Prop := fnExactBlackDepthRow.holds Try.pinned (OpenSpec.ofChange fnExactBlackDepthSpec)

/-- ITS FALSE NEIGHBOUR: 'it returns false'. Refute it at one input. -/
def fnExactBlackDepthWrong : ChangeSpec := { name := "fnExactBlackDepth", fn := fun _ => fun
  | [d] => { results := [.lit (.bool false)], args := [d] }
  | _ => none }
def FnExactBlackDepthWrongFalsely : Prop := fnExactBlackDepthRow.holds Try.pinned (OpenSpec.ofChange fnExactBlackDepthWrong)

/-- 'laws.FnExactToColours': WHATEVER THE INPUT: true; the input reads as it did. -/
def fnExactToColoursSpec : ChangeSpec := { name := "fnExactToColours", fn := fun _ => fun
  | [d] => { results := [.lit (.bool true)], args := [d] }
  | _ => none }
def fnExactToColoursRow : OpenClaim := { program := "ytodcapgmhginoaa", sum := "b103fe9bcc348f62d65341d934ee938cfcfbf6857c1f8b67f96d292ba7f10549", func := "loop.example/fulltrees/laws.FnExactToColours", spec := "fnExactToColours", unfollowed := true, recurses := true, loops := true, apart := false }
def FnExactToColoursSaid : Prop := fnExactToColoursRow.holds Try.pinned (OpenSpec.ofChange fnExactToColoursSpec)

/-- ITS FALSE NEIGHBOUR: 'it returns false'. Refute it at one input. -/
def fnExactToColoursWrong : ChangeSpec := { name := "fnExactToColours", fn := fun _ => fun
  | [d] => { results := [.lit (.bool false)], args := [d] }
  | _ => none }
def FnExactToColoursWrongFalsely : Prop := fnExactToColoursRow.holds Try.pinned (OpenSpec.ofChange fnExactToColoursWrong)

/-- 'laws.FnExactInsertBin': WHATEVER THE INPUT: true; the input reads as it did. -/
def fnExactInsertBinSpec : ChangeSpec := { name := "fnExactInsertBin", fn := fun _ => fun
  | [d1, d2] => { results := [.lit (.bool true)], args := [d1, d2] }
  | _ => none }
def fnExactInsertBinRow : OpenClaim := { program := "ytodcapgmhginoaa", sum := "b103fe9bcc348f62d65341d934ee938cfcfbf6857c1f8b67f96d292ba7f10549", func := "loop.example/fulltrees/laws.FnExactInsertBin", spec := "fnExactInsertBin", unfollowed := true, recurses := true, loops := true, apart := false }
def FnExactInsertBinSaid : Prop := fnExactInsertBinRow.holds Try.pinned (OpenSpec.ofChange fnExactInsertBinSpec)

/-- ITS FALSE NEIGHBOUR: 'it returns false'. Refute it at one input. -/
def fnExactInsertBinWrong : ChangeSpec := { name := "fnExactInsertBin", fn := fun _ => fun
  | [d1, d2] => { results := [.lit (.bool false)], args := [d1, d2] }
  | _ => none }
def FnExactInsertBinWrongFalsely : Prop := fnExactInsertBinRow.holds Try.pinned (OpenSpec.ofChange fnExactInsertBinWrong)

/-- 'laws.FnExactFromColours': WHATEVER THE INPUT: true; the input reads as it did. -/
def fnExactFromColoursSpec : ChangeSpec := { name := "fnExactFromColours", fn := fun _ => fun
  | [d] => { results := [.lit (.bool true)], args := [d] }
  | _ => none }
def fnExactFromColoursRow : OpenClaim := { program := "ytodcapgmhginoaa", sum := "b103fe9bcc348f62d65341d934ee938cfcfbf6857c1f8b67f96d292ba7f10549", func := "loop.example/fulltrees/laws.FnExactFromColours", spec := "fnExactFromColours", unfollowed := true, recurses := true, loops := true, apart := false }
def FnExactFromColoursSaid : Prop := fnExactFromColoursRow.holds Try.pinned (OpenSpec.ofChange fnExactFromColoursSpec)

/-- ITS FALSE NEIGHBOUR: 'it returns false'. Refute it at one input. -/
def fnExactFromColoursWrong : ChangeSpec := { name := "fnExactFromColours", fn := fun _ => fun
  | [d] => { results := [.lit (.bool false)], args := [d] }
  | _ => none }
def FnExactFromColoursWrongFalsely : Prop := fnExactFromColoursRow.holds Try.pinned (OpenSpec.ofChange fnExactFromColoursWrong)

/- THE SECOND FORM. 'bulk': how many values and letters a reading holds, each counted each time it is reached (what is shared counts as often as it is met; a slice's spare places count too). A statement '..UptoSaid' is the law's where the arguments, and the package variables that the reading takes, are together of bulk at most 1048576: NARROWER than '..Said'. Prove '..Said' where nothing that the law and all that it calls make is longer than what came in: it says more and counts as full. Else prove '..UptoSaid'. A law counts once. -/
mutual
def uptoBulk {H : Type} : DataW H → Nat
  | .lit (.string bytes) => bytes.length + 1
  | .lit _ => 1
  | .nil => 1
  | .ptr d => uptoBulk d + 1
  | .slice elems spare => uptoBulkAll elems + uptoBulkAll spare + 1
  | .agg parts => uptoBulkAll parts + 1
  | .iface _ d => uptoBulk d + 1
  | .map entries => uptoBulkEntries entries + 1
  | .held _ => 1
def uptoBulkAll {H : Type} : List (DataW H) → Nat
  | [] => 0
  | d :: r => uptoBulk d + uptoBulkAll r
def uptoBulkEntries {H : Type} : List (Lit × DataW H) → Nat
  | [] => 0
  | x :: r => uptoBulkEntry x + uptoBulkEntries r
def uptoBulkEntry {H : Type} : Lit × DataW H → Nat
  | (.string bytes, d) => bytes.length + uptoBulk d + 1
  | (_, d) => uptoBulk d + 1
 end
def uptoSmall : (H : Type) → List (DataW H) → Bool := fun _ ds => decide (uptoBulkAll ds ≤ 1048576)
def OpenSpec.upto (s : _root_.Go.ChangeSpec) : _root_.Go.OpenSpec := { _root_.Go.OpenSpec.ofChange s with cond := some uptoSmall }

/-- 'laws.FnExactTreeValid', WHERE WHAT IT READS IS OF BULK AT MOST 1048576: true; the input reads as it did. -/
def fnExactTreeValidUptoRow : OpenClaim := { program := "ytodcapgmhginoaa", sum := "b103fe9bcc348f62d65341d934ee938cfcfbf6857c1f8b67f96d292ba7f10549", func := "loop.example/fulltrees/laws.FnExactTreeValid", spec := "fnExactTreeValid", unfollowed := true, recurses := true, loops := true, apart := false, narrowed := true }
def FnExactTreeValidUptoSaid : Prop := fnExactTreeValidUptoRow.holds Try.pinned (OpenSpec.upto fnExactTreeValidSpec)

/-- 'laws.FnExactKeysOf', WHERE WHAT IT READS IS OF BULK AT MOST 1048576: true; the input reads as it did. -/
def fnExactKeysOfUptoRow : OpenClaim := { program := "ytodcapgmhginoaa", sum := "b103fe9bcc348f62d65341d934ee938cfcfbf6857c1f8b67f96d292ba7f10549", func := "loop.example/fulltrees/laws.FnExactKeysOf", spec := "fnExactKeysOf", unfollowed := true, recurses := true, loops := true, apart := false, narrowed := true }
def FnExactKeysOfUptoSaid : Prop := fnExactKeysOfUptoRow.holds Try.pinned (OpenSpec.upto fnExactKeysOfSpec)

/-- 'laws.FnExactCountNodes', WHERE WHAT IT READS IS OF BULK AT MOST 1048576: true; the input reads as it did. -/
def fnExactCountNodesUptoRow : OpenClaim := { program := "ytodcapgmhginoaa", sum := "b103fe9bcc348f62d65341d934ee938cfcfbf6857c1f8b67f96d292ba7f10549", func := "loop.example/fulltrees/laws.FnExactCountNodes", spec := "fnExactCountNodes", unfollowed := true, recurses := true, loops := true, apart := false, narrowed := true }
def FnExactCountNodesUptoSaid : Prop := fnExactCountNodesUptoRow.holds Try.pinned (OpenSpec.upto fnExactCountNodesSpec)

/-- 'laws.FnExactFullNodes', WHERE WHAT IT READS IS OF BULK AT MOST 1048576: true; the input reads as it did. -/
def fnExactFullNodesUptoRow : OpenClaim := { program := "ytodcapgmhginoaa", sum := "b103fe9bcc348f62d65341d934ee938cfcfbf6857c1f8b67f96d292ba7f10549", func := "loop.example/fulltrees/laws.FnExactFullNodes", spec := "fnExactFullNodes", unfollowed := true, recurses := true, loops := true, apart := false, narrowed := true }
def FnExactFullNodesUptoSaid : Prop := fnExactFullNodesUptoRow.holds Try.pinned (OpenSpec.upto fnExactFullNodesSpec)

/-- 'laws.FnExactDepthOf', WHERE WHAT IT READS IS OF BULK AT MOST 1048576: true; the input reads as it did. -/
def fnExactDepthOfUptoRow : OpenClaim := { program := "ytodcapgmhginoaa", sum := "b103fe9bcc348f62d65341d934ee938cfcfbf6857c1f8b67f96d292ba7f10549", func := "loop.example/fulltrees/laws.FnExactDepthOf", spec := "fnExactDepthOf", unfollowed := true, recurses := true, loops := true, apart := false, narrowed := true }
def FnExactDepthOfUptoSaid : Prop := fnExactDepthOfUptoRow.holds Try.pinned (OpenSpec.upto fnExactDepthOfSpec)

/-- 'laws.FnExactSameTree', WHERE WHAT IT READS IS OF BULK AT MOST 1048576: true; the input reads as it did. -/
def fnExactSameTreeUptoRow : OpenClaim := { program := "ytodcapgmhginoaa", sum := "b103fe9bcc348f62d65341d934ee938cfcfbf6857c1f8b67f96d292ba7f10549", func := "loop.example/fulltrees/laws.FnExactSameTree", spec := "fnExactSameTree", unfollowed := true, recurses := true, loops := true, apart := false, narrowed := true }
def FnExactSameTreeUptoSaid : Prop := fnExactSameTreeUptoRow.holds Try.pinned (OpenSpec.upto fnExactSameTreeSpec)

/-- 'laws.FnExactBinKeys', WHERE WHAT IT READS IS OF BULK AT MOST 1048576: true; the input reads as it did. -/
def fnExactBinKeysUptoRow : OpenClaim := { program := "ytodcapgmhginoaa", sum := "b103fe9bcc348f62d65341d934ee938cfcfbf6857c1f8b67f96d292ba7f10549", func := "loop.example/fulltrees/laws.FnExactBinKeys", spec := "fnExactBinKeys", unfollowed := true, recurses := true, loops := true, apart := false, narrowed := true }
def FnExactBinKeysUptoSaid : Prop := fnExactBinKeysUptoRow.holds Try.pinned (OpenSpec.upto fnExactBinKeysSpec)

/-- 'laws.FnExactBinDepth', WHERE WHAT IT READS IS OF BULK AT MOST 1048576: true; the input reads as it did. -/
def fnExactBinDepthUptoRow : OpenClaim := { program := "ytodcapgmhginoaa", sum := "b103fe9bcc348f62d65341d934ee938cfcfbf6857c1f8b67f96d292ba7f10549", func := "loop.example/fulltrees/laws.FnExactBinDepth", spec := "fnExactBinDepth", unfollowed := true, recurses := true, loops := true, apart := false, narrowed := true }
def FnExactBinDepthUptoSaid : Prop := fnExactBinDepthUptoRow.holds Try.pinned (OpenSpec.upto fnExactBinDepthSpec)

/-- 'laws.FnExactBinValid', WHERE WHAT IT READS IS OF BULK AT MOST 1048576: true; the input reads as it did. -/
def fnExactBinValidUptoRow : OpenClaim := { program := "ytodcapgmhginoaa", sum := "b103fe9bcc348f62d65341d934ee938cfcfbf6857c1f8b67f96d292ba7f10549", func := "loop.example/fulltrees/laws.FnExactBinValid", spec := "fnExactBinValid", unfollowed := true, recurses := true, loops := true, apart := false, narrowed := true }
def FnExactBinValidUptoSaid : Prop := fnExactBinValidUptoRow.holds Try.pinned (OpenSpec.upto fnExactBinValidSpec)

/-- 'laws.FnExactBlackDepth', WHERE WHAT IT READS IS OF BULK AT MOST 1048576: true; the input reads as it did. -/
def fnExactBlackDepthUptoRow : OpenClaim := { program := "ytodcapgmhginoaa", sum := "b103fe9bcc348f62d65341d934ee938cfcfbf6857c1f8b67f96d292ba7f10549", func := "loop.example/fulltrees/laws.FnExactBlackDepth", spec := "fnExactBlackDepth", unfollowed := true, recurses := true, loops := true, apart := false, narrowed := true }
def FnExactBlackDepthUptoSaid : Prop := fnExactBlackDepthUptoRow.holds Try.pinned (OpenSpec.upto fnExactBlackDepthSpec)

/-- 'laws.FnExactToColours', WHERE WHAT IT READS IS OF BULK AT MOST 1048576: true; the input reads as it did. -/
def fnExactToColoursUptoRow : OpenClaim := { program := "ytodcapgmhginoaa", sum := "b103fe9bcc348f62d65341d934ee938cfcfbf6857c1f8b67f96d292ba7f10549", func := "loop.example/fulltrees/laws.FnExactToColours", spec := "fnExactToColours", unfollowed := true, recurses := true, loops := true, apart := false, narrowed := true }
def FnExactToColoursUptoSaid : Prop := fnExactToColoursUptoRow.holds Try.pinned (OpenSpec.upto fnExactToColoursSpec)

/-- 'laws.FnExactInsertBin', WHERE WHAT IT READS IS OF BULK AT MOST 1048576: true; the input reads as it did. -/
def fnExactInsertBinUptoRow : OpenClaim := { program := "ytodcapgmhginoaa", sum := "b103fe9bcc348f62d65341d934ee938cfcfbf6857c1f8b67f96d292ba7f10549", func := "loop.example/fulltrees/laws.FnExactInsertBin", spec := "fnExactInsertBin", unfollowed := true, recurses := true, loops := true, apart := false, narrowed := true }
def FnExactInsertBinUptoSaid : Prop := fnExactInsertBinUptoRow.holds Try.pinned (OpenSpec.upto fnExactInsertBinSpec)

/-- 'laws.FnExactFromColours', WHERE WHAT IT READS IS OF BULK AT MOST 1048576: true; the input reads as it did. -/
def fnExactFromColoursUptoRow : OpenClaim := { program := "ytodcapgmhginoaa", sum := "b103fe9bcc348f62d65341d934ee938cfcfbf6857c1f8b67f96d292ba7f10549", func := "loop.example/fulltrees/laws.FnExactFromColours", spec := "fnExactFromColours", unfollowed := true, recurses := true, loops := true, apart := false, narrowed := true }
def FnExactFromColoursUptoSaid : Prop := fnExactFromColoursUptoRow.holds Try.pinned (OpenSpec.upto fnExactFromColoursSpec)

end Rows
end Go.Proofs.Ytodcapgmhginoaa
