/-
  NARROWER THAN 'FOR EVERY INPUT', by the rows' own cells (each row's printed sentence says how): FnExactTreeValid: loops · FnExactCountNodes: loops · FnExactFullNodes: loops · FnExactHasKey: loops · FnExactPathOf: loops · FnExactNextKey: loops · FnExactInsertKey: loops · FnExactSplitsBy: loops · FnExactGrowsBy: loops · FnExactRoomOf: loops.
  DERIVED. THE GIVEN ROWS OF THIS SEAT. 12 by the template 'for every input the law returns true; each argument reads behind the call as it read before'; 0 by the template 'total and deterministic' (their statements: YtadbhjmpcnlbjaaTotals.lean).
  GIVEN WITH THE SEED: the statements are not yours to turn. If you find one false, say at which input.
  Laid BY PROGRAM, IN A SANDBOX (cutbox-rows.mjs): the forced cells as the released guide's own fill.sh prints them over the translation 60ed604a2685092b… (all of the seat's roots in one cut). By AI agents, Wed Nov 11 2026. No macro, syntax, notation, axiom, sorry.
-/
import Derived.Test.YtadbhjmpcnlbjaaChecked
import GoSem.Claim
import GoSem.ClaimJoined
import GoSem.ClaimMapViews
import Derived.JoinedTies
import Derived.KernelRfl
namespace Go.Proofs.Ytadbhjmpcnlbjaa
/- THE CELL 'sum', in the pinned program and in every row, IS THE sha256 OF THE DUMP (.gsa) THAT YtadbhjmpcnlbjaaProg.lean LOADS. Nothing in Lean hashes anything: it is a label: what it is worth is what the hold of that sum in a sandbox is worth. -/
noncomputable def Try.pinned : Pinned := { name := "ytadbhjmpcnlbjaa", sum := "60ed604a2685092b525756b7c8074f69c4d7be88a9dabfa72a372a8b8a37b042", checked := Try.checked }
namespace Rows
def none {H : Type} : Left H := { results := [], args := [] }

/-- 'laws.FnExactTreeValid': WHATEVER THE INPUT: true; the input reads as it did. -/
def fnExactTreeValidSpec : ChangeSpec := { name := "fnExactTreeValid", fn := fun _ => fun
  | [d1, d2] => { results := [.lit (.bool true)], args := [d1, d2] }
  | _ => none }
def fnExactTreeValidRow : OpenClaim := { program := "ytadbhjmpcnlbjaa", sum := "60ed604a2685092b525756b7c8074f69c4d7be88a9dabfa72a372a8b8a37b042", func := "loop.example/fulltrees/laws.FnExactTreeValid", spec := "fnExactTreeValid", unfollowed := true, recurses := true, loops := true, apart := false }
def FnExactTreeValidSaid : Prop := fnExactTreeValidRow.holds Try.pinned (OpenSpec.ofChange fnExactTreeValidSpec)

/-- ITS FALSE NEIGHBOUR: 'it returns false'. Refute it at one input. -/
def fnExactTreeValidWrong : ChangeSpec := { name := "fnExactTreeValid", fn := fun _ => fun
  | [d1, d2] => { results := [.lit (.bool false)], args := [d1, d2] }
  | _ => none }
def FnExactTreeValidWrongFalsely : Prop := fnExactTreeValidRow.holds Try.pinned (OpenSpec.ofChange fnExactTreeValidWrong)

/-- 'laws.FnExactCountNodes': WHATEVER THE INPUT: true; the input reads as it did. -/
def fnExactCountNodesSpec : ChangeSpec := { name := "fnExactCountNodes", fn := fun _ => fun
  | [d] => { results := [.lit (.bool true)], args := [d] }
  | _ => none }
def fnExactCountNodesRow : OpenClaim := { program := "ytadbhjmpcnlbjaa", sum := "60ed604a2685092b525756b7c8074f69c4d7be88a9dabfa72a372a8b8a37b042", func := "loop.example/fulltrees/laws.FnExactCountNodes", spec := "fnExactCountNodes", unfollowed := true, recurses := true, loops := true, apart := false }
def FnExactCountNodesSaid : Prop := fnExactCountNodesRow.holds Try.pinned (OpenSpec.ofChange fnExactCountNodesSpec)

/-- ITS FALSE NEIGHBOUR: 'it returns false'. Refute it at one input. -/
def fnExactCountNodesWrong : ChangeSpec := { name := "fnExactCountNodes", fn := fun _ => fun
  | [d] => { results := [.lit (.bool false)], args := [d] }
  | _ => none }
def FnExactCountNodesWrongFalsely : Prop := fnExactCountNodesRow.holds Try.pinned (OpenSpec.ofChange fnExactCountNodesWrong)

/-- 'laws.FnExactFullNodes': WHATEVER THE INPUT: true; the input reads as it did. -/
def fnExactFullNodesSpec : ChangeSpec := { name := "fnExactFullNodes", fn := fun _ => fun
  | [d1, d2] => { results := [.lit (.bool true)], args := [d1, d2] }
  | _ => none }
def fnExactFullNodesRow : OpenClaim := { program := "ytadbhjmpcnlbjaa", sum := "60ed604a2685092b525756b7c8074f69c4d7be88a9dabfa72a372a8b8a37b042", func := "loop.example/fulltrees/laws.FnExactFullNodes", spec := "fnExactFullNodes", unfollowed := true, recurses := true, loops := true, apart := false }
def FnExactFullNodesSaid : Prop := fnExactFullNodesRow.holds Try.pinned (OpenSpec.ofChange fnExactFullNodesSpec)

/-- ITS FALSE NEIGHBOUR: 'it returns false'. Refute it at one input. -/
def fnExactFullNodesWrong : ChangeSpec := { name := "fnExactFullNodes", fn := fun _ => fun
  | [d1, d2] => { results := [.lit (.bool false)], args := [d1, d2] }
  | _ => none }
def FnExactFullNodesWrongFalsely : Prop := fnExactFullNodesRow.holds Try.pinned (OpenSpec.ofChange fnExactFullNodesWrong)

/-- 'laws.FnExactHasKey': WHATEVER THE INPUT: true; the input reads as it did. -/
def fnExactHasKeySpec : ChangeSpec := { name := "fnExactHasKey", fn := fun _ => fun
  | [d1, d2] => { results := [.lit (.bool true)], args := [d1, d2] }
  | _ => none }
def fnExactHasKeyRow : OpenClaim := { program := "ytadbhjmpcnlbjaa", sum := "60ed604a2685092b525756b7c8074f69c4d7be88a9dabfa72a372a8b8a37b042", func := "loop.example/fulltrees/laws.FnExactHasKey", spec := "fnExactHasKey", unfollowed := true, recurses := true, loops := true, apart := false }
def FnExactHasKeySaid : Prop := fnExactHasKeyRow.holds Try.pinned (OpenSpec.ofChange fnExactHasKeySpec)

/-- ITS FALSE NEIGHBOUR: 'it returns false'. Refute it at one input. -/
def fnExactHasKeyWrong : ChangeSpec := { name := "fnExactHasKey", fn := fun _ => fun
  | [d1, d2] => { results := [.lit (.bool false)], args := [d1, d2] }
  | _ => none }
def FnExactHasKeyWrongFalsely : Prop := fnExactHasKeyRow.holds Try.pinned (OpenSpec.ofChange fnExactHasKeyWrong)

/-- 'laws.FnExactPathOf': WHATEVER THE INPUT: true; the input reads as it did. -/
def fnExactPathOfSpec : ChangeSpec := { name := "fnExactPathOf", fn := fun _ => fun
  | [d1, d2] => { results := [.lit (.bool true)], args := [d1, d2] }
  | _ => none }
def fnExactPathOfRow : OpenClaim := { program := "ytadbhjmpcnlbjaa", sum := "60ed604a2685092b525756b7c8074f69c4d7be88a9dabfa72a372a8b8a37b042", func := "loop.example/fulltrees/laws.FnExactPathOf", spec := "fnExactPathOf", unfollowed := true, recurses := true, loops := true, apart := false }
def FnExactPathOfSaid : Prop := fnExactPathOfRow.holds Try.pinned (OpenSpec.ofChange fnExactPathOfSpec)

/-- ITS FALSE NEIGHBOUR: 'it returns false'. Refute it at one input. -/
def fnExactPathOfWrong : ChangeSpec := { name := "fnExactPathOf", fn := fun _ => fun
  | [d1, d2] => { results := [.lit (.bool false)], args := [d1, d2] }
  | _ => none }
def FnExactPathOfWrongFalsely : Prop := fnExactPathOfRow.holds Try.pinned (OpenSpec.ofChange fnExactPathOfWrong)

/-- 'laws.FnExactNextKey': WHATEVER THE INPUT: true; the input reads as it did. -/
def fnExactNextKeySpec : ChangeSpec := { name := "fnExactNextKey", fn := fun _ => fun
  | [d1, d2] => { results := [.lit (.bool true)], args := [d1, d2] }
  | _ => none }
def fnExactNextKeyRow : OpenClaim := { program := "ytadbhjmpcnlbjaa", sum := "60ed604a2685092b525756b7c8074f69c4d7be88a9dabfa72a372a8b8a37b042", func := "loop.example/fulltrees/laws.FnExactNextKey", spec := "fnExactNextKey", unfollowed := true, recurses := true, loops := true, apart := false }
def FnExactNextKeySaid : Prop := fnExactNextKeyRow.holds Try.pinned (OpenSpec.ofChange fnExactNextKeySpec)

/-- ITS FALSE NEIGHBOUR: 'it returns false'. Refute it at one input. -/
def fnExactNextKeyWrong : ChangeSpec := { name := "fnExactNextKey", fn := fun _ => fun
  | [d1, d2] => { results := [.lit (.bool false)], args := [d1, d2] }
  | _ => none }
def FnExactNextKeyWrongFalsely : Prop := fnExactNextKeyRow.holds Try.pinned (OpenSpec.ofChange fnExactNextKeyWrong)

/-- 'laws.FnExactInsertKey': WHATEVER THE INPUT: true; the input reads as it did. -/
def fnExactInsertKeySpec : ChangeSpec := { name := "fnExactInsertKey", fn := fun _ => fun
  | [d1, d2, d3] => { results := [.lit (.bool true)], args := [d1, d2, d3] }
  | _ => none }
def fnExactInsertKeyRow : OpenClaim := { program := "ytadbhjmpcnlbjaa", sum := "60ed604a2685092b525756b7c8074f69c4d7be88a9dabfa72a372a8b8a37b042", func := "loop.example/fulltrees/laws.FnExactInsertKey", spec := "fnExactInsertKey", unfollowed := true, recurses := true, loops := true, apart := false }
def FnExactInsertKeySaid : Prop := fnExactInsertKeyRow.holds Try.pinned (OpenSpec.ofChange fnExactInsertKeySpec)

/-- ITS FALSE NEIGHBOUR: 'it returns false'. Refute it at one input. -/
def fnExactInsertKeyWrong : ChangeSpec := { name := "fnExactInsertKey", fn := fun _ => fun
  | [d1, d2, d3] => { results := [.lit (.bool false)], args := [d1, d2, d3] }
  | _ => none }
def FnExactInsertKeyWrongFalsely : Prop := fnExactInsertKeyRow.holds Try.pinned (OpenSpec.ofChange fnExactInsertKeyWrong)

/-- 'laws.FnExactInsertAll': WHATEVER THE INPUT: true; the input reads as it did. -/
def fnExactInsertAllSpec : ChangeSpec := { name := "fnExactInsertAll", fn := fun _ => fun
  | [d1, d2] => { results := [.lit (.bool true)], args := [d1, d2] }
  | _ => none }
def fnExactInsertAllRow : OpenClaim := { program := "ytadbhjmpcnlbjaa", sum := "60ed604a2685092b525756b7c8074f69c4d7be88a9dabfa72a372a8b8a37b042", func := "loop.example/fulltrees/laws.FnExactInsertAll", spec := "fnExactInsertAll", unfollowed := true, recurses := true, apart := false }
def FnExactInsertAllSaid : Prop := fnExactInsertAllRow.holds Try.pinned (OpenSpec.ofChange fnExactInsertAllSpec)

/-- ITS FALSE NEIGHBOUR: 'it returns false'. Refute it at one input. -/
def fnExactInsertAllWrong : ChangeSpec := { name := "fnExactInsertAll", fn := fun _ => fun
  | [d1, d2] => { results := [.lit (.bool false)], args := [d1, d2] }
  | _ => none }
def FnExactInsertAllWrongFalsely : Prop := fnExactInsertAllRow.holds Try.pinned (OpenSpec.ofChange fnExactInsertAllWrong)

/-- 'laws.FnExactSplitsBy': WHATEVER THE INPUT: true; the input reads as it did. -/
def fnExactSplitsBySpec : ChangeSpec := { name := "fnExactSplitsBy", fn := fun _ => fun
  | [d1, d2, d3] => { results := [.lit (.bool true)], args := [d1, d2, d3] }
  | _ => none }
def fnExactSplitsByRow : OpenClaim := { program := "ytadbhjmpcnlbjaa", sum := "60ed604a2685092b525756b7c8074f69c4d7be88a9dabfa72a372a8b8a37b042", func := "loop.example/fulltrees/laws.FnExactSplitsBy", spec := "fnExactSplitsBy", unfollowed := true, recurses := true, loops := true, apart := false }
def FnExactSplitsBySaid : Prop := fnExactSplitsByRow.holds Try.pinned (OpenSpec.ofChange fnExactSplitsBySpec)

/-- ITS FALSE NEIGHBOUR: 'it returns false'. Refute it at one input. -/
def fnExactSplitsByWrong : ChangeSpec := { name := "fnExactSplitsBy", fn := fun _ => fun
  | [d1, d2, d3] => { results := [.lit (.bool false)], args := [d1, d2, d3] }
  | _ => none }
def FnExactSplitsByWrongFalsely : Prop := fnExactSplitsByRow.holds Try.pinned (OpenSpec.ofChange fnExactSplitsByWrong)

/-- 'laws.FnExactGrowsBy': WHATEVER THE INPUT: true; the input reads as it did. -/
def fnExactGrowsBySpec : ChangeSpec := { name := "fnExactGrowsBy", fn := fun _ => fun
  | [d1, d2, d3] => { results := [.lit (.bool true)], args := [d1, d2, d3] }
  | _ => none }
def fnExactGrowsByRow : OpenClaim := { program := "ytadbhjmpcnlbjaa", sum := "60ed604a2685092b525756b7c8074f69c4d7be88a9dabfa72a372a8b8a37b042", func := "loop.example/fulltrees/laws.FnExactGrowsBy", spec := "fnExactGrowsBy", unfollowed := true, recurses := true, loops := true, apart := false }
def FnExactGrowsBySaid : Prop := fnExactGrowsByRow.holds Try.pinned (OpenSpec.ofChange fnExactGrowsBySpec)

/-- ITS FALSE NEIGHBOUR: 'it returns false'. Refute it at one input. -/
def fnExactGrowsByWrong : ChangeSpec := { name := "fnExactGrowsBy", fn := fun _ => fun
  | [d1, d2, d3] => { results := [.lit (.bool false)], args := [d1, d2, d3] }
  | _ => none }
def FnExactGrowsByWrongFalsely : Prop := fnExactGrowsByRow.holds Try.pinned (OpenSpec.ofChange fnExactGrowsByWrong)

/-- 'laws.FnExactSplitsOf': WHATEVER THE INPUT: true; the input reads as it did. -/
def fnExactSplitsOfSpec : ChangeSpec := { name := "fnExactSplitsOf", fn := fun _ => fun
  | [d1, d2] => { results := [.lit (.bool true)], args := [d1, d2] }
  | _ => none }
def fnExactSplitsOfRow : OpenClaim := { program := "ytadbhjmpcnlbjaa", sum := "60ed604a2685092b525756b7c8074f69c4d7be88a9dabfa72a372a8b8a37b042", func := "loop.example/fulltrees/laws.FnExactSplitsOf", spec := "fnExactSplitsOf", unfollowed := true, recurses := true, apart := false }
def FnExactSplitsOfSaid : Prop := fnExactSplitsOfRow.holds Try.pinned (OpenSpec.ofChange fnExactSplitsOfSpec)

/-- ITS FALSE NEIGHBOUR: 'it returns false'. Refute it at one input. -/
def fnExactSplitsOfWrong : ChangeSpec := { name := "fnExactSplitsOf", fn := fun _ => fun
  | [d1, d2] => { results := [.lit (.bool false)], args := [d1, d2] }
  | _ => none }
def FnExactSplitsOfWrongFalsely : Prop := fnExactSplitsOfRow.holds Try.pinned (OpenSpec.ofChange fnExactSplitsOfWrong)

/-- 'laws.FnExactRoomOf': WHATEVER THE INPUT: true; the input reads as it did. -/
def fnExactRoomOfSpec : ChangeSpec := { name := "fnExactRoomOf", fn := fun _ => fun
  | [d1, d2] => { results := [.lit (.bool true)], args := [d1, d2] }
  | _ => none }
def fnExactRoomOfRow : OpenClaim := { program := "ytadbhjmpcnlbjaa", sum := "60ed604a2685092b525756b7c8074f69c4d7be88a9dabfa72a372a8b8a37b042", func := "loop.example/fulltrees/laws.FnExactRoomOf", spec := "fnExactRoomOf", unfollowed := true, recurses := true, loops := true, apart := false }
def FnExactRoomOfSaid : Prop := fnExactRoomOfRow.holds Try.pinned (OpenSpec.ofChange fnExactRoomOfSpec)

/-- ITS FALSE NEIGHBOUR: 'it returns false'. Refute it at one input. -/
def fnExactRoomOfWrong : ChangeSpec := { name := "fnExactRoomOf", fn := fun _ => fun
  | [d1, d2] => { results := [.lit (.bool false)], args := [d1, d2] }
  | _ => none }
def FnExactRoomOfWrongFalsely : Prop := fnExactRoomOfRow.holds Try.pinned (OpenSpec.ofChange fnExactRoomOfWrong)

/- THE SECOND FORM. 'bulk': how many values and letters a reading holds, each counted each time it is reached (what is shared counts as often as it is met; a slice's spare places count too). A statement '..UptoSaid' is the law's where the arguments, and the package variables that the reading takes, are together of bulk at most 1048576: NARROWER than '..Said'. Prove '..Said' where nothing that the law and all that it calls make is longer than what came in: it says more and counts as full. Else prove '..UptoSaid'. A law counts once. -/
mutual
def uptoBulk {H : Type} : DataW H → Nat
  | .lit (.string bytes) => bytes.length + 1
  | .lit _ => 1
  | .nil => 1
  | .ptr d => uptoBulk d + 1
  | .slice elems spare => uptoBulkAll elems + uptoBulkAll spare + 1
  | .agg parts => uptoBulkAll parts + 1
  | .iface _ d => uptoBulk d + 1
  | .map entries => uptoBulkEntries entries + 1
  | .held _ => 1
def uptoBulkAll {H : Type} : List (DataW H) → Nat
  | [] => 0
  | d :: r => uptoBulk d + uptoBulkAll r
def uptoBulkEntries {H : Type} : List (Lit × DataW H) → Nat
  | [] => 0
  | x :: r => uptoBulkEntry x + uptoBulkEntries r
def uptoBulkEntry {H : Type} : Lit × DataW H → Nat
  | (.string bytes, d) => bytes.length + uptoBulk d + 1
  | (_, d) => uptoBulk d + 1
 end
def uptoSmall : (H : Type) → List (DataW H) → Bool := fun _ ds => decide (uptoBulkAll ds ≤ 1048576)
def OpenSpec.upto (s : _root_.Go.ChangeSpec) : _root_.Go.OpenSpec := { _root_.Go.OpenSpec.ofChange s with cond := some uptoSmall }

/-- 'laws.FnExactTreeValid', WHERE WHAT IT READS IS OF BULK AT MOST 1048576: true; the input reads as it did. -/
def fnExactTreeValidUptoRow : OpenClaim := { program := "ytadbhjmpcnlbjaa", sum := "60ed604a2685092b525756b7c8074f69c4d7be88a9dabfa72a372a8b8a37b042", func := "loop.example/fulltrees/laws.FnExactTreeValid", spec := "fnExactTreeValid", unfollowed := true, recurses := true, loops := true, apart := false, narrowed := true }
def FnExactTreeValidUptoSaid : Prop := fnExactTreeValidUptoRow.holds Try.pinned (OpenSpec.upto fnExactTreeValidSpec)

/-- 'laws.FnExactCountNodes', WHERE WHAT IT READS IS OF BULK AT MOST 1048576: true; the input reads as it did. -/
def fnExactCountNodesUptoRow : OpenClaim := { program := "ytadbhjmpcnlbjaa", sum := "60ed604a2685092b525756b7c8074f69c4d7be88a9dabfa72a372a8b8a37b042", func := "loop.example/fulltrees/laws.FnExactCountNodes", spec := "fnExactCountNodes", unfollowed := true, recurses := true, loops := true, apart := false, narrowed := true }
def FnExactCountNodesUptoSaid : Prop := fnExactCountNodesUptoRow.holds Try.pinned (OpenSpec.upto fnExactCountNodesSpec)

/-- 'laws.FnExactFullNodes', WHERE WHAT IT READS IS OF BULK AT MOST 1048576: true; the input reads as it did. -/
def fnExactFullNodesUptoRow : OpenClaim := { program := "ytadbhjmpcnlbjaa", sum := "60ed604a2685092b525756b7c8074f69c4d7be88a9dabfa72a372a8b8a37b042", func := "loop.example/fulltrees/laws.FnExactFullNodes", spec := "fnExactFullNodes", unfollowed := true, recurses := true, loops := true, apart := false, narrowed := true }
def FnExactFullNodesUptoSaid : Prop := fnExactFullNodesUptoRow.holds Try.pinned (OpenSpec.upto fnExactFullNodesSpec)

/-- 'laws.FnExactHasKey', WHERE WHAT IT READS IS OF BULK AT MOST 1048576: true; the input reads as it did. -/
def fnExactHasKeyUptoRow : OpenClaim := { program := "ytadbhjmpcnlbjaa", sum := "60ed604a2685092b525756b7c8074f69c4d7be88a9dabfa72a372a8b8a37b042", func := "loop.example/fulltrees/laws.FnExactHasKey", spec := "fnExactHasKey", unfollowed := true, recurses := true, loops := true, apart := false, narrowed := true }
def FnExactHasKeyUptoSaid : Prop := fnExactHasKeyUptoRow.holds Try.pinned (OpenSpec.upto fnExactHasKeySpec)

/-- 'laws.FnExactPathOf', WHERE WHAT IT READS IS OF BULK AT MOST 1048576: true; the input reads as it did. -/
def fnExactPathOfUptoRow : OpenClaim := { program := "ytadbhjmpcnlbjaa", sum := "60ed604a2685092b525756b7c8074f69c4d7be88a9dabfa72a372a8b8a37b042", func := "loop.example/fulltrees/laws.FnExactPathOf", spec := "fnExactPathOf", unfollowed := true, recurses := true, loops := true, apart := false, narrowed := true }
def FnExactPathOfUptoSaid : Prop := fnExactPathOfUptoRow.holds Try.pinned (OpenSpec.upto fnExactPathOfSpec)

/-- 'laws.FnExactNextKey', WHERE WHAT IT READS IS OF BULK AT MOST 1048576: true; the input reads as it did. -/
def fnExactNextKeyUptoRow : OpenClaim := { program := "ytadbhjmpcnlbjaa", sum := "60ed604a2685092b525756b7c8074f69c4d7be88a9dabfa72a372a8b8a37b042", func := "loop.example/fulltrees/laws.FnExactNextKey", spec := "fnExactNextKey", unfollowed := true, recurses := true, loops := true, apart := false, narrowed := true }
def FnExactNextKeyUptoSaid : Prop := fnExactNextKeyUptoRow.holds Try.pinned (OpenSpec.upto fnExactNextKeySpec)

/-- 'laws.FnExactInsertKey', WHERE WHAT IT READS IS OF BULK AT MOST 1048576: true; the input reads as it did. -/
def fnExactInsertKeyUptoRow : OpenClaim := { program := "ytadbhjmpcnlbjaa", sum := "60ed604a2685092b525756b7c8074f69c4d7be88a9dabfa72a372a8b8a37b042", func := "loop.example/fulltrees/laws.FnExactInsertKey", spec := "fnExactInsertKey", unfollowed := true, recurses := true, loops := true, apart := false, narrowed := true }
def FnExactInsertKeyUptoSaid : Prop := fnExactInsertKeyUptoRow.holds Try.pinned (OpenSpec.upto fnExactInsertKeySpec)

/-- 'laws.FnExactInsertAll', WHERE WHAT IT READS IS OF BULK AT MOST 1048576: true; the input reads as it did. -/
def fnExactInsertAllUptoRow : OpenClaim := { program := "ytadbhjmpcnlbjaa", sum := "60ed604a2685092b525756b7c8074f69c4d7be88a9dabfa72a372a8b8a37b042", func := "loop.example/fulltrees/laws.FnExactInsertAll", spec := "fnExactInsertAll", unfollowed := true, recurses := true, apart := false, narrowed := true }
def FnExactInsertAllUptoSaid : Prop := fnExactInsertAllUptoRow.holds Try.pinned (OpenSpec.upto fnExactInsertAllSpec)

/-- 'laws.FnExactSplitsBy', WHERE WHAT IT READS IS OF BULK AT MOST 1048576: true; the input reads as it did. -/
def fnExactSplitsByUptoRow : OpenClaim := { program := "ytadbhjmpcnlbjaa", sum := "60ed604a2685092b525756b7c8074f69c4d7be88a9dabfa72a372a8b8a37b042", func := "loop.example/fulltrees/laws.FnExactSplitsBy", spec := "fnExactSplitsBy", unfollowed := true, recurses := true, loops := true, apart := false, narrowed := true }
def FnExactSplitsByUptoSaid : Prop := fnExactSplitsByUptoRow.holds Try.pinned (OpenSpec.upto fnExactSplitsBySpec)

/-- 'laws.FnExactGrowsBy', WHERE WHAT IT READS IS OF BULK AT MOST 1048576: true; the input reads as it did. -/
def fnExactGrowsByUptoRow : OpenClaim := { program := "ytadbhjmpcnlbjaa", sum := "60ed604a2685092b525756b7c8074f69c4d7be88a9dabfa72a372a8b8a37b042", func := "loop.example/fulltrees/laws.FnExactGrowsBy", spec := "fnExactGrowsBy", unfollowed := true, recurses := true, loops := true, apart := false, narrowed := true }
def FnExactGrowsByUptoSaid : Prop := fnExactGrowsByUptoRow.holds Try.pinned (OpenSpec.upto fnExactGrowsBySpec)

/-- 'laws.FnExactSplitsOf', WHERE WHAT IT READS IS OF BULK AT MOST 1048576: true; the input reads as it did. -/
def fnExactSplitsOfUptoRow : OpenClaim := { program := "ytadbhjmpcnlbjaa", sum := "60ed604a2685092b525756b7c8074f69c4d7be88a9dabfa72a372a8b8a37b042", func := "loop.example/fulltrees/laws.FnExactSplitsOf", spec := "fnExactSplitsOf", unfollowed := true, recurses := true, apart := false, narrowed := true }
def FnExactSplitsOfUptoSaid : Prop := fnExactSplitsOfUptoRow.holds Try.pinned (OpenSpec.upto fnExactSplitsOfSpec)

/-- 'laws.FnExactRoomOf', WHERE WHAT IT READS IS OF BULK AT MOST 1048576: true; the input reads as it did. -/
def fnExactRoomOfUptoRow : OpenClaim := { program := "ytadbhjmpcnlbjaa", sum := "60ed604a2685092b525756b7c8074f69c4d7be88a9dabfa72a372a8b8a37b042", func := "loop.example/fulltrees/laws.FnExactRoomOf", spec := "fnExactRoomOf", unfollowed := true, recurses := true, loops := true, apart := false, narrowed := true }
def FnExactRoomOfUptoSaid : Prop := fnExactRoomOfUptoRow.holds Try.pinned (OpenSpec.upto fnExactRoomOfSpec)

end Rows
end Go.Proofs.Ytadbhjmpcnlbjaa
