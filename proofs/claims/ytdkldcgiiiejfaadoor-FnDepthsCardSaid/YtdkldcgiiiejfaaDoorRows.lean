/-
  NARROWER THAN 'FOR EVERY INPUT', by the rows' own cells (each row's printed sentence says how): FnDepths: laid.
  DERIVED. THE GIVEN ROWS OF THIS SEAT. 1 by the template 'for every input the law returns true; each argument reads behind the call as it read before'; 0 by the template 'total and deterministic' (their statements: YtdkldcgiiiejfaaDoorTotals.lean).
  GIVEN WITH THE SEED: the statements are not yours to turn. If you find one false, say at which input.
  Laid BY PROGRAM, IN A SANDBOX (cutbox-rows.mjs): the forced cells as the released guide's own fill.sh prints them over the translation 4aece5cedf962dbb… (all of the seat's roots in one cut). By AI agents, Wed Nov 11 2026. No macro, syntax, notation, axiom, sorry.
-/
import Derived.Test.YtdkldcgiiiejfaaDoorChecked
import GoSem.Claim
import GoSem.ClaimJoined
import GoSem.ClaimMapViews
import Derived.JoinedTies
import Derived.KernelRfl
namespace Go.Proofs.YtdkldcgiiiejfaaDoor
/- THE CELL 'sum', in the pinned program and in every row, IS THE sha256 OF THE DUMP (.gsa) THAT YtdkldcgiiiejfaaDoorProg.lean LOADS. Nothing in Lean hashes anything: it is a label: what it is worth is what the hold of that sum in a sandbox is worth. -/
noncomputable def Tryd.pinned : Pinned := { name := "ytdkldcgiiiejfaadoor", sum := "4aece5cedf962dbb6cf32a43b1a243afe578ae88984d6203035ec2a6251f87cd", checked := Tryd.checked }
namespace Rows
def none {H : Type} : Left H := { results := [], args := [] }

/- WHAT THE LISTED PACKAGE-LEVEL VARIABLES READ AS WHEN THE CALL BEGINS. Each datum BY PROGRAM (the guide's laid-datum.mjs) off the statement by which the dump's own 'gosem.cut.vars' lays the variable. In a bare row this is a premise. The card (YtdkldcgiiiejfaaDoorCards.lean) ties it to the program's text. -/
def laid_loop_example_fulltrees_impl_leastSizes {H : Type} : DataW H := .agg [.agg [.lit (.int .i64 0), .lit (.int .i64 3), .lit (.int .i64 7), .lit (.int .i64 15), .lit (.int .i64 31), .lit (.int .i64 63), .lit (.int .i64 127), .lit (.int .i64 255)], .agg [.lit (.int .i64 0), .lit (.int .i64 3), .lit (.int .i64 7), .lit (.int .i64 15), .lit (.int .i64 31), .lit (.int .i64 63), .lit (.int .i64 127), .lit (.int .i64 255)], .agg [.lit (.int .i64 0), .lit (.int .i64 5), .lit (.int .i64 17), .lit (.int .i64 53), .lit (.int .i64 161), .lit (.int .i64 485), .lit (.int .i64 1457), .lit (.int .i64 4373)], .agg [.lit (.int .i64 0), .lit (.int .i64 5), .lit (.int .i64 17), .lit (.int .i64 53), .lit (.int .i64 161), .lit (.int .i64 485), .lit (.int .i64 1457), .lit (.int .i64 4373)], .agg [.lit (.int .i64 0), .lit (.int .i64 7), .lit (.int .i64 31), .lit (.int .i64 127), .lit (.int .i64 511), .lit (.int .i64 2047), .lit (.int .i64 8191), .lit (.int .i64 32767)]]
def laid_loop_example_fulltrees_impl_mostSizes {H : Type} : DataW H := .agg [.agg [.lit (.int .i64 2), .lit (.int .i64 8), .lit (.int .i64 26), .lit (.int .i64 80), .lit (.int .i64 242), .lit (.int .i64 728), .lit (.int .i64 2186), .lit (.int .i64 6560)], .agg [.lit (.int .i64 3), .lit (.int .i64 15), .lit (.int .i64 63), .lit (.int .i64 255), .lit (.int .i64 1023), .lit (.int .i64 4095), .lit (.int .i64 16383), .lit (.int .i64 65535)], .agg [.lit (.int .i64 4), .lit (.int .i64 24), .lit (.int .i64 124), .lit (.int .i64 624), .lit (.int .i64 3124), .lit (.int .i64 15624), .lit (.int .i64 78124), .lit (.int .i64 390624)], .agg [.lit (.int .i64 5), .lit (.int .i64 35), .lit (.int .i64 215), .lit (.int .i64 1295), .lit (.int .i64 7775), .lit (.int .i64 46655), .lit (.int .i64 279935), .lit (.int .i64 1679615)], .agg [.lit (.int .i64 6), .lit (.int .i64 48), .lit (.int .i64 342), .lit (.int .i64 2400), .lit (.int .i64 16806), .lit (.int .i64 117648), .lit (.int .i64 823542), .lit (.int .i64 5764800)]]

/-- 'laws.FnDepths': WHATEVER THE INPUT: true; the input reads as it did. -/
def fnDepthsSpec : ChangeSpec := { name := "fnDepths", vars := ["loop.example/fulltrees/impl.mostSizes", "loop.example/fulltrees/impl.leastSizes"], fn := fun _ => fun
  | [d1, d2, g1, g2] => { results := [.lit (.bool true)], args := [d1, d2], vars := [g1, g2] }
  | _ => none }
def fnDepthsRow : OpenClaim := { program := "ytdkldcgiiiejfaadoor", sum := "4aece5cedf962dbb6cf32a43b1a243afe578ae88984d6203035ec2a6251f87cd", func := "loop.example/fulltrees/laws.FnDepths", spec := "fnDepths", unfollowed := true, recurses := true, named := ["loop.example/fulltrees/impl.mostSizes", "loop.example/fulltrees/impl.leastSizes"], apart := false, laid := [("loop.example/fulltrees/impl.leastSizes", laid_loop_example_fulltrees_impl_leastSizes), ("loop.example/fulltrees/impl.mostSizes", laid_loop_example_fulltrees_impl_mostSizes)] }
def FnDepthsSaid : Prop := fnDepthsRow.holds Tryd.pinned (OpenSpec.ofChange fnDepthsSpec)

/-- ITS FALSE NEIGHBOUR: 'it returns false'. Refute it at one input. -/
def fnDepthsWrong : ChangeSpec := { name := "fnDepths", vars := ["loop.example/fulltrees/impl.mostSizes", "loop.example/fulltrees/impl.leastSizes"], fn := fun _ => fun
  | [d1, d2, g1, g2] => { results := [.lit (.bool false)], args := [d1, d2], vars := [g1, g2] }
  | _ => none }
def FnDepthsWrongFalsely : Prop := fnDepthsRow.holds Tryd.pinned (OpenSpec.ofChange fnDepthsWrong)

/- THE SECOND FORM. 'bulk': how many values and letters a reading holds, each counted each time it is reached (what is shared counts as often as it is met; a slice's spare places count too). A statement '..UptoSaid' is the law's where the arguments, and the package variables that the reading takes, are together of bulk at most 1048576: NARROWER than '..Said'. Prove '..Said' where nothing that the law and all that it calls make is longer than what came in: it says more and counts as full. Else prove '..UptoSaid'. A law counts once. -/
mutual
def uptoBulk {H : Type} : DataW H → Nat
  | .lit (.string bytes) => bytes.length + 1
  | .lit _ => 1
  | .nil => 1
  | .ptr d => uptoBulk d + 1
  | .slice elems spare => uptoBulkAll elems + uptoBulkAll spare + 1
  | .agg parts => uptoBulkAll parts + 1
  | .iface _ d => uptoBulk d + 1
  | .map entries => uptoBulkEntries entries + 1
  | .held _ => 1
def uptoBulkAll {H : Type} : List (DataW H) → Nat
  | [] => 0
  | d :: r => uptoBulk d + uptoBulkAll r
def uptoBulkEntries {H : Type} : List (Lit × DataW H) → Nat
  | [] => 0
  | x :: r => uptoBulkEntry x + uptoBulkEntries r
def uptoBulkEntry {H : Type} : Lit × DataW H → Nat
  | (.string bytes, d) => bytes.length + uptoBulk d + 1
  | (_, d) => uptoBulk d + 1
 end
def uptoSmall : (H : Type) → List (DataW H) → Bool := fun _ ds => decide (uptoBulkAll ds ≤ 1048576)
def OpenSpec.upto (s : _root_.Go.ChangeSpec) : _root_.Go.OpenSpec := { _root_.Go.OpenSpec.ofChange s with cond := some uptoSmall }

/-- 'laws.FnDepths', WHERE WHAT IT READS IS OF BULK AT MOST 1048576: true; the input reads as it did. -/
def fnDepthsUptoRow : OpenClaim := { program := "ytdkldcgiiiejfaadoor", sum := "4aece5cedf962dbb6cf32a43b1a243afe578ae88984d6203035ec2a6251f87cd", func := "loop.example/fulltrees/laws.FnDepths", spec := "fnDepths", unfollowed := true, recurses := true, named := ["loop.example/fulltrees/impl.mostSizes", "loop.example/fulltrees/impl.leastSizes"], apart := false, laid := [("loop.example/fulltrees/impl.leastSizes", laid_loop_example_fulltrees_impl_leastSizes), ("loop.example/fulltrees/impl.mostSizes", laid_loop_example_fulltrees_impl_mostSizes)], narrowed := true }
def FnDepthsUptoSaid : Prop := fnDepthsUptoRow.holds Tryd.pinned (OpenSpec.upto fnDepthsSpec)

end Rows
end Go.Proofs.YtdkldcgiiiejfaaDoor
