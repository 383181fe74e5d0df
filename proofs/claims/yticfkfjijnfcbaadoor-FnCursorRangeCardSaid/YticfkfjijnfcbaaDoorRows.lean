/-
  NARROWER THAN 'FOR EVERY INPUT', by the rows' own cells (each row's printed sentence says how): FnExactFirstCursor: loops, ifaces, laid · FnExactLastCursor: loops, ifaces, laid · FnExactSeekCursor: loops, ifaces, laid · FnExactForward: loops, ifaces, laid · FnExactBackward: loops, ifaces, laid · FnCursors: ifaces, laid · FnBack: ifaces, laid · FnSeek: ifaces, laid · FnCursorNext: ifaces, laid · FnCursorBack: ifaces, laid · FnCursorRank: ifaces, laid · FnCursorRange: ifaces, laid.
  DERIVED. THE GIVEN ROWS OF THIS SEAT. 12 by the template 'for every input the law returns true; each argument reads behind the call as it read before'; 0 by the template 'total and deterministic' (their statements: YticfkfjijnfcbaaDoorTotals.lean).
  GIVEN WITH THE SEED: the statements are not yours to turn. If you find one false, say at which input.
  Laid BY PROGRAM, IN A SANDBOX (cutbox-rows.mjs): the forced cells as the released guide's own fill.sh prints them over the translation 92b814ab88e14534… (all of the seat's roots in one cut). By AI agents, Wed Nov 11 2026. No macro, syntax, notation, axiom, sorry.
-/
import Derived.Test.YticfkfjijnfcbaaDoorChecked
import GoSem.Claim
import GoSem.ClaimJoined
import GoSem.ClaimMapViews
import Derived.JoinedTies
import Derived.KernelRfl
namespace Go.Proofs.YticfkfjijnfcbaaDoor
/- THE CELL 'sum', in the pinned program and in every row, IS THE sha256 OF THE DUMP (.gsa) THAT YticfkfjijnfcbaaDoorProg.lean LOADS. Nothing in Lean hashes anything: it is a label: what it is worth is what the hold of that sum in a sandbox is worth. -/
noncomputable def Tryd.pinned : Pinned := { name := "yticfkfjijnfcbaadoor", sum := "92b814ab88e14534c65fb3b9058963bccfce54e87e1d42d38b12b3819b0dd166", checked := Tryd.checked }
namespace Rows
def none {H : Type} : Left H := { results := [], args := [] }

/- WHAT THE LISTED PACKAGE-LEVEL VARIABLES READ AS WHEN THE CALL BEGINS. Each datum BY PROGRAM (the guide's laid-datum.mjs) off the statement by which the dump's own 'gosem.cut.vars' lays the variable. In a bare row this is a premise. The card (YticfkfjijnfcbaaDoorCards.lean) ties it to the program's text. -/
def laid_loop_example_fulltrees_impl_errNowhere {H : Type} : DataW H := .iface "*errors.errorString" (.ptr (.agg [.lit (.string [116, 104, 101, 114, 101, 32, 105, 115, 32, 110, 111, 32, 115, 117, 99, 104, 32, 116, 114, 101, 101, 44, 32, 110, 111, 100, 101, 32, 111, 114, 32, 107, 101, 121])]))
def laid_loop_example_fulltrees_impl_errEnd {H : Type} : DataW H := .iface "*errors.errorString" (.ptr (.agg [.lit (.string [110, 111, 32, 107, 101, 121, 32, 105, 115, 32, 108, 101, 102, 116, 32, 116, 104, 97, 116, 32, 119, 97, 121])]))

/-- 'laws.FnExactFirstCursor': WHATEVER THE INPUT: true; the input reads as it did. -/
def fnExactFirstCursorSpec : ChangeSpec := { name := "fnExactFirstCursor", vars := ["loop.example/fulltrees/impl.errEnd", "loop.example/fulltrees/impl.errNowhere"], fn := fun _ => fun
  | [d, g1, g2] => { results := [.lit (.bool true)], args := [d], vars := [g1, g2] }
  | _ => none }
def fnExactFirstCursorRow : OpenClaim := { program := "yticfkfjijnfcbaadoor", sum := "92b814ab88e14534c65fb3b9058963bccfce54e87e1d42d38b12b3819b0dd166", func := "loop.example/fulltrees/laws.FnExactFirstCursor", spec := "fnExactFirstCursor", inPlace := ["internal/reflectlite.TypeOf"], unfollowed := true, recurses := true, named := ["loop.example/fulltrees/impl.errEnd", "loop.example/fulltrees/impl.errNowhere"], ifaces := true, loops := true, apart := false, laid := [("loop.example/fulltrees/impl.errNowhere", laid_loop_example_fulltrees_impl_errNowhere), ("loop.example/fulltrees/impl.errEnd", laid_loop_example_fulltrees_impl_errEnd)] }
def FnExactFirstCursorSaid : Prop := fnExactFirstCursorRow.holds Tryd.pinned (OpenSpec.ofChange fnExactFirstCursorSpec)

/-- ITS FALSE NEIGHBOUR: 'it returns false'. Refute it at one input. -/
def fnExactFirstCursorWrong : ChangeSpec := { name := "fnExactFirstCursor", vars := ["loop.example/fulltrees/impl.errEnd", "loop.example/fulltrees/impl.errNowhere"], fn := fun _ => fun
  | [d, g1, g2] => { results := [.lit (.bool false)], args := [d], vars := [g1, g2] }
  | _ => none }
def FnExactFirstCursorWrongFalsely : Prop := fnExactFirstCursorRow.holds Tryd.pinned (OpenSpec.ofChange fnExactFirstCursorWrong)

/-- 'laws.FnExactLastCursor': WHATEVER THE INPUT: true; the input reads as it did. -/
def fnExactLastCursorSpec : ChangeSpec := { name := "fnExactLastCursor", vars := ["loop.example/fulltrees/impl.errNowhere", "loop.example/fulltrees/impl.errEnd"], fn := fun _ => fun
  | [d, g1, g2] => { results := [.lit (.bool true)], args := [d], vars := [g1, g2] }
  | _ => none }
def fnExactLastCursorRow : OpenClaim := { program := "yticfkfjijnfcbaadoor", sum := "92b814ab88e14534c65fb3b9058963bccfce54e87e1d42d38b12b3819b0dd166", func := "loop.example/fulltrees/laws.FnExactLastCursor", spec := "fnExactLastCursor", inPlace := ["internal/reflectlite.TypeOf"], unfollowed := true, recurses := true, named := ["loop.example/fulltrees/impl.errNowhere", "loop.example/fulltrees/impl.errEnd"], ifaces := true, loops := true, apart := false, laid := [("loop.example/fulltrees/impl.errNowhere", laid_loop_example_fulltrees_impl_errNowhere), ("loop.example/fulltrees/impl.errEnd", laid_loop_example_fulltrees_impl_errEnd)] }
def FnExactLastCursorSaid : Prop := fnExactLastCursorRow.holds Tryd.pinned (OpenSpec.ofChange fnExactLastCursorSpec)

/-- ITS FALSE NEIGHBOUR: 'it returns false'. Refute it at one input. -/
def fnExactLastCursorWrong : ChangeSpec := { name := "fnExactLastCursor", vars := ["loop.example/fulltrees/impl.errNowhere", "loop.example/fulltrees/impl.errEnd"], fn := fun _ => fun
  | [d, g1, g2] => { results := [.lit (.bool false)], args := [d], vars := [g1, g2] }
  | _ => none }
def FnExactLastCursorWrongFalsely : Prop := fnExactLastCursorRow.holds Tryd.pinned (OpenSpec.ofChange fnExactLastCursorWrong)

/-- 'laws.FnExactSeekCursor': WHATEVER THE INPUT: true; the input reads as it did. -/
def fnExactSeekCursorSpec : ChangeSpec := { name := "fnExactSeekCursor", vars := ["loop.example/fulltrees/impl.errEnd", "loop.example/fulltrees/impl.errNowhere"], fn := fun _ => fun
  | [d1, d2, g1, g2] => { results := [.lit (.bool true)], args := [d1, d2], vars := [g1, g2] }
  | _ => none }
def fnExactSeekCursorRow : OpenClaim := { program := "yticfkfjijnfcbaadoor", sum := "92b814ab88e14534c65fb3b9058963bccfce54e87e1d42d38b12b3819b0dd166", func := "loop.example/fulltrees/laws.FnExactSeekCursor", spec := "fnExactSeekCursor", inPlace := ["internal/reflectlite.TypeOf"], unfollowed := true, recurses := true, named := ["loop.example/fulltrees/impl.errEnd", "loop.example/fulltrees/impl.errNowhere"], ifaces := true, loops := true, apart := false, laid := [("loop.example/fulltrees/impl.errNowhere", laid_loop_example_fulltrees_impl_errNowhere), ("loop.example/fulltrees/impl.errEnd", laid_loop_example_fulltrees_impl_errEnd)] }
def FnExactSeekCursorSaid : Prop := fnExactSeekCursorRow.holds Tryd.pinned (OpenSpec.ofChange fnExactSeekCursorSpec)

/-- ITS FALSE NEIGHBOUR: 'it returns false'. Refute it at one input. -/
def fnExactSeekCursorWrong : ChangeSpec := { name := "fnExactSeekCursor", vars := ["loop.example/fulltrees/impl.errEnd", "loop.example/fulltrees/impl.errNowhere"], fn := fun _ => fun
  | [d1, d2, g1, g2] => { results := [.lit (.bool false)], args := [d1, d2], vars := [g1, g2] }
  | _ => none }
def FnExactSeekCursorWrongFalsely : Prop := fnExactSeekCursorRow.holds Tryd.pinned (OpenSpec.ofChange fnExactSeekCursorWrong)

/-- 'laws.FnExactForward': WHATEVER THE INPUT: true; the input reads as it did. -/
def fnExactForwardSpec : ChangeSpec := { name := "fnExactForward", vars := ["loop.example/fulltrees/impl.errNowhere", "loop.example/fulltrees/impl.errEnd"], fn := fun _ => fun
  | [d1, d2, g1, g2] => { results := [.lit (.bool true)], args := [d1, d2], vars := [g1, g2] }
  | _ => none }
def fnExactForwardRow : OpenClaim := { program := "yticfkfjijnfcbaadoor", sum := "92b814ab88e14534c65fb3b9058963bccfce54e87e1d42d38b12b3819b0dd166", func := "loop.example/fulltrees/laws.FnExactForward", spec := "fnExactForward", inPlace := ["internal/reflectlite.TypeOf"], unfollowed := true, recurses := true, named := ["loop.example/fulltrees/impl.errNowhere", "loop.example/fulltrees/impl.errEnd"], ifaces := true, loops := true, apart := false, laid := [("loop.example/fulltrees/impl.errNowhere", laid_loop_example_fulltrees_impl_errNowhere), ("loop.example/fulltrees/impl.errEnd", laid_loop_example_fulltrees_impl_errEnd)] }
def FnExactForwardSaid : Prop := fnExactForwardRow.holds Tryd.pinned (OpenSpec.ofChange fnExactForwardSpec)

/-- ITS FALSE NEIGHBOUR: 'it returns false'. Refute it at one input. -/
def fnExactForwardWrong : ChangeSpec := { name := "fnExactForward", vars := ["loop.example/fulltrees/impl.errNowhere", "loop.example/fulltrees/impl.errEnd"], fn := fun _ => fun
  | [d1, d2, g1, g2] => { results := [.lit (.bool false)], args := [d1, d2], vars := [g1, g2] }
  | _ => none }
def FnExactForwardWrongFalsely : Prop := fnExactForwardRow.holds Tryd.pinned (OpenSpec.ofChange fnExactForwardWrong)

/-- 'laws.FnExactBackward': WHATEVER THE INPUT: true; the input reads as it did. -/
def fnExactBackwardSpec : ChangeSpec := { name := "fnExactBackward", vars := ["loop.example/fulltrees/impl.errNowhere", "loop.example/fulltrees/impl.errEnd"], fn := fun _ => fun
  | [d1, d2, g1, g2] => { results := [.lit (.bool true)], args := [d1, d2], vars := [g1, g2] }
  | _ => none }
def fnExactBackwardRow : OpenClaim := { program := "yticfkfjijnfcbaadoor", sum := "92b814ab88e14534c65fb3b9058963bccfce54e87e1d42d38b12b3819b0dd166", func := "loop.example/fulltrees/laws.FnExactBackward", spec := "fnExactBackward", inPlace := ["internal/reflectlite.TypeOf"], unfollowed := true, recurses := true, named := ["loop.example/fulltrees/impl.errNowhere", "loop.example/fulltrees/impl.errEnd"], ifaces := true, loops := true, apart := false, laid := [("loop.example/fulltrees/impl.errNowhere", laid_loop_example_fulltrees_impl_errNowhere), ("loop.example/fulltrees/impl.errEnd", laid_loop_example_fulltrees_impl_errEnd)] }
def FnExactBackwardSaid : Prop := fnExactBackwardRow.holds Tryd.pinned (OpenSpec.ofChange fnExactBackwardSpec)

/-- ITS FALSE NEIGHBOUR: 'it returns false'. Refute it at one input. -/
def fnExactBackwardWrong : ChangeSpec := { name := "fnExactBackward", vars := ["loop.example/fulltrees/impl.errNowhere", "loop.example/fulltrees/impl.errEnd"], fn := fun _ => fun
  | [d1, d2, g1, g2] => { results := [.lit (.bool false)], args := [d1, d2], vars := [g1, g2] }
  | _ => none }
def FnExactBackwardWrongFalsely : Prop := fnExactBackwardRow.holds Tryd.pinned (OpenSpec.ofChange fnExactBackwardWrong)

/-- 'laws.FnCursors': WHATEVER THE INPUT: true; the input reads as it did. -/
def fnCursorsSpec : ChangeSpec := { name := "fnCursors", vars := ["loop.example/fulltrees/impl.errEnd", "loop.example/fulltrees/impl.errNowhere"], fn := fun _ => fun
  | [d, g1, g2] => { results := [.lit (.bool true)], args := [d], vars := [g1, g2] }
  | _ => none }
def fnCursorsRow : OpenClaim := { program := "yticfkfjijnfcbaadoor", sum := "92b814ab88e14534c65fb3b9058963bccfce54e87e1d42d38b12b3819b0dd166", func := "loop.example/fulltrees/laws.FnCursors", spec := "fnCursors", inPlace := ["internal/reflectlite.TypeOf"], unfollowed := true, recurses := true, named := ["loop.example/fulltrees/impl.errEnd", "loop.example/fulltrees/impl.errNowhere"], ifaces := true, apart := false, laid := [("loop.example/fulltrees/impl.errNowhere", laid_loop_example_fulltrees_impl_errNowhere), ("loop.example/fulltrees/impl.errEnd", laid_loop_example_fulltrees_impl_errEnd)] }
def FnCursorsSaid : Prop := fnCursorsRow.holds Tryd.pinned (OpenSpec.ofChange fnCursorsSpec)

/-- ITS FALSE NEIGHBOUR: 'it returns false'. Refute it at one input. -/
def fnCursorsWrong : ChangeSpec := { name := "fnCursors", vars := ["loop.example/fulltrees/impl.errEnd", "loop.example/fulltrees/impl.errNowhere"], fn := fun _ => fun
  | [d, g1, g2] => { results := [.lit (.bool false)], args := [d], vars := [g1, g2] }
  | _ => none }
def FnCursorsWrongFalsely : Prop := fnCursorsRow.holds Tryd.pinned (OpenSpec.ofChange fnCursorsWrong)

/-- 'laws.FnBack': WHATEVER THE INPUT: true; the input reads as it did. -/
def fnBackSpec : ChangeSpec := { name := "fnBack", vars := ["loop.example/fulltrees/impl.errNowhere", "loop.example/fulltrees/impl.errEnd"], fn := fun _ => fun
  | [d1, d2, g1, g2] => { results := [.lit (.bool true)], args := [d1, d2], vars := [g1, g2] }
  | _ => none }
def fnBackRow : OpenClaim := { program := "yticfkfjijnfcbaadoor", sum := "92b814ab88e14534c65fb3b9058963bccfce54e87e1d42d38b12b3819b0dd166", func := "loop.example/fulltrees/laws.FnBack", spec := "fnBack", inPlace := ["internal/reflectlite.TypeOf"], unfollowed := true, recurses := true, named := ["loop.example/fulltrees/impl.errNowhere", "loop.example/fulltrees/impl.errEnd"], ifaces := true, apart := false, laid := [("loop.example/fulltrees/impl.errNowhere", laid_loop_example_fulltrees_impl_errNowhere), ("loop.example/fulltrees/impl.errEnd", laid_loop_example_fulltrees_impl_errEnd)] }
def FnBackSaid : Prop := fnBackRow.holds Tryd.pinned (OpenSpec.ofChange fnBackSpec)

/-- ITS FALSE NEIGHBOUR: 'it returns false'. Refute it at one input. -/
def fnBackWrong : ChangeSpec := { name := "fnBack", vars := ["loop.example/fulltrees/impl.errNowhere", "loop.example/fulltrees/impl.errEnd"], fn := fun _ => fun
  | [d1, d2, g1, g2] => { results := [.lit (.bool false)], args := [d1, d2], vars := [g1, g2] }
  | _ => none }
def FnBackWrongFalsely : Prop := fnBackRow.holds Tryd.pinned (OpenSpec.ofChange fnBackWrong)

/-- 'laws.FnSeek': WHATEVER THE INPUT: true; the input reads as it did. -/
def fnSeekSpec : ChangeSpec := { name := "fnSeek", vars := ["loop.example/fulltrees/impl.errEnd", "loop.example/fulltrees/impl.errNowhere"], fn := fun _ => fun
  | [d, g1, g2] => { results := [.lit (.bool true)], args := [d], vars := [g1, g2] }
  | _ => none }
def fnSeekRow : OpenClaim := { program := "yticfkfjijnfcbaadoor", sum := "92b814ab88e14534c65fb3b9058963bccfce54e87e1d42d38b12b3819b0dd166", func := "loop.example/fulltrees/laws.FnSeek", spec := "fnSeek", inPlace := ["internal/reflectlite.TypeOf"], unfollowed := true, recurses := true, named := ["loop.example/fulltrees/impl.errEnd", "loop.example/fulltrees/impl.errNowhere"], ifaces := true, apart := false, laid := [("loop.example/fulltrees/impl.errNowhere", laid_loop_example_fulltrees_impl_errNowhere), ("loop.example/fulltrees/impl.errEnd", laid_loop_example_fulltrees_impl_errEnd)] }
def FnSeekSaid : Prop := fnSeekRow.holds Tryd.pinned (OpenSpec.ofChange fnSeekSpec)

/-- ITS FALSE NEIGHBOUR: 'it returns false'. Refute it at one input. -/
def fnSeekWrong : ChangeSpec := { name := "fnSeek", vars := ["loop.example/fulltrees/impl.errEnd", "loop.example/fulltrees/impl.errNowhere"], fn := fun _ => fun
  | [d, g1, g2] => { results := [.lit (.bool false)], args := [d], vars := [g1, g2] }
  | _ => none }
def FnSeekWrongFalsely : Prop := fnSeekRow.holds Tryd.pinned (OpenSpec.ofChange fnSeekWrong)

/-- 'laws.FnCursorNext': WHATEVER THE INPUT: true; the input reads as it did. -/
def fnCursorNextSpec : ChangeSpec := { name := "fnCursorNext", vars := ["loop.example/fulltrees/impl.errNowhere", "loop.example/fulltrees/impl.errEnd"], fn := fun _ => fun
  | [d, g1, g2] => { results := [.lit (.bool true)], args := [d], vars := [g1, g2] }
  | _ => none }
def fnCursorNextRow : OpenClaim := { program := "yticfkfjijnfcbaadoor", sum := "92b814ab88e14534c65fb3b9058963bccfce54e87e1d42d38b12b3819b0dd166", func := "loop.example/fulltrees/laws.FnCursorNext", spec := "fnCursorNext", inPlace := ["internal/reflectlite.TypeOf"], unfollowed := true, recurses := true, named := ["loop.example/fulltrees/impl.errNowhere", "loop.example/fulltrees/impl.errEnd"], ifaces := true, apart := false, laid := [("loop.example/fulltrees/impl.errNowhere", laid_loop_example_fulltrees_impl_errNowhere), ("loop.example/fulltrees/impl.errEnd", laid_loop_example_fulltrees_impl_errEnd)] }
def FnCursorNextSaid : Prop := fnCursorNextRow.holds Tryd.pinned (OpenSpec.ofChange fnCursorNextSpec)

/-- ITS FALSE NEIGHBOUR: 'it returns false'. Refute it at one input. -/
def fnCursorNextWrong : ChangeSpec := { name := "fnCursorNext", vars := ["loop.example/fulltrees/impl.errNowhere", "loop.example/fulltrees/impl.errEnd"], fn := fun _ => fun
  | [d, g1, g2] => { results := [.lit (.bool false)], args := [d], vars := [g1, g2] }
  | _ => none }
def FnCursorNextWrongFalsely : Prop := fnCursorNextRow.holds Tryd.pinned (OpenSpec.ofChange fnCursorNextWrong)

/-- 'laws.FnCursorBack': WHATEVER THE INPUT: true; the input reads as it did. -/
def fnCursorBackSpec : ChangeSpec := { name := "fnCursorBack", vars := ["loop.example/fulltrees/impl.errNowhere", "loop.example/fulltrees/impl.errEnd"], fn := fun _ => fun
  | [d, g1, g2] => { results := [.lit (.bool true)], args := [d], vars := [g1, g2] }
  | _ => none }
def fnCursorBackRow : OpenClaim := { program := "yticfkfjijnfcbaadoor", sum := "92b814ab88e14534c65fb3b9058963bccfce54e87e1d42d38b12b3819b0dd166", func := "loop.example/fulltrees/laws.FnCursorBack", spec := "fnCursorBack", inPlace := ["internal/reflectlite.TypeOf"], unfollowed := true, recurses := true, named := ["loop.example/fulltrees/impl.errNowhere", "loop.example/fulltrees/impl.errEnd"], ifaces := true, apart := false, laid := [("loop.example/fulltrees/impl.errNowhere", laid_loop_example_fulltrees_impl_errNowhere), ("loop.example/fulltrees/impl.errEnd", laid_loop_example_fulltrees_impl_errEnd)] }
def FnCursorBackSaid : Prop := fnCursorBackRow.holds Tryd.pinned (OpenSpec.ofChange fnCursorBackSpec)

/-- ITS FALSE NEIGHBOUR: 'it returns false'. Refute it at one input. -/
def fnCursorBackWrong : ChangeSpec := { name := "fnCursorBack", vars := ["loop.example/fulltrees/impl.errNowhere", "loop.example/fulltrees/impl.errEnd"], fn := fun _ => fun
  | [d, g1, g2] => { results := [.lit (.bool false)], args := [d], vars := [g1, g2] }
  | _ => none }
def FnCursorBackWrongFalsely : Prop := fnCursorBackRow.holds Tryd.pinned (OpenSpec.ofChange fnCursorBackWrong)

/-- 'laws.FnCursorRank': WHATEVER THE INPUT: true; the input reads as it did. -/
def fnCursorRankSpec : ChangeSpec := { name := "fnCursorRank", vars := ["loop.example/fulltrees/impl.errNowhere", "loop.example/fulltrees/impl.errEnd"], fn := fun _ => fun
  | [d, g1, g2] => { results := [.lit (.bool true)], args := [d], vars := [g1, g2] }
  | _ => none }
def fnCursorRankRow : OpenClaim := { program := "yticfkfjijnfcbaadoor", sum := "92b814ab88e14534c65fb3b9058963bccfce54e87e1d42d38b12b3819b0dd166", func := "loop.example/fulltrees/laws.FnCursorRank", spec := "fnCursorRank", inPlace := ["internal/reflectlite.TypeOf"], unfollowed := true, recurses := true, named := ["loop.example/fulltrees/impl.errNowhere", "loop.example/fulltrees/impl.errEnd"], ifaces := true, apart := false, laid := [("loop.example/fulltrees/impl.errNowhere", laid_loop_example_fulltrees_impl_errNowhere), ("loop.example/fulltrees/impl.errEnd", laid_loop_example_fulltrees_impl_errEnd)] }
def FnCursorRankSaid : Prop := fnCursorRankRow.holds Tryd.pinned (OpenSpec.ofChange fnCursorRankSpec)

/-- ITS FALSE NEIGHBOUR: 'it returns false'. Refute it at one input. -/
def fnCursorRankWrong : ChangeSpec := { name := "fnCursorRank", vars := ["loop.example/fulltrees/impl.errNowhere", "loop.example/fulltrees/impl.errEnd"], fn := fun _ => fun
  | [d, g1, g2] => { results := [.lit (.bool false)], args := [d], vars := [g1, g2] }
  | _ => none }
def FnCursorRankWrongFalsely : Prop := fnCursorRankRow.holds Tryd.pinned (OpenSpec.ofChange fnCursorRankWrong)

/-- 'laws.FnCursorRange': WHATEVER THE INPUT: true; the input reads as it did. -/
def fnCursorRangeSpec : ChangeSpec := { name := "fnCursorRange", vars := ["loop.example/fulltrees/impl.errEnd", "loop.example/fulltrees/impl.errNowhere"], fn := fun _ => fun
  | [d, g1, g2] => { results := [.lit (.bool true)], args := [d], vars := [g1, g2] }
  | _ => none }
def fnCursorRangeRow : OpenClaim := { program := "yticfkfjijnfcbaadoor", sum := "92b814ab88e14534c65fb3b9058963bccfce54e87e1d42d38b12b3819b0dd166", func := "loop.example/fulltrees/laws.FnCursorRange", spec := "fnCursorRange", inPlace := ["internal/reflectlite.TypeOf"], unfollowed := true, recurses := true, named := ["loop.example/fulltrees/impl.errEnd", "loop.example/fulltrees/impl.errNowhere"], ifaces := true, apart := false, laid := [("loop.example/fulltrees/impl.errNowhere", laid_loop_example_fulltrees_impl_errNowhere), ("loop.example/fulltrees/impl.errEnd", laid_loop_example_fulltrees_impl_errEnd)] }
def FnCursorRangeSaid : Prop := fnCursorRangeRow.holds Tryd.pinned (OpenSpec.ofChange fnCursorRangeSpec)

/-- ITS FALSE NEIGHBOUR: 'it returns false'. Refute it at one input. -/
def fnCursorRangeWrong : ChangeSpec := { name := "fnCursorRange", vars := ["loop.example/fulltrees/impl.errEnd", "loop.example/fulltrees/impl.errNowhere"], fn := fun _ => fun
  | [d, g1, g2] => { results := [.lit (.bool false)], args := [d], vars := [g1, g2] }
  | _ => none }
def FnCursorRangeWrongFalsely : Prop := fnCursorRangeRow.holds Tryd.pinned (OpenSpec.ofChange fnCursorRangeWrong)

/- THE SECOND FORM. 'bulk': how many values and letters a reading holds, each counted each time it is reached (what is shared counts as often as it is met; a slice's spare places count too). A statement '..UptoSaid' is the law's where the arguments, and the package variables that the reading takes, are together of bulk at most 1048576: NARROWER than '..Said'. Prove '..Said' where nothing that the law and all that it calls make is longer than what came in: it says more and counts as full. Else prove '..UptoSaid'. A law counts once. -/
mutual
def uptoBulk {H : Type} : DataW H → Nat
  | .lit (.string bytes) => bytes.length + 1
  | .lit _ => 1
  | .nil => 1
  | .ptr d => uptoBulk d + 1
  | .slice elems spare => uptoBulkAll elems + uptoBulkAll spare + 1
  | .agg parts => uptoBulkAll parts + 1
  | .iface _ d => uptoBulk d + 1
  | .map entries => uptoBulkEntries entries + 1
  | .held _ => 1
def uptoBulkAll {H : Type} : List (DataW H) → Nat
  | [] => 0
  | d :: r => uptoBulk d + uptoBulkAll r
def uptoBulkEntries {H : Type} : List (Lit × DataW H) → Nat
  | [] => 0
  | x :: r => uptoBulkEntry x + uptoBulkEntries r
def uptoBulkEntry {H : Type} : Lit × DataW H → Nat
  | (.string bytes, d) => bytes.length + uptoBulk d + 1
  | (_, d) => uptoBulk d + 1
 end
def uptoSmall : (H : Type) → List (DataW H) → Bool := fun _ ds => decide (uptoBulkAll ds ≤ 1048576)
def OpenSpec.upto (s : _root_.Go.ChangeSpec) : _root_.Go.OpenSpec := { _root_.Go.OpenSpec.ofChange s with cond := some uptoSmall }

/-- 'laws.FnExactFirstCursor', WHERE WHAT IT READS IS OF BULK AT MOST 1048576: true; the input reads as it did. -/
def fnExactFirstCursorUptoRow : OpenClaim := { program := "yticfkfjijnfcbaadoor", sum := "92b814ab88e14534c65fb3b9058963bccfce54e87e1d42d38b12b3819b0dd166", func := "loop.example/fulltrees/laws.FnExactFirstCursor", spec := "fnExactFirstCursor", inPlace := ["internal/reflectlite.TypeOf"], unfollowed := true, recurses := true, named := ["loop.example/fulltrees/impl.errEnd", "loop.example/fulltrees/impl.errNowhere"], ifaces := true, loops := true, apart := false, laid := [("loop.example/fulltrees/impl.errNowhere", laid_loop_example_fulltrees_impl_errNowhere), ("loop.example/fulltrees/impl.errEnd", laid_loop_example_fulltrees_impl_errEnd)], narrowed := true }
def FnExactFirstCursorUptoSaid : Prop := fnExactFirstCursorUptoRow.holds Tryd.pinned (OpenSpec.upto fnExactFirstCursorSpec)

/-- 'laws.FnExactLastCursor', WHERE WHAT IT READS IS OF BULK AT MOST 1048576: true; the input reads as it did. -/
def fnExactLastCursorUptoRow : OpenClaim := { program := "yticfkfjijnfcbaadoor", sum := "92b814ab88e14534c65fb3b9058963bccfce54e87e1d42d38b12b3819b0dd166", func := "loop.example/fulltrees/laws.FnExactLastCursor", spec := "fnExactLastCursor", inPlace := ["internal/reflectlite.TypeOf"], unfollowed := true, recurses := true, named := ["loop.example/fulltrees/impl.errNowhere", "loop.example/fulltrees/impl.errEnd"], ifaces := true, loops := true, apart := false, laid := [("loop.example/fulltrees/impl.errNowhere", laid_loop_example_fulltrees_impl_errNowhere), ("loop.example/fulltrees/impl.errEnd", laid_loop_example_fulltrees_impl_errEnd)], narrowed := true }
def FnExactLastCursorUptoSaid : Prop := fnExactLastCursorUptoRow.holds Tryd.pinned (OpenSpec.upto fnExactLastCursorSpec)

/-- 'laws.FnExactSeekCursor', WHERE WHAT IT READS IS OF BULK AT MOST 1048576: true; the input reads as it did. -/
def fnExactSeekCursorUptoRow : OpenClaim := { program := "yticfkfjijnfcbaadoor", sum := "92b814ab88e14534c65fb3b9058963bccfce54e87e1d42d38b12b3819b0dd166", func := "loop.example/fulltrees/laws.FnExactSeekCursor", spec := "fnExactSeekCursor", inPlace := ["internal/reflectlite.TypeOf"], unfollowed := true, recurses := true, named := ["loop.example/fulltrees/impl.errEnd", "loop.example/fulltrees/impl.errNowhere"], ifaces := true, loops := true, apart := false, laid := [("loop.example/fulltrees/impl.errNowhere", laid_loop_example_fulltrees_impl_errNowhere), ("loop.example/fulltrees/impl.errEnd", laid_loop_example_fulltrees_impl_errEnd)], narrowed := true }
def FnExactSeekCursorUptoSaid : Prop := fnExactSeekCursorUptoRow.holds Tryd.pinned (OpenSpec.upto fnExactSeekCursorSpec)

/-- 'laws.FnExactForward', WHERE WHAT IT READS IS OF BULK AT MOST 1048576: true; the input reads as it did. -/
def fnExactForwardUptoRow : OpenClaim := { program := "yticfkfjijnfcbaadoor", sum := "92b814ab88e14534c65fb3b9058963bccfce54e87e1d42d38b12b3819b0dd166", func := "loop.example/fulltrees/laws.FnExactForward", spec := "fnExactForward", inPlace := ["internal/reflectlite.TypeOf"], unfollowed := true, recurses := true, named := ["loop.example/fulltrees/impl.errNowhere", "loop.example/fulltrees/impl.errEnd"], ifaces := true, loops := true, apart := false, laid := [("loop.example/fulltrees/impl.errNowhere", laid_loop_example_fulltrees_impl_errNowhere), ("loop.example/fulltrees/impl.errEnd", laid_loop_example_fulltrees_impl_errEnd)], narrowed := true }
def FnExactForwardUptoSaid : Prop := fnExactForwardUptoRow.holds Tryd.pinned (OpenSpec.upto fnExactForwardSpec)

/-- 'laws.FnExactBackward', WHERE WHAT IT READS IS OF BULK AT MOST 1048576: true; the input reads as it did. -/
def fnExactBackwardUptoRow : OpenClaim := { program := "yticfkfjijnfcbaadoor", sum := "92b814ab88e14534c65fb3b9058963bccfce54e87e1d42d38b12b3819b0dd166", func := "loop.example/fulltrees/laws.FnExactBackward", spec := "fnExactBackward", inPlace := ["internal/reflectlite.TypeOf"], unfollowed := true, recurses := true, named := ["loop.example/fulltrees/impl.errNowhere", "loop.example/fulltrees/impl.errEnd"], ifaces := true, loops := true, apart := false, laid := [("loop.example/fulltrees/impl.errNowhere", laid_loop_example_fulltrees_impl_errNowhere), ("loop.example/fulltrees/impl.errEnd", laid_loop_example_fulltrees_impl_errEnd)], narrowed := true }
def FnExactBackwardUptoSaid : Prop := fnExactBackwardUptoRow.holds Tryd.pinned (OpenSpec.upto fnExactBackwardSpec)

/-- 'laws.FnCursors', WHERE WHAT IT READS IS OF BULK AT MOST 1048576: true; the input reads as it did. -/
def fnCursorsUptoRow : OpenClaim := { program := "yticfkfjijnfcbaadoor", sum := "92b814ab88e14534c65fb3b9058963bccfce54e87e1d42d38b12b3819b0dd166", func := "loop.example/fulltrees/laws.FnCursors", spec := "fnCursors", inPlace := ["internal/reflectlite.TypeOf"], unfollowed := true, recurses := true, named := ["loop.example/fulltrees/impl.errEnd", "loop.example/fulltrees/impl.errNowhere"], ifaces := true, apart := false, laid := [("loop.example/fulltrees/impl.errNowhere", laid_loop_example_fulltrees_impl_errNowhere), ("loop.example/fulltrees/impl.errEnd", laid_loop_example_fulltrees_impl_errEnd)], narrowed := true }
def FnCursorsUptoSaid : Prop := fnCursorsUptoRow.holds Tryd.pinned (OpenSpec.upto fnCursorsSpec)

/-- 'laws.FnBack', WHERE WHAT IT READS IS OF BULK AT MOST 1048576: true; the input reads as it did. -/
def fnBackUptoRow : OpenClaim := { program := "yticfkfjijnfcbaadoor", sum := "92b814ab88e14534c65fb3b9058963bccfce54e87e1d42d38b12b3819b0dd166", func := "loop.example/fulltrees/laws.FnBack", spec := "fnBack", inPlace := ["internal/reflectlite.TypeOf"], unfollowed := true, recurses := true, named := ["loop.example/fulltrees/impl.errNowhere", "loop.example/fulltrees/impl.errEnd"], ifaces := true, apart := false, laid := [("loop.example/fulltrees/impl.errNowhere", laid_loop_example_fulltrees_impl_errNowhere), ("loop.example/fulltrees/impl.errEnd", laid_loop_example_fulltrees_impl_errEnd)], narrowed := true }
def FnBackUptoSaid : Prop := fnBackUptoRow.holds Tryd.pinned (OpenSpec.upto fnBackSpec)

/-- 'laws.FnSeek', WHERE WHAT IT READS IS OF BULK AT MOST 1048576: true; the input reads as it did. -/
def fnSeekUptoRow : OpenClaim := { program := "yticfkfjijnfcbaadoor", sum := "92b814ab88e14534c65fb3b9058963bccfce54e87e1d42d38b12b3819b0dd166", func := "loop.example/fulltrees/laws.FnSeek", spec := "fnSeek", inPlace := ["internal/reflectlite.TypeOf"], unfollowed := true, recurses := true, named := ["loop.example/fulltrees/impl.errEnd", "loop.example/fulltrees/impl.errNowhere"], ifaces := true, apart := false, laid := [("loop.example/fulltrees/impl.errNowhere", laid_loop_example_fulltrees_impl_errNowhere), ("loop.example/fulltrees/impl.errEnd", laid_loop_example_fulltrees_impl_errEnd)], narrowed := true }
def FnSeekUptoSaid : Prop := fnSeekUptoRow.holds Tryd.pinned (OpenSpec.upto fnSeekSpec)

/-- 'laws.FnCursorNext', WHERE WHAT IT READS IS OF BULK AT MOST 1048576: true; the input reads as it did. -/
def fnCursorNextUptoRow : OpenClaim := { program := "yticfkfjijnfcbaadoor", sum := "92b814ab88e14534c65fb3b9058963bccfce54e87e1d42d38b12b3819b0dd166", func := "loop.example/fulltrees/laws.FnCursorNext", spec := "fnCursorNext", inPlace := ["internal/reflectlite.TypeOf"], unfollowed := true, recurses := true, named := ["loop.example/fulltrees/impl.errNowhere", "loop.example/fulltrees/impl.errEnd"], ifaces := true, apart := false, laid := [("loop.example/fulltrees/impl.errNowhere", laid_loop_example_fulltrees_impl_errNowhere), ("loop.example/fulltrees/impl.errEnd", laid_loop_example_fulltrees_impl_errEnd)], narrowed := true }
def FnCursorNextUptoSaid : Prop := fnCursorNextUptoRow.holds Tryd.pinned (OpenSpec.upto fnCursorNextSpec)

/-- 'laws.FnCursorBack', WHERE WHAT IT READS IS OF BULK AT MOST 1048576: true; the input reads as it did. -/
def fnCursorBackUptoRow : OpenClaim := { program := "yticfkfjijnfcbaadoor", sum := "92b814ab88e14534c65fb3b9058963bccfce54e87e1d42d38b12b3819b0dd166", func := "loop.example/fulltrees/laws.FnCursorBack", spec := "fnCursorBack", inPlace := ["internal/reflectlite.TypeOf"], unfollowed := true, recurses := true, named := ["loop.example/fulltrees/impl.errNowhere", "loop.example/fulltrees/impl.errEnd"], ifaces := true, apart := false, laid := [("loop.example/fulltrees/impl.errNowhere", laid_loop_example_fulltrees_impl_errNowhere), ("loop.example/fulltrees/impl.errEnd", laid_loop_example_fulltrees_impl_errEnd)], narrowed := true }
def FnCursorBackUptoSaid : Prop := fnCursorBackUptoRow.holds Tryd.pinned (OpenSpec.upto fnCursorBackSpec)

/-- 'laws.FnCursorRank', WHERE WHAT IT READS IS OF BULK AT MOST 1048576: true; the input reads as it did. -/
def fnCursorRankUptoRow : OpenClaim := { program := "yticfkfjijnfcbaadoor", sum := "92b814ab88e14534c65fb3b9058963bccfce54e87e1d42d38b12b3819b0dd166", func := "loop.example/fulltrees/laws.FnCursorRank", spec := "fnCursorRank", inPlace := ["internal/reflectlite.TypeOf"], unfollowed := true, recurses := true, named := ["loop.example/fulltrees/impl.errNowhere", "loop.example/fulltrees/impl.errEnd"], ifaces := true, apart := false, laid := [("loop.example/fulltrees/impl.errNowhere", laid_loop_example_fulltrees_impl_errNowhere), ("loop.example/fulltrees/impl.errEnd", laid_loop_example_fulltrees_impl_errEnd)], narrowed := true }
def FnCursorRankUptoSaid : Prop := fnCursorRankUptoRow.holds Tryd.pinned (OpenSpec.upto fnCursorRankSpec)

/-- 'laws.FnCursorRange', WHERE WHAT IT READS IS OF BULK AT MOST 1048576: true; the input reads as it did. -/
def fnCursorRangeUptoRow : OpenClaim := { program := "yticfkfjijnfcbaadoor", sum := "92b814ab88e14534c65fb3b9058963bccfce54e87e1d42d38b12b3819b0dd166", func := "loop.example/fulltrees/laws.FnCursorRange", spec := "fnCursorRange", inPlace := ["internal/reflectlite.TypeOf"], unfollowed := true, recurses := true, named := ["loop.example/fulltrees/impl.errEnd", "loop.example/fulltrees/impl.errNowhere"], ifaces := true, apart := false, laid := [("loop.example/fulltrees/impl.errNowhere", laid_loop_example_fulltrees_impl_errNowhere), ("loop.example/fulltrees/impl.errEnd", laid_loop_example_fulltrees_impl_errEnd)], narrowed := true }
def FnCursorRangeUptoSaid : Prop := fnCursorRangeUptoRow.holds Tryd.pinned (OpenSpec.upto fnCursorRangeSpec)

end Rows
end Go.Proofs.YticfkfjijnfcbaaDoor
