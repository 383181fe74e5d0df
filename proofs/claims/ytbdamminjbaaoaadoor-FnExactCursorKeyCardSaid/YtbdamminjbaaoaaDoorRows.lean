/-
  NARROWER THAN 'FOR EVERY INPUT', by the rows' own cells (each row's printed sentence says how): FnExactCursorValid: loops, ifaces, laid · FnExactFirstCursor: loops, ifaces, laid · FnExactLastCursor: loops, ifaces, laid · FnExactSeekCursor: loops, ifaces, laid · FnExactForward: loops, ifaces, laid · FnExactBackward: loops, ifaces, laid · FnExactCursorKey: loops, ifaces, laid · FnExactFormatCursor: laid · FnCursors: ifaces, laid · FnBack: ifaces, laid · FnSeek: ifaces, laid.
  DERIVED. THE GIVEN ROWS OF THIS SEAT. 11 by the template 'for every input the law returns true; each argument reads behind the call as it read before'; 0 by the template 'total and deterministic' (their statements: YtbdamminjbaaoaaDoorTotals.lean).
  GIVEN WITH THE SEED: the statements are not yours to turn. If you find one false, say at which input.
  Laid BY PROGRAM, IN A SANDBOX (cutbox-rows.mjs): the forced cells as the released guide's own fill.sh prints them over the translation 6945e521461cfdb3… (all of the seat's roots in one cut). By AI agents, Wed Nov 11 2026. No macro, syntax, notation, axiom, sorry.
-/
import Derived.Test.YtbdamminjbaaoaaDoorChecked
import GoSem.Claim
import GoSem.ClaimJoined
import GoSem.ClaimMapViews
import Derived.JoinedTies
import Derived.KernelRfl
namespace Go.Proofs.YtbdamminjbaaoaaDoor
/- THE CELL 'sum', in the pinned program and in every row, IS THE sha256 OF THE DUMP (.gsa) THAT YtbdamminjbaaoaaDoorProg.lean LOADS. Nothing in Lean hashes anything: it is a label: what it is worth is what the hold of that sum in a sandbox is worth. -/
noncomputable def Tryd.pinned : Pinned := { name := "ytbdamminjbaaoaadoor", sum := "6945e521461cfdb30370650405469f73868f1a8193256682b7b21d84cc98fe60", checked := Tryd.checked }
namespace Rows
def none {H : Type} : Left H := { results := [], args := [] }

/- WHAT THE LISTED PACKAGE-LEVEL VARIABLES READ AS WHEN THE CALL BEGINS. Each datum BY PROGRAM (the guide's laid-datum.mjs) off the statement by which the dump's own 'gosem.cut.vars' lays the variable. In a bare row this is a premise. The card (YtbdamminjbaaoaaDoorCards.lean) ties it to the program's text. -/
def laid_loop_example_fulltrees_impl_errNowhere {H : Type} : DataW H := .iface "*errors.errorString" (.ptr (.agg [.lit (.string [116, 104, 101, 114, 101, 32, 105, 115, 32, 110, 111, 32, 115, 117, 99, 104, 32, 116, 114, 101, 101, 44, 32, 110, 111, 100, 101, 32, 111, 114, 32, 107, 101, 121])]))
def laid_loop_example_fulltrees_impl_errEnd {H : Type} : DataW H := .iface "*errors.errorString" (.ptr (.agg [.lit (.string [110, 111, 32, 107, 101, 121, 32, 105, 115, 32, 108, 101, 102, 116, 32, 116, 104, 97, 116, 32, 119, 97, 121])]))
def laid_math_bits_deBruijn32tab {H : Type} : DataW H := .agg [.lit (.int .u8 0), .lit (.int .u8 1), .lit (.int .u8 28), .lit (.int .u8 2), .lit (.int .u8 29), .lit (.int .u8 14), .lit (.int .u8 24), .lit (.int .u8 3), .lit (.int .u8 30), .lit (.int .u8 22), .lit (.int .u8 20), .lit (.int .u8 15), .lit (.int .u8 25), .lit (.int .u8 17), .lit (.int .u8 4), .lit (.int .u8 8), .lit (.int .u8 31), .lit (.int .u8 27), .lit (.int .u8 13), .lit (.int .u8 23), .lit (.int .u8 21), .lit (.int .u8 19), .lit (.int .u8 16), .lit (.int .u8 7), .lit (.int .u8 26), .lit (.int .u8 12), .lit (.int .u8 18), .lit (.int .u8 6), .lit (.int .u8 11), .lit (.int .u8 5), .lit (.int .u8 10), .lit (.int .u8 9)]
def laid_math_bits_deBruijn64tab {H : Type} : DataW H := .agg [.lit (.int .u8 0), .lit (.int .u8 1), .lit (.int .u8 56), .lit (.int .u8 2), .lit (.int .u8 57), .lit (.int .u8 49), .lit (.int .u8 28), .lit (.int .u8 3), .lit (.int .u8 61), .lit (.int .u8 58), .lit (.int .u8 42), .lit (.int .u8 50), .lit (.int .u8 38), .lit (.int .u8 29), .lit (.int .u8 17), .lit (.int .u8 4), .lit (.int .u8 62), .lit (.int .u8 47), .lit (.int .u8 59), .lit (.int .u8 36), .lit (.int .u8 45), .lit (.int .u8 43), .lit (.int .u8 51), .lit (.int .u8 22), .lit (.int .u8 53), .lit (.int .u8 39), .lit (.int .u8 33), .lit (.int .u8 30), .lit (.int .u8 24), .lit (.int .u8 18), .lit (.int .u8 12), .lit (.int .u8 5), .lit (.int .u8 63), .lit (.int .u8 55), .lit (.int .u8 48), .lit (.int .u8 27), .lit (.int .u8 60), .lit (.int .u8 41), .lit (.int .u8 37), .lit (.int .u8 16), .lit (.int .u8 46), .lit (.int .u8 35), .lit (.int .u8 44), .lit (.int .u8 21), .lit (.int .u8 52), .lit (.int .u8 32), .lit (.int .u8 23), .lit (.int .u8 11), .lit (.int .u8 54), .lit (.int .u8 26), .lit (.int .u8 40), .lit (.int .u8 15), .lit (.int .u8 34), .lit (.int .u8 20), .lit (.int .u8 31), .lit (.int .u8 10), .lit (.int .u8 25), .lit (.int .u8 14), .lit (.int .u8 19), .lit (.int .u8 9), .lit (.int .u8 13), .lit (.int .u8 8), .lit (.int .u8 7), .lit (.int .u8 6)]
def laid_internal_strconv_uint64pow10 {H : Type} : DataW H := .agg [.lit (.int .u64 1), .lit (.int .u64 10), .lit (.int .u64 100), .lit (.int .u64 1000), .lit (.int .u64 10000), .lit (.int .u64 100000), .lit (.int .u64 1000000), .lit (.int .u64 10000000), .lit (.int .u64 100000000), .lit (.int .u64 1000000000), .lit (.int .u64 10000000000), .lit (.int .u64 100000000000), .lit (.int .u64 1000000000000), .lit (.int .u64 10000000000000), .lit (.int .u64 100000000000000), .lit (.int .u64 1000000000000000), .lit (.int .u64 10000000000000000), .lit (.int .u64 100000000000000000), .lit (.int .u64 1000000000000000000), .lit (.int .u64 10000000000000000000)]

/-- 'laws.FnExactCursorValid': WHATEVER THE INPUT: true; the input reads as it did. -/
def fnExactCursorValidSpec : ChangeSpec := { name := "fnExactCursorValid", vars := ["loop.example/fulltrees/impl.errNowhere"], fn := fun _ => fun
  | [d1, d2, g1] => { results := [.lit (.bool true)], args := [d1, d2], vars := [g1] }
  | _ => none }
def fnExactCursorValidRow : OpenClaim := { program := "ytbdamminjbaaoaadoor", sum := "6945e521461cfdb30370650405469f73868f1a8193256682b7b21d84cc98fe60", func := "loop.example/fulltrees/laws.FnExactCursorValid", spec := "fnExactCursorValid", inPlace := ["internal/reflectlite.TypeOf"], unfollowed := true, recurses := true, named := ["loop.example/fulltrees/impl.errNowhere"], ifaces := true, loops := true, apart := false, laid := [("loop.example/fulltrees/impl.errNowhere", laid_loop_example_fulltrees_impl_errNowhere)] }
def FnExactCursorValidSaid : Prop := fnExactCursorValidRow.holds Tryd.pinned (OpenSpec.ofChange fnExactCursorValidSpec)

/-- ITS FALSE NEIGHBOUR: 'it returns false'. Refute it at one input. -/
def fnExactCursorValidWrong : ChangeSpec := { name := "fnExactCursorValid", vars := ["loop.example/fulltrees/impl.errNowhere"], fn := fun _ => fun
  | [d1, d2, g1] => { results := [.lit (.bool false)], args := [d1, d2], vars := [g1] }
  | _ => none }
def FnExactCursorValidWrongFalsely : Prop := fnExactCursorValidRow.holds Tryd.pinned (OpenSpec.ofChange fnExactCursorValidWrong)

/-- 'laws.FnExactFirstCursor': WHATEVER THE INPUT: true; the input reads as it did. -/
def fnExactFirstCursorSpec : ChangeSpec := { name := "fnExactFirstCursor", vars := ["loop.example/fulltrees/impl.errEnd", "loop.example/fulltrees/impl.errNowhere"], fn := fun _ => fun
  | [d, g1, g2] => { results := [.lit (.bool true)], args := [d], vars := [g1, g2] }
  | _ => none }
def fnExactFirstCursorRow : OpenClaim := { program := "ytbdamminjbaaoaadoor", sum := "6945e521461cfdb30370650405469f73868f1a8193256682b7b21d84cc98fe60", func := "loop.example/fulltrees/laws.FnExactFirstCursor", spec := "fnExactFirstCursor", inPlace := ["internal/reflectlite.TypeOf"], unfollowed := true, recurses := true, named := ["loop.example/fulltrees/impl.errEnd", "loop.example/fulltrees/impl.errNowhere"], ifaces := true, loops := true, apart := false, laid := [("loop.example/fulltrees/impl.errNowhere", laid_loop_example_fulltrees_impl_errNowhere), ("loop.example/fulltrees/impl.errEnd", laid_loop_example_fulltrees_impl_errEnd)] }
def FnExactFirstCursorSaid : Prop := fnExactFirstCursorRow.holds Tryd.pinned (OpenSpec.ofChange fnExactFirstCursorSpec)

/-- ITS FALSE NEIGHBOUR: 'it returns false'. Refute it at one input. -/
def fnExactFirstCursorWrong : ChangeSpec := { name := "fnExactFirstCursor", vars := ["loop.example/fulltrees/impl.errEnd", "loop.example/fulltrees/impl.errNowhere"], fn := fun _ => fun
  | [d, g1, g2] => { results := [.lit (.bool false)], args := [d], vars := [g1, g2] }
  | _ => none }
def FnExactFirstCursorWrongFalsely : Prop := fnExactFirstCursorRow.holds Tryd.pinned (OpenSpec.ofChange fnExactFirstCursorWrong)

/-- 'laws.FnExactLastCursor': WHATEVER THE INPUT: true; the input reads as it did. -/
def fnExactLastCursorSpec : ChangeSpec := { name := "fnExactLastCursor", vars := ["loop.example/fulltrees/impl.errNowhere", "loop.example/fulltrees/impl.errEnd"], fn := fun _ => fun
  | [d, g1, g2] => { results := [.lit (.bool true)], args := [d], vars := [g1, g2] }
  | _ => none }
def fnExactLastCursorRow : OpenClaim := { program := "ytbdamminjbaaoaadoor", sum := "6945e521461cfdb30370650405469f73868f1a8193256682b7b21d84cc98fe60", func := "loop.example/fulltrees/laws.FnExactLastCursor", spec := "fnExactLastCursor", inPlace := ["internal/reflectlite.TypeOf"], unfollowed := true, recurses := true, named := ["loop.example/fulltrees/impl.errNowhere", "loop.example/fulltrees/impl.errEnd"], ifaces := true, loops := true, apart := false, laid := [("loop.example/fulltrees/impl.errNowhere", laid_loop_example_fulltrees_impl_errNowhere), ("loop.example/fulltrees/impl.errEnd", laid_loop_example_fulltrees_impl_errEnd)] }
def FnExactLastCursorSaid : Prop := fnExactLastCursorRow.holds Tryd.pinned (OpenSpec.ofChange fnExactLastCursorSpec)

/-- ITS FALSE NEIGHBOUR: 'it returns false'. Refute it at one input. -/
def fnExactLastCursorWrong : ChangeSpec := { name := "fnExactLastCursor", vars := ["loop.example/fulltrees/impl.errNowhere", "loop.example/fulltrees/impl.errEnd"], fn := fun _ => fun
  | [d, g1, g2] => { results := [.lit (.bool false)], args := [d], vars := [g1, g2] }
  | _ => none }
def FnExactLastCursorWrongFalsely : Prop := fnExactLastCursorRow.holds Tryd.pinned (OpenSpec.ofChange fnExactLastCursorWrong)

/-- 'laws.FnExactSeekCursor': WHATEVER THE INPUT: true; the input reads as it did. -/
def fnExactSeekCursorSpec : ChangeSpec := { name := "fnExactSeekCursor", vars := ["loop.example/fulltrees/impl.errEnd", "loop.example/fulltrees/impl.errNowhere"], fn := fun _ => fun
  | [d1, d2, g1, g2] => { results := [.lit (.bool true)], args := [d1, d2], vars := [g1, g2] }
  | _ => none }
def fnExactSeekCursorRow : OpenClaim := { program := "ytbdamminjbaaoaadoor", sum := "6945e521461cfdb30370650405469f73868f1a8193256682b7b21d84cc98fe60", func := "loop.example/fulltrees/laws.FnExactSeekCursor", spec := "fnExactSeekCursor", inPlace := ["internal/reflectlite.TypeOf"], unfollowed := true, recurses := true, named := ["loop.example/fulltrees/impl.errEnd", "loop.example/fulltrees/impl.errNowhere"], ifaces := true, loops := true, apart := false, laid := [("loop.example/fulltrees/impl.errNowhere", laid_loop_example_fulltrees_impl_errNowhere), ("loop.example/fulltrees/impl.errEnd", laid_loop_example_fulltrees_impl_errEnd)] }
def FnExactSeekCursorSaid : Prop := fnExactSeekCursorRow.holds Tryd.pinned (OpenSpec.ofChange fnExactSeekCursorSpec)

/-- ITS FALSE NEIGHBOUR: 'it returns false'. Refute it at one input. -/
def fnExactSeekCursorWrong : ChangeSpec := { name := "fnExactSeekCursor", vars := ["loop.example/fulltrees/impl.errEnd", "loop.example/fulltrees/impl.errNowhere"], fn := fun _ => fun
  | [d1, d2, g1, g2] => { results := [.lit (.bool false)], args := [d1, d2], vars := [g1, g2] }
  | _ => none }
def FnExactSeekCursorWrongFalsely : Prop := fnExactSeekCursorRow.holds Tryd.pinned (OpenSpec.ofChange fnExactSeekCursorWrong)

/-- 'laws.FnExactForward': WHATEVER THE INPUT: true; the input reads as it did. -/
def fnExactForwardSpec : ChangeSpec := { name := "fnExactForward", vars := ["loop.example/fulltrees/impl.errNowhere", "loop.example/fulltrees/impl.errEnd"], fn := fun _ => fun
  | [d1, d2, g1, g2] => { results := [.lit (.bool true)], args := [d1, d2], vars := [g1, g2] }
  | _ => none }
def fnExactForwardRow : OpenClaim := { program := "ytbdamminjbaaoaadoor", sum := "6945e521461cfdb30370650405469f73868f1a8193256682b7b21d84cc98fe60", func := "loop.example/fulltrees/laws.FnExactForward", spec := "fnExactForward", inPlace := ["internal/reflectlite.TypeOf"], unfollowed := true, recurses := true, named := ["loop.example/fulltrees/impl.errNowhere", "loop.example/fulltrees/impl.errEnd"], ifaces := true, loops := true, apart := false, laid := [("loop.example/fulltrees/impl.errNowhere", laid_loop_example_fulltrees_impl_errNowhere), ("loop.example/fulltrees/impl.errEnd", laid_loop_example_fulltrees_impl_errEnd)] }
def FnExactForwardSaid : Prop := fnExactForwardRow.holds Tryd.pinned (OpenSpec.ofChange fnExactForwardSpec)

/-- ITS FALSE NEIGHBOUR: 'it returns false'. Refute it at one input. -/
def fnExactForwardWrong : ChangeSpec := { name := "fnExactForward", vars := ["loop.example/fulltrees/impl.errNowhere", "loop.example/fulltrees/impl.errEnd"], fn := fun _ => fun
  | [d1, d2, g1, g2] => { results := [.lit (.bool false)], args := [d1, d2], vars := [g1, g2] }
  | _ => none }
def FnExactForwardWrongFalsely : Prop := fnExactForwardRow.holds Tryd.pinned (OpenSpec.ofChange fnExactForwardWrong)

/-- 'laws.FnExactBackward': WHATEVER THE INPUT: true; the input reads as it did. -/
def fnExactBackwardSpec : ChangeSpec := { name := "fnExactBackward", vars := ["loop.example/fulltrees/impl.errNowhere", "loop.example/fulltrees/impl.errEnd"], fn := fun _ => fun
  | [d1, d2, g1, g2] => { results := [.lit (.bool true)], args := [d1, d2], vars := [g1, g2] }
  | _ => none }
def fnExactBackwardRow : OpenClaim := { program := "ytbdamminjbaaoaadoor", sum := "6945e521461cfdb30370650405469f73868f1a8193256682b7b21d84cc98fe60", func := "loop.example/fulltrees/laws.FnExactBackward", spec := "fnExactBackward", inPlace := ["internal/reflectlite.TypeOf"], unfollowed := true, recurses := true, named := ["loop.example/fulltrees/impl.errNowhere", "loop.example/fulltrees/impl.errEnd"], ifaces := true, loops := true, apart := false, laid := [("loop.example/fulltrees/impl.errNowhere", laid_loop_example_fulltrees_impl_errNowhere), ("loop.example/fulltrees/impl.errEnd", laid_loop_example_fulltrees_impl_errEnd)] }
def FnExactBackwardSaid : Prop := fnExactBackwardRow.holds Tryd.pinned (OpenSpec.ofChange fnExactBackwardSpec)

/-- ITS FALSE NEIGHBOUR: 'it returns false'. Refute it at one input. -/
def fnExactBackwardWrong : ChangeSpec := { name := "fnExactBackward", vars := ["loop.example/fulltrees/impl.errNowhere", "loop.example/fulltrees/impl.errEnd"], fn := fun _ => fun
  | [d1, d2, g1, g2] => { results := [.lit (.bool false)], args := [d1, d2], vars := [g1, g2] }
  | _ => none }
def FnExactBackwardWrongFalsely : Prop := fnExactBackwardRow.holds Tryd.pinned (OpenSpec.ofChange fnExactBackwardWrong)

/-- 'laws.FnExactCursorKey': WHATEVER THE INPUT: true; the input reads as it did. -/
def fnExactCursorKeySpec : ChangeSpec := { name := "fnExactCursorKey", vars := ["loop.example/fulltrees/impl.errNowhere"], fn := fun _ => fun
  | [d1, d2, g1] => { results := [.lit (.bool true)], args := [d1, d2], vars := [g1] }
  | _ => none }
def fnExactCursorKeyRow : OpenClaim := { program := "ytbdamminjbaaoaadoor", sum := "6945e521461cfdb30370650405469f73868f1a8193256682b7b21d84cc98fe60", func := "loop.example/fulltrees/laws.FnExactCursorKey", spec := "fnExactCursorKey", inPlace := ["internal/reflectlite.TypeOf"], unfollowed := true, recurses := true, named := ["loop.example/fulltrees/impl.errNowhere"], ifaces := true, loops := true, apart := false, laid := [("loop.example/fulltrees/impl.errNowhere", laid_loop_example_fulltrees_impl_errNowhere)] }
def FnExactCursorKeySaid : Prop := fnExactCursorKeyRow.holds Tryd.pinned (OpenSpec.ofChange fnExactCursorKeySpec)

/-- ITS FALSE NEIGHBOUR: 'it returns false'. Refute it at one input. -/
def fnExactCursorKeyWrong : ChangeSpec := { name := "fnExactCursorKey", vars := ["loop.example/fulltrees/impl.errNowhere"], fn := fun _ => fun
  | [d1, d2, g1] => { results := [.lit (.bool false)], args := [d1, d2], vars := [g1] }
  | _ => none }
def FnExactCursorKeyWrongFalsely : Prop := fnExactCursorKeyRow.holds Tryd.pinned (OpenSpec.ofChange fnExactCursorKeyWrong)

/-- 'laws.FnExactFormatCursor': WHATEVER THE INPUT: true; the input reads as it did. -/
def fnExactFormatCursorSpec : ChangeSpec := { name := "fnExactFormatCursor", fn := fun _ => fun
  | [d] => { results := [.lit (.bool true)], args := [d] }
  | _ => none }
def fnExactFormatCursorRow : OpenClaim := { program := "ytbdamminjbaaoaadoor", sum := "6945e521461cfdb30370650405469f73868f1a8193256682b7b21d84cc98fe60", func := "loop.example/fulltrees/laws.FnExactFormatCursor", spec := "fnExactFormatCursor", recurses := true, named := ["internal/strconv.uint64pow10", "math/bits.deBruijn32tab", "math/bits.deBruijn64tab"], apart := false, laid := [("math/bits.deBruijn32tab", laid_math_bits_deBruijn32tab), ("math/bits.deBruijn64tab", laid_math_bits_deBruijn64tab), ("internal/strconv.uint64pow10", laid_internal_strconv_uint64pow10)] }
def FnExactFormatCursorSaid : Prop := fnExactFormatCursorRow.holds Tryd.pinned (OpenSpec.ofChange fnExactFormatCursorSpec)

/-- ITS FALSE NEIGHBOUR: 'it returns false'. Refute it at one input. -/
def fnExactFormatCursorWrong : ChangeSpec := { name := "fnExactFormatCursor", fn := fun _ => fun
  | [d] => { results := [.lit (.bool false)], args := [d] }
  | _ => none }
def FnExactFormatCursorWrongFalsely : Prop := fnExactFormatCursorRow.holds Tryd.pinned (OpenSpec.ofChange fnExactFormatCursorWrong)

/-- 'laws.FnCursors': WHATEVER THE INPUT: true; the input reads as it did. -/
def fnCursorsSpec : ChangeSpec := { name := "fnCursors", vars := ["loop.example/fulltrees/impl.errEnd", "loop.example/fulltrees/impl.errNowhere"], fn := fun _ => fun
  | [d, g1, g2] => { results := [.lit (.bool true)], args := [d], vars := [g1, g2] }
  | _ => none }
def fnCursorsRow : OpenClaim := { program := "ytbdamminjbaaoaadoor", sum := "6945e521461cfdb30370650405469f73868f1a8193256682b7b21d84cc98fe60", func := "loop.example/fulltrees/laws.FnCursors", spec := "fnCursors", inPlace := ["internal/reflectlite.TypeOf"], unfollowed := true, recurses := true, named := ["loop.example/fulltrees/impl.errEnd", "loop.example/fulltrees/impl.errNowhere"], ifaces := true, apart := false, laid := [("loop.example/fulltrees/impl.errNowhere", laid_loop_example_fulltrees_impl_errNowhere), ("loop.example/fulltrees/impl.errEnd", laid_loop_example_fulltrees_impl_errEnd)] }
def FnCursorsSaid : Prop := fnCursorsRow.holds Tryd.pinned (OpenSpec.ofChange fnCursorsSpec)

/-- ITS FALSE NEIGHBOUR: 'it returns false'. Refute it at one input. -/
def fnCursorsWrong : ChangeSpec := { name := "fnCursors", vars := ["loop.example/fulltrees/impl.errEnd", "loop.example/fulltrees/impl.errNowhere"], fn := fun _ => fun
  | [d, g1, g2] => { results := [.lit (.bool false)], args := [d], vars := [g1, g2] }
  | _ => none }
def FnCursorsWrongFalsely : Prop := fnCursorsRow.holds Tryd.pinned (OpenSpec.ofChange fnCursorsWrong)

/-- 'laws.FnBack': WHATEVER THE INPUT: true; the input reads as it did. -/
def fnBackSpec : ChangeSpec := { name := "fnBack", vars := ["loop.example/fulltrees/impl.errNowhere", "loop.example/fulltrees/impl.errEnd"], fn := fun _ => fun
  | [d1, d2, g1, g2] => { results := [.lit (.bool true)], args := [d1, d2], vars := [g1, g2] }
  | _ => none }
def fnBackRow : OpenClaim := { program := "ytbdamminjbaaoaadoor", sum := "6945e521461cfdb30370650405469f73868f1a8193256682b7b21d84cc98fe60", func := "loop.example/fulltrees/laws.FnBack", spec := "fnBack", inPlace := ["internal/reflectlite.TypeOf"], unfollowed := true, recurses := true, named := ["loop.example/fulltrees/impl.errNowhere", "loop.example/fulltrees/impl.errEnd"], ifaces := true, apart := false, laid := [("loop.example/fulltrees/impl.errNowhere", laid_loop_example_fulltrees_impl_errNowhere), ("loop.example/fulltrees/impl.errEnd", laid_loop_example_fulltrees_impl_errEnd)] }
def FnBackSaid : Prop := fnBackRow.holds Tryd.pinned (OpenSpec.ofChange fnBackSpec)

/-- ITS FALSE NEIGHBOUR: 'it returns false'. Refute it at one input. -/
def fnBackWrong : ChangeSpec := { name := "fnBack", vars := ["loop.example/fulltrees/impl.errNowhere", "loop.example/fulltrees/impl.errEnd"], fn := fun _ => fun
  | [d1, d2, g1, g2] => { results := [.lit (.bool false)], args := [d1, d2], vars := [g1, g2] }
  | _ => none }
def FnBackWrongFalsely : Prop := fnBackRow.holds Tryd.pinned (OpenSpec.ofChange fnBackWrong)

/-- 'laws.FnSeek': WHATEVER THE INPUT: true; the input reads as it did. -/
def fnSeekSpec : ChangeSpec := { name := "fnSeek", vars := ["loop.example/fulltrees/impl.errEnd", "loop.example/fulltrees/impl.errNowhere"], fn := fun _ => fun
  | [d, g1, g2] => { results := [.lit (.bool true)], args := [d], vars := [g1, g2] }
  | _ => none }
def fnSeekRow : OpenClaim := { program := "ytbdamminjbaaoaadoor", sum := "6945e521461cfdb30370650405469f73868f1a8193256682b7b21d84cc98fe60", func := "loop.example/fulltrees/laws.FnSeek", spec := "fnSeek", inPlace := ["internal/reflectlite.TypeOf"], unfollowed := true, recurses := true, named := ["loop.example/fulltrees/impl.errEnd", "loop.example/fulltrees/impl.errNowhere"], ifaces := true, apart := false, laid := [("loop.example/fulltrees/impl.errNowhere", laid_loop_example_fulltrees_impl_errNowhere), ("loop.example/fulltrees/impl.errEnd", laid_loop_example_fulltrees_impl_errEnd)] }
def FnSeekSaid : Prop := fnSeekRow.holds Tryd.pinned (OpenSpec.ofChange fnSeekSpec)

/-- ITS FALSE NEIGHBOUR: 'it returns false'. Refute it at one input. -/
def fnSeekWrong : ChangeSpec := { name := "fnSeek", vars := ["loop.example/fulltrees/impl.errEnd", "loop.example/fulltrees/impl.errNowhere"], fn := fun _ => fun
  | [d, g1, g2] => { results := [.lit (.bool false)], args := [d], vars := [g1, g2] }
  | _ => none }
def FnSeekWrongFalsely : Prop := fnSeekRow.holds Tryd.pinned (OpenSpec.ofChange fnSeekWrong)

/- THE SECOND FORM. 'bulk': how many values and letters a reading holds, each counted each time it is reached (what is shared counts as often as it is met; a slice's spare places count too). A statement '..UptoSaid' is the law's where the arguments, and the package variables that the reading takes, are together of bulk at most 1048576: NARROWER than '..Said'. Prove '..Said' where nothing that the law and all that it calls make is longer than what came in: it says more and counts as full. Else prove '..UptoSaid'. A law counts once. -/
mutual
def uptoBulk {H : Type} : DataW H → Nat
  | .lit (.string bytes) => bytes.length + 1
  | .lit _ => 1
  | .nil => 1
  | .ptr d => uptoBulk d + 1
  | .slice elems spare => uptoBulkAll elems + uptoBulkAll spare + 1
  | .agg parts => uptoBulkAll parts + 1
  | .iface _ d => uptoBulk d + 1
  | .map entries => uptoBulkEntries entries + 1
  | .held _ => 1
def uptoBulkAll {H : Type} : List (DataW H) → Nat
  | [] => 0
  | d :: r => uptoBulk d + uptoBulkAll r
def uptoBulkEntries {H : Type} : List (Lit × DataW H) → Nat
  | [] => 0
  | x :: r => uptoBulkEntry x + uptoBulkEntries r
def uptoBulkEntry {H : Type} : Lit × DataW H → Nat
  | (.string bytes, d) => bytes.length + uptoBulk d + 1
  | (_, d) => uptoBulk d + 1
 end
def uptoSmall : (H : Type) → List (DataW H) → Bool := fun _ ds => decide (uptoBulkAll ds ≤ 1048576)
def OpenSpec.upto (s : _root_.Go.ChangeSpec) : _root_.Go.OpenSpec := { _root_.Go.OpenSpec.ofChange s with cond := some uptoSmall }

/-- 'laws.FnExactCursorValid', WHERE WHAT IT READS IS OF BULK AT MOST 1048576: true; the input reads as it did. -/
def fnExactCursorValidUptoRow : OpenClaim := { program := "ytbdamminjbaaoaadoor", sum := "6945e521461cfdb30370650405469f73868f1a8193256682b7b21d84cc98fe60", func := "loop.example/fulltrees/laws.FnExactCursorValid", spec := "fnExactCursorValid", inPlace := ["internal/reflectlite.TypeOf"], unfollowed := true, recurses := true, named := ["loop.example/fulltrees/impl.errNowhere"], ifaces := true, loops := true, apart := false, laid := [("loop.example/fulltrees/impl.errNowhere", laid_loop_example_fulltrees_impl_errNowhere)], narrowed := true }
def FnExactCursorValidUptoSaid : Prop := fnExactCursorValidUptoRow.holds Tryd.pinned (OpenSpec.upto fnExactCursorValidSpec)

/-- 'laws.FnExactFirstCursor', WHERE WHAT IT READS IS OF BULK AT MOST 1048576: true; the input reads as it did. -/
def fnExactFirstCursorUptoRow : OpenClaim := { program := "ytbdamminjbaaoaadoor", sum := "6945e521461cfdb30370650405469f73868f1a8193256682b7b21d84cc98fe60", func := "loop.example/fulltrees/laws.FnExactFirstCursor", spec := "fnExactFirstCursor", inPlace := ["internal/reflectlite.TypeOf"], unfollowed := true, recurses := true, named := ["loop.example/fulltrees/impl.errEnd", "loop.example/fulltrees/impl.errNowhere"], ifaces := true, loops := true, apart := false, laid := [("loop.example/fulltrees/impl.errNowhere", laid_loop_example_fulltrees_impl_errNowhere), ("loop.example/fulltrees/impl.errEnd", laid_loop_example_fulltrees_impl_errEnd)], narrowed := true }
def FnExactFirstCursorUptoSaid : Prop := fnExactFirstCursorUptoRow.holds Tryd.pinned (OpenSpec.upto fnExactFirstCursorSpec)

/-- 'laws.FnExactLastCursor', WHERE WHAT IT READS IS OF BULK AT MOST 1048576: true; the input reads as it did. -/
def fnExactLastCursorUptoRow : OpenClaim := { program := "ytbdamminjbaaoaadoor", sum := "6945e521461cfdb30370650405469f73868f1a8193256682b7b21d84cc98fe60", func := "loop.example/fulltrees/laws.FnExactLastCursor", spec := "fnExactLastCursor", inPlace := ["internal/reflectlite.TypeOf"], unfollowed := true, recurses := true, named := ["loop.example/fulltrees/impl.errNowhere", "loop.example/fulltrees/impl.errEnd"], ifaces := true, loops := true, apart := false, laid := [("loop.example/fulltrees/impl.errNowhere", laid_loop_example_fulltrees_impl_errNowhere), ("loop.example/fulltrees/impl.errEnd", laid_loop_example_fulltrees_impl_errEnd)], narrowed := true }
def FnExactLastCursorUptoSaid : Prop := fnExactLastCursorUptoRow.holds Tryd.pinned (OpenSpec.upto fnExactLastCursorSpec)

/-- 'laws.FnExactSeekCursor', WHERE WHAT IT READS IS OF BULK AT MOST 1048576: true; the input reads as it did. -/
def fnExactSeekCursorUptoRow : OpenClaim := { program := "ytbdamminjbaaoaadoor", sum := "6945e521461cfdb30370650405469f73868f1a8193256682b7b21d84cc98fe60", func := "loop.example/fulltrees/laws.FnExactSeekCursor", spec := "fnExactSeekCursor", inPlace := ["internal/reflectlite.TypeOf"], unfollowed := true, recurses := true, named := ["loop.example/fulltrees/impl.errEnd", "loop.example/fulltrees/impl.errNowhere"], ifaces := true, loops := true, apart := false, laid := [("loop.example/fulltrees/impl.errNowhere", laid_loop_example_fulltrees_impl_errNowhere), ("loop.example/fulltrees/impl.errEnd", laid_loop_example_fulltrees_impl_errEnd)], narrowed := true }
def FnExactSeekCursorUptoSaid : Prop := fnExactSeekCursorUptoRow.holds Tryd.pinned (OpenSpec.upto fnExactSeekCursorSpec)

/-- 'laws.FnExactForward', WHERE WHAT IT READS IS OF BULK AT MOST 1048576: true; the input reads as it did. -/
def fnExactForwardUptoRow : OpenClaim := { program := "ytbdamminjbaaoaadoor", sum := "6945e521461cfdb30370650405469f73868f1a8193256682b7b21d84cc98fe60", func := "loop.example/fulltrees/laws.FnExactForward", spec := "fnExactForward", inPlace := ["internal/reflectlite.TypeOf"], unfollowed := true, recurses := true, named := ["loop.example/fulltrees/impl.errNowhere", "loop.example/fulltrees/impl.errEnd"], ifaces := true, loops := true, apart := false, laid := [("loop.example/fulltrees/impl.errNowhere", laid_loop_example_fulltrees_impl_errNowhere), ("loop.example/fulltrees/impl.errEnd", laid_loop_example_fulltrees_impl_errEnd)], narrowed := true }
def FnExactForwardUptoSaid : Prop := fnExactForwardUptoRow.holds Tryd.pinned (OpenSpec.upto fnExactForwardSpec)

/-- 'laws.FnExactBackward', WHERE WHAT IT READS IS OF BULK AT MOST 1048576: true; the input reads as it did. -/
def fnExactBackwardUptoRow : OpenClaim := { program := "ytbdamminjbaaoaadoor", sum := "6945e521461cfdb30370650405469f73868f1a8193256682b7b21d84cc98fe60", func := "loop.example/fulltrees/laws.FnExactBackward", spec := "fnExactBackward", inPlace := ["internal/reflectlite.TypeOf"], unfollowed := true, recurses := true, named := ["loop.example/fulltrees/impl.errNowhere", "loop.example/fulltrees/impl.errEnd"], ifaces := true, loops := true, apart := false, laid := [("loop.example/fulltrees/impl.errNowhere", laid_loop_example_fulltrees_impl_errNowhere), ("loop.example/fulltrees/impl.errEnd", laid_loop_example_fulltrees_impl_errEnd)], narrowed := true }
def FnExactBackwardUptoSaid : Prop := fnExactBackwardUptoRow.holds Tryd.pinned (OpenSpec.upto fnExactBackwardSpec)

/-- 'laws.FnExactCursorKey', WHERE WHAT IT READS IS OF BULK AT MOST 1048576: true; the input reads as it did. -/
def fnExactCursorKeyUptoRow : OpenClaim := { program := "ytbdamminjbaaoaadoor", sum := "6945e521461cfdb30370650405469f73868f1a8193256682b7b21d84cc98fe60", func := "loop.example/fulltrees/laws.FnExactCursorKey", spec := "fnExactCursorKey", inPlace := ["internal/reflectlite.TypeOf"], unfollowed := true, recurses := true, named := ["loop.example/fulltrees/impl.errNowhere"], ifaces := true, loops := true, apart := false, laid := [("loop.example/fulltrees/impl.errNowhere", laid_loop_example_fulltrees_impl_errNowhere)], narrowed := true }
def FnExactCursorKeyUptoSaid : Prop := fnExactCursorKeyUptoRow.holds Tryd.pinned (OpenSpec.upto fnExactCursorKeySpec)

/-- 'laws.FnExactFormatCursor', WHERE WHAT IT READS IS OF BULK AT MOST 1048576: true; the input reads as it did. -/
def fnExactFormatCursorUptoRow : OpenClaim := { program := "ytbdamminjbaaoaadoor", sum := "6945e521461cfdb30370650405469f73868f1a8193256682b7b21d84cc98fe60", func := "loop.example/fulltrees/laws.FnExactFormatCursor", spec := "fnExactFormatCursor", recurses := true, named := ["internal/strconv.uint64pow10", "math/bits.deBruijn32tab", "math/bits.deBruijn64tab"], apart := false, laid := [("math/bits.deBruijn32tab", laid_math_bits_deBruijn32tab), ("math/bits.deBruijn64tab", laid_math_bits_deBruijn64tab), ("internal/strconv.uint64pow10", laid_internal_strconv_uint64pow10)], narrowed := true }
def FnExactFormatCursorUptoSaid : Prop := fnExactFormatCursorUptoRow.holds Tryd.pinned (OpenSpec.upto fnExactFormatCursorSpec)

/-- 'laws.FnCursors', WHERE WHAT IT READS IS OF BULK AT MOST 1048576: true; the input reads as it did. -/
def fnCursorsUptoRow : OpenClaim := { program := "ytbdamminjbaaoaadoor", sum := "6945e521461cfdb30370650405469f73868f1a8193256682b7b21d84cc98fe60", func := "loop.example/fulltrees/laws.FnCursors", spec := "fnCursors", inPlace := ["internal/reflectlite.TypeOf"], unfollowed := true, recurses := true, named := ["loop.example/fulltrees/impl.errEnd", "loop.example/fulltrees/impl.errNowhere"], ifaces := true, apart := false, laid := [("loop.example/fulltrees/impl.errNowhere", laid_loop_example_fulltrees_impl_errNowhere), ("loop.example/fulltrees/impl.errEnd", laid_loop_example_fulltrees_impl_errEnd)], narrowed := true }
def FnCursorsUptoSaid : Prop := fnCursorsUptoRow.holds Tryd.pinned (OpenSpec.upto fnCursorsSpec)

/-- 'laws.FnBack', WHERE WHAT IT READS IS OF BULK AT MOST 1048576: true; the input reads as it did. -/
def fnBackUptoRow : OpenClaim := { program := "ytbdamminjbaaoaadoor", sum := "6945e521461cfdb30370650405469f73868f1a8193256682b7b21d84cc98fe60", func := "loop.example/fulltrees/laws.FnBack", spec := "fnBack", inPlace := ["internal/reflectlite.TypeOf"], unfollowed := true, recurses := true, named := ["loop.example/fulltrees/impl.errNowhere", "loop.example/fulltrees/impl.errEnd"], ifaces := true, apart := false, laid := [("loop.example/fulltrees/impl.errNowhere", laid_loop_example_fulltrees_impl_errNowhere), ("loop.example/fulltrees/impl.errEnd", laid_loop_example_fulltrees_impl_errEnd)], narrowed := true }
def FnBackUptoSaid : Prop := fnBackUptoRow.holds Tryd.pinned (OpenSpec.upto fnBackSpec)

/-- 'laws.FnSeek', WHERE WHAT IT READS IS OF BULK AT MOST 1048576: true; the input reads as it did. -/
def fnSeekUptoRow : OpenClaim := { program := "ytbdamminjbaaoaadoor", sum := "6945e521461cfdb30370650405469f73868f1a8193256682b7b21d84cc98fe60", func := "loop.example/fulltrees/laws.FnSeek", spec := "fnSeek", inPlace := ["internal/reflectlite.TypeOf"], unfollowed := true, recurses := true, named := ["loop.example/fulltrees/impl.errEnd", "loop.example/fulltrees/impl.errNowhere"], ifaces := true, apart := false, laid := [("loop.example/fulltrees/impl.errNowhere", laid_loop_example_fulltrees_impl_errNowhere), ("loop.example/fulltrees/impl.errEnd", laid_loop_example_fulltrees_impl_errEnd)], narrowed := true }
def FnSeekUptoSaid : Prop := fnSeekUptoRow.holds Tryd.pinned (OpenSpec.upto fnSeekSpec)

end Rows
end Go.Proofs.YtbdamminjbaaoaaDoor
