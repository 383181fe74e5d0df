/- The contracts of the functions that compare: eqIntS, eqTreeS, eqTree: at two readings of one datum they answer true. -/
import Derived.Test.YtdkldcgiiiejfaaDoorProg
import Derived.Test.YtdkldcgiiiejfaaDoorBase
import Derived.Deep.QuietTactic
import Derived.BigQuiet
import Derived.StillTailTactics
import Derived.WalkSmall

/- The contracts of the functions that weigh an argument: szIntS, szTreeS, szTree. -/
namespace Go.Proofs.YtdkldcgiiiejfaaDoor
open Go.RowKit

/-- What szTree and its kin return. -/
def leftOf (n : Int) (m : Nat) : Int := if n < m then -1 else n - m
theorem leftOf_lt {n : Int} {m : Nat} (h : n < m) : leftOf n m = -1 := if_pos h
theorem leftOf_ge {n : Int} {m : Nat} (h : m ≤ n) : leftOf n m = n - m := if_neg (by omega)




end Go.Proofs.YtdkldcgiiiejfaaDoor

/- The contracts of the functions that compare: eqIntS, eqTreeS, eqTree: at two readings of one datum they answer true. -/
namespace Go.Proofs.YtdkldcgiiiejfaaDoor
open Go.RowKit




end Go.Proofs.YtdkldcgiiiejfaaDoor
