/- The contracts of the functions that weigh an argument: szIntS, szTreeS, szTree. -/
import Derived.Test.YtlogjmjoegnkbaaDoorProg
import Derived.Test.YtlogjmjoegnkbaaDoorFcS1
namespace Go.Proofs.YtlogjmjoegnkbaaDoor
open Go.RowKit

/-- What szTree and its kin return. -/
def leftOf (n : Int) (m : Nat) : Int := if n < m then -1 else n - m
theorem leftOf_lt {n : Int} {m : Nat} (h : n < m) : leftOf n m = -1 := if_pos h
theorem leftOf_ge {n : Int} {m : Nat} (h : m ≤ n) : leftOf n m = n - m := if_neg (by omega)

theorem szIntS_c (a : Option Addr) (len cap : Nat) (n : Int) (w : World) (h0 : 0 ≤ n) (h1 : n ≤ 1048576) (h2 : len ≤ 9223372036854775807) :
    Calls Tryd.prog 9 #[.slice a len cap, .int .i64 n] w fun e w' => e = .returned (.int .i64 (leftOf n len)) ∧ w = w' := by
  go_enter Tryd.func9, Tryd.ntmps9
  go_wp2
  · go_ret
    exact ⟨ret_int (leftOf_lt (by omega)).symm, rfl⟩
  · go_ret
    exact ⟨ret_int (leftOf_ge (by omega)).symm, rfl⟩



end Go.Proofs.YtlogjmjoegnkbaaDoor
