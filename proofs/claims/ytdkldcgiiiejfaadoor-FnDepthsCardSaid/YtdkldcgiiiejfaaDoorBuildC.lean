/- The model's l1Build, at every depth. -/
import Derived.Test.YtdkldcgiiiejfaaDoorProg
import Derived.Test.YtdkldcgiiiejfaaDoorBase
import Derived.Test.YtdkldcgiiiejfaaDoorBuild
namespace Go.Proofs.YtdkldcgiiiejfaaDoor
open Go.RowKit

theorem build_c (B r : Nat) (bs : List Nat) (wide : Nat) (hw1 : 2 ≤ wide) (hw2 : wide ≤ 6) : ∀ (d : Nat), 1 ≤ d → d ≤ 6 → ∀ (w : World) (p : Nat) (v : Value) (ks : List Int) (root : Bool), Rd w B r bs p → p + 8 ^ d ≤ 900000000 →
    IntsP w (fun k => k ≠ r ∧ k < w.heap.size) v ks → ks.length ≤ 100 →
    Calls Tryd.prog 45 #[.pointer (some ⟨r, 0, none⟩), v, .int .i64 wide, .int .i64 d, .bool root] w (Built w B r bs p ks.length d) := by
  intro d
  induction d with
  | zero => intro h; omega
  | succ d ih =>
    intro h1 h6 w p v ks root hr hp hk hl
    by_cases hd : d = 0
    · subst hd
      exact build_base w B r bs p v ks wide root hr hk hl
    · exact build_step B r bs wide d hw1 hw2 (by omega) (by omega) ((d + 1 : Nat) : Int) (by push_cast; rfl) (fun w p v ks a b c e => ih (by omega) (by omega) w p v ks false a b c e) w p v ks root hr hp hk hl
end Go.Proofs.YtdkldcgiiiejfaaDoor
