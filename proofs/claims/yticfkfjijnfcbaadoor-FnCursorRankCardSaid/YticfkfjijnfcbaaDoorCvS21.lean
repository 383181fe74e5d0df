/- A walker goes up again: toBehind, toAhead. -/
import Derived.Test.YticfkfjijnfcbaaDoorCvS20
namespace Go.Proofs.YticfkfjijnfcbaaDoor
open Go.RowKit
def StandsAt (w : World) (b : Nat) (P : List Int) (a : Int) : Prop :=
 ∃ f, Walker w b f (P.length + 1) ∧ (∀ i, i < P.length → (f i).2 = P.getD i 0 ∧ ∃ p : Addr, (f i).1 = .pointer (some p)) ∧ (f P.length).2 = a
def Moved (w : World) (b : Nat) (V : Value) (r : List Int × Int × Bool) (e : Ending) (w' : World) : Prop :=
 ((r.2.2 = true ∧ e = .returned .nilIface ∧ StandsAt w' b r.1 r.2.1) ∨ (r = ([], 0, false) ∧ e = .returned V)) ∧ Only w.heap.size b w w'
theorem climb_here {P : Nat → Bool} {n D : Nat} (h : D + 1 ≤ n) (hno : ∀ i, D + 1 ≤ i → i < n → P i = false) (hp : P D = true) : Tr.climb P n = D + 1 := by
 rw [Tr.climb_skip (D + 1) n h hno, Tr.climb, if_pos hp]
theorem climb_none {P : Nat → Bool} {n : Nat} (hno : ∀ i, 0 ≤ i → i < n → P i = false) : Tr.climb P n = 0 := by
 rw [Tr.climb_skip 0 n (Nat.zero_le _) hno]; rfl
end Go.Proofs.YticfkfjijnfcbaaDoor
