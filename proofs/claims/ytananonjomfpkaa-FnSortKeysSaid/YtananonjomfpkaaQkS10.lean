/- The contract of insertBelow. -/
import Derived.Test.YtananonjomfpkaaQkS9
namespace Go.Proofs.Ytananonjomfpkaa
open Go.RowKit
namespace Tr
def Fits : Tr → Prop | .mk k c => k.Pairwise (· < ·) ∧ (c.length = 0 ∨ c.length = k.length + 1) ∧ ∀ i (h : i < c.length), Well c[i]
def Shaped (t : Tr) : Prop := t.cs.length = 0 ∨ t.cs.length = t.ks.length + 1
end Tr
def GBox (w : World) (gb : Nat) (gn : Value) (wide : Int) (s : Nat) (gr : Value) : Prop := w.heap[gb]? = some (.cells #[gn, .int .i64 wide, .int .i64 (s : Int), gr] 119 (0, 0))
def Stays (w w' : World) (F : Cells) (b : Nat) (t' : Tr) : Prop :=
 ∀ (kv : Value) (cb co n cc p : Nat) (u0 : Tr), t' = .mk [] [u0] → w.heap[b]? = some (.cells #[kv, .slice (some ⟨cb, co, none⟩) n cc] 99 (0, 0)) →
   w.cell? ⟨cb, co, none⟩ = some (.pointer (some ⟨p, 0, none⟩)) → ∃ FX, Nd w' FX p u0 ∧ (∀ x o, FX x o → F x o ∨ w.heap.size ≤ x)
def Grown (w : World) (F : Cells) (b gb : Nat) (gn : Value) (wide : Int) (s : Nat) (gr : Value) (r : Tr × Nat) (e : Ending) (w' : World) : Prop :=
 ∃ F', e = .returned (.tuple #[]) ∧ Nd w' F' b r.1 ∧ (∀ x o, F' x o → F x o ∨ w.heap.size ≤ x) ∧ KeptF (fun x o => F x o ∨ x = gb) w w' ∧ GBox w' gb gn wide (s + r.2) gr ∧ Stays w w' F b r.1
end Go.Proofs.Ytananonjomfpkaa
