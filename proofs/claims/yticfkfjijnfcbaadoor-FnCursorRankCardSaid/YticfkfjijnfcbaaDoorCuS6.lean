/- The model opens a reader over bytes; a key is drawn. -/
import Derived.Test.YticfkfjijnfcbaaDoorCuS5
namespace Go.Proofs.YticfkfjijnfcbaaDoor
open Go.RowKit
def Keyed (w : World) (B r : Nat) (bs : List Nat) (p : Nat) (t : Tr) (e : Ending) (w' : World) : Prop :=
 ∃ (key : Int) (q : Nat), e = .returned (.int .i64 key) ∧ (key ∈ t.keys ∨ (-1 ≤ key ∧ key ≤ 100)) ∧ Rd w' B r bs q ∧ q ≤ p + 3 ∧ Only w.heap.size r w w'
end Go.Proofs.YticfkfjijnfcbaaDoor
