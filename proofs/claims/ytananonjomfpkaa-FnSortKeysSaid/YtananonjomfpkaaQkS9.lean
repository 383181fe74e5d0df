/- The contract of splitKid. -/
import Derived.Test.YtananonjomfpkaaQkS7
import Derived.Test.YtananonjomfpkaaQkS8
import Derived.Deep.DeepCutAuto
namespace Go.Proofs.Ytananonjomfpkaa
open Go.RowKit
def Worked (w : World) (F : Cells) (b : Nat) (t : Tr) (e : Ending) (w' : World) : Prop :=
 ∃ F', e = .returned (.tuple #[]) ∧ Nd w' F' b t ∧ (∀ x o, F' x o → F x o ∨ w.heap.size ≤ x) ∧ KeptF F w w'
end Go.Proofs.Ytananonjomfpkaa
