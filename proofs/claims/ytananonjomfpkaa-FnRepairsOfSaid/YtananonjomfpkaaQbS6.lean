/- The contract of splitKid. -/
import Derived.Test.YtananonjomfpkaaProg
import Derived.Test.YtananonjomfpkaaQb0
import Derived.Test.YtananonjomfpkaaQb11
import Derived.Test.YtananonjomfpkaaQb12
import Derived.Test.YtananonjomfpkaaQb14
import Derived.Deep.Cut
import Derived.Deep.DeepCutAuto
import Derived.Deep.RegionLaw
namespace Go.Proofs.Ytananonjomfpkaa
open Go.RowKit

theorem KeptF.block' {F : Cells} {w w' : World} (h : KeptF F w w') {b : Nat} {o : Obj} (hb : w.heap[b]? = some o) (hn : ∀ q, ¬ F b q) : w'.heap[b]? = some o :=
  (h.block b (Array.getElem?_eq_some_iff.1 hb).1 hn).trans hb

def Worked (w : World) (F : Cells) (b : Nat) (t : Tr) (e : Ending) (w' : World) : Prop :=
  ∃ F', e = .returned (.tuple #[]) ∧ Nd w' F' b t ∧ (∀ x o, F' x o → F x o ∨ w.heap.size ≤ x) ∧ KeptF F w w'

end Go.Proofs.Ytananonjomfpkaa
