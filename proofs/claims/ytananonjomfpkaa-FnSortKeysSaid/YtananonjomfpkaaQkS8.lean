/- The contract of halves. -/
import Derived.Test.YtananonjomfpkaaQk11
import Derived.Deep.Cut
import Derived.BigRegion
namespace Go.Proofs.Ytananonjomfpkaa
open Go.RowKit
structure Sep (b : Nat) (Fk Fc : Cells) (kids : List KidD) : Prop where
 bk : Apart (boxOf b) Fk
 bc : Apart (boxOf b) Fc
 bs : ∀ y, y ∈ kids → Apart (boxOf b) y.F
 kc : Apart Fk Fc
 ks : ∀ y, y ∈ kids → Apart Fk y.F
 cs : ∀ y, y ∈ kids → Apart Fc y.F
 ss : kids.Pairwise (fun y z => Apart y.F z.F)
def allOf (b : Nat) (Fk Fc : Cells) (kids : List KidD) : Cells := fun x o => x = b ∨ Fk x o ∨ Fc x o ∨ ∃ y, y ∈ kids ∧ y.F x o
def Halved (w : World) (F : Cells) (t : Tr) (e : Ending) (w' : World) : Prop :=
 ∃ (pl pr : Nat) (FL FR : Cells), e = .returned (.tuple #[.pointer (some ⟨pl, 0, none⟩), .pointer (some ⟨pr, 0, none⟩)]) ∧
     Nd w' FL pl t.leftOf ∧ Nd w' FR pr t.rightOf ∧ Apart FL FR ∧ (∀ x o, FL x o → F x o ∨ w.heap.size ≤ x) ∧ (∀ x o, FR x o → F x o ∨ w.heap.size ≤ x) ∧ Below w.heap.size w w'
end Go.Proofs.Ytananonjomfpkaa
