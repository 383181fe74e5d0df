/- The contract of shrunkBy. -/
import Derived.Test.YtananonjomfpkaaQkS23
import Derived.Test.YtananonjomfpkaaQk18
/- The contract of removeBelow. -/
namespace Go.Proofs.Ytananonjomfpkaa
open Go.RowKit
end Go.Proofs.Ytananonjomfpkaa
/- The contract of remove: a key is taken out of a shrinking tree. -/
namespace Go.Proofs.Ytananonjomfpkaa
open Go.RowKit
structure Shrink (w : World) (gb : Nat) (wide : Int) (bo jo : Nat) (sh : Bool) (F : Cells) (b : Nat) (t : Tr) : Prop where
 box : SBox w gb (.pointer (some ⟨b, 0, none⟩)) bo jo (.bool sh) wide
 node : Nd w F b t
 apart : ∀ o, ¬ F gb o
def Removed (w : World) (gb : Nat) (wide : Int) (bo jo : Nat) (sh : Bool) (F : Cells) (t : Tr) (ok : Bool) (e : Ending) (w' : World) : Prop :=
 ∃ (F' : Cells) (b' : Nat), e = .returned (.bool ok) ∧ Shrink w' gb wide bo jo sh F' b' t ∧ (∀ x o, F' x o → F x o ∨ w.heap.size ≤ x) ∧ KeptF (fun x o => F x o ∨ x = gb) w w'
end Go.Proofs.Ytananonjomfpkaa
/- The contract of shrunkBy. -/
namespace Go.Proofs.Ytananonjomfpkaa
open Go.RowKit
def Tr.lacksB (wide key : Int) (t : Tr) : Bool := Tr.validB wide t && (t.path key).2
def ShrunkOf (w : World) (wide key : Int) (t : Tr) (e : Ending) (w' : World) : Prop :=
 (Tr.lacksB wide key t = false ∧ e = .returned (.tuple #[.pointer none, .bool false]) ∧ Below w.heap.size w w') ∨
 (Tr.lacksB wide key t = true ∧ ∃ (gb b : Nat) (F : Cells), e = .returned (.tuple #[.pointer (some ⟨gb, 0, none⟩), .bool true]) ∧
   Shrink w' gb wide (Tr.del (wide / 2) (t.weight + 1) key t).b (Tr.del (wide / 2) (t.weight + 1) key t).j (Tr.delShrinks wide key t) F b (Tr.delT wide key t) ∧
   (∀ x o, F x o → w.heap.size ≤ x) ∧ w.heap.size ≤ gb ∧ Below w.heap.size w w')
end Go.Proofs.Ytananonjomfpkaa
