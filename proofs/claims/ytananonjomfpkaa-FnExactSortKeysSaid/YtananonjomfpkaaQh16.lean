/- The contract of the program's greatest: the greatest key below a node. -/
import Derived.Test.YtananonjomfpkaaQhS23
import Derived.Test.YtananonjomfpkaaQh15
/- The contract of insert. -/
namespace Go.Proofs.Ytananonjomfpkaa
open Go.RowKit
-- 114
structure Grow (w : World) (gb : Nat) (wide : Int) (s : Nat) (gr : Bool) (F : Cells) (b : Nat) (t : Tr) : Prop where
 box : GBox w gb (.pointer (some ⟨b, 0, none⟩)) wide s (.bool gr)
 node : Nd w F b t
 apart : ∀ o, ¬ F gb o
def Inserted (w : World) (gb : Nat) (wide key : Int) (s : Nat) (gr : Bool) (F : Cells) (t : Tr) (e : Ending) (w' : World) : Prop :=
 ∃ (F' : Cells) (b' : Nat), e = .returned (.tuple #[]) ∧ Grow w' gb wide (if (t.path key).2 then s else s + Tr.insN wide key t) (if (t.path key).2 then gr else (gr || Tr.insG wide key t)) F' b' (if (t.path key).2 then t else Tr.insT wide key t) ∧
   (∀ x o, F' x o → F x o ∨ w.heap.size ≤ x) ∧ KeptF (fun x o => F x o ∨ x = gb) w w'
end Go.Proofs.Ytananonjomfpkaa
/- The contract of grownBy. -/
namespace Go.Proofs.Ytananonjomfpkaa
open Go.RowKit
def Tr.askedB (wide key : Int) (t : Tr) : Bool := Tr.validB wide t && (inB key 0 99 && !(t.pathB key).2)
-- 89
def GrownOf (w : World) (wide key : Int) (t : Tr) (e : Ending) (w' : World) : Prop :=
 (Tr.askedB wide key t = false ∧ e = .returned (.tuple #[.pointer none, .bool false]) ∧ Below w.heap.size w w') ∨
 (Tr.askedB wide key t = true ∧ ∃ (gb b : Nat) (F : Cells), e = .returned (.tuple #[.pointer (some ⟨gb, 0, none⟩), .bool true]) ∧ Grow w' gb wide (Tr.insN wide key t) (Tr.insG wide key t) F b (Tr.insT wide key t) ∧
   (∀ x o, F x o → w.heap.size ≤ x) ∧ Below w.heap.size w w')
end Go.Proofs.Ytananonjomfpkaa
/- The contract of removeBelow at a leaf. -/
namespace Go.Proofs.Ytananonjomfpkaa
open Go.RowKit
end Go.Proofs.Ytananonjomfpkaa
/- The contract of the program's greatest: the greatest key below a node. -/
namespace Go.Proofs.Ytananonjomfpkaa
open Go.RowKit
end Go.Proofs.Ytananonjomfpkaa
