/- The contract of repair: a kid that has too few keys gets some, or is joined. -/
import Derived.Test.YtananonjomfpkaaQkS20
import Derived.Test.YtananonjomfpkaaQkS21
namespace Go.Proofs.Ytananonjomfpkaa
open Go.RowKit
namespace Tr
def mended (m : Nat) (k : List Int) (c : List Tr) (i : Nat) : Tr :=
 if m = 0 then ahead k c (i - 1) else if m = 1 then behind k c i else if m = 2 then joined k c (i - 1) else joined k c i
end Tr
def Repaired (w : World) (F : Cells) (b gb : Nat) (gn : Value) (bo jo : Nat) (sh : Value) (wide : Int) (t : Tr) (e : Ending) (w' : World) : Prop :=
 ∃ F', e = .returned (.tuple #[]) ∧ Nd w' F' b t ∧ (∀ x o, F' x o → F x o ∨ w.heap.size ≤ x) ∧ KeptF (fun x o => F x o ∨ x = gb) w w' ∧ SBox w' gb gn bo jo sh wide
end Go.Proofs.Ytananonjomfpkaa
