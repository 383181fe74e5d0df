/- Two keys inserted in either order: plain data. -/
import Derived.Test.YtananonjomfpkaaQk17
import Derived.Test.YtananonjomfpkaaQkS16
import Derived.Test.YtananonjomfpkaaQk12
/- The contract of insert. -/
namespace Go.Proofs.Ytananonjomfpkaa
open Go.RowKit
-- 114
structure Grow (w : World) (gb : Nat) (wide : Int) (s : Nat) (gr : Bool) (F : Cells) (b : Nat) (t : Tr) : Prop where
 box : GBox w gb (.pointer (some ⟨b, 0, none⟩)) wide s (.bool gr)
 node : Nd w F b t
 apart : ∀ o, ¬ F gb o
def Inserted (w : World) (gb : Nat) (wide key : Int) (s : Nat) (gr : Bool) (F : Cells) (t : Tr) (e : Ending) (w' : World) : Prop :=
 ∃ (F' : Cells) (b' : Nat), e = .returned (.tuple #[]) ∧ Grow w' gb wide (if (t.path key).2 then s else s + Tr.insN wide key t) (if (t.path key).2 then gr else (gr || Tr.insG wide key t)) F' b' (if (t.path key).2 then t else Tr.insT wide key t) ∧
   (∀ x o, F' x o → F x o ∨ w.heap.size ≤ x) ∧ KeptF (fun x o => F x o ∨ x = gb) w w'
end Go.Proofs.Ytananonjomfpkaa
/- The contract of grownBy. -/
namespace Go.Proofs.Ytananonjomfpkaa
open Go.RowKit
def Tr.askedB (wide key : Int) (t : Tr) : Bool := Tr.validB wide t && (inB key 0 99 && !(t.pathB key).2)
-- 89
def GrownOf (w : World) (wide key : Int) (t : Tr) (e : Ending) (w' : World) : Prop :=
 (Tr.askedB wide key t = false ∧ e = .returned (.tuple #[.pointer none, .bool false]) ∧ Below w.heap.size w w') ∨
 (Tr.askedB wide key t = true ∧ ∃ (gb b : Nat) (F : Cells), e = .returned (.tuple #[.pointer (some ⟨gb, 0, none⟩), .bool true]) ∧ Grow w' gb wide (Tr.insN wide key t) (Tr.insG wide key t) F b (Tr.insT wide key t) ∧
   (∀ x o, F x o → w.heap.size ≤ x) ∧ Below w.heap.size w w')
end Go.Proofs.Ytananonjomfpkaa
/- Two keys inserted in either order: plain data. -/
namespace Go.Proofs.Ytananonjomfpkaa
open Go.RowKit
theorem sorted_ext : ∀ (l m : List Int), l.Pairwise (· < ·) → m.Pairwise (· < ·) → (∀ x, x ∈ l ↔ x ∈ m) → l = m
 | [], [], _, _, _ => rfl
 | [], b :: m, _, _, h => by have := (h b).2 (by simp); cases this
 | a :: l, [], _, _, h => by have := (h a).1 (by simp); cases this
 | a :: l, b :: m, hl, hm, h => by
   obtain ⟨l1, l2⟩ := List.pairwise_cons.1 hl
   obtain ⟨m1, m2⟩ := List.pairwise_cons.1 hm
   have hab : a = b := by
     have h1 := (h a).1 (by simp)
     have h2 := (h b).2 (by simp)
     rcases List.mem_cons.1 h1 with h1 | h1
     · exact h1
     · rcases List.mem_cons.1 h2 with h2 | h2
       · exact h2.symm
       · have := m1 a h1; have := l1 b h2; omega
   subst hab
   rw [sorted_ext l m l2 m2 (fun x => ?_)]
   constructor
   · intro hx
     rcases List.mem_cons.1 ((h x).1 (by simp [hx])) with h3 | h3
     · have := l1 x hx; omega
     · exact h3
   · intro hx
     rcases List.mem_cons.1 ((h x).2 (by simp [hx])) with h3 | h3
     · have := m1 x hx; omega
     · exact h3
namespace Tr
end Tr
end Go.Proofs.Ytananonjomfpkaa
