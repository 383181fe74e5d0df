/- The model draws a tree, a width and a number to insert. -/
import Derived.Test.YticfkfjijnfcbaaDoorCu7
namespace Go.Proofs.YticfkfjijnfcbaaDoor
open Go.RowKit
def InsDrawn (w : World) (e : Ending) (w' : World) : Prop :=
 ∃ (kv cv : Value) (t : Tr) (wide key : Int), e = .returned (.tuple #[.agg #[kv, cv], .int .i64 wide, .int .i64 key]) ∧ (-1 ≤ wide ∧ wide ≤ 7) ∧ TreeQ w' (fun k => w.heap.size ≤ k ∧ k < w'.heap.size) kv cv t ∧ t.weight ≤ 400000 ∧ (key ∈ t.keys ∨ (-1 ≤ key ∧ key ≤ 100)) ∧ Below w.heap.size w w'
structure KeptBut (r x : Nat) (a b : World) : Prop where
 os : b.os = a.os
 tape : b.tape = a.tape
 output : b.output = a.output
 size : a.heap.size ≤ b.heap.size
 block : ∀ k, k < a.heap.size → k ≠ r → k ≠ x → b.heap[k]? = a.heap[k]?
theorem KeptBut.refl (r x : Nat) (w : World) : KeptBut r x w w := ⟨rfl, rfl, rfl, Nat.le_refl _, fun _ _ _ _ => rfl⟩
theorem KeptBut.trans {r x : Nat} {a b c : World} (h : KeptBut r x a b) (k : KeptBut r x b c) : KeptBut r x a c :=
 ⟨k.os.trans h.os, k.tape.trans h.tape, k.output.trans h.output, Nat.le_trans h.size k.size, fun i h1 h2 h3 => (k.block i (Nat.lt_of_lt_of_le h1 h.size) h2 h3).trans (h.block i h1 h2 h3)⟩
theorem KeptBut.of_only {r x : Nat} {a b : World} (h : Only a.heap.size r a b) : KeptBut r x a b := ⟨h.os, h.tape, h.output, h.size, fun k h1 h2 _ => h.block k h1 h2⟩
def slI (i : Nat) : Nat := if i = 5 then 8 else 15 + i
def GIns (r x _y : Nat) (bs : List Nat) (q : Nat) (W4 : World) (kv cv : Value) (f : Nat → Bool) (W : World) : Prop :=
 (f 4 = false → Rd W r r bs q) ∧ (f 5 = false → W.heap[x]? = some (.cells #[.slice none 0 0, .slice none 0 0] 33 (0, 0))) ∧ (f 5 = true → W.heap[x]? = some (.cells #[kv, cv] 33 (0, 0)))
theorem rd_kept {w w' : World} {B r p x : Nat} {bs : List Nat} {a1 a2 : Option Addr} {n1 c1 n2 c2 : Nat} {ty : TypeId} (h : Rd w B r bs p) (hx : w.heap[x]? = some (.cells #[.slice a1 n1 c1, .slice a2 n2 c2] ty (0, 0))) (hr : w'.heap[r]? = w.heap[r]?) (hb : ∀ k, k < B → k ≠ x → w'.heap[k]? = w.heap[k]?) : Rd w' B r bs p := by
 obtain ⟨a, cap, h1, h2, h3, h4, h5⟩ := h
 refine ⟨a, cap, hr.trans h1, h2, h3, h4, ?_⟩
 rcases h5 with h5 | ⟨b, o, h6, h7, h8⟩
 · exact .inl h5
 · by_cases hbs : bs.length = 0
   · exact .inl (List.length_eq_zero_iff.1 hbs)
   · have hbx : b ≠ x := by
       rintro rfl
       have h9 := h8 0 (by omega)
       rw [Nat.add_zero] at h9
       simp only [World.cell?, hx] at h9
       rcases o with _ | _ | o <;> simp at h9
     exact .inr ⟨b, o, h6, h7, fun i hi => by rw [cell_of_blk' (hb b h7 hbx)]; exact h8 i hi⟩
def J3i (r : Nat) (wide : Int) (tv : Value) (t : Tr) (j : Nat) (v : Value) (_W : World) : Prop :=
 match j with
 | 0 => v = tv
 | 1 => v = .int .i64 wide
 | 2 => v = .pointer (some ⟨r, 0, none⟩)
 | 3 => v = tv
 | 4 => ∃ key, v = .int .i64 key ∧ (key ∈ t.keys ∨ (-1 ≤ key ∧ key ≤ 100))
 | _ => True
end Go.Proofs.YticfkfjijnfcbaaDoor
