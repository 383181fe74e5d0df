/- The model draws a tree, a width and a number to insert. -/
import Derived.Test.YticfkfjijnfcbaaDoorProg
import Derived.Test.YticfkfjijnfcbaaDoorSh19
import Derived.Test.YticfkfjijnfcbaaDoorSh20
import Derived.StillTail
import Derived.Test.YticfkfjijnfcbaaDoorSh0
import Derived.Test.YticfkfjijnfcbaaDoorKeys
import Derived.Test.YticfkfjijnfcbaaDoorSh9
import Derived.Test.YticfkfjijnfcbaaDoorSh18
import Derived.Test.YticfkfjijnfcbaaDoorDrawSome
import Derived.Test.YticfkfjijnfcbaaDoorSh25

/- A region that draws its order and holds several operations that turn more than the others, stores among them. -/
namespace Go.Proofs.YticfkfjijnfcbaaDoor

section
variable {P : Program} {ops : Array Oper} {md : Region.Mode}

theorem wp_region_stores {rid : Nat} {a0 : Act} {w0 : World} {Q : Exit → Act → World → Prop} {n : Nat} (hm : P.follows .mixedOrders = true) (hs : Region.sinkB .any ops n = true) (hc : Region.chainB .any ops n = true) (hn : n < ops.size) (hback : backB .any ops = true)
    (sl : Nat → Nat) (hsl : ∀ i j, i < n → j < n → sl i = sl j → i = j) (R : World → World → Prop) (hRr : ∀ w, R w w) (hRt : ∀ a b c, R a b → R b c → R a c)
    (G : (Nat → Bool) → World → Prop) (hG0 : G (fun _ => false) w0.drew) (hGe : ∀ f g w, (∀ j, j < n → f j = g j) → G f w → G g w)
    (J : Nat → Value → World → Prop) (hJ : ∀ j v w w', J j v w → R w w' → J j v w')
    (hg : ∀ i oi, i < n → ops[i]? = some oi → oi.guard = none ∧ (oi.dst = some (sl i) ∨ (oi.dst = none ∧ ∀ v v' w, J i v w → J i v' w)))
    (hstep : ∀ i oi, i < n → ops[i]? = some oi → ∀ a w f, f i = false → Agree a0 a sl n → R w0.drew w → G f w → (∀ e, e ∈ oi.after → Region.binds .any e = true → J e.on (a.tmps[sl e.on]?.getD undef) w) →
      Oper.wp P oi a w (fun a' w' => ∃ v, a' = a.put oi.dst v ∧ sl i < a.tmps.size ∧ J i v w' ∧ R w w' ∧ G (fun j => if j = i then true else f j) w') Q)
    (htail : ∀ a w, Agree a0 a sl n → R w0.drew w → G (fun _ => true) w → (∀ j, j < n → J j (a.tmps[sl j]?.getD undef) w) → wpAny P .any ops Q (ops.size - n) (headDone n ops.size) a w) :
    (Code.region rid ops true).wp P Q a0 w0 := by
  refine wp_region_any hm ?_
  have hput : ∀ (i : Nat) (a : Act) (v : Value), i < n → sl i < a.tmps.size → (a.put (some (sl i)) v).tmps[sl i]?.getD undef = v ∧ ∀ j, j < n → j ≠ i → (a.put (some (sl i)) v).tmps[sl j]?.getD undef = a.tmps[sl j]?.getD undef := fun i a v hi hsz => by
    refine ⟨?_, fun j hj hne => ?_⟩
    · simp only [Act.put]
      rw [Array.getElem?_setIfInBounds_self_of_lt hsz]
      rfl
    · simp only [Act.put]
      rw [Array.getElem?_setIfInBounds_ne (fun e => hne (hsl j i hj hi e.symm))]
  have h := wpAny_headL (P := P) (ops := ops) (md := .any) (Q := Q) hs hc hn (fun listed a w => Agree a0 a sl n ∧ R w0.drew w ∧ G (fun j => listed.getD j true) w) (fun j a w => J j (a.tmps[sl j]?.getD undef) w) hback
    (fun i oi hi ho => (hg i oi hi ho).1)
    (fun i oi hi ho listed a w hls hu hB hI => by
      refine Oper.wp_mono (fun a' w' h => ?_) (hstep i oi hi ho a w _ hu hB.1 hB.2.1 hB.2.2 hI)
      obtain ⟨v, rfl, hsz, hv, hR, hG⟩ := h
      rcases (hg i oi hi ho).2 with hd | ⟨hd, hjn⟩
      · rw [hd]
        obtain ⟨hself, hoth⟩ := hput i a v hi hsz
        refine ⟨⟨hB.1.put hi v, hRt _ _ _ hB.2.1 hR, hGe _ _ _ (fun j hj => ?_) hG⟩, ?_, fun j hj hne hIj => ?_⟩
        · by_cases e : j = i
          · subst e
            rw [if_pos rfl]
            simp [show j < listed.size by omega]
          · rw [if_neg e, getD_set_ne true (Ne.symm e)]
        · rw [hself]; exact hv
        · rw [hoth j hj hne]; exact hJ j _ w w' hIj hR
      · rw [hd]
        refine ⟨⟨hB.1, hRt _ _ _ hB.2.1 hR, hGe _ _ _ (fun j hj => ?_) hG⟩, hjn _ _ _ hv, fun j hj hne hIj => hJ j _ w w' hIj hR⟩
        by_cases e : j = i
        · subst e
          rw [if_pos rfl]
          simp [show j < listed.size by omega]
        · rw [if_neg e, getD_set_ne true (Ne.symm e)])
    (fun a w hB hI => htail a w hB.1 hB.2.1 (hGe _ _ _ (fun j hj => by
      have : j < ops.size := by omega
      simp [headDone, hj, this]) hB.2.2) hI) n (Array.replicate ops.size false) a0 w0.drew
    ⟨by simp, fun j oj _ hl => (by rw [getD_replicate_false] at hl; exact absurd hl (by simp)), fun t _ ht => (by simp [ht])⟩ ?_
    ⟨⟨rfl, rfl, fun _ _ => rfl⟩, hRr _, hGe _ _ _ (fun j hj => by simp [show j < ops.size by omega]) hG0⟩ (fun j hj hl => ?_)
  · rw [show n + (ops.size - n) = ops.size by omega] at h
    exact h
  · have : ∀ m, m ≤ ops.size → left (Array.replicate ops.size false) m = m := by
      intro m
      induction m with
      | zero => intro _; rfl
      | succ m ih => intro hm; unfold left; rw [ih (by omega)]; simp [show m < ops.size by omega]
    exact this n (by omega)
  · simp [show j < ops.size by omega] at hl
end
end Go.Proofs.YticfkfjijnfcbaaDoor

/- The model draws a tree, a width and a number to insert. -/
namespace Go.Proofs.YticfkfjijnfcbaaDoor
open Go.RowKit

/-- What drawing a tree, a width and a number to insert leaves. -/
def InsDrawn (w : World) (e : Ending) (w' : World) : Prop :=
  ∃ (kv cv : Value) (t : Tr) (wide key : Int), e = .returned (.tuple #[.agg #[kv, cv], .int .i64 wide, .int .i64 key]) ∧ (-1 ≤ wide ∧ wide ≤ 7) ∧ TreeQ w' (fun k => w.heap.size ≤ k ∧ k < w'.heap.size) kv cv t ∧ t.weight ≤ 400000 ∧ (key ∈ t.keys ∨ (-1 ≤ key ∧ key ≤ 100)) ∧ Below w.heap.size w w'

/-- All but two blocks are as they were. -/
structure KeptBut (r x : Nat) (a b : World) : Prop where
  os : b.os = a.os
  tape : b.tape = a.tape
  output : b.output = a.output
  size : a.heap.size ≤ b.heap.size
  block : ∀ k, k < a.heap.size → k ≠ r → k ≠ x → b.heap[k]? = a.heap[k]?
theorem KeptBut.refl (r x : Nat) (w : World) : KeptBut r x w w := ⟨rfl, rfl, rfl, Nat.le_refl _, fun _ _ _ _ => rfl⟩
theorem KeptBut.trans {r x : Nat} {a b c : World} (h : KeptBut r x a b) (k : KeptBut r x b c) : KeptBut r x a c :=
  ⟨k.os.trans h.os, k.tape.trans h.tape, k.output.trans h.output, Nat.le_trans h.size k.size, fun i h1 h2 h3 => (k.block i (Nat.lt_of_lt_of_le h1 h.size) h2 h3).trans (h.block i h1 h2 h3)⟩
theorem KeptBut.of_only {r x : Nat} {a b : World} (h : Only a.heap.size r a b) : KeptBut r x a b := ⟨h.os, h.tape, h.output, h.size, fun k h1 h2 _ => h.block k h1 h2⟩

/-- The slots of the last statement's operations; the store has none of its own. -/
def slI (i : Nat) : Nat := if i = 5 then 8 else 15 + i
theorem slI_inj (i j : Nat) (hi : i < 6) (hj : j < 6) (h : slI i = slI j) : i = j := by
  unfold slI at h
  split at h <;> split at h <;> omega

/-- The reader ahead of the call; the box of the result ahead of the store and behind it. -/
def GIns (r x _y : Nat) (bs : List Nat) (q : Nat) (W4 : World) (kv cv : Value) (f : Nat → Bool) (W : World) : Prop :=
  (f 4 = false → Rd W r r bs q) ∧ (f 5 = false → W.heap[x]? = some (.cells #[.slice none 0 0, .slice none 0 0] 33 (0, 0))) ∧ (f 5 = true → W.heap[x]? = some (.cells #[kv, cv] 33 (0, 0)))

theorem rd_kept {w w' : World} {B r p x : Nat} {bs : List Nat} {a1 a2 : Option Addr} {n1 c1 n2 c2 : Nat} {ty : TypeId} (h : Rd w B r bs p) (hx : w.heap[x]? = some (.cells #[.slice a1 n1 c1, .slice a2 n2 c2] ty (0, 0))) (hr : w'.heap[r]? = w.heap[r]?) (hb : ∀ k, k < B → k ≠ x → w'.heap[k]? = w.heap[k]?) : Rd w' B r bs p := by
  obtain ⟨a, cap, h1, h2, h3, h4, h5⟩ := h
  refine ⟨a, cap, hr.trans h1, h2, h3, h4, ?_⟩
  rcases h5 with h5 | ⟨b, o, h6, h7, h8⟩
  · exact .inl h5
  · by_cases hbs : bs.length = 0
    · exact .inl (List.length_eq_zero_iff.1 hbs)
    · have hbx : b ≠ x := by
        rintro rfl
        have h9 := h8 0 (by omega)
        rw [Nat.add_zero] at h9
        simp only [World.cell?, hx] at h9
        rcases o with _ | _ | o <;> simp at h9
      exact .inr ⟨b, o, h6, h7, fun i hi => by rw [cell_of_blk' (hb b h7 hbx)]; exact h8 i hi⟩

/-- What the operations of its last statement leave. -/
def J3i (r : Nat) (wide : Int) (tv : Value) (t : Tr) (j : Nat) (v : Value) (_W : World) : Prop :=
  match j with
  | 0 => v = tv
  | 1 => v = .int .i64 wide
  | 2 => v = .pointer (some ⟨r, 0, none⟩)
  | 3 => v = tv
  | 4 => ∃ key, v = .int .i64 key ∧ (key ∈ t.keys ∨ (-1 ≤ key ∧ key ≤ 100))
  | _ => True

end Go.Proofs.YticfkfjijnfcbaaDoor
