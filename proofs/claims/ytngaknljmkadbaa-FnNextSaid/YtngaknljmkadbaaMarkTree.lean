/- The contract of markTree over a copy that toTree made. -/
import Derived.Test.YtngaknljmkadbaaProg
import Derived.Test.YtngaknljmkadbaaBase
import Derived.Test.YtngaknljmkadbaaApp
import Derived.Test.YtngaknljmkadbaaSzTo
import Derived.Test.YtngaknljmkadbaaMark
namespace Go.Proofs.Ytngaknljmkadbaa
open Go.RowKit

/-- Rows of ints may have been written; all other rows are as they were. -/
structure Touch (w w' : World) : Prop where
  other : ∀ (b : Nat) (c : Array Value) (t : TypeId), w.heap[b]? = some (.cells c t (0, 0)) → t ≠ 3 → w'.heap[b]? = w.heap[b]?
  ints : ∀ (b : Nat) (c : Array Value), w.heap[b]? = some (.cells c 3 (0, 0)) → (∀ i, i < c.size → ∃ x : Int, c[i]? = some (.int .i64 x)) →
    ∃ c' : Array Value, w'.heap[b]? = some (.cells c' 3 (0, 0)) ∧ c'.size = c.size ∧ (∀ i, i < c'.size → ∃ x : Int, c'[i]? = some (.int .i64 x))

theorem Touch.refl (w : World) : Touch w w := ⟨fun _ _ _ _ _ => rfl, fun b c h hi => ⟨c, h, rfl, hi⟩⟩
theorem Touch.trans {a b c : World} (h : Touch a b) (k : Touch b c) : Touch a c :=
  ⟨fun x cc t hx ht => by
      have h1 := h.other x cc t hx ht
      exact (k.other x cc t (h1.trans hx) ht).trans h1,
    fun x cc hx hi => by
      obtain ⟨c1, h1, h2, h3⟩ := h.ints x cc hx hi
      obtain ⟨c2, k1, k2, k3⟩ := k.ints x c1 h1 h3
      exact ⟨c2, k1, k2.trans h2, k3⟩⟩
theorem Touch.of_below {w w' : World} {C : Nat} (h : Below C w w') (hC : w.heap.size ≤ C) : Touch w w' :=
  have hb : ∀ b o, w.heap[b]? = some o → w'.heap[b]? = w.heap[b]? := fun b o ho => h.block b (by have := (Array.getElem?_eq_some_iff.1 ho).1; omega)
  ⟨fun b c t hx _ => hb b _ hx, fun b c hx hi => ⟨c, (hb b _ hx).trans hx, rfl, hi⟩⟩

/-- Nothing that lay outside the blocks from lo to hi has turned. -/
structure Span (lo hi : Nat) (w w' : World) : Prop where
  os : w'.os = w.os
  tape : w'.tape = w.tape
  output : w'.output = w.output
  size : w.heap.size ≤ w'.heap.size
  block : ∀ k, k < w.heap.size → (k < lo ∨ hi ≤ k) → w'.heap[k]? = w.heap[k]?

theorem Span.refl (lo hi : Nat) (w : World) : Span lo hi w w := ⟨rfl, rfl, rfl, Nat.le_refl _, fun _ _ _ => rfl⟩
theorem Span.trans {lo hi : Nat} {a b c : World} (h : Span lo hi a b) (k : Span lo hi b c) : Span lo hi a c :=
  ⟨k.os.trans h.os, k.tape.trans h.tape, k.output.trans h.output, Nat.le_trans h.size k.size, fun i h1 h2 => (k.block i (Nat.lt_of_lt_of_le h1 h.size) h2).trans (h.block i h1 h2)⟩
theorem Span.of_below {lo hi C : Nat} {a b : World} (h : Below C a b) (hC : a.heap.size ≤ C) : Span lo hi a b := ⟨h.os, h.tape, h.output, h.size, fun k h1 _ => h.block k (by omega)⟩
theorem Span.below {lo hi : Nat} {a b : World} (h : Span lo hi a b) (hl : lo ≤ a.heap.size) : Below lo a b := ⟨h.os, h.tape, h.output, h.size, fun k hk => h.block k (by omega) (.inl hk)⟩

/-- A slice of ints beyond the span lies as it lay. -/
theorem IntsOwn.span {w w' : World} {l lo hi : Nat} {v : Value} {ks : List Int} (h : IntsOwn w l v ks) (hb : Span lo hi w w') (hl : hi ≤ l) : IntsOwn w' l v ks := by
  obtain ⟨h1, h2 | ⟨g, cap, cur, hv, hbb, hg, hr⟩⟩ := h
  · exact ⟨h1, .inl h2⟩
  · exact ⟨h1, .inr ⟨g, cap, cur, hv, hbb, (hb.block g (Array.getElem?_eq_some_iff.1 hg).1 (.inr (by omega))).trans hg, hr⟩⟩

/-- A tree in rows of its own, its keys any ints. -/
inductive TreeMem (w : World) (lo hi : Nat) : Value → Value → Tr → Prop where
  | mk (ks : List Int) (cs : List Tr) (g h : Nat) (kvs cvs : Nat → Value) (f : Nat → Int) (hg : lo ≤ g) (hgh : g < hi) (hh : lo ≤ h)
      (hk : w.rowIs g 3 ks.length (fun i => .int .i64 (f i)))
      (hc : w.rowIs h 26 (cs.length * 2) (fun j => if j % 2 = 0 then kvs (j / 2) else cvs (j / 2)))
      (hkids : ∀ i (h : i < cs.length), TreeMem w lo hi (kvs i) (cvs i) cs[i]) :
      TreeMem w lo hi (.slice (some ⟨g, 0, none⟩) ks.length ks.length) (.slice (some ⟨h, 0, none⟩) cs.length cs.length) (.mk ks cs)

theorem TreeNew.mem {w : World} {lo : Nat} {kv cv : Value} {t : Tr} (h : TreeNew w lo kv cv t) : TreeMem w lo w.heap.size kv cv t := by
  induction h with
  | mk ks cs g h kvs cvs hg hh hk hc hkids ih => exact .mk ks cs g h kvs cvs (fun i => ks.getD i 0) hg hk.lt hh hk hc ih

theorem rowInts {w : World} {g n : Nat} {f : Nat → Int} (h : w.rowIs g 3 n (fun i => .int .i64 (f i))) {w' : World} (ht : Touch w w') : ∃ f' : Nat → Int, w'.rowIs g 3 n (fun i => .int .i64 (f' i)) := by
  obtain ⟨c, hb, hn, hc⟩ := h
  obtain ⟨c', h1, h2, h3⟩ := ht.ints g c hb (fun i hi => ⟨f i, hc i (by omega)⟩)
  refine ⟨fun i => if h : i < c'.size then (h3 i h).choose else 0, c', h1, by omega, fun i hi => ?_⟩
  have hlt : i < c'.size := by omega
  simp only [dif_pos hlt]
  exact (h3 i hlt).choose_spec

theorem TreeMem.touch {w w' : World} {lo hi : Nat} {kv cv : Value} {t : Tr} (h : TreeMem w lo hi kv cv t) (ht : Touch w w') : TreeMem w' lo hi kv cv t := by
  induction h with
  | mk ks cs g h kvs cvs f hg hgh hh hk hc hkids ih =>
    obtain ⟨f', hf'⟩ := rowInts hk ht
    exact .mk ks cs g h kvs cvs f' hg hgh hh hf' (hc.of_block (by obtain ⟨c, hb, _⟩ := hc; exact ht.other h c _ hb (by decide))) ih

theorem TreeMem.slices {w : World} {lo hi : Nat} {kv cv : Value} {t : Tr} (h : TreeMem w lo hi kv cv t) : ∃ (ks : List Int) (cs : List Tr) (g h : Nat) (f : Nat → Int), t = .mk ks cs ∧ kv = .slice (some ⟨g, 0, none⟩) ks.length ks.length ∧ cv = .slice (some ⟨h, 0, none⟩) cs.length cs.length ∧ lo ≤ g ∧ g < hi ∧
    w.rowIs g 3 ks.length (fun i => .int .i64 (f i)) := by
  cases h with
  | mk ks cs g h kvs cvs f hg hgh hh hk hc hkids => exact ⟨ks, cs, g, h, f, rfl, rfl, rfl, hg, hgh, hk⟩


/-- The weight of the kids. -/
def Tr.kidsW : Tr → Nat
  | .mk _ c => Tr.weights c



end Go.Proofs.Ytngaknljmkadbaa
