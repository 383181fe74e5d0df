/- What a law on a function that returns a tree keeps from call to call. -/
import Derived.Test.YtananonjomfpkaaProg
import Derived.Test.YtananonjomfpkaaPe0
import Derived.Test.YtananonjomfpkaaTo
import Derived.Test.YtananonjomfpkaaPe22
import Derived.Test.YtananonjomfpkaaPe23
namespace Go.Proofs.Ytananonjomfpkaa
open Go.RowKit

/-- The law's boxes, the model's answer, the program's answer. -/
structure ExS (w0 : World) (b3 b8 b10 b11 B8 lo : Nat) (kv cv k4 c4 k5 c5 k7 c7 : Value) (P : Blocks) (r u : Tr) (w : World) : Prop where
  bel : Below w0.heap.size w0 w
  x3 : w.heap[b3]? = some (.cells #[kv, cv] 43 (0, 0))
  x8 : w.heap[b8]? = some (.cells #[k4, c4] 26 (0, 0))
  x10 : w.heap[b10]? = some (.cells #[k5, c5] 26 (0, 0))
  x11 : w.heap[b11]? = some (.cells #[k7, c7] 26 (0, 0))
  tr4 : TreeIn w B8 k4 c4 r
  tr7 : TreeO w lo P k7 c7 u
  l3 : b3 < B8
  l8 : B8 ≤ b8 ∧ b8 < lo
  l10 : b10 < lo
  l0 : w0.heap.size ≤ b3
  n11 : lo ≤ b11 ∧ ¬ P b11
  lw : B8 ≤ w.heap.size

variable {w0 w w' : World} {b3 b8 b10 b11 B8 lo : Nat} {kv cv k4 c4 k5 c5 k7 c7 : Value} {P : Blocks} {r u : Tr}

theorem heap_lt {w : World} {b : Nat} {c : Array Value} {t : TypeId} {f : Nat × Nat} (h : w.heap[b]? = some (.cells c t f)) : b < w.heap.size := (Array.getElem?_eq_some_iff.1 h).1

theorem ExS.below (h : ExS w0 b3 b8 b10 b11 B8 lo kv cv k4 c4 k5 c5 k7 c7 P r u w) (hb : Below w.heap.size w w') : ExS w0 b3 b8 b10 b11 B8 lo kv cv k4 c4 k5 c5 k7 c7 P r u w' :=
  ⟨h.bel.trans (hb.mono (by have := h.l0; have := heap_lt h.x3; omega)), (hb.block _ (heap_lt h.x3)).trans h.x3, (hb.block _ (heap_lt h.x8)).trans h.x8, (hb.block _ (heap_lt h.x10)).trans h.x10, (hb.block _ (heap_lt h.x11)).trans h.x11,
    h.tr4.later hb h.lw, h.tr7.later hb (Nat.le_refl _), h.l3, h.l8, h.l10, h.l0, h.n11, Nat.le_trans h.lw hb.size⟩

theorem ExS.drew (h : ExS w0 b3 b8 b10 b11 B8 lo kv cv k4 c4 k5 c5 k7 c7 P r u w) : ExS w0 b3 b8 b10 b11 B8 lo kv cv k4 c4 k5 c5 k7 c7 P r u w.drew := h.below (Below.refl _ _).drew

/-- The argument is marked. -/
theorem ExS.span {l h' : Nat} (h : ExS w0 b3 b8 b10 b11 B8 lo kv cv k4 c4 k5 c5 k7 c7 P r u w) (hs : Span l h' w w') (h1 : b8 < l) (h2 : h' ≤ b10) (h3 : h' ≤ lo) : ExS w0 b3 b8 b10 b11 B8 lo kv cv k4 c4 k5 c5 k7 c7 P r u w' := by
  have e3 := heap_lt h.x3
  have e8 := heap_lt h.x8
  have l3 := h.l3
  have l8 := h.l8
  have hb : Below B8 w w' := ⟨hs.os, hs.tape, hs.output, hs.size, fun k hk => hs.block k (by have := h.lw; omega) (.inl (by omega))⟩
  refine ⟨h.bel.trans (hb.mono (by have := h.l0; omega)), (hs.block _ e3 (.inl (by omega))).trans h.x3, (hs.block _ e8 (.inl (by omega))).trans h.x8, (hs.block _ (heap_lt h.x10) (.inr h2)).trans h.x10,
    (hs.block _ (heap_lt h.x11) (.inr (by have := h.n11.1; omega))).trans h.x11, h.tr4.later hb (Nat.le_refl _), h.tr7.same hs.size (fun b e => hs.block b (h.tr7.lt b e).2 (.inr (by have := (h.tr7.lt b e).1; omega))), h.l3, h.l8, h.l10, h.l0, h.n11, Nat.le_trans h.lw hs.size⟩

/-- The answer is marked. -/
theorem ExS.mark {u' : Tr} (h : ExS w0 b3 b8 b10 b11 B8 lo kv cv k4 c4 k5 c5 k7 c7 P r u w) (ht : TreeO w' lo P k7 c7 u') (hk : KeptB P w w') : ExS w0 b3 b8 b10 b11 B8 lo kv cv k4 c4 k5 c5 k7 c7 P r u' w' := by
  have l3 := h.l3
  have l8 := h.l8
  have hP : ∀ b, P b → lo ≤ b := fun b e => (h.tr7.lt b e).1
  have hb : Below lo w w' := ⟨hk.os, hk.tape, hk.output, hk.size, fun k h1 => by
    by_cases h2 : k < w.heap.size
    · exact hk.block k h2 (fun e => by have := hP k e; omega)
    · have := h.n11.1; have := heap_lt h.x11; omega⟩
  exact ⟨h.bel.trans (hb.mono (by have := h.l0; omega)), (hb.block _ (by omega)).trans h.x3, (hb.block _ (by omega)).trans h.x8, (hb.block _ h.l10).trans h.x10,
    (hk.block _ (heap_lt h.x11) h.n11.2).trans h.x11, h.tr4.later hb (by omega), ht, h.l3, h.l8, h.l10, h.l0, h.n11, Nat.le_trans h.lw hk.size⟩
end Go.Proofs.Ytananonjomfpkaa
