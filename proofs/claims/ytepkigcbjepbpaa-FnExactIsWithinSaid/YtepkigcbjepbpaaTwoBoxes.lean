/- A law's two boxes. -/
import Derived.Test.YtepkigcbjepbpaaProg
import Derived.Test.YtepkigcbjepbpaaBase
namespace Go.Proofs.Ytepkigcbjepbpaa
open Go.RowKit

/-- The law's two boxes, and nothing ahead of them changed. -/
def Two (w W : World) (kA cA kB cB : Value) : Prop := Below w.heap.size w W ∧ W.heap[w.heap.size]? = some (.cells #[kA, cA] 25 (0, 0)) ∧ W.heap[w.heap.size + 1]? = some (.cells #[kB, cB] 25 (0, 0)) ∧ w.heap.size + 2 ≤ W.heap.size
theorem Two.later {w W W' : World} {kA cA kB cB : Value} {C : Nat} (h : Two w W kA cA kB cB) (hb : Below C W W') (hC : w.heap.size + 2 ≤ C) : Two w W' kA cA kB cB := by
  obtain ⟨h1, h2, h3, h4⟩ := h
  have := hb.size
  exact ⟨h1.trans (hb.mono (by omega)), (hb.block _ (by omega)).trans h2, (hb.block _ (by omega)).trans h3, by omega⟩
theorem Two.a {w W : World} {kA cA kB cB : Value} (h : Two w W kA cA kB cB) : W.cell? ⟨w.heap.size, 0, none⟩ = some kA ∧ W.cell? ⟨w.heap.size, 1, none⟩ = some cA := ⟨(box2 h.2.1).1, (box2 h.2.1).2.1⟩
theorem Two.b {w W : World} {kA cA kB cB : Value} (h : Two w W kA cA kB cB) : W.cell? ⟨w.heap.size + 1, 0, none⟩ = some kB ∧ W.cell? ⟨w.heap.size + 1, 1, none⟩ = some cB := ⟨(box2 h.2.2.1).1, (box2 h.2.2.1).2.1⟩

end Go.Proofs.Ytepkigcbjepbpaa
