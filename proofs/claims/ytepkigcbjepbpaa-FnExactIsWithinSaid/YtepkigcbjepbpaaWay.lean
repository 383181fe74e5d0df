/- The way down: a slice of nodes and of how many of their parts lie behind. -/
import Derived.Test.YtepkigcbjepbpaaProg
import Derived.Test.YtepkigcbjepbpaaBase
import Derived.Test.YtepkigcbjepbpaaAt
import Derived.Deep.AppendLies
namespace Go.Proofs.Ytepkigcbjepbpaa
open Go.RowKit

/-- The cells of the way's elements, from the root on. -/
def wcells : List (ATr × Nat) → List Value
  | [] => []
  | f :: r => .pointer (some f.1.addr) :: .int .i64 f.2 :: wcells r
theorem wcells_append (a b : List (ATr × Nat)) : wcells (a ++ b) = wcells a ++ wcells b := by
  induction a with
  | nil => rfl
  | cons f r ih => simp [wcells, ih]
theorem wcells_length (a : List (ATr × Nat)) : (wcells a).length = a.length * 2 := by
  induction a with
  | nil => rfl
  | cons f r ih => simp [wcells, ih]; omega

/-- The slice at block g. -/
abbrev Way (W : World) (lo g cap : Nat) (fr : List (ATr × Nat)) : Prop := W.ownsRow lo 118 2 (.slice (some ⟨g, 0, none⟩) fr.length cap) fr.length (wcells fr)

theorem Way.blk {W : World} {lo g cap : Nat} {fr : List (ATr × Nat)} (h : Way W lo g cap fr) : lo ≤ g ∧ ∃ cur, W.heap[g]? = some (.cells cur 118 (0, 0)) ∧ fr.length ≤ cap ∧ cap ≤ maxLen ∧ cur.size = cap * 2 ∧ cur.toList.take (fr.length * 2) = wcells fr := by
  obtain ⟨h1, ⟨h2, _⟩ | ⟨g', cap', cur, hv, hb, hg, hn, hm, hs, ht⟩⟩ := h
  · simp at h2
  · simp only [Value.slice.injEq, Option.some.injEq, Addr.mk.injEq, and_true, true_and] at hv
    obtain ⟨rfl, rfl⟩ := hv
    exact ⟨hb, cur, hg, hn, hm, hs, ht⟩

theorem Way.of {W : World} {lo g cap : Nat} {fr : List (ATr × Nat)} {cur : Array Value} (hb : lo ≤ g) (hg : W.heap[g]? = some (.cells cur 118 (0, 0))) (hn : fr.length ≤ cap) (hm : cap ≤ maxLen) (hs : cur.size = cap * 2) (ht : cur.toList.take (fr.length * 2) = wcells fr) : Way W lo g cap fr :=
  ⟨wcells_length fr, .inr ⟨g, cap, cur, rfl, hb, hg, hn, hm, hs, ht⟩⟩

theorem Way.lt {W : World} {lo g cap : Nat} {fr : List (ATr × Nat)} (h : Way W lo g cap fr) : g < W.heap.size := by
  obtain ⟨_, cur, hg, _⟩ := h.blk
  exact (Array.getElem?_eq_some_iff.1 hg).1

theorem Way.kept {W W' : World} {lo g cap : Nat} {fr : List (ATr × Nat)} (h : Way W lo g cap fr) (hb : W'.heap[g]? = W.heap[g]?) : Way W' lo g cap fr := by
  obtain ⟨h1, cur, hg, hn, hm, hs, ht⟩ := h.blk
  exact Way.of h1 (hb.trans hg) hn hm hs ht

/-- The last one's cells. -/
theorem Way.last {W : World} {lo g cap : Nat} {fr : List (ATr × Nat)} {a : ATr} {p : Nat} (h : Way W lo g cap (fr ++ [(a, p)])) :
    W.cell? ⟨g, fr.length * 2, none⟩ = some (.pointer (some a.addr)) ∧ W.cell? ⟨g, fr.length * 2 + 1, none⟩ = some (.int .i64 p) ∧ W.frozen? ⟨g, fr.length * 2 + 1, none⟩ = false := by
  have h1 := World.ownsRow.cellAt h (fr.length * 2) (by simp)
  have h2 := World.ownsRow.cellAt h (fr.length * 2 + 1) (by simp; omega)
  rw [wcells_append] at h1 h2
  obtain ⟨_, cur, hg, _⟩ := h.blk
  refine ⟨?_, ?_, ?_⟩
  · rw [h1]; simp [List.getElem?_append, wcells_length, wcells]
  · rw [h2]; simp [List.getElem?_append, wcells_length, wcells]
  · simp [World.frozen?, hg]

/-- The last one goes on. -/
theorem Way.pass {W : World} {lo g cap : Nat} {fr : List (ATr × Nat)} {a : ATr} {p : Nat} (h : Way W lo g cap (fr ++ [(a, p)])) (q : Nat) :
    Way (W.setCell ⟨g, fr.length * 2 + 1, none⟩ (.int .i64 q)) lo g cap (fr ++ [(a, q)]) := by
  obtain ⟨h1, cur, hg, hn, hm, hs, ht⟩ := h.blk
  refine Way.of h1 (cur := cur.setIfInBounds (fr.length * 2 + 1) (.int .i64 q)) ?_ (by simpa using hn) hm (by simpa using hs) ?_
  · simp [World.setCell, Array.getElem?_modify, hg]
  · have hl : (fr ++ [(a, q)]).length = (fr ++ [(a, p)]).length := by simp
    rw [hl]
    simp only [Array.toList_setIfInBounds]
    rw [List.take_set, ht, wcells_append, wcells_append]
    rw [List.set_append_right _ _ (by rw [wcells_length]; omega), wcells_length]
    congr 1
    rw [show fr.length * 2 + 1 - fr.length * 2 = 1 by omega]
    rfl

/-- The last one is left. -/
theorem Way.pop {W : World} {lo g cap : Nat} {fr : List (ATr × Nat)} {f : ATr × Nat} (h : Way W lo g cap (fr ++ [f])) : Way W lo g cap fr := by
  obtain ⟨h1, cur, hg, hn, hm, hs, ht⟩ := h.blk
  refine Way.of h1 hg (by simp at hn; omega) hm hs ?_
  have h2 : cur.toList.take (fr.length * 2) = (cur.toList.take ((fr ++ [f]).length * 2)).take (fr.length * 2) := by rw [List.take_take]; congr 1; simp
  rw [h2, ht, wcells_append, List.take_left' (wcells_length fr)]

theorem Try.infoSpot : (Try.prog.info? 118).map (fun i => (i.zero, i.size, i.bytes)) = some (some (.agg #[.pointer none, .int .i64 0]), 2, 16) := by kernel_rfl
theorem Try.infoTreePtr : (Try.prog.info? 29).map (fun i => (i.zero, i.size, i.bytes)) = some (some (.agg #[.slice none 0 0, .slice none 0 0]), 2, 48) := by kernel_rfl
theorem Try.infoBool : (Try.prog.info? 4).map (fun i => (i.zero, i.size, i.bytes)) = some (some (.bool false), 1, 1) := by kernel_rfl
end Go.Proofs.Ytepkigcbjepbpaa
