/- A node that grows in a box of its own: its row of keys, its row of kids, the kids' trees apart from all three. -/
import Derived.Test.YticfkfjijnfcbaaDoorProg
import Derived.Test.YticfkfjijnfcbaaDoorSh0
import Derived.Test.YticfkfjijnfcbaaDoorSh9
import Derived.Test.YticfkfjijnfcbaaDoorSh18
import Derived.Deep.AppendLies
namespace Go.Proofs.YticfkfjijnfcbaaDoor
open Go.RowKit

/-- The cells of a row of kids. -/
def kcells : List (Value × Value × Tr) → List Value
  | [] => []
  | x :: r => x.1 :: x.2.1 :: kcells r
theorem kcells_append (a b : List (Value × Value × Tr)) : kcells (a ++ b) = kcells a ++ kcells b := by
  induction a with
  | nil => rfl
  | cons f r ih => simp [kcells, ih]
theorem kcells_length (a : List (Value × Value × Tr)) : (kcells a).length = a.length * 2 := by
  induction a with
  | nil => rfl
  | cons f r ih => simp [kcells, ih]; omega
theorem kcells_get : ∀ (a : List (Value × Value × Tr)) (i : Nat) (h : i < a.length), (kcells a)[i * 2]? = some a[i].1 ∧ (kcells a)[i * 2 + 1]? = some a[i].2.1
  | [], i, h => by simp at h
  | x :: r, 0, h => by simp [kcells]
  | x :: r, i + 1, h => by
    have ih := kcells_get r i (by simpa using h)
    have e1 : (i + 1) * 2 = i * 2 + 1 + 1 := by omega
    rw [e1]
    simpa [kcells] using ih

structure Sown (W : World) (lo bx : Nat) (kv cvv : Value) (kk : List Int) (K : List (Value × Value × Tr)) : Prop where
  box : W.heap[bx]? = some (.cells #[kv, cvv] 33 (0, 0))
  hlo : lo ≤ bx
  keys : IntsOwn W lo kv kk
  row : W.ownsRow lo 33 2 cvv K.length (kcells K)
  kne : kv.ownBlock ≠ some bx
  cne : cvv.ownBlock ≠ some bx
  apart : ∀ k, kv.ownBlock = some k → cvv.ownBlock ≠ some k
  kids : ∀ x ∈ K, TreeQ W (fun k => lo ≤ k ∧ k < W.heap.size ∧ k ≠ bx ∧ kv.ownBlock ≠ some k ∧ cvv.ownBlock ≠ some k) x.1 x.2.1 x.2.2

theorem ownsRow_keep {w w' : World} {base : Nat} {e : TypeId} {size n : Nat} {v : Value} {xs : List Value} (h : w.ownsRow base e size v n xs) (hb : ∀ k, v.ownBlock = some k → w'.heap[k]? = w.heap[k]?) : w'.ownsRow base e size v n xs := by
  obtain ⟨h1, h2 | ⟨g, cap, cur, hv, hbb, hg, hr⟩⟩ := h
  · exact ⟨h1, .inl h2⟩
  · exact ⟨h1, .inr ⟨g, cap, cur, hv, hbb, (hb g (by rw [hv]; rfl)).trans hg, hr⟩⟩

theorem Sown.tree {W : World} {lo bx : Nat} {kv cvv : Value} {kk : List Int} {K : List (Value × Value × Tr)} (h : Sown W lo bx kv cvv kk K) :
    TreeQ W (fun k => lo ≤ k ∧ k < W.heap.size) kv cvv (.mk kk (K.map (fun x => x.2.2))) := by
  have hlen : (K.map (fun x => x.2.2)).length = K.length := by simp
  have hrow := h.row
  obtain ⟨a, cap, rfl, hc1, hc2, hat⟩ : ∃ a cap, cvv = .slice a K.length cap ∧ K.length ≤ cap ∧ cap ≤ maxLen ∧ (K.length = 0 ∨ ∃ g, a = some ⟨g, 0, none⟩ ∧ lo ≤ g ∧ g < W.heap.size ∧ Plain W g) := by
    obtain ⟨h1, ⟨h2, h3⟩ | ⟨g, cap, cur, hv, hbb, hg, hn, hm, _⟩⟩ := hrow
    · exact ⟨none, 0, by rw [h2, h3], by omega, by unfold maxLen; omega, .inl h3⟩
    · exact ⟨_, cap, hv, hn, hm, .inr ⟨g, rfl, hbb, (Array.getElem?_eq_some_iff.1 hg).1, cur, _, hg⟩⟩
  have hT := TreeQ.mk (w := W) (P := fun k => lo ≤ k ∧ k < W.heap.size) kk (K.map (fun x => x.2.2)) kv a cap (fun i => (K.getD i (.bool false, .bool false, .mk [] [])).1) (fun i => (K.getD i (.bool false, .bool false, .mk [] [])).2.1)
    h.keys.p (by rw [hlen]; exact hc1) hc2 ?_ ?_
  · rw [hlen] at hT; exact hT
  · rw [hlen]
    rcases hat with h0 | ⟨g, rfl, g1, g2, g3⟩
    · exact .inl h0
    · refine .inr ⟨g, 0, rfl, ⟨⟨g1, g2⟩, g3⟩, fun i hi => ?_⟩
      obtain ⟨e1, e2⟩ := kcells_get K i hi
      have d : K.getD i (.bool false, .bool false, .mk [] []) = K[i] := by simp [List.getD_eq_getElem?_getD, hi]
      dsimp only
      rw [d]
      refine ⟨?_, ?_⟩
      · rw [Nat.zero_add, World.ownsRow.cellAt hrow (i * 2) (by omega)]; exact e1
      · rw [Nat.zero_add, World.ownsRow.cellAt hrow (i * 2 + 1) (by omega)]; exact e2
  · intro i hi
    rw [hlen] at hi
    have d : K.getD i (.bool false, .bool false, .mk [] []) = K[i] := by simp [List.getD_eq_getElem?_getD, hi]
    show TreeQ W _ (K.getD i _).1 (K.getD i _).2.1 _
    rw [d, List.getElem_map]
    exact (h.kids K[i] (List.getElem_mem hi)).same (fun _ _ => rfl) (fun k hk => ⟨hk.1, hk.2.1⟩)

theorem Sown.same {W W' : World} {lo bx : Nat} {kv cvv : Value} {kk : List Int} {K : List (Value × Value × Tr)} (h : Sown W lo bx kv cvv kk K) (hb : ∀ k, lo ≤ k → k < W.heap.size → W'.heap[k]? = W.heap[k]?) (hs : W.heap.size ≤ W'.heap.size) : Sown W' lo bx kv cvv kk K := by
  have hbx : bx < W.heap.size := (Array.getElem?_eq_some_iff.1 h.box).1
  refine ⟨(hb bx h.hlo hbx).trans h.box, h.hlo, h.keys.keep hb, ownsRow_keep h.row (fun k hk => hb k (h.row.lt k hk).1 (h.row.lt k hk).2), h.kne, h.cne, h.apart, fun x hx => ?_⟩
  exact (h.kids x hx).same (fun k hk => hb k hk.1 hk.2.1) (fun k hk => ⟨hk.1, by omega, hk.2.2⟩)

theorem Sown.shown {W : World} {lo bx : Nat} {kv cvv : Value} {kk : List Int} {K : List (Value × Value × Tr)} (h : Sown W lo bx kv cvv kk K) : ∃ a c a' c', kv = .slice a kk.length c ∧ cvv = .slice a' K.length c' := by
  obtain ⟨a, c, h1⟩ := IntsOwn.shown h.keys
  obtain ⟨_, ⟨h2, h3⟩ | ⟨g, cap, cur, hv, _⟩⟩ := h.row
  · exact ⟨a, c, none, 0, h1, by rw [h2, h3]⟩
  · exact ⟨a, c, _, cap, h1, hv⟩

/-- A kid more. -/
theorem Sown.kid {W w6 w7 : World} {lo bx r gg cap : Nat} {kv cvv kc cc : Value} {kk : List Int} {K : List (Value × Value × Tr)} {t : Tr} (h : Sown W lo bx kv cvv kk K) (hr : r < lo)
    (h6 : Only W.heap.size r W w6) (ht : TreeQ w6 (fun k => W.heap.size ≤ k ∧ k < w6.heap.size) kc cc t)
    (hown : w7.ownsRow lo 33 2 (.slice (some ⟨gg, 0, none⟩) (K.length + 1) cap) (K.length + 1) (kcells K ++ [kc, cc]))
    (hg : (w6.alloc (.cells #[kc, cc] 33)).grownBy w7 cvv.ownBlock) (hat : cvv.ownBlock = some gg ∨ gg = w6.heap.size + 1) :
    Sown (w7.setCell ⟨bx, 1, none⟩ (.slice (some ⟨gg, 0, none⟩) (K.length + 1) cap)) lo bx kv (.slice (some ⟨gg, 0, none⟩) (K.length + 1) cap) kk (K ++ [(kc, cc, t)]) ∧
    Only lo r W (w7.setCell ⟨bx, 1, none⟩ (.slice (some ⟨gg, 0, none⟩) (K.length + 1) cap)) := by
  have hbx : bx < W.heap.size := (Array.getElem?_eq_some_iff.1 h.box).1
  have hlo := h.hlo
  have hs6 := h6.size
  have hs7 : w6.heap.size + 1 ≤ w7.heap.size := by have := hg.size; simpa using this
  obtain ⟨F, hF⟩ : ∃ F, F = w7.setCell ⟨bx, 1, none⟩ (.slice (some ⟨gg, 0, none⟩) (K.length + 1) cap) := ⟨_, rfl⟩
  have hsF : F.heap.size = w7.heap.size := by rw [hF]; simp
  have kE : ∀ k, k ≠ bx → F.heap[k]? = w7.heap[k]? := fun k h1 => by rw [hF, set_other _ _ _ _ _ h1]
  have old7 : ∀ k, k < w6.heap.size → cvv.ownBlock ≠ some k → w7.heap[k]? = w6.heap[k]? := fun k h1 h3 => by
    rw [hg.block k (by simp; omega) (fun e => h3 e.symm), old_blk _ _ _ h1]
  have oldW : ∀ k, k < W.heap.size → k ≠ r → w6.heap[k]? = W.heap[k]? := fun k h1 h2 => h6.block k h1 h2
  have ownK : ∀ k, kv.ownBlock = some k → lo ≤ k ∧ k < W.heap.size := fun k hk => h.keys.lt k hk
  have ownC : ∀ k, cvv.ownBlock = some k → lo ≤ k ∧ k < W.heap.size := fun k hk => h.row.lt k hk
  have hbox : F.heap[bx]? = some (.cells #[kv, .slice (some ⟨gg, 0, none⟩) (K.length + 1) cap] 33 (0, 0)) := by
    have h1 : w7.heap[bx]? = some (.cells #[kv, cvv] 33 (0, 0)) := (old7 bx (by omega) h.cne).trans ((oldW bx hbx (by omega)).trans h.box)
    rw [hF]; exact set_blk (o := 1) _ h1
  have hgg : ∀ k, k < w6.heap.size → cvv.ownBlock ≠ some k → gg ≠ k := fun k h1 h2 e => by
    rcases hat with h3 | h3
    · exact h2 (by rw [h3, e])
    · omega
  rw [← hF]
  refine ⟨⟨hbox, hlo, ?_, ?_, h.kne, ?_, ?_, ?_⟩, ?_⟩
  · exact ownsRow_keep h.keys (fun k hk => by
      have := ownK k hk
      rw [kE k (fun e => h.kne (by rw [hk, e])), old7 k (by omega) (h.apart k hk), oldW k this.2 (by omega)])
  · have e1 : kcells (K ++ [(kc, cc, t)]) = kcells K ++ [kc, cc] := by rw [kcells_append]; rfl
    rw [e1, show (K ++ [(kc, cc, t)]).length = K.length + 1 by simp]
    exact ownsRow_keep hown (fun k hk => kE k (fun e => by
      have hk' : gg = k := by simpa [Value.ownBlock] using hk
      exact hgg bx (by omega) h.cne (by omega)))
  · intro e
    have hk' : gg = bx := by simpa [Value.ownBlock] using e
    exact hgg bx (by omega) h.cne hk'
  · intro k hk e
    have hk' : gg = k := by simpa [Value.ownBlock] using e
    have := ownK k hk
    exact hgg k (by omega) (h.apart k hk) hk'
  · intro x hx
    rcases List.mem_append.1 hx with hx | hx
    · refine (h.kids x hx).same (fun k hk => ?_) (fun k hk => ⟨hk.1, by omega, hk.2.2.1, hk.2.2.2.1, ?_⟩)
      · rw [kE k hk.2.2.1, old7 k (by omega) hk.2.2.2.2, oldW k hk.2.1 (by omega)]
      · intro e
        have hk' : gg = k := by simpa [Value.ownBlock] using e
        exact hgg k (by omega) hk.2.2.2.2 hk'
    · obtain rfl := List.mem_singleton.1 hx
      have nC : ∀ k, W.heap.size ≤ k → cvv.ownBlock ≠ some k := fun k h1 e => by have := (ownC k e).2; omega
      refine ht.same (fun k hk => ?_) (fun k hk => ⟨by omega, by omega, by omega, fun e => ?_, fun e => ?_⟩)
      · rw [kE k (by omega), old7 k hk.2 (nC k hk.1)]
      · have := (ownK k e).2; omega
      · have hk' : gg = k := by simpa [Value.ownBlock] using e
        exact hgg k hk.2 (nC k hk.1) hk'
  · refine ⟨?_, ?_, ?_, by omega, fun k hk hkr => ?_⟩
    · rw [hF]; exact hg.os.trans h6.os
    · rw [hF]; exact hg.tape.trans h6.tape
    · rw [hF]; exact hg.output.trans h6.output
    · rw [kE k (by omega), old7 k (by omega) (fun e => by have := (ownC k e).1; omega), oldW k (by omega) hkr]

/-- The same, the row's cells in a block that is there. -/
theorem Sown.kid2 {W w6 w7 : World} {lo bx r gg cap : Nat} {kv cvv kc cc : Value} {kk : List Int} {K : List (Value × Value × Tr)} {t : Tr} (h : Sown W lo bx kv cvv kk K) (hr : r < lo)
    (h6 : Only W.heap.size r W w6) (ht : TreeQ w6 (fun k => W.heap.size ≤ k ∧ k < w6.heap.size) kc cc t)
    (hown : w7.ownsRow lo 33 2 (.slice (some ⟨gg, 0, none⟩) (K.length + 1) cap) (K.length + 1) (kcells K ++ [kc, cc]))
    (hg : w6.grownBy w7 cvv.ownBlock) (hat : cvv.ownBlock = some gg ∨ gg = w6.heap.size) :
    Sown (w7.setCell ⟨bx, 1, none⟩ (.slice (some ⟨gg, 0, none⟩) (K.length + 1) cap)) lo bx kv (.slice (some ⟨gg, 0, none⟩) (K.length + 1) cap) kk (K ++ [(kc, cc, t)]) ∧
    Only lo r W (w7.setCell ⟨bx, 1, none⟩ (.slice (some ⟨gg, 0, none⟩) (K.length + 1) cap)) := by
  have hbx : bx < W.heap.size := (Array.getElem?_eq_some_iff.1 h.box).1
  have hlo := h.hlo
  have hs6 := h6.size
  have hs7 : w6.heap.size ≤ w7.heap.size := hg.size
  obtain ⟨F, hF⟩ : ∃ F, F = w7.setCell ⟨bx, 1, none⟩ (.slice (some ⟨gg, 0, none⟩) (K.length + 1) cap) := ⟨_, rfl⟩
  have hsF : F.heap.size = w7.heap.size := by rw [hF]; simp
  have kE : ∀ k, k ≠ bx → F.heap[k]? = w7.heap[k]? := fun k h1 => by rw [hF, set_other _ _ _ _ _ h1]
  have old7 : ∀ k, k < w6.heap.size → cvv.ownBlock ≠ some k → w7.heap[k]? = w6.heap[k]? := fun k h1 h3 => by
    exact hg.block k h1 (fun e => h3 e.symm)
  have oldW : ∀ k, k < W.heap.size → k ≠ r → w6.heap[k]? = W.heap[k]? := fun k h1 h2 => h6.block k h1 h2
  have ownK : ∀ k, kv.ownBlock = some k → lo ≤ k ∧ k < W.heap.size := fun k hk => h.keys.lt k hk
  have ownC : ∀ k, cvv.ownBlock = some k → lo ≤ k ∧ k < W.heap.size := fun k hk => h.row.lt k hk
  have hbox : F.heap[bx]? = some (.cells #[kv, .slice (some ⟨gg, 0, none⟩) (K.length + 1) cap] 33 (0, 0)) := by
    have h1 : w7.heap[bx]? = some (.cells #[kv, cvv] 33 (0, 0)) := (old7 bx (by omega) h.cne).trans ((oldW bx hbx (by omega)).trans h.box)
    rw [hF]; exact set_blk (o := 1) _ h1
  have hgg : ∀ k, k < w6.heap.size → cvv.ownBlock ≠ some k → gg ≠ k := fun k h1 h2 e => by
    rcases hat with h3 | h3
    · exact h2 (by rw [h3, e])
    · omega
  rw [← hF]
  refine ⟨⟨hbox, hlo, ?_, ?_, h.kne, ?_, ?_, ?_⟩, ?_⟩
  · exact ownsRow_keep h.keys (fun k hk => by
      have := ownK k hk
      rw [kE k (fun e => h.kne (by rw [hk, e])), old7 k (by omega) (h.apart k hk), oldW k this.2 (by omega)])
  · have e1 : kcells (K ++ [(kc, cc, t)]) = kcells K ++ [kc, cc] := by rw [kcells_append]; rfl
    rw [e1, show (K ++ [(kc, cc, t)]).length = K.length + 1 by simp]
    exact ownsRow_keep hown (fun k hk => kE k (fun e => by
      have hk' : gg = k := by simpa [Value.ownBlock] using hk
      exact hgg bx (by omega) h.cne (by omega)))
  · intro e
    have hk' : gg = bx := by simpa [Value.ownBlock] using e
    exact hgg bx (by omega) h.cne hk'
  · intro k hk e
    have hk' : gg = k := by simpa [Value.ownBlock] using e
    have := ownK k hk
    exact hgg k (by omega) (h.apart k hk) hk'
  · intro x hx
    rcases List.mem_append.1 hx with hx | hx
    · refine (h.kids x hx).same (fun k hk => ?_) (fun k hk => ⟨hk.1, by omega, hk.2.2.1, hk.2.2.2.1, ?_⟩)
      · rw [kE k hk.2.2.1, old7 k (by omega) hk.2.2.2.2, oldW k hk.2.1 (by omega)]
      · intro e
        have hk' : gg = k := by simpa [Value.ownBlock] using e
        exact hgg k (by omega) hk.2.2.2.2 hk'
    · obtain rfl := List.mem_singleton.1 hx
      have nC : ∀ k, W.heap.size ≤ k → cvv.ownBlock ≠ some k := fun k h1 e => by have := (ownC k e).2; omega
      refine ht.same (fun k hk => ?_) (fun k hk => ⟨by omega, by omega, by omega, fun e => ?_, fun e => ?_⟩)
      · rw [kE k (by omega), old7 k hk.2 (nC k hk.1)]
      · have := (ownK k e).2; omega
      · have hk' : gg = k := by simpa [Value.ownBlock] using e
        exact hgg k hk.2 (nC k hk.1) hk'
  · refine ⟨?_, ?_, ?_, by omega, fun k hk hkr => ?_⟩
    · rw [hF]; exact hg.os.trans h6.os
    · rw [hF]; exact hg.tape.trans h6.tape
    · rw [hF]; exact hg.output.trans h6.output
    · rw [kE k (by omega), old7 k (by omega) (fun e => by have := (ownC k e).1; omega), oldW k (by omega) hkr]

/-- A key more. -/
theorem Sown.key {W w7 : World} {lo bx gg cap : Nat} {kv cvv : Value} {kk : List Int} {x : Int} {K : List (Value × Value × Tr)} (h : Sown W lo bx kv cvv kk K)
    (hown : w7.ownsRow lo 3 1 (.slice (some ⟨gg, 0, none⟩) (kk.length + 1) cap) (kk.length + 1) (kk.map (Value.int .i64) ++ [.int .i64 x]))
    (hg : (W.alloc (.cells #[.int .i64 x] 3)).grownBy w7 kv.ownBlock) (hat : kv.ownBlock = some gg ∨ gg = W.heap.size + 1) :
    Sown (w7.setCell ⟨bx, 0, none⟩ (.slice (some ⟨gg, 0, none⟩) (kk.length + 1) cap)) lo bx (.slice (some ⟨gg, 0, none⟩) (kk.length + 1) cap) cvv (kk ++ [x]) K ∧
    Below lo W (w7.setCell ⟨bx, 0, none⟩ (.slice (some ⟨gg, 0, none⟩) (kk.length + 1) cap)) := by
  have hbx : bx < W.heap.size := (Array.getElem?_eq_some_iff.1 h.box).1
  have hlo := h.hlo
  have hs7 : W.heap.size + 1 ≤ w7.heap.size := by have := hg.size; simpa using this
  obtain ⟨F, hF⟩ : ∃ F, F = w7.setCell ⟨bx, 0, none⟩ (.slice (some ⟨gg, 0, none⟩) (kk.length + 1) cap) := ⟨_, rfl⟩
  have hsF : F.heap.size = w7.heap.size := by rw [hF]; simp
  have kE : ∀ k, k ≠ bx → F.heap[k]? = w7.heap[k]? := fun k h1 => by rw [hF, set_other _ _ _ _ _ h1]
  have old7 : ∀ k, k < W.heap.size → kv.ownBlock ≠ some k → w7.heap[k]? = W.heap[k]? := fun k h1 h3 => by
    rw [hg.block k (by simp; omega) (fun e => h3 e.symm), old_blk _ _ _ h1]
  have ownK : ∀ k, kv.ownBlock = some k → lo ≤ k ∧ k < W.heap.size := fun k hk => h.keys.lt k hk
  have ownC : ∀ k, cvv.ownBlock = some k → lo ≤ k ∧ k < W.heap.size := fun k hk => h.row.lt k hk
  have hbox : F.heap[bx]? = some (.cells #[.slice (some ⟨gg, 0, none⟩) (kk.length + 1) cap, cvv] 33 (0, 0)) := by
    have h1 : w7.heap[bx]? = some (.cells #[kv, cvv] 33 (0, 0)) := (old7 bx hbx h.kne).trans h.box
    rw [hF]; exact set_blk (o := 0) _ h1
  have hgg : ∀ k, k < W.heap.size → kv.ownBlock ≠ some k → gg ≠ k := fun k h1 h2 e => by
    rcases hat with h3 | h3
    · exact h2 (by rw [h3, e])
    · omega
  rw [← hF]
  refine ⟨⟨hbox, hlo, ?_, ?_, ?_, h.cne, ?_, ?_⟩, ?_⟩
  · have e1 : (kk ++ [x]).map (Value.int .i64) = kk.map (Value.int .i64) ++ [.int .i64 x] := by simp
    unfold IntsOwn
    rw [e1, show (kk ++ [x]).length = kk.length + 1 by simp]
    exact ownsRow_keep hown (fun k hk => kE k (fun e => by
      have hk' : gg = k := by simpa [Value.ownBlock] using hk
      exact hgg bx (by omega) h.kne (by omega)))
  · exact ownsRow_keep h.row (fun k hk => by
      have := ownC k hk
      rw [kE k (fun e => h.cne (by rw [hk, e])), old7 k this.2 (fun e => h.apart k e hk)])
  · intro e
    have hk' : gg = bx := by simpa [Value.ownBlock] using e
    exact hgg bx (by omega) h.kne hk'
  · intro k hk e
    have hk' : gg = k := by simpa [Value.ownBlock] using hk
    have := ownC k e
    exact hgg k (by omega) (fun e2 => h.apart k e2 e) hk'
  · intro y hy
    refine (h.kids y hy).same (fun k hk => ?_) (fun k hk => ⟨hk.1, by omega, hk.2.2.1, ?_, hk.2.2.2.2⟩)
    · rw [kE k hk.2.2.1, old7 k (by omega) hk.2.2.2.1]
    · intro e
      have hk' : gg = k := by simpa [Value.ownBlock] using e
      exact hgg k (by omega) hk.2.2.2.1 hk'
  · refine ⟨?_, ?_, ?_, by omega, fun k hk => ?_⟩
    · rw [hF]; exact hg.os
    · rw [hF]; exact hg.tape
    · rw [hF]; exact hg.output
    · rw [kE k (by omega), old7 k (by omega) (fun e => by have := (ownK k e).1; omega)]
/-- The same, the row's cell in a block that is there. -/
theorem Sown.key2 {W w7 : World} {lo bx gg cap : Nat} {kv cvv : Value} {kk : List Int} {x : Int} {K : List (Value × Value × Tr)} (h : Sown W lo bx kv cvv kk K)
    (hown : w7.ownsRow lo 3 1 (.slice (some ⟨gg, 0, none⟩) (kk.length + 1) cap) (kk.length + 1) (kk.map (Value.int .i64) ++ [.int .i64 x]))
    (hg : W.grownBy w7 kv.ownBlock) (hat : kv.ownBlock = some gg ∨ gg = W.heap.size) :
    Sown (w7.setCell ⟨bx, 0, none⟩ (.slice (some ⟨gg, 0, none⟩) (kk.length + 1) cap)) lo bx (.slice (some ⟨gg, 0, none⟩) (kk.length + 1) cap) cvv (kk ++ [x]) K ∧
    Below lo W (w7.setCell ⟨bx, 0, none⟩ (.slice (some ⟨gg, 0, none⟩) (kk.length + 1) cap)) := by
  have hbx : bx < W.heap.size := (Array.getElem?_eq_some_iff.1 h.box).1
  have hlo := h.hlo
  have hs7 : W.heap.size ≤ w7.heap.size := hg.size
  obtain ⟨F, hF⟩ : ∃ F, F = w7.setCell ⟨bx, 0, none⟩ (.slice (some ⟨gg, 0, none⟩) (kk.length + 1) cap) := ⟨_, rfl⟩
  have hsF : F.heap.size = w7.heap.size := by rw [hF]; simp
  have kE : ∀ k, k ≠ bx → F.heap[k]? = w7.heap[k]? := fun k h1 => by rw [hF, set_other _ _ _ _ _ h1]
  have old7 : ∀ k, k < W.heap.size → kv.ownBlock ≠ some k → w7.heap[k]? = W.heap[k]? := fun k h1 h3 => by
    exact hg.block k h1 (fun e => h3 e.symm)
  have ownK : ∀ k, kv.ownBlock = some k → lo ≤ k ∧ k < W.heap.size := fun k hk => h.keys.lt k hk
  have ownC : ∀ k, cvv.ownBlock = some k → lo ≤ k ∧ k < W.heap.size := fun k hk => h.row.lt k hk
  have hbox : F.heap[bx]? = some (.cells #[.slice (some ⟨gg, 0, none⟩) (kk.length + 1) cap, cvv] 33 (0, 0)) := by
    have h1 : w7.heap[bx]? = some (.cells #[kv, cvv] 33 (0, 0)) := (old7 bx hbx h.kne).trans h.box
    rw [hF]; exact set_blk (o := 0) _ h1
  have hgg : ∀ k, k < W.heap.size → kv.ownBlock ≠ some k → gg ≠ k := fun k h1 h2 e => by
    rcases hat with h3 | h3
    · exact h2 (by rw [h3, e])
    · omega
  rw [← hF]
  refine ⟨⟨hbox, hlo, ?_, ?_, ?_, h.cne, ?_, ?_⟩, ?_⟩
  · have e1 : (kk ++ [x]).map (Value.int .i64) = kk.map (Value.int .i64) ++ [.int .i64 x] := by simp
    unfold IntsOwn
    rw [e1, show (kk ++ [x]).length = kk.length + 1 by simp]
    exact ownsRow_keep hown (fun k hk => kE k (fun e => by
      have hk' : gg = k := by simpa [Value.ownBlock] using hk
      exact hgg bx (by omega) h.kne (by omega)))
  · exact ownsRow_keep h.row (fun k hk => by
      have := ownC k hk
      rw [kE k (fun e => h.cne (by rw [hk, e])), old7 k this.2 (fun e => h.apart k e hk)])
  · intro e
    have hk' : gg = bx := by simpa [Value.ownBlock] using e
    exact hgg bx (by omega) h.kne hk'
  · intro k hk e
    have hk' : gg = k := by simpa [Value.ownBlock] using hk
    have := ownC k e
    exact hgg k (by omega) (fun e2 => h.apart k e2 e) hk'
  · intro y hy
    refine (h.kids y hy).same (fun k hk => ?_) (fun k hk => ⟨hk.1, by omega, hk.2.2.1, ?_, hk.2.2.2.2⟩)
    · rw [kE k hk.2.2.1, old7 k (by omega) hk.2.2.2.1]
    · intro e
      have hk' : gg = k := by simpa [Value.ownBlock] using e
      exact hgg k (by omega) hk.2.2.2.1 hk'
  · refine ⟨?_, ?_, ?_, by omega, fun k hk => ?_⟩
    · rw [hF]; exact hg.os
    · rw [hF]; exact hg.tape
    · rw [hF]; exact hg.output
    · rw [kE k (by omega), old7 k (by omega) (fun e => by have := (ownK k e).1; omega)]
end Go.Proofs.YticfkfjijnfcbaaDoor
