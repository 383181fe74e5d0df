/- Inserting: a tree whose nodes are as a valid tree's keeps such nodes. -/
import Derived.Test.YtdcifdpkfcgmhaaDoorCwS1
import Derived.Test.YtdcifdpkfcgmhaaDoorCwS7
import Derived.Test.YtdcifdpkfcgmhaaDoorCwS10
import Derived.Test.YtdcifdpkfcgmhaaDoorCwS11
import Derived.Test.YtdcifdpkfcgmhaaDoorCwS16
import Derived.Test.YtdcifdpkfcgmhaaDoorCw7
namespace Go.Proofs.YtdcifdpkfcgmhaaDoor
open Go.RowKit

namespace Tr
/-- A node as a valid tree's, but for one key too many. -/
def Over (wide least d : Int) : Tr → Prop
  | .mk k c => (least ≤ (k.length : Int) ∧ (k.length : Int) ≤ wide + 1) ∧ ((c.length = 0 ∧ d = 1) ∨ (c.length ≠ 0 ∧ d ≠ 1 ∧ c.length = k.length + 1 ∧ k.length ≠ 0 ∧ ∀ x ∈ c, nodesB wide (wide / 2) (d - 1) x = true))
theorem nodes_mem {wide least d : Int} {k : List Int} {c : List Tr} (h : nodesB wide least d (.mk k c) = true) :
    (least ≤ (k.length : Int) ∧ (k.length : Int) ≤ wide) ∧ ((c.length = 0 ∧ d = 1) ∨ (c.length ≠ 0 ∧ d ≠ 1 ∧ c.length = k.length + 1 ∧ k.length ≠ 0 ∧ ∀ x ∈ c, nodesB wide (wide / 2) (d - 1) x = true)) := by
  obtain ⟨h1, h2⟩ := nodesB_parts h
  refine ⟨h1, h2.imp id (fun ⟨a, b, c', e, f⟩ => ⟨a, b, c', e, fun x hx => ?_⟩)⟩
  obtain ⟨i, hi, rfl⟩ := List.getElem_of_mem hx
  exact f i hi
theorem nodes_of {wide least d : Int} {k : List Int} {c : List Tr} (h : (least ≤ (k.length : Int) ∧ (k.length : Int) ≤ wide) ∧ ((c.length = 0 ∧ d = 1) ∨ (c.length ≠ 0 ∧ d ≠ 1 ∧ c.length = k.length + 1 ∧ k.length ≠ 0 ∧ ∀ x ∈ c, nodesB wide (wide / 2) (d - 1) x = true))) :
    nodesB wide least d (.mk k c) = true := by
  obtain ⟨⟨h1, h2⟩, ⟨h3, rfl⟩ | ⟨h3, h4, h5, h6, h7⟩⟩ := h
  · exact nodesB_leaf h1 h2 h3
  · exact nodesB_inner h1 h2 h4 h5 h6 (fun i hi => h7 _ (List.getElem_mem hi))
theorem Over.fits {wide least d : Int} {t : Tr} (h : Over wide least d t) (hl : (t.ks.length : Int) ≤ wide) : nodesB wide least d t = true := by
  cases t with
  | mk k c => exact nodes_of ⟨⟨h.1.1, hl⟩, h.2⟩
theorem Over.left {wide least d : Int} {t : Tr} (hw : 2 ≤ wide) (h : Over wide least d t) (hl : wide < (t.ks.length : Int)) : nodesB wide (wide / 2) d t.leftOf = true := by
  cases t with
  | mk k c =>
    obtain ⟨⟨h1, h2⟩, h3⟩ := h
    simp only [ks] at hl
    refine nodes_of ⟨⟨by simp; omega, by simp; omega⟩, ?_⟩
    rcases h3 with ⟨h3, h4⟩ | ⟨h3, h4, h5, h6, h7⟩
    · exact .inl ⟨by simp [h3], h4⟩
    · exact .inr ⟨by rw [List.length_take]; omega, h4, by rw [List.length_take, List.length_take]; omega, by rw [List.length_take]; omega, fun x hx => h7 x (List.mem_of_mem_take hx)⟩
theorem Over.right {wide least d : Int} {t : Tr} (hw : 2 ≤ wide) (h : Over wide least d t) (hl : wide < (t.ks.length : Int)) : nodesB wide (wide / 2) d t.rightOf = true := by
  cases t with
  | mk k c =>
    obtain ⟨⟨h1, h2⟩, h3⟩ := h
    simp only [ks] at hl
    refine nodes_of ⟨⟨by simp; omega, by simp; omega⟩, ?_⟩
    rcases h3 with ⟨h3, h4⟩ | ⟨h3, h4, h5, h6, h7⟩
    · exact .inl ⟨by simp [h3], h4⟩
    · exact .inr ⟨by simp; omega, h4, by simp; omega, by simp; omega, fun x hx => h7 x (List.mem_of_mem_drop hx)⟩

/-- A key more in a node as a valid tree's makes at most one too many. -/
theorem grow_over {wide : Int} (hw : 2 ≤ wide) (key : Int) : ∀ (n : Nat) (least d : Int) (t : Tr), t.weight ≤ n → nodesB wide least d t = true → Over wide least d (grow wide key t).1 := by
  intro n
  induction n with
  | zero =>
    rintro least d ⟨k, c⟩ hn h
    simp only [weight] at hn
    have hc : c.length = 0 := by have := length_le_weights c; omega
    obtain ⟨⟨h1, h2⟩, h3⟩ := nodes_mem h
    rw [grow_leaf hc]
    have hl := putAt_length (x := key) (place_le key k)
    refine ⟨⟨by rw [hl]; omega, by rw [hl]; omega⟩, .inl ⟨rfl, ?_⟩⟩
    rcases h3 with h3 | h3
    · exact h3.2
    · exact absurd hc h3.1
  | succ n ih =>
    rintro least d ⟨k, c⟩ hn h
    obtain ⟨⟨h1, h2⟩, h3⟩ := nodes_mem h
    have hl := fun x : Int => putAt_length (x := x) (place_le key k)
    rcases h3 with ⟨hc, hd⟩ | ⟨hc, hd, h5, h6, h7⟩
    · rw [grow_leaf hc]
      exact ⟨⟨by rw [hl]; omega, by rw [hl]; omega⟩, .inl ⟨rfl, hd⟩⟩
    · have hp := place_le key k
      have hi : place key k < c.length := by omega
      rw [grow_inner hi]
      have hwt := weight_get_le c _ hi
      simp only [weight] at hn
      have hu := ih (wide / 2) (d - 1) c[place key k] (by omega) (h7 _ (List.getElem_mem hi))
      generalize (grow wide key c[place key k]) = r at hu ⊢
      generalize place key k = i at *
      unfold growStep
      by_cases hs : wide < (r.1.ks.length : Int)
      · rw [if_pos hs]
        have hL := hu.left hw hs
        have hR := hu.right hw hs
        refine ⟨⟨by rw [hl]; omega, by rw [hl]; omega⟩, .inr ⟨by simp, hd, ?_, by rw [hl]; omega, fun x hx => ?_⟩⟩
        · rw [hl]; simp; omega
        · rcases List.mem_append.1 hx with hx | hx
          · exact h7 x (List.mem_of_mem_take hx)
          · rcases List.mem_cons.1 hx with rfl | hx
            · exact hL
            · rcases List.mem_cons.1 hx with rfl | hx
              · exact hR
              · exact h7 x (List.mem_of_mem_drop hx)
      · rw [if_neg hs]
        have hF := hu.fits (by omega)
        refine ⟨⟨h1, by omega⟩, .inr ⟨by simp [setKid], hd, by rw [setKid_length hi]; exact h5, h6, fun x hx => ?_⟩⟩
        rcases List.mem_append.1 hx with hx | hx
        · exact h7 x (List.mem_of_mem_take hx)
        · rcases List.mem_cons.1 hx with rfl | hx
          · exact hF
          · exact h7 x (List.mem_of_mem_drop hx)

/-- The tree that a key makes has nodes as a valid tree's. -/
theorem insT_nodes {wide : Int} (hw : 2 ≤ wide) (key : Int) {d : Int} {t : Tr} (h : nodesB wide 0 d t = true) : nodesB wide 0 (if insG wide key t then d + 1 else d) (insT wide key t) = true := by
  have hu := grow_over hw key t.weight 0 d t (Nat.le_refl _) h
  unfold insG insT
  dsimp only
  by_cases hs : wide < ((grow wide key t).1.ks.length : Int)
  · rw [if_pos hs, if_pos (by simpa using hs)]
    refine nodes_of ⟨⟨by simp, by simp; omega⟩, .inr ⟨by simp, ?_, by simp, by simp, fun x hx => ?_⟩⟩
    · have := nodesB_pos wide t.weight 0 d t (Nat.le_refl _) h
      omega
    · rw [show d + 1 - 1 = d by omega]
      simp only [List.mem_cons, List.not_mem_nil, or_false] at hx
      rcases hx with rfl | rfl
      · exact hu.left hw hs
      · exact hu.right hw hs
  · rw [if_neg hs, if_neg (by simpa using hs)]
    exact hu.fits (by omega)
/-- A tree with such nodes is as deep as told. -/
theorem nodes_depth (wide : Int) : ∀ (n : Nat) (least d : Int) (t : Tr), t.weight ≤ n → nodesB wide least d t = true → (t.depth : Int) = d := by
  intro n
  induction n with
  | zero =>
    rintro least d ⟨k, c⟩ hn h
    simp only [weight] at hn
    have hc : c.length = 0 := by have := length_le_weights c; omega
    obtain ⟨_, h3⟩ := nodesB_parts h
    rcases h3 with h3 | h3
    · rw [List.length_eq_zero_iff.1 hc, h3.2]; rfl
    · exact absurd hc h3.1
  | succ n ih =>
    rintro least d ⟨k, c⟩ hn h
    obtain ⟨_, h3⟩ := nodesB_parts h
    rcases h3 with ⟨hc, hd⟩ | ⟨hc, hd, h5, h6, h7⟩
    · rw [List.length_eq_zero_iff.1 hc, hd]; rfl
    · simp only [weight] at hn
      have hk : ∀ i (hi : i < c.length), (c[i].depth : Int) = d - 1 := fun i hi => by
        have := weight_get_le c i hi
        exact ih _ _ _ (by omega) (h7 i hi)
      have h0 := hk 0 (by omega)
      have hs := depths_same (D := (d - 1).toNat) hc (fun i hi => by have := hk i hi; omega)
      rw [depth, hs]
      omega
/-- The tree that a key makes of a valid one has a valid one's nodes, and the depth that is asked. -/
theorem insT_depth {wide : Int} (hw : 2 ≤ wide) (key : Int) {t : Tr} (h : nodesB wide 0 t.depth t = true) : nodesB wide 0 (insT wide key t).depth (insT wide key t) = true := by
  have h1 := insT_nodes hw key h
  have h2 := nodes_depth wide _ _ _ _ (Nat.le_refl _) h1
  rw [← h2] at h1
  exact h1
end Tr
end Go.Proofs.YtdcifdpkfcgmhaaDoor
