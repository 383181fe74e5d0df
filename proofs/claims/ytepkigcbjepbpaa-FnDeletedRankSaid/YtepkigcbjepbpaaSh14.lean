/- How many keys the fullest leaf has; the model's RoomOf. -/
import Derived.Test.YtepkigcbjepbpaaProg
import Derived.Test.YtepkigcbjepbpaaSh0
import Derived.Test.YtepkigcbjepbpaaSh1
import Derived.Test.YtepkigcbjepbpaaSh3
import Derived.Test.YtepkigcbjepbpaaSh12
import Derived.Test.YtepkigcbjepbpaaSh13
import Derived.Test.YtepkigcbjepbpaaSh2
import Derived.Test.YtepkigcbjepbpaaSh4

/- The model's KeyAt. -/
namespace Go.Proofs.Ytepkigcbjepbpaa
open Go.RowKit

def keyL (keys : List Int) (r : Int) : Int × Bool := if 0 ≤ r ∧ r < (keys.length : Int) then (keys.getD r.toNat 0, true) else (0, false)
def Tr.keyAtB (r : Int) (t : Tr) : Int × Bool := if t.someB then keyL t.keys r else (0, false)
-- END

end Go.Proofs.Ytepkigcbjepbpaa

/- Finding: a key is found where it is among the keys in order; plain data. -/
namespace Go.Proofs.Ytepkigcbjepbpaa
open Go.RowKit

theorem sorted_get {ks : List Int} (h : ks.Pairwise (· < ·)) {i j : Nat} (hij : i < j) (hj : j < ks.length) : ks.getD i 0 < ks.getD j 0 := by
  have := List.pairwise_iff_getElem.1 h i j (by omega) hj hij
  simpa [List.getD_eq_getElem?_getD, hj, show i < ks.length by omega] using this

theorem place_get {ks : List Int} (h : ks.Pairwise (· < ·)) {i : Nat} (hi : i < ks.length) : place (ks.getD i 0) ks = i :=
  place_eq (by omega) (fun j hj => sorted_get h hj hi) (fun _ => by omega)

theorem place_mem {ks : List Int} (h : ks.Pairwise (· < ·)) {x : Int} (hx : x ∈ ks) : place x ks < ks.length ∧ ks.getD (place x ks) 0 = x := by
  obtain ⟨i, hi, rfl⟩ := List.mem_iff_getElem.1 hx
  have e : ks[i] = ks.getD i 0 := by simp [List.getD_eq_getElem?_getD, hi]
  rw [e, place_get h hi]
  exact ⟨hi, rfl⟩

namespace Tr
end Tr
end Go.Proofs.Ytepkigcbjepbpaa

/- Inserting: a tree whose nodes are as a valid tree's keeps such nodes. -/
namespace Go.Proofs.Ytepkigcbjepbpaa
open Go.RowKit

namespace Tr
def Over (wide least d : Int) : Tr → Prop
  | .mk k c => (least ≤ (k.length : Int) ∧ (k.length : Int) ≤ wide + 1) ∧ ((c.length = 0 ∧ d = 1) ∨ (c.length ≠ 0 ∧ d ≠ 1 ∧ c.length = k.length + 1 ∧ k.length ≠ 0 ∧ ∀ x ∈ c, nodesB wide (wide / 2) (d - 1) x = true))
theorem nodes_mem {wide least d : Int} {k : List Int} {c : List Tr} (h : nodesB wide least d (.mk k c) = true) :
    (least ≤ (k.length : Int) ∧ (k.length : Int) ≤ wide) ∧ ((c.length = 0 ∧ d = 1) ∨ (c.length ≠ 0 ∧ d ≠ 1 ∧ c.length = k.length + 1 ∧ k.length ≠ 0 ∧ ∀ x ∈ c, nodesB wide (wide / 2) (d - 1) x = true)) := by
  obtain ⟨h1, h2⟩ := nodesB_parts h
  refine ⟨h1, h2.imp id (fun ⟨a, b, c', e, f⟩ => ⟨a, b, c', e, fun x hx => ?_⟩)⟩
  obtain ⟨i, hi, rfl⟩ := List.getElem_of_mem hx
  exact f i hi
theorem nodes_of {wide least d : Int} {k : List Int} {c : List Tr} (h : (least ≤ (k.length : Int) ∧ (k.length : Int) ≤ wide) ∧ ((c.length = 0 ∧ d = 1) ∨ (c.length ≠ 0 ∧ d ≠ 1 ∧ c.length = k.length + 1 ∧ k.length ≠ 0 ∧ ∀ x ∈ c, nodesB wide (wide / 2) (d - 1) x = true))) :
    nodesB wide least d (.mk k c) = true := by
  obtain ⟨⟨h1, h2⟩, ⟨h3, rfl⟩ | ⟨h3, h4, h5, h6, h7⟩⟩ := h
  · exact nodesB_leaf h1 h2 h3
  · exact nodesB_inner h1 h2 h4 h5 h6 (fun i hi => h7 _ (List.getElem_mem hi))
theorem nodes_depth (wide : Int) : ∀ (n : Nat) (least d : Int) (t : Tr), t.weight ≤ n → nodesB wide least d t = true → (t.depth : Int) = d := by
  intro n
  induction n with
  | zero =>
    rintro least d ⟨k, c⟩ hn h
    simp only [weight] at hn
    have hc : c.length = 0 := by have := length_le_weights c; omega
    obtain ⟨_, h3⟩ := nodesB_parts h
    rcases h3 with h3 | h3
    · rw [List.length_eq_zero_iff.1 hc, h3.2]; rfl
    · exact absurd hc h3.1
  | succ n ih =>
    rintro least d ⟨k, c⟩ hn h
    obtain ⟨_, h3⟩ := nodesB_parts h
    rcases h3 with ⟨hc, hd⟩ | ⟨hc, hd, h5, h6, h7⟩
    · rw [List.length_eq_zero_iff.1 hc, hd]; rfl
    · simp only [weight] at hn
      have hk : ∀ i (hi : i < c.length), (c[i].depth : Int) = d - 1 := fun i hi => by
        have := weight_get_le c i hi
        exact ih _ _ _ (by omega) (h7 i hi)
      have h0 := hk 0 (by omega)
      have hs := depths_same (D := (d - 1).toNat) hc (fun i hi => by have := hk i hi; omega)
      rw [depth, hs]
      omega
end Tr
end Go.Proofs.Ytepkigcbjepbpaa

/- How many keys the fullest leaf has; the model's RoomOf. -/
namespace Go.Proofs.Ytepkigcbjepbpaa
open Go.RowKit

namespace Tr
mutual
def leafMax : Tr → Nat
  | .mk k c => max (if c.length = 0 then k.length else 0) (leafMaxs c)
def leafMaxs : List Tr → Nat
  | [] => 0
  | t :: r => max (leafMax t) (leafMaxs r)
end
mutual
theorem leafMax_le {wide : Int} (h0 : 0 ≤ wide) : ∀ (t : Tr) (least depth : Int), nodesB wide least depth t = true → (t.leafMax : Int) ≤ wide
  | .mk k c, least, depth, h => by
    simp only [nodesB, Bool.and_eq_true, Bool.or_eq_true] at h
    have h1 : (k.length : Int) ≤ wide := by have := h.1.1; simp [inB] at this; omega
    rcases h.2 with h2 | h2
    · have hc : c = [] := by simpa using h2
      subst hc
      simp [leafMax, leafMaxs]; omega
    · have := leafMaxs_le h0 c _ h2.2
      simp only [leafMax]
      split <;> omega
theorem leafMaxs_le {wide : Int} (h0 : 0 ≤ wide) : ∀ (c : List Tr) (depth : Int), nodesAllB wide depth c = true → (leafMaxs c : Int) ≤ wide
  | [], depth, _ => by simpa [leafMaxs] using h0
  | t :: r, depth, h => by
    simp only [nodesAllB, Bool.and_eq_true] at h
    have h1 := leafMax_le h0 t _ _ h.1
    have h2 := leafMaxs_le h0 r _ h.2
    simp only [leafMaxs]; omega
end
def roomB (wide : Int) (t : Tr) : Int := if validB wide t then wide - t.leafMax else -1
theorem valid_wide {wide : Int} {t : Tr} (h : validB wide t = true) : 2 ≤ wide ∧ wide ≤ 6 := by
  simp only [validB, Bool.and_eq_true, inB, decide_eq_true_eq] at h
  exact h.1
end Tr



end Go.Proofs.Ytepkigcbjepbpaa
