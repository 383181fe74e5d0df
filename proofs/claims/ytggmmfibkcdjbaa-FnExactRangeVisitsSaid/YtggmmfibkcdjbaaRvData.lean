/- Finding: plain data: how many nodes are visited to find a range. -/
import Derived.Test.YtggmmfibkcdjbaaBase
import Derived.Test.YtggmmfibkcdjbaaPathData
import Derived.Test.YtggmmfibkcdjbaaFindData
namespace Go.Proofs.Ytggmmfibkcdjbaa
open Go.RowKit

/-- The sum of some numbers from place f up to place to, as far as the first n go. -/
def rsum (f to : Nat) (vs : List Nat) : Nat → Nat
  | 0 => 0
  | n + 1 => rsum f to vs n + (if f ≤ n ∧ n < to then vs.getD n 0 else 0)
theorem rsum_in {f to : Nat} {vs : List Nat} {n : Nat} (h : f ≤ n ∧ n < to) : rsum f to vs (n + 1) = rsum f to vs n + vs.getD n 0 := by rw [rsum, if_pos h]
theorem rsum_out {f to : Nat} {vs : List Nat} {n : Nat} (h : ¬ (f ≤ n ∧ n < to)) : rsum f to vs (n + 1) = rsum f to vs n := by rw [rsum, if_neg h]; rfl
theorem rsum_ahead {f to : Nat} {vs : List Nat} : ∀ {n : Nat}, n ≤ f → rsum f to vs n = 0
  | 0, _ => rfl
  | n + 1, h => by rw [rsum_out (by omega), rsum_ahead (by omega)]
theorem rsum_behind {f to : Nat} {vs : List Nat} : ∀ {n : Nat}, to ≤ n → rsum f to vs n = rsum f to vs to
  | 0, h => by rw [show to = 0 by omega]
  | n + 1, h => by
    by_cases e : to = n + 1
    · rw [e]
    · rw [rsum_out (by omega), rsum_behind (by omega)]
theorem rsum_le {f to : Nat} {vs : List Nat} : ∀ (n : Nat), rsum f to vs n ≤ (vs.take n).sum
  | 0 => by simp [rsum]
  | n + 1 => by
    have := rsum_le (f := f) (to := to) (vs := vs) n
    rw [rsum, List.take_add_one, List.sum_append]
    split
    · cases h : vs[n]? with
      | none => simp [List.getD_eq_getElem?_getD, h]; omega
      | some v => simp [List.getD_eq_getElem?_getD, h]; omega
    · omega
theorem take_sum_le (vs : List Nat) (n : Nat) : (vs.take n).sum ≤ vs.sum := by
  conv => rhs; rw [← List.take_append_drop n vs, List.sum_append]
  omega

namespace Tr
mutual
/-- How many nodes are visited. -/
def rv (low high : Int) : Tr → Nat
  | .mk k c => 1 + rsum (place (low + 1) k) (place high k + 1) (rvs low high c) c.length
def rvs (low high : Int) : List Tr → List Nat
  | [] => []
  | t :: r => rv low high t :: rvs low high r
end
theorem rvs_length (low high : Int) (c : List Tr) : (rvs low high c).length = c.length := by
  induction c with
  | nil => rfl
  | cons t r ih => simp only [rvs, List.length_cons, ih]
theorem rvs_get (low high : Int) (c : List Tr) (i : Nat) (h : i < c.length) : (rvs low high c).getD i 0 = c[i].rv low high := by
  induction c generalizing i with
  | nil => simp at h
  | cons t r ih =>
    cases i with
    | zero => simp [rvs]
    | succ i => simpa [rvs] using ih i (by simpa using h)
mutual
theorem rv_le (low high : Int) : ∀ t : Tr, t.rv low high ≤ t.count
  | .mk k c => by
    have h1 := rvs_le low high c
    have h2 := rsum_le (f := place (low + 1) k) (to := place high k + 1) (vs := rvs low high c) c.length
    have h3 := take_sum_le (rvs low high c) c.length
    simp only [rv, count]; omega
theorem rvs_le (low high : Int) : ∀ c : List Tr, (rvs low high c).sum ≤ counts c
  | [] => by simp [rvs, counts]
  | t :: r => by have := rv_le low high t; have := rvs_le low high r; simp only [rvs, counts, List.sum_cons]; omega
end
theorem rv_part (low high : Int) (k : List Int) (c : List Tr) (n : Nat) : rsum (place (low + 1) k) (place high k + 1) (rvs low high c) n ≤ counts c :=
  Nat.le_trans (rsum_le n) (Nat.le_trans (take_sum_le _ _) (rvs_le low high c))
theorem rv_leaf {low high : Int} {k : List Int} {c : List Tr} (h : c.length = 0) : (Tr.mk k c).rv low high = 1 := by
  rw [rv, h]; rfl
/-- As the program adds them up: from the first to the last that are visited. -/
theorem rv_span {low high : Int} {k : List Int} {c : List Tr} (h : place high k + 1 ≤ c.length) : (Tr.mk k c).rv low high = 1 + rsum (place (low + 1) k) (place high k + 1) (rvs low high c) (place high k + 1) := by
  rw [rv, rsum_behind h]

/-- In a list that ascends a key is less than a number exactly if it stands ahead of the number's place. -/
theorem lt_iff_place {k : List Int} (hs : k.Pairwise (· < ·)) {c : Int} {i : Nat} (hi : i < k.length) : k.getD i 0 < c ↔ i < place c k := by
  constructor
  · intro h
    by_cases hp : place c k < k.length
    · have hg := place_ge hp
      by_cases hlt : i < place c k
      · exact hlt
      · exfalso
        by_cases he : place c k = i
        · rw [he] at hg; omega
        · have h1 := List.pairwise_iff_getElem.1 hs (place c k) i hp hi (by omega)
          have e1 : k.getD i 0 = k[i] := by simp [List.getD_eq_getElem?_getD, hi]
          have e2 : k.getD (place c k) 0 = k[place c k] := by simp [List.getD_eq_getElem?_getD, hp]
          rw [e1] at h; rw [e2] at hg; omega
    · have := place_le c k; omega
  · intro h; exact place_lt h
theorem place_mono (k : List Int) {a b : Int} (h : a ≤ b) : place a k ≤ place b k := by
  induction k with
  | nil => simp [place]
  | cons x r ih =>
    simp only [place]
    by_cases h1 : x < a
    · rw [if_pos h1, if_pos (by omega)]; omega
    · rw [if_neg h1]; omega
/-- At most one key lies in a step of one. -/
theorem place_step {k : List Int} (hs : k.Pairwise (· < ·)) (c : Int) : place (c + 1) k ≤ place c k + 1 := by
  induction k with
  | nil => simp [place]
  | cons x r ih =>
    have hr := (List.pairwise_cons.1 hs).2
    simp only [place]
    by_cases h1 : x < c
    · rw [if_pos h1, if_pos (by omega)]; have := ih hr; omega
    · rw [if_neg h1]
      by_cases h2 : x < c + 1
      · rw [if_pos h2]
        have h3 : place (c + 1) r = 0 := by
          cases r with
          | nil => rfl
          | cons y r' =>
            have := (List.pairwise_cons.1 hs).1 y (by simp)
            simp only [place]; rw [if_neg (by omega)]
        omega
      · rw [if_neg h2]; omega
theorem place_span {k : List Int} (hs : k.Pairwise (· < ·)) {low high : Int} (h : low ≤ high) : place (low + 1) k ≤ place high k + 1 := by
  have h1 := place_step hs low
  have h2 := place_mono k h
  omega

/-- How many nodes are visited, in a tree that is valid. -/
def rvB (low high : Int) (t : Tr) : Int := if t.someB = true ∧ low ≤ high then (t.rv low high : Int) else -1
theorem rvB_is (low high : Int) (t : Tr) : (t.someB = true → low ≤ high → t.rvB low high = (t.rv low high : Int)) ∧ (t.someB = false → t.rvB low high = -1) ∧ (¬ low ≤ high → t.rvB low high = -1) := by
  unfold rvB
  refine ⟨fun h1 h2 => by rw [if_pos ⟨h1, h2⟩], fun h => by rw [if_neg]; rw [h]; simp, fun h => by rw [if_neg (fun x => h x.2)]⟩
end Tr
end Go.Proofs.Ytggmmfibkcdjbaa
