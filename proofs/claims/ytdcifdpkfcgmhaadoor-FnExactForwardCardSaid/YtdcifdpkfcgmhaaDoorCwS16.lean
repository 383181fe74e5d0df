/- Finding: plain data: places in a node, the way down. -/
import Derived.Test.YtdcifdpkfcgmhaaDoorCwS1
import Derived.Test.YtdcifdpkfcgmhaaDoorCwS5
import Derived.Test.YtdcifdpkfcgmhaaDoorCwS7
import Derived.Test.YtdcifdpkfcgmhaaDoorCwS8
import Derived.Test.YtdcifdpkfcgmhaaDoorCwS10
import Derived.Test.YtdcifdpkfcgmhaaDoorCwS11
import Derived.Test.YtdcifdpkfcgmhaaDoorCw3
namespace Go.Proofs.YtdcifdpkfcgmhaaDoor
open Go.RowKit

/-- How many keys stand ahead of the first that is not less than a number. -/
def place (key : Int) : List Int → Nat
  | [] => 0
  | k :: r => if k < key then place key r + 1 else 0

theorem place_le (key : Int) (ks : List Int) : place key ks ≤ ks.length := by
  induction ks with
  | nil => simp [place]
  | cons k r ih => simp only [place, List.length_cons]; split <;> omega

theorem place_eq {key : Int} : ∀ {ks : List Int} {j : Nat}, j ≤ ks.length → (∀ i, i < j → ks.getD i 0 < key) → (j < ks.length → ¬ ks.getD j 0 < key) → place key ks = j
  | [], j, h, _, _ => by simp at h; simp [place, h]
  | k :: r, 0, _, _, h2 => by
    have := h2 (by simp)
    simp only [List.getD_cons_zero] at this
    simp [place, this]
  | k :: r, j + 1, h, h1, h2 => by
    have h0 := h1 0 (by omega)
    simp only [List.getD_cons_zero] at h0
    have := place_eq (key := key) (ks := r) (j := j) (by simpa using h) (fun i hi => by have := h1 (i + 1) (by omega); simpa using this) (fun hj => by have := h2 (by simpa using hj); simpa using this)
    simp [place, h0, this]

namespace Tr
def ks : Tr → List Int | .mk k _ => k
def cs : Tr → List Tr | .mk _ c => c
mutual
/-- Which kids one goes to, and whether the key is there. -/
def path (key : Int) : Tr → List Int × Bool
  | .mk k c =>
    if place key k < k.length ∧ k.getD (place key k) 0 = key then ([], true)
    else if c.length = 0 then ([], false)
    else ((place key k : Int) :: ((paths key c).getD (place key k) ([], false)).1, ((paths key c).getD (place key k) ([], false)).2)
def paths (key : Int) : List Tr → List (List Int × Bool)
  | [] => []
  | t :: r => path key t :: paths key r
end
theorem paths_get (key : Int) (c : List Tr) (i : Nat) (h : i < c.length) : (paths key c).getD i ([], false) = c[i].path key := by
  induction c generalizing i with
  | nil => simp at h
  | cons t r ih =>
    cases i with
    | zero => simp [paths]
    | succ i => simpa [paths] using ih i (by simpa using h)
theorem path_found {key : Int} {k : List Int} {c : List Tr} (h : place key k < k.length ∧ k.getD (place key k) 0 = key) : (Tr.mk k c).path key = ([], true) := by
  rw [path, if_pos h]
theorem path_leaf {key : Int} {k : List Int} {c : List Tr} (h : ¬ (place key k < k.length ∧ k.getD (place key k) 0 = key)) (h0 : c.length = 0) : (Tr.mk k c).path key = ([], false) := by
  rw [path, if_neg h, if_pos h0]
theorem path_inner {key : Int} {k : List Int} {c : List Tr} (h : ¬ (place key k < k.length ∧ k.getD (place key k) 0 = key)) (hi : place key k < c.length) :
    (Tr.mk k c).path key = ((place key k : Int) :: (c[place key k].path key).1, (c[place key k].path key).2) := by
  rw [path, if_neg h, if_neg (by omega), paths_get key c _ hi]
theorem paths_length (key : Int) (c : List Tr) : (paths key c).length = c.length := by
  induction c with
  | nil => rfl
  | cons t r ih => simp only [paths, List.length_cons, ih]
theorem path_len' (key : Int) : ∀ (n : Nat) (t : Tr), t.weight ≤ n → (t.path key).1.length ≤ t.weight
  | n, .mk k c, hn => by
    rw [path]
    split
    · simp
    · split
      · simp
      · simp only [List.length_cons, weight] at *
        by_cases hi : place key k < c.length
        · rw [paths_get key c _ hi]
          have h1 := weight_get_le c _ hi
          cases n with
          | zero => omega
          | succ n =>
            have := path_len' key n c[place key k] (by omega)
            omega
        · have h2 := paths_length key c
          rw [List.getD_eq_getElem?_getD, List.getElem?_eq_none (by omega)]
          have := length_le_weights c
          simp; omega
theorem path_len (key : Int) (t : Tr) : (t.path key).1.length ≤ t.weight := path_len' key t.weight t (Nat.le_refl _)
/-- The path in a tree that is valid for some width. -/
def pathB (key : Int) (t : Tr) : List Int × Bool := if t.someB then t.path key else ([], false)

/-- Each node has one kid more than keys, or none; and its keys ascend. -/
def Well (t : Tr) : Prop := (∃ wide least d, nodesB wide least d t = true) ∧ t.keys.Pairwise (· < ·)

theorem Well.inner {k : List Int} {c : List Tr} (h : Well (.mk k c)) (h0 : c.length ≠ 0) : c.length = k.length + 1 := by
  obtain ⟨⟨w, l, d, h⟩, _⟩ := h
  rcases (nodesB_parts h).2 with ⟨h1, _⟩ | ⟨_, _, h3, _⟩
  · exact absurd h1 h0
  · exact h3

theorem part_sub (kss : List (List Int)) (ks : List Int) (n i : Nat) (h : i < n) : (part kss ks i).Sublist (upto kss ks n) := by
  induction n with
  | zero => omega
  | succ n ih =>
    rw [upto_succ]
    by_cases hi : i < n
    · exact (ih hi).trans (List.sublist_append_left _ _)
    · obtain rfl : i = n := by omega
      exact List.sublist_append_right _ _

theorem kid_sub {k : List Int} {c : List Tr} (i : Nat) (hi : i < c.length) : (c[i].keys).Sublist (Tr.mk k c).keys := by
  have h := part_sub (keyss c) k (max k.length c.length) i (by omega)
  refine List.Sublist.trans ?_ h
  unfold part
  rw [keyss_get c i hi]
  exact List.sublist_append_left _ _

theorem take_sub (kss : List (List Int)) (ks : List Int) (n : Nat) : (ks.take n).Sublist (upto kss ks n) := by
  induction n with
  | zero => simp
  | succ n ih =>
    rw [upto_succ, List.take_add_one]
    refine List.Sublist.append ih ?_
    unfold part
    exact List.sublist_append_right _ _

theorem own_sub (k : List Int) (c : List Tr) : k.Sublist (Tr.mk k c).keys := by
  have h := take_sub (keyss c) k (max k.length c.length)
  rw [List.take_of_length_le (by omega)] at h
  exact h

theorem Well.keys {k : List Int} {c : List Tr} (h : Well (.mk k c)) : k.Pairwise (· < ·) := h.2.sublist (own_sub k c)

theorem Well.kid {k : List Int} {c : List Tr} (h : Well (.mk k c)) (i : Nat) (hi : i < c.length) : Well c[i] := by
  obtain ⟨⟨w, l, d, hn⟩, hp⟩ := h
  rcases (nodesB_parts hn).2 with ⟨h1, _⟩ | ⟨_, _, _, _, h5⟩
  · omega
  · exact ⟨⟨_, _, _, h5 i hi⟩, hp.sublist (kid_sub i hi)⟩

theorem pairwise_of_sorted {ks : List Int} (h : sortedB ks = true) : ks.Pairwise (· < ·) := by
  have hstep : ∀ i, i + 1 < ks.length → ks.getD i 0 < ks.getD (i + 1) 0 := fun i hi => by
    have h1 := okAt_get h (i + 1) hi
    simp only [okAt, inB, Bool.and_eq_true, decide_eq_true_eq, Bool.or_eq_true, Nat.add_sub_cancel] at h1
    omega
  have hall : ∀ d i, i + d + 1 < ks.length → ks.getD i 0 < ks.getD (i + d + 1) 0 := by
    intro d
    induction d with
    | zero => intro i hi; exact hstep i hi
    | succ d ih => intro i hi; have := ih i (by omega); have := hstep (i + d + 1) (by omega); rw [show i + (d + 1) + 1 = i + d + 1 + 1 by omega]; omega
  rw [List.pairwise_iff_getElem]
  intro i j hi hj hij
  have := hall (j - i - 1) i (by omega)
  rw [show i + (j - i - 1) + 1 = j by omega] at this
  simpa [List.getD_eq_getElem?_getD, hi, hj] using this

theorem Well.of_some {t : Tr} (h : t.someB = true) : Well t := by
  have hv : ∃ w : Int, validB w t = true := by
    unfold someB at h
    simp only [Bool.or_eq_true] at h
    rcases h with (((h | h) | h) | h) | h
    all_goals exact ⟨_, h⟩
  obtain ⟨w, hv⟩ := hv
  unfold validB at hv
  simp only [Bool.and_eq_true] at hv
  exact ⟨⟨w, 0, _, hv.2.1⟩, pairwise_of_sorted hv.2.2⟩
end Tr

theorem someB_path (key : Int) (t : Tr) : (t.someB = true → t.pathB key = t.path key) ∧ (t.someB = false → t.pathB key = ([], false)) := by
  unfold Tr.pathB
  constructor <;> intro h <;> simp [h]
end Go.Proofs.YtdcifdpkfcgmhaaDoor
