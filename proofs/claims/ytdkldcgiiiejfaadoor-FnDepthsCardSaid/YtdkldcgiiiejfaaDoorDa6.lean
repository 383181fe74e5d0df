/- Inserting a key, as plain data. -/
import Derived.Test.YtdkldcgiiiejfaaDoorProg
import Derived.Test.YtdkldcgiiiejfaaDoorBase
import Derived.Test.YtdkldcgiiiejfaaDoorKeys
import Derived.Test.YtdkldcgiiiejfaaDoorValid
import Derived.Test.YtdkldcgiiiejfaaDoorSorted
import Derived.Test.YtdkldcgiiiejfaaDoorRoomSpec
import Derived.Test.YtdkldcgiiiejfaaDoorDa5

/- A tree that is valid for some width has few keys. -/
namespace Go.Proofs.YtdkldcgiiiejfaaDoor
open Go.RowKit

namespace Tr
theorem keys_length (k : List Int) (c : List Tr) : (Tr.mk k c).keys.length = lens (keyss c) + k.length := by
  have hk := length_keyss c
  simp only [keys, upto_length]
  rw [List.take_of_length_le (by omega), List.take_of_length_le (by omega)]
mutual
theorem small {wide : Int} (h2 : 2 ≤ wide) : ∀ (t : Tr) (d : Int), nodesB wide (wide / 2) d t = true → t.weight + 1 ≤ 2 * t.keys.length
  | .mk k c, d, h => by
    simp only [nodesB, Bool.and_eq_true, Bool.or_eq_true] at h
    have h1 : wide / 2 ≤ (k.length : Int) := by have := h.1.1; simp [inB] at this; omega
    rw [keys_length]
    simp only [weight]
    rcases h.2 with h3 | h3
    · have hc : c = [] := by simpa using h3
      subst hc
      simp [weights, keyss, lens]; omega
    · have := smalls h2 c _ h3.2
      omega
theorem smalls {wide : Int} (h2 : 2 ≤ wide) : ∀ (c : List Tr) (d : Int), nodesAllB wide d c = true → weights c ≤ 2 * lens (keyss c)
  | [], d, _ => by simp [weights]
  | t :: r, d, h => by
    simp only [nodesAllB, Bool.and_eq_true] at h
    have h3 := small h2 t _ h.1
    have h4 := smalls h2 r _ h.2
    simp only [weights, keyss, lens]; omega
end
theorem few : ∀ (l : List Int) (lo : Int), l.Pairwise (· < ·) → (∀ x, x ∈ l → lo ≤ x ∧ x ≤ 99) → (l.length : Int) ≤ max 0 (100 - lo)
  | [], lo, _, _ => by simp; omega
  | a :: r, lo, hp, hm => by
    rw [List.pairwise_cons] at hp
    have h1 := hm a (by simp)
    have h2 := few r (a + 1) hp.2 (fun x hx => ⟨by have := hp.1 x hx; omega, (hm x (by simp [hx])).2⟩)
    simp only [List.length_cons]
    omega
theorem sorted_mem {ks : List Int} (h : sortedB ks = true) : ∀ x, x ∈ ks → 0 ≤ x ∧ x ≤ 99 := fun x hx => by
  obtain ⟨i, hi, rfl⟩ := List.mem_iff_getElem.1 hx
  simp only [sortedB, List.all_eq_true, List.mem_range] at h
  have h1 := h i hi
  simp only [okAt, Bool.and_eq_true, inB, decide_eq_true_eq] at h1
  have h2 := h1.1
  simpa [List.getD_eq_getElem?_getD, hi] using h2
theorem valid_keys {wide : Int} {t : Tr} (h : validB wide t = true) : sortedB t.keys = true := by
  simp only [validB, Bool.and_eq_true] at h; exact h.2.2
theorem valid_well {wide : Int} {t : Tr} (h : validB wide t = true) : Well t := by
  have h' := h
  simp only [validB, Bool.and_eq_true] at h'
  exact ⟨⟨wide, 0, _, h'.2.1⟩, pairwise_of_sorted h'.2.2⟩
theorem valid_small {wide : Int} {t : Tr} (h : validB wide t = true) : t.weight ≤ 200 := by
  have hk := valid_keys h
  have hf := few t.keys 0 (pairwise_of_sorted hk) (sorted_mem hk)
  have hw := valid_wide h
  simp only [validB, Bool.and_eq_true] at h
  cases t with
  | mk k c =>
    rw [keys_length] at hf
    have h' := h.2.1
    simp only [nodesB, Bool.and_eq_true, Bool.or_eq_true] at h'
    simp only [weight]
    rcases h'.2 with h3 | h3
    · have hc : c = [] := by simpa using h3
      subst hc
      simp [weights] at hf ⊢; omega
    · have := smalls hw.1 c _ h3.2
      omega
end Tr
end Go.Proofs.YtdkldcgiiiejfaaDoor

/- Inserting a key, as plain data. -/
namespace Go.Proofs.YtdkldcgiiiejfaaDoor
open Go.RowKit

/-- A list with one element more, at a place. -/
def putAt {α : Type} (k : List α) (i : Nat) (x : α) : List α := k.take i ++ x :: k.drop i
theorem putAt_length {α : Type} {k : List α} {i : Nat} {x : α} (h : i ≤ k.length) : (putAt k i x).length = k.length + 1 := by simp [putAt]; omega
theorem putAt_map {α β : Type} (f : α → β) (k : List α) (i : Nat) (x : α) : (putAt k i x).map f = putAt (k.map f) i (f x) := by simp [putAt, List.map_take, List.map_drop]

namespace Tr
def leftOf : Tr → Tr | .mk k c => .mk (k.take (k.length / 2)) (c.take (k.length / 2 + 1))
def rightOf : Tr → Tr | .mk k c => .mk (k.drop (k.length / 2 + 1)) (c.drop (k.length / 2 + 1))
def midOf : Tr → Int | .mk k _ => k.getD (k.length / 2) 0
/-- A node in which the kid at a place has been split. -/
def splitKid (k : List Int) (c : List Tr) (i : Nat) (u : Tr) : Tr := .mk (putAt k i u.midOf) (c.take i ++ u.leftOf :: u.rightOf :: c.drop (i + 1))
def setKid (c : List Tr) (i : Nat) (u : Tr) : List Tr := c.take i ++ u :: c.drop (i + 1)

/-- What a node becomes when the kid at a place has become another one, and how many have been split. -/
def growStep (wide : Int) (k : List Int) (c : List Tr) (i : Nat) (r : Tr × Nat) : Tr × Nat :=
  if wide < r.1.ks.length then (splitKid k c i r.1, r.2 + 1) else (.mk k (setKid c i r.1), r.2)
mutual
/-- What a node becomes by a key; it may have too many itself. -/
def grow (wide key : Int) : Tr → Tr × Nat
  | .mk k c => if c.length = 0 then (.mk (putAt k (place key k) key) [], 0) else growStep wide k c (place key k) ((grows wide key c).getD (place key k) (.mk [] [], 0))
def grows (wide key : Int) : List Tr → List (Tr × Nat)
  | [] => []
  | t :: r => grow wide key t :: grows wide key r
end
theorem grows_get (wide key : Int) (c : List Tr) (i : Nat) (h : i < c.length) : (grows wide key c).getD i (.mk [] [], 0) = grow wide key c[i] := by
  induction c generalizing i with
  | nil => simp at h
  | cons t r ih =>
    cases i with
    | zero => rfl
    | succ i => simpa [grows] using ih i (by simpa using h)
theorem grow_leaf {wide key : Int} {k : List Int} {c : List Tr} (h : c.length = 0) : grow wide key (.mk k c) = (.mk (putAt k (place key k) key) [], 0) := by rw [grow, if_pos h]
theorem grow_inner {wide key : Int} {k : List Int} {c : List Tr} (h : place key k < c.length) : grow wide key (.mk k c) = growStep wide k c (place key k) (grow wide key c[place key k]) := by
  rw [grow, if_neg (by omega), grows_get _ _ _ _ h]

theorem grow_keys_le (wide key : Int) (t : Tr) : (grow wide key t).1.ks.length ≤ t.ks.length + 1 := by
  cases t with
  | mk k c =>
    have hp := place_le key k
    by_cases h : c.length = 0
    · rw [grow_leaf h]; show (putAt k _ key).length ≤ k.length + 1; rw [putAt_length hp]; omega
    · rw [grow, if_neg h]
      unfold growStep
      split
      · show (putAt k _ _).length ≤ k.length + 1; rw [putAt_length hp]; omega
      · show k.length ≤ k.length + 1; omega

/-- The tree that is left when the top node has been split, too, if it has too many. -/
def insT (wide key : Int) (t : Tr) : Tr :=
  let u := (grow wide key t).1
  if wide < u.ks.length then .mk [u.midOf] [u.leftOf, u.rightOf] else u
def insN (wide key : Int) (t : Tr) : Nat :=
  let r := grow wide key t
  if wide < r.1.ks.length then r.2 + 1 else r.2
def insG (wide key : Int) (t : Tr) : Bool := decide (wide < ((grow wide key t).1.ks.length : Int))

theorem insT_step (wide key : Int) (t : Tr) : growStep wide [] [t] 0 (grow wide key t) = (if insG wide key t then (insT wide key t, insN wide key t) else (.mk [] [insT wide key t], insN wide key t)) := by
  unfold growStep insG insT insN
  by_cases h : wide < ((grow wide key t).1.ks.length : Int)
  · simp [h, splitKid, putAt]
  · simp [h, setKid]

theorem setKid_length {c : List Tr} {i : Nat} {u : Tr} (h : i < c.length) : (setKid c i u).length = c.length := by simp [setKid]; omega

mutual
/-- How many splits a key makes at most: as many as there are nodes. -/
theorem grow_count (wide key : Int) : ∀ t : Tr, (grow wide key t).2 ≤ t.weight
  | .mk k c => by
    rw [grow]
    split
    · simp
    · rename_i hc
      have h := grows_count wide key c (place key k) (by cases c <;> simp_all)
      unfold growStep
      simp only [weight]
      split <;> dsimp only <;> omega
theorem grows_count (wide key : Int) : ∀ (c : List Tr) (i : Nat), 0 < c.length → ((grows wide key c).getD i (.mk [] [], 0)).2 + 1 ≤ weights c
  | [], i, h => by simp at h
  | t :: r, i, _ => by
    have h1 := grow_count wide key t
    cases i with
    | zero => simp [grows, weights]; omega
    | succ i =>
      by_cases hr : 0 < r.length
      · have h2 := grows_count wide key r i hr
        simp only [grows, List.getD_cons_succ, weights]
        omega
      · have : r = [] := by cases r <;> simp_all
        subst this
        simp [grows, weights]
end
end Tr
end Go.Proofs.YtdkldcgiiiejfaaDoor
