/- Inserting a key, as plain data. -/
import Derived.Test.YtbdamminjbaaoaaDoorProg
import Derived.Test.YtbdamminjbaaoaaDoorCkS1
import Derived.Test.YtbdamminjbaaoaaDoorCkS27
namespace Go.Proofs.YtbdamminjbaaoaaDoor
open Go.RowKit

/-- A list with one element more, at a place. -/
def putAt {α : Type} (k : List α) (i : Nat) (x : α) : List α := k.take i ++ x :: k.drop i
theorem putAt_length {α : Type} {k : List α} {i : Nat} {x : α} (h : i ≤ k.length) : (putAt k i x).length = k.length + 1 := by simp [putAt]; omega
theorem putAt_map {α β : Type} (f : α → β) (k : List α) (i : Nat) (x : α) : (putAt k i x).map f = putAt (k.map f) i (f x) := by simp [putAt, List.map_take, List.map_drop]

namespace Tr
def leftOf : Tr → Tr | .mk k c => .mk (k.take (k.length / 2)) (c.take (k.length / 2 + 1))
def rightOf : Tr → Tr | .mk k c => .mk (k.drop (k.length / 2 + 1)) (c.drop (k.length / 2 + 1))
def midOf : Tr → Int | .mk k _ => k.getD (k.length / 2) 0
/-- A node in which the kid at a place has been split. -/
def splitKid (k : List Int) (c : List Tr) (i : Nat) (u : Tr) : Tr := .mk (putAt k i u.midOf) (c.take i ++ u.leftOf :: u.rightOf :: c.drop (i + 1))
def setKid (c : List Tr) (i : Nat) (u : Tr) : List Tr := c.take i ++ u :: c.drop (i + 1)

/-- What a node becomes when the kid at a place has become another one, and how many have been split. -/
def growStep (wide : Int) (k : List Int) (c : List Tr) (i : Nat) (r : Tr × Nat) : Tr × Nat :=
  if wide < r.1.ks.length then (splitKid k c i r.1, r.2 + 1) else (.mk k (setKid c i r.1), r.2)
mutual
/-- What a node becomes by a key; it may have too many itself. -/
def grow (wide key : Int) : Tr → Tr × Nat
  | .mk k c => if c.length = 0 then (.mk (putAt k (place key k) key) [], 0) else growStep wide k c (place key k) ((grows wide key c).getD (place key k) (.mk [] [], 0))
def grows (wide key : Int) : List Tr → List (Tr × Nat)
  | [] => []
  | t :: r => grow wide key t :: grows wide key r
end
theorem grows_get (wide key : Int) (c : List Tr) (i : Nat) (h : i < c.length) : (grows wide key c).getD i (.mk [] [], 0) = grow wide key c[i] := by
  induction c generalizing i with
  | nil => simp at h
  | cons t r ih =>
    cases i with
    | zero => rfl
    | succ i => simpa [grows] using ih i (by simpa using h)
theorem grow_leaf {wide key : Int} {k : List Int} {c : List Tr} (h : c.length = 0) : grow wide key (.mk k c) = (.mk (putAt k (place key k) key) [], 0) := by rw [grow, if_pos h]
theorem grow_inner {wide key : Int} {k : List Int} {c : List Tr} (h : place key k < c.length) : grow wide key (.mk k c) = growStep wide k c (place key k) (grow wide key c[place key k]) := by
  rw [grow, if_neg (by omega), grows_get _ _ _ _ h]

theorem grow_keys_le (wide key : Int) (t : Tr) : (grow wide key t).1.ks.length ≤ t.ks.length + 1 := by
  cases t with
  | mk k c =>
    have hp := place_le key k
    by_cases h : c.length = 0
    · rw [grow_leaf h]; show (putAt k _ key).length ≤ k.length + 1; rw [putAt_length hp]; omega
    · rw [grow, if_neg h]
      unfold growStep
      split
      · show (putAt k _ _).length ≤ k.length + 1; rw [putAt_length hp]; omega
      · show k.length ≤ k.length + 1; omega

/-- The tree that is left when the top node has been split, too, if it has too many. -/
def insT (wide key : Int) (t : Tr) : Tr :=
  let u := (grow wide key t).1
  if wide < u.ks.length then .mk [u.midOf] [u.leftOf, u.rightOf] else u
def insN (wide key : Int) (t : Tr) : Nat :=
  let r := grow wide key t
  if wide < r.1.ks.length then r.2 + 1 else r.2
def insG (wide key : Int) (t : Tr) : Bool := decide (wide < ((grow wide key t).1.ks.length : Int))

theorem insT_step (wide key : Int) (t : Tr) : growStep wide [] [t] 0 (grow wide key t) = (if insG wide key t then (insT wide key t, insN wide key t) else (.mk [] [insT wide key t], insN wide key t)) := by
  unfold growStep insG insT insN
  by_cases h : wide < ((grow wide key t).1.ks.length : Int)
  · simp [h, splitKid, putAt]
  · simp [h, setKid]

theorem setKid_length {c : List Tr} {i : Nat} {u : Tr} (h : i < c.length) : (setKid c i u).length = c.length := by simp [setKid]; omega

mutual
/-- How many splits a key makes at most: as many as there are nodes. -/
theorem grow_count (wide key : Int) : ∀ t : Tr, (grow wide key t).2 ≤ t.weight
  | .mk k c => by
    rw [grow]
    split
    · simp
    · rename_i hc
      have h := grows_count wide key c (place key k) (by cases c <;> simp_all)
      unfold growStep
      simp only [weight]
      split <;> dsimp only <;> omega
theorem grows_count (wide key : Int) : ∀ (c : List Tr) (i : Nat), 0 < c.length → ((grows wide key c).getD i (.mk [] [], 0)).2 + 1 ≤ weights c
  | [], i, h => by simp at h
  | t :: r, i, _ => by
    have h1 := grow_count wide key t
    cases i with
    | zero => simp [grows, weights]; omega
    | succ i =>
      by_cases hr : 0 < r.length
      · have h2 := grows_count wide key r i hr
        simp only [grows, List.getD_cons_succ, weights]
        omega
      · have : r = [] := by cases r <;> simp_all
        subst this
        simp [grows, weights]
end
end Tr
end Go.Proofs.YtbdamminjbaaoaaDoor
