/- Deleting: the key that stands in for one, as plain data. -/
import Derived.Test.YtdcifdpkfcgmhaaDoorCbS1
import Derived.Test.YtdcifdpkfcgmhaaDoorCbS16
import Derived.Test.YtdcifdpkfcgmhaaDoorCb6
namespace Go.Proofs.YtdcifdpkfcgmhaaDoor
open Go.RowKit

namespace Tr
mutual
/-- The greatest key. -/
def greatest : Tr → Int
  | .mk k cs => if cs.length = 0 then k.getD (k.length - 1) 0 else (greatests cs).getD (cs.length - 1) 0
def greatests : List Tr → List Int
  | [] => []
  | t :: r => greatest t :: greatests r
end
theorem greatests_get (cs : List Tr) (i : Nat) (h : i < cs.length) : (greatests cs).getD i 0 = cs[i].greatest := by
  induction cs generalizing i with
  | nil => simp at h
  | cons t r ih =>
    cases i with
    | zero => simp [greatests]
    | succ i => simpa [greatests] using ih i (by simpa using h)
theorem greatest_leaf {k : List Int} {cs : List Tr} (h : cs.length = 0) : (Tr.mk k cs).greatest = k.getD (k.length - 1) 0 := by
  rw [greatest, if_pos h]
theorem greatest_inner {k : List Int} {cs : List Tr} (h : cs.length - 1 < cs.length) : (Tr.mk k cs).greatest = cs[cs.length - 1].greatest := by
  rw [greatest, if_neg (by omega), greatests_get cs _ h]

mutual
/-- The key that stands in for one, if it is found in a node with kids. -/
def stand (key : Int) : Tr → Int × Bool
  | .mk k cs =>
    if place key k < k.length ∧ k.getD (place key k) 0 = key then (if cs.length = 0 then (0, false) else ((greatests cs).getD (place key k) 0, true))
    else (stands key cs).getD (place key k) (0, false)
def stands (key : Int) : List Tr → List (Int × Bool)
  | [] => []
  | t :: r => stand key t :: stands key r
end
theorem stands_get (key : Int) (cs : List Tr) (i : Nat) (h : i < cs.length) : (stands key cs).getD i (0, false) = cs[i].stand key := by
  induction cs generalizing i with
  | nil => simp at h
  | cons t r ih =>
    cases i with
    | zero => simp [stands]
    | succ i => simpa [stands] using ih i (by simpa using h)
theorem stands_length (key : Int) (cs : List Tr) : (stands key cs).length = cs.length := by
  induction cs with
  | nil => rfl
  | cons t r ih => simp only [stands, List.length_cons, ih]
theorem stand_found {key : Int} {k : List Int} {cs : List Tr} (h : place key k < k.length ∧ k.getD (place key k) 0 = key) (hi : place key k < cs.length) : (Tr.mk k cs).stand key = (cs[place key k].greatest, true) := by
  rw [stand, if_pos h, if_neg (by omega), greatests_get cs _ hi]
theorem stand_leaf {key : Int} {k : List Int} {cs : List Tr} (h : cs.length = 0) : (Tr.mk k cs).stand key = (0, false) := by
  have h2 : (stands key cs).getD (place key k) (0, false) = (0, false) := by
    rw [List.getD_eq_getElem?_getD, List.getElem?_eq_none (by rw [stands_length]; omega)]; rfl
  rw [stand, h2, if_pos h, ite_self]
theorem stand_inner {key : Int} {k : List Int} {cs : List Tr} (h : ¬ (place key k < k.length ∧ k.getD (place key k) 0 = key)) (hi : place key k < cs.length) : (Tr.mk k cs).stand key = cs[place key k].stand key := by
  rw [stand, if_neg h, stands_get key cs _ hi]

/-- The answer to a question that is asked of a tree. -/
def standB (wide key : Int) (t : Tr) : Int × Bool := if t.validB wide = true then t.stand key else (0, false)

/-- A node has a number among its keys, and kids. -/
def hit (key : Int) (t : Tr) : Bool := t.hasAt key && t.inner
theorem way_stand' (key : Int) : ∀ (n : Nat) (t : Tr), t.weight ≤ n → Well t →
    (∀ pre x, pre ++ [x] <+: t.way key → (∀ y ∈ pre, y.hit key = false) → x.hit key = true → t.stand key = x.stand key) ∧
    ((∀ y ∈ t.way key, y.hit key = false) → t.stand key = (0, false)) := by
  intro n
  induction n with
  | zero =>
    rintro ⟨k, cs⟩ hn hw
    simp only [weight] at hn
    have hc : cs.length = 0 := by have := length_le_weights cs; omega
    rw [way_leaf hc]
    refine ⟨fun pre x hp _ _ => ?_, fun _ => stand_leaf hc⟩
    have hxm : x = .mk k cs := by have := hp.subset (by simp : x ∈ pre ++ [x]); simpa using this
    rw [hxm]
  | succ n ih =>
    rintro ⟨k, cs⟩ hn hw
    by_cases hc : cs.length = 0
    · rw [way_leaf hc]
      refine ⟨fun pre x hp _ _ => ?_, fun _ => stand_leaf hc⟩
      have hxm : x = .mk k cs := by have := hp.subset (by simp : x ∈ pre ++ [x]); simpa using this
      rw [hxm]
    · have hcl := Well.inner hw hc
      have hp := place_le key k
      have hi : place key k < cs.length := by omega
      rw [way_inner hi]
      have hwt := weight_get_le cs _ hi
      simp only [weight] at hn
      obtain ⟨ih1, ih2⟩ := ih cs[place key k] (by omega) (Well.kid hw _ hi)
      have hin : inner (.mk k cs) = true := by simp [inner, Tr.cs]; intro h; simp [h] at hc
      have hno : (Tr.mk k cs).hit key = false → ¬ (place key k < k.length ∧ k.getD (place key k) 0 = key) := by
        intro h
        simpa [hit, hin, hasAt, ks] using h
      refine ⟨fun pre x hp hpre hx => ?_, fun h => ?_⟩
      · cases pre with
        | nil =>
          have hxm : x = .mk k cs := by
            obtain ⟨r, hr⟩ := hp
            simp at hr
            exact hr.1
          rw [hxm]
        | cons y pre =>
          obtain ⟨r, hr⟩ := hp
          simp only [List.cons_append, List.cons.injEq] at hr
          obtain ⟨rfl, hr⟩ := hr
          rw [stand_inner (hno (hpre (.mk k cs) (by simp))) hi]
          exact ih1 pre x ⟨r, hr⟩ (fun y hy => hpre y (by simp [hy])) hx
      · rw [stand_inner (hno (h (.mk k cs) (by simp))) hi]
        exact ih2 (fun y hy => h y (by simp [hy]))
theorem way_stand (key : Int) (t : Tr) (hw : Well t) :
    (∀ pre x, pre ++ [x] <+: t.way key → (∀ y ∈ pre, y.hit key = false) → x.hit key = true → t.stand key = x.stand key) ∧
    ((∀ y ∈ t.way key, y.hit key = false) → t.stand key = (0, false)) := way_stand' key t.weight t (Nat.le_refl _) hw

/-- A key that is not found has none. -/
theorem stand_none' (key : Int) : ∀ (n : Nat) (t : Tr), t.weight ≤ n → Well t → (t.path key).2 = false → t.stand key = (0, false) := by
  intro n
  induction n with
  | zero =>
    rintro ⟨k, cs⟩ hn hw _
    simp only [weight] at hn
    exact stand_leaf (by have := length_le_weights cs; omega)
  | succ n ih =>
    rintro ⟨k, cs⟩ hn hw hf
    by_cases hc : cs.length = 0
    · exact stand_leaf hc
    · have hcl := Well.inner hw hc
      have hp := place_le key k
      have hi : place key k < cs.length := by omega
      have hwt := weight_get_le cs _ hi
      simp only [weight] at hn
      by_cases h : place key k < k.length ∧ k.getD (place key k) 0 = key
      · rw [path_found h] at hf; cases hf
      · rw [path_inner h hi] at hf
        rw [stand_inner h hi]
        exact ih _ (by omega) (Well.kid hw _ hi) hf
theorem stand_none (key : Int) (t : Tr) (hw : Well t) (h : (t.path key).2 = false) : t.stand key = (0, false) := stand_none' key t.weight t (Nat.le_refl _) hw h

/-- A step of the path to a key that is found. -/
theorem path_step {key i : Int} {r : List Int} {k : List Int} {cs : List Tr} (h : (Tr.mk k cs).path key = (i :: r, true)) (hw : Well (.mk k cs)) :
    ∃ hi : place key k < cs.length, i = (place key k : Int) ∧ cs[place key k].path key = (r, true) ∧ (Tr.mk k cs).stand key = cs[place key k].stand key := by
  by_cases hf : place key k < k.length ∧ k.getD (place key k) 0 = key
  · rw [path_found hf] at h; simp at h
  · by_cases hc : cs.length = 0
    · rw [path_leaf hf hc] at h; simp at h
    · have hcl := Well.inner hw hc
      have hp := place_le key k
      have hi : place key k < cs.length := by omega
      rw [path_inner hf hi] at h
      simp only [Prod.mk.injEq, List.cons.injEq] at h
      exact ⟨hi, h.1.1.symm, Prod.ext h.1.2 h.2, stand_inner hf hi⟩
/-- Its end. -/
theorem path_end {key : Int} {k : List Int} {cs : List Tr} (h : (Tr.mk k cs).path key = ([], true)) (hw : Well (.mk k cs)) :
    place key k < k.length ∧ k.getD (place key k) 0 = key := by
  by_cases hf : place key k < k.length ∧ k.getD (place key k) 0 = key
  · exact hf
  · by_cases hc : cs.length = 0
    · rw [path_leaf hf hc] at h; simp at h
    · have hcl := Well.inner hw hc
      have hp := place_le key k
      rw [path_inner hf (by omega)] at h
      simp at h

/-- A tree whose nodes are as a valid tree's, with a key at least; one that may be a valid tree's root. -/
def Full (t : Tr) : Prop := ∃ wide least d, 2 ≤ wide ∧ 1 ≤ least ∧ nodesB wide least d t = true
def Tops (t : Tr) : Prop := ∃ wide least d, 2 ≤ wide ∧ nodesB wide least d t = true
theorem Full.tops {t : Tr} (h : Full t) : Tops t := by obtain ⟨w, l, d, h1, _, h3⟩ := h; exact ⟨w, l, d, h1, h3⟩
theorem Tops.kid {k : List Int} {c : List Tr} (h : Tops (.mk k c)) (i : Nat) (hi : i < c.length) : Full c[i] := by
  obtain ⟨w, l, d, h1, hn⟩ := h
  rcases (nodesB_parts hn).2 with ⟨h1, _⟩ | ⟨_, _, _, _, h5⟩
  · omega
  · exact ⟨_, _, _, h1, by omega, h5 i hi⟩
theorem Full.keys {k : List Int} {c : List Tr} (h : Full (.mk k c)) : k.length ≠ 0 := by
  obtain ⟨w, l, d, h1, h2, hn⟩ := h
  have := (nodesB_parts hn).1
  omega
theorem Tops.of_valid {t : Tr} {wide : Int} (h : validB wide t = true) (hw : 2 ≤ wide) : Tops t := by
  unfold validB at h
  simp only [Bool.and_eq_true] at h
  exact ⟨wide, 0, _, hw, h.2.1⟩
theorem someB_valid {t : Tr} {wide : Int} (h : validB wide t = true) : t.someB = true := by
  have h1 : 2 ≤ wide ∧ wide ≤ 6 := by
    have h := h
    unfold validB at h
    simp only [Bool.and_eq_true, inB, decide_eq_true_eq] at h
    exact h.1
  have hq : ((wide.toNat : Nat) : Int) = wide := by omega
  exact (someB_of t).1 wide.toNat (by omega) (by omega) (by rw [hq]; exact h)
theorem way_tops' (c : Int) : ∀ (n : Nat) (t : Tr), t.weight ≤ n → Well t → Tops t → ∀ x ∈ t.way c, Tops x := by
  intro n
  induction n with
  | zero =>
    rintro ⟨k, cs⟩ hn hw ht
    simp only [weight] at hn
    have hc : cs.length = 0 := by have := length_le_weights cs; omega
    rw [way_leaf hc]
    exact fun x hx => by simp at hx; subst hx; exact ht
  | succ n ih =>
    rintro ⟨k, cs⟩ hn hw ht
    by_cases hc : cs.length = 0
    · rw [way_leaf hc]
      exact fun x hx => by simp at hx; subst hx; exact ht
    · have hcl := Well.inner hw hc
      have hp := place_le c k
      have hi : place c k < cs.length := by omega
      rw [way_inner hi]
      have hwt := weight_get_le cs _ hi
      simp only [weight] at hn
      intro x hx
      rcases List.mem_cons.1 hx with rfl | hx
      · exact ht
      · exact ih cs[place c k] (by omega) (Well.kid hw _ hi) (Tops.kid ht _ hi).tops x hx
theorem way_tops (c : Int) (t : Tr) (hw : Well t) (ht : Tops t) : ∀ x ∈ t.way c, Tops x := way_tops' c t.weight t (Nat.le_refl _) hw ht
end Tr
end Go.Proofs.YtdcifdpkfcgmhaaDoor
