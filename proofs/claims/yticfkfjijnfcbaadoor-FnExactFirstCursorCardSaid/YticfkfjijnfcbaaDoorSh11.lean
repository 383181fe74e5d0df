/- Deleting: the key that stands in for one, as plain data. -/
import Derived.Test.YticfkfjijnfcbaaDoorSh0
import Derived.Test.YticfkfjijnfcbaaDoorKeys
import Derived.Test.YticfkfjijnfcbaaDoorSh7

/- Finding: plain data: what stands next to a number, how many keys are less. -/
namespace Go.Proofs.YticfkfjijnfcbaaDoor
open Go.RowKit

theorem place_lt {c : Int} : ∀ {k : List Int} {i : Nat}, i < place c k → k.getD i 0 < c
  | [], i, h => by simp [place] at h
  | x :: r, i, h => by
    simp only [place] at h
    split at h
    · cases i with
      | zero => simpa using ‹x < c›
      | succ i => simpa using place_lt (k := r) (by omega)
    · omega
theorem place_ge {c : Int} : ∀ {k : List Int}, place c k < k.length → c ≤ k.getD (place c k) 0
  | [], h => by simp at h
  | x :: r, h => by
    simp only [place] at h ⊢
    split
    · rename_i hx
      rw [if_pos hx] at h
      simpa using place_ge (k := r) (by simpa using h)
    · simp; omega
theorem place_append_lt {c : Int} : ∀ {a b : List Int}, (∀ x ∈ a, x < c) → place c (a ++ b) = a.length + place c b
  | [], b, _ => by simp
  | x :: r, b, h => by
    have h1 := h x (by simp)
    have h2 := place_append_lt (a := r) (b := b) (fun y hy => h y (by simp [hy]))
    simp only [List.cons_append, place, if_pos h1, h2, List.length_cons]; omega
theorem place_append_ge {c : Int} : ∀ {a b : List Int}, (∀ x r, b = x :: r → c ≤ x) → place c (a ++ b) = place c a
  | [], b, h => by
    cases b with
    | nil => rfl
    | cons x r => simp only [List.nil_append, place]; rw [if_neg (by have := h x r rfl; omega)]
  | x :: r, b, h => by
    have h2 := place_append_ge (a := r) (b := b) h
    simp only [List.cons_append, place, h2]
theorem find_place (c : Int) (k : List Int) : k.find? (fun x => decide (c ≤ x)) = k[place c k]? := by
  induction k with
  | nil => rfl
  | cons x r ih =>
    simp only [place]
    by_cases h : x < c
    · rw [if_pos h, List.find?_cons_of_neg (by simp; omega), ih]; simp
    · rw [if_neg h, List.find?_cons_of_pos (by simp; omega)]; simp

namespace Tr
theorem upto_pre (kss : List (List Int)) (k : List Int) (p n : Nat) (h : p ≤ n) : ∃ R, upto kss k n = upto kss k p ++ R ∧ (p = n → R = []) := by
  induction h with
  | refl => exact ⟨[], by simp, fun _ => rfl⟩
  | step h ih =>
    obtain ⟨R, h1, h2⟩ := ih
    rename_i m
    have h : p ≤ m := h
    refine ⟨R ++ part kss k m, by rw [upto_succ, h1, List.append_assoc], fun e => by omega⟩

/-- The keys of a node parted at a number: those ahead of the kid where it belongs, those of the kid, those behind it. -/
theorem Well.split {k : List Int} {cs : List Tr} (h : Well (.mk k cs)) (hc : cs.length ≠ 0) (c : Int) (hp : place c k < cs.length) :
    ∃ R, (Tr.mk k cs).keys = upto (keyss cs) k (place c k) ++ (cs[place c k].keys ++ ((k[place c k]?).toList ++ R)) ∧ (∀ x ∈ upto (keyss cs) k (place c k), x < c) ∧ (place c k = k.length → R = []) := by
  have hcl := Well.inner h hc
  obtain ⟨R, h1, h2⟩ := upto_pre (keyss cs) k (place c k + 1) (max k.length cs.length) (by omega)
  have hk : (Tr.mk k cs).keys = upto (keyss cs) k (place c k) ++ (cs[place c k].keys ++ ((k[place c k]?).toList ++ R)) := by
    rw [Tr.keys, h1, upto_succ, part, keyss_get cs _ hp]; simp
  refine ⟨R, hk, fun x hx => ?_, fun e => h2 (by omega)⟩
  have hs := h.2
  rw [hk] at hs
  have hs' := (List.pairwise_append.1 hs).1
  by_cases h0 : place c k = 0
  · rw [h0] at hx; simp [upto] at hx
  · obtain ⟨q, hq⟩ : ∃ q, place c k = q + 1 := ⟨place c k - 1, by omega⟩
    have hle := place_le c k
    have hlast : upto (keyss cs) k (place c k) = (upto (keyss cs) k q ++ ((keyss cs)[q]?).getD []) ++ [k.getD q 0] := by
      rw [hq, upto_succ, part, List.append_assoc]
      have : (k[q]?).toList = [k.getD q 0] := by
        have hlt : q < k.length := by omega
        simp [hlt, List.getD_eq_getElem?_getD]
      rw [this]
    rw [hlast] at hs' hx
    have hq' : k.getD q 0 < c := place_lt (by omega)
    rcases List.mem_append.1 hx with hx | hx
    · have := (List.pairwise_append.1 hs').2.2 x hx (k.getD q 0) (by simp)
      omega
    · simp at hx; rw [hx, ← List.getD_eq_getElem?_getD]; exact hq'

theorem keys_leaf {k : List Int} {cs : List Tr} (hc : cs.length = 0) : (Tr.mk k cs).keys = k := by
  have h0 : cs = [] := List.length_eq_zero_iff.1 hc
  subst h0
  rw [keys]
  have : ∀ n, n ≤ k.length → upto (keyss []) k n = k.take n := by
    intro n
    induction n with
    | zero => intro _; simp [upto]
    | succ n ih =>
      intro hn
      rw [upto_succ, ih (by omega), part, List.take_add_one]; simp [keyss]
  simp only [List.length_nil, Nat.max_zero]
  rw [this _ (Nat.le_refl _), List.take_length]

/-- The head of what stands behind the kid. -/
theorem behind_ge {k R : List Int} {c : Int} (hR : place c k = k.length → R = []) : ∀ x r, (k[place c k]?).toList ++ R = x :: r → c ≤ x := by
  intro x r h
  by_cases hp : place c k < k.length
  · have h1 : (k[place c k]?).toList = [k.getD (place c k) 0] := by simp [hp, List.getD_eq_getElem?_getD]
    rw [h1] at h
    simp only [List.cons_append, List.cons.injEq] at h
    rw [← h.1]; exact place_ge hp
  · have := place_le c k
    rw [hR (by omega), List.getElem?_eq_none (by omega)] at h
    simp at h

def nextStep (c : Int) (acc : Int × Bool) (x : Tr) : Int × Bool := if place c x.ks < x.ks.length then (x.ks.getD (place c x.ks) 0, true) else acc
def prevStep (c : Int) (acc : Int × Bool) (x : Tr) : Int × Bool := if 0 < place c x.ks then (x.ks.getD (place c x.ks - 1) 0, true) else acc
theorem nextStep_mk (c : Int) (acc : Int × Bool) (k : List Int) (cs : List Tr) : nextStep c acc (.mk k cs) = if place c k < k.length then (k.getD (place c k) 0, true) else acc := rfl
theorem prevStep_mk (c : Int) (acc : Int × Bool) (k : List Int) (cs : List Tr) : prevStep c acc (.mk k cs) = if 0 < place c k then (k.getD (place c k - 1) 0, true) else acc := rfl
theorem getD_right {a b : List Int} {i : Nat} (h : a.length ≤ i) : (a ++ b).getD i 0 = b.getD (i - a.length) 0 := by
  rw [List.getD_eq_getElem?_getD, List.getElem?_append_right h, ← List.getD_eq_getElem?_getD]
theorem getD_left {a b : List Int} {i : Nat} (h : i < a.length) : (a ++ b).getD i 0 = a.getD i 0 := by
  rw [List.getD_eq_getElem?_getD, List.getElem?_append_left h, ← List.getD_eq_getElem?_getD]
def optOr (o : Option Int) (acc : Int × Bool) : Int × Bool := match o with | some k => (k, true) | none => acc
def prevOf (c : Int) (keys : List Int) (acc : Int × Bool) : Int × Bool := if 0 < place c keys then (keys.getD (place c keys - 1) 0, true) else acc

theorem next_way' (c : Int) : ∀ (n : Nat) (t : Tr), t.weight ≤ n → Well t → ∀ acc, (t.way c).foldl (nextStep c) acc = optOr (t.keys.find? (fun x => decide (c ≤ x))) acc := by
  intro n
  have hleaf : ∀ (k : List Int) (cs : List Tr), cs.length = 0 → ∀ acc, ((Tr.mk k cs).way c).foldl (nextStep c) acc = optOr ((Tr.mk k cs).keys.find? (fun x => decide (c ≤ x))) acc := by
    intro k cs hc acc
    rw [way_leaf hc, keys_leaf hc, find_place]
    rw [List.foldl_cons, List.foldl_nil, nextStep_mk]
    by_cases h : place c k < k.length
    · rw [if_pos h]; simp [optOr, h, List.getD_eq_getElem?_getD]
    · rw [if_neg h, List.getElem?_eq_none (by omega)]; rfl
  induction n with
  | zero =>
    rintro ⟨k, cs⟩ hn hw acc
    simp only [weight] at hn
    exact hleaf k cs (by have := length_le_weights cs; omega) acc
  | succ n ih =>
    rintro ⟨k, cs⟩ hn hw acc
    by_cases hc : cs.length = 0
    · exact hleaf k cs hc acc
    · have hcl := Well.inner hw hc
      have hpl := place_le c k
      have hi : place c k < cs.length := by omega
      have hwt := weight_get_le cs _ hi
      simp only [weight] at hn
      obtain ⟨R, h1, h2, h3⟩ := Well.split hw hc c hi
      rw [way_inner hi, List.foldl_cons, ih _ (by omega) (Well.kid hw _ hi), h1, List.find?_append, List.find?_append]
      have e1 : (upto (keyss cs) k (place c k)).find? (fun x => decide (c ≤ x)) = none := by
        rw [List.find?_eq_none]; intro x hx; have := h2 x hx; simp; omega
      rw [e1, Option.none_or]
      cases hf : cs[place c k].keys.find? (fun x => decide (c ≤ x)) with
      | some y => simp [optOr]
      | none =>
        rw [Option.none_or, nextStep_mk, optOr]
        by_cases h : place c k < k.length
        · have hg := place_ge h
          have h4 : (k[place c k]?).toList = [k.getD (place c k) 0] := by simp [h, List.getD_eq_getElem?_getD]
          rw [if_pos h, h4, List.singleton_append, List.find?_cons_of_pos (by simpa using hg)]; rfl
        · rw [if_neg h, h3 (by omega), List.getElem?_eq_none (by omega)]; rfl

theorem next_way (c : Int) (t : Tr) (hw : Well t) (acc : Int × Bool) : (t.way c).foldl (nextStep c) acc = optOr (t.keys.find? (fun x => decide (c ≤ x))) acc := next_way' c t.weight t (Nat.le_refl _) hw acc

/-- What is next behind a number, in a tree that is valid. -/
def nextB (key : Int) (t : Tr) : Int × Bool := if t.someB then optOr (t.keys.find? (fun x => decide (key + 1 ≤ x))) (0, false) else (0, false)
theorem nextB_is (key : Int) (t : Tr) : (t.someB = true → t.nextB key = optOr (t.keys.find? (fun x => decide (key + 1 ≤ x))) (0, false)) ∧ (t.someB = false → t.nextB key = (0, false)) := by
  unfold nextB; constructor <;> intro h <;> simp [h]

theorem upto_length_le (kss : List (List Int)) (k : List Int) (p : Nat) (h : p ≤ k.length) : p ≤ (upto kss k p).length := by
  rw [upto_length, List.length_take]; omega

theorem prev_way' (c : Int) : ∀ (n : Nat) (t : Tr), t.weight ≤ n → Well t → ∀ acc, (t.way c).foldl (prevStep c) acc = prevOf c t.keys acc := by
  intro n
  have hleaf : ∀ (k : List Int) (cs : List Tr), cs.length = 0 → ∀ acc, ((Tr.mk k cs).way c).foldl (prevStep c) acc = prevOf c (Tr.mk k cs).keys acc := by
    intro k cs hc acc
    rw [way_leaf hc, keys_leaf hc]
    rw [List.foldl_cons, List.foldl_nil, prevStep_mk, prevOf]
  induction n with
  | zero =>
    rintro ⟨k, cs⟩ hn hw acc
    simp only [weight] at hn
    exact hleaf k cs (by have := length_le_weights cs; omega) acc
  | succ n ih =>
    rintro ⟨k, cs⟩ hn hw acc
    by_cases hc : cs.length = 0
    · exact hleaf k cs hc acc
    · have hcl := Well.inner hw hc
      have hpl := place_le c k
      have hi : place c k < cs.length := by omega
      have hwt := weight_get_le cs _ hi
      simp only [weight] at hn
      obtain ⟨R, h1, h2, h3⟩ := Well.split hw hc c hi
      rw [way_inner hi, List.foldl_cons, ih _ (by omega) (Well.kid hw _ hi)]
      unfold prevOf
      rw [h1, place_append_lt h2, place_append_ge (behind_ge h3)]
      have hul := upto_length_le (keyss cs) k (place c k) hpl
      by_cases hk : 0 < place c cs[place c k].keys
      · have hpk := place_le c cs[place c k].keys
        rw [if_pos hk, if_pos (by omega)]
        congr 1
        rw [getD_right (by omega), getD_left (by omega)]
        congr 1; omega
      · rw [if_neg hk]
        rw [prevStep_mk]
        by_cases h0 : 0 < place c k
        · rw [if_pos h0, if_pos (by omega)]
          congr 1
          obtain ⟨q, hq⟩ : ∃ q, place c k = q + 1 := ⟨place c k - 1, by omega⟩
          have hlast : upto (keyss cs) k (place c k) = (upto (keyss cs) k q ++ ((keyss cs)[q]?).getD []) ++ [k.getD q 0] := by
            rw [hq, upto_succ, part, List.append_assoc]
            have : (k[q]?).toList = [k.getD q 0] := by
              have hlt : q < k.length := by omega
              simp [hlt, List.getD_eq_getElem?_getD]
            rw [this]
          have e0 : place c cs[place c k].keys = 0 := by omega
          rw [e0, hlast]
          simp only [List.length_append, List.length_cons, List.length_nil, Nat.add_zero]
          rw [getD_left (by simp), getD_right (by simp), hq]
          simp
        · have e1 : place c k = 0 := by omega
          have e0 : place c cs[place c k].keys = 0 := by omega
          rw [if_neg h0, e0, if_neg]
          rw [e1]; simp [upto]

theorem prev_way (c : Int) (t : Tr) (hw : Well t) (acc : Int × Bool) : (t.way c).foldl (prevStep c) acc = prevOf c t.keys acc := prev_way' c t.weight t (Nat.le_refl _) hw acc

/-- What is next ahead of a number, in a tree that is valid. -/
def prevB (key : Int) (t : Tr) : Int × Bool := if t.someB then prevOf key t.keys (0, false) else (0, false)
theorem prevB_is (key : Int) (t : Tr) : (t.someB = true → t.prevB key = prevOf key t.keys (0, false)) ∧ (t.someB = false → t.prevB key = (0, false)) := by
  unfold prevB; constructor <;> intro h <;> simp [h]

/-- How many keys are less than a number, node by node on the way. -/
def rankStep (c : Int) (x : Tr) : Nat := (upto (keyss x.cs) x.ks (place c x.ks)).length
theorem rank_way' (c : Int) : ∀ (n : Nat) (t : Tr), t.weight ≤ n → Well t → ((t.way c).map (rankStep c)).sum = place c t.keys := by
  intro n
  have hleaf : ∀ (k : List Int) (cs : List Tr), cs.length = 0 → (((Tr.mk k cs).way c).map (rankStep c)).sum = place c (Tr.mk k cs).keys := by
    intro k cs hc
    rw [way_leaf hc, keys_leaf hc]
    have h0 : cs = [] := List.length_eq_zero_iff.1 hc
    subst h0
    have hp := place_le c k
    simp only [List.map_cons, List.map_nil, List.sum_cons, List.sum_nil, rankStep, ks, Tr.cs, keyss]
    rw [upto_length]
    simp [lens]; omega
  induction n with
  | zero =>
    rintro ⟨k, cs⟩ hn hw
    simp only [weight] at hn
    exact hleaf k cs (by have := length_le_weights cs; omega)
  | succ n ih =>
    rintro ⟨k, cs⟩ hn hw
    by_cases hc : cs.length = 0
    · exact hleaf k cs hc
    · have hcl := Well.inner hw hc
      have hpl := place_le c k
      have hi : place c k < cs.length := by omega
      have hwt := weight_get_le cs _ hi
      simp only [weight] at hn
      obtain ⟨R, h1, h2, h3⟩ := Well.split hw hc c hi
      rw [way_inner hi, List.map_cons, List.sum_cons, ih _ (by omega) (Well.kid hw _ hi), h1, place_append_lt h2, place_append_ge (behind_ge h3)]
      rfl
theorem rank_way (c : Int) (t : Tr) (hw : Well t) : ((t.way c).map (rankStep c)).sum = place c t.keys := rank_way' c t.weight t (Nat.le_refl _) hw
end Tr
end Go.Proofs.YticfkfjijnfcbaaDoor

/- Deleting: the key that stands in for one, as plain data. -/
namespace Go.Proofs.YticfkfjijnfcbaaDoor
open Go.RowKit

namespace Tr
mutual
/-- The greatest key. -/
def greatest : Tr → Int
  | .mk k cs => if cs.length = 0 then k.getD (k.length - 1) 0 else (greatests cs).getD (cs.length - 1) 0
def greatests : List Tr → List Int
  | [] => []
  | t :: r => greatest t :: greatests r
end
theorem greatests_get (cs : List Tr) (i : Nat) (h : i < cs.length) : (greatests cs).getD i 0 = cs[i].greatest := by
  induction cs generalizing i with
  | nil => simp at h
  | cons t r ih =>
    cases i with
    | zero => simp [greatests]
    | succ i => simpa [greatests] using ih i (by simpa using h)
theorem greatest_leaf {k : List Int} {cs : List Tr} (h : cs.length = 0) : (Tr.mk k cs).greatest = k.getD (k.length - 1) 0 := by
  rw [greatest, if_pos h]
theorem greatest_inner {k : List Int} {cs : List Tr} (h : cs.length - 1 < cs.length) : (Tr.mk k cs).greatest = cs[cs.length - 1].greatest := by
  rw [greatest, if_neg (by omega), greatests_get cs _ h]

mutual
/-- The key that stands in for one, if it is found in a node with kids. -/
def stand (key : Int) : Tr → Int × Bool
  | .mk k cs =>
    if place key k < k.length ∧ k.getD (place key k) 0 = key then (if cs.length = 0 then (0, false) else ((greatests cs).getD (place key k) 0, true))
    else (stands key cs).getD (place key k) (0, false)
def stands (key : Int) : List Tr → List (Int × Bool)
  | [] => []
  | t :: r => stand key t :: stands key r
end
theorem stands_get (key : Int) (cs : List Tr) (i : Nat) (h : i < cs.length) : (stands key cs).getD i (0, false) = cs[i].stand key := by
  induction cs generalizing i with
  | nil => simp at h
  | cons t r ih =>
    cases i with
    | zero => simp [stands]
    | succ i => simpa [stands] using ih i (by simpa using h)
theorem stands_length (key : Int) (cs : List Tr) : (stands key cs).length = cs.length := by
  induction cs with
  | nil => rfl
  | cons t r ih => simp only [stands, List.length_cons, ih]
theorem stand_found {key : Int} {k : List Int} {cs : List Tr} (h : place key k < k.length ∧ k.getD (place key k) 0 = key) (hi : place key k < cs.length) : (Tr.mk k cs).stand key = (cs[place key k].greatest, true) := by
  rw [stand, if_pos h, if_neg (by omega), greatests_get cs _ hi]
theorem stand_leaf {key : Int} {k : List Int} {cs : List Tr} (h : cs.length = 0) : (Tr.mk k cs).stand key = (0, false) := by
  have h2 : (stands key cs).getD (place key k) (0, false) = (0, false) := by
    rw [List.getD_eq_getElem?_getD, List.getElem?_eq_none (by rw [stands_length]; omega)]; rfl
  rw [stand, h2, if_pos h, ite_self]
theorem stand_inner {key : Int} {k : List Int} {cs : List Tr} (h : ¬ (place key k < k.length ∧ k.getD (place key k) 0 = key)) (hi : place key k < cs.length) : (Tr.mk k cs).stand key = cs[place key k].stand key := by
  rw [stand, if_neg h, stands_get key cs _ hi]

/-- The answer to a question that is asked of a tree. -/
def standB (wide key : Int) (t : Tr) : Int × Bool := if t.validB wide = true then t.stand key else (0, false)

/-- A node has a number among its keys, and kids. -/
def hit (key : Int) (t : Tr) : Bool := t.hasAt key && t.inner
theorem way_stand' (key : Int) : ∀ (n : Nat) (t : Tr), t.weight ≤ n → Well t →
    (∀ pre x, pre ++ [x] <+: t.way key → (∀ y ∈ pre, y.hit key = false) → x.hit key = true → t.stand key = x.stand key) ∧
    ((∀ y ∈ t.way key, y.hit key = false) → t.stand key = (0, false)) := by
  intro n
  induction n with
  | zero =>
    rintro ⟨k, cs⟩ hn hw
    simp only [weight] at hn
    have hc : cs.length = 0 := by have := length_le_weights cs; omega
    rw [way_leaf hc]
    refine ⟨fun pre x hp _ _ => ?_, fun _ => stand_leaf hc⟩
    have hxm : x = .mk k cs := by have := hp.subset (by simp : x ∈ pre ++ [x]); simpa using this
    rw [hxm]
  | succ n ih =>
    rintro ⟨k, cs⟩ hn hw
    by_cases hc : cs.length = 0
    · rw [way_leaf hc]
      refine ⟨fun pre x hp _ _ => ?_, fun _ => stand_leaf hc⟩
      have hxm : x = .mk k cs := by have := hp.subset (by simp : x ∈ pre ++ [x]); simpa using this
      rw [hxm]
    · have hcl := Well.inner hw hc
      have hp := place_le key k
      have hi : place key k < cs.length := by omega
      rw [way_inner hi]
      have hwt := weight_get_le cs _ hi
      simp only [weight] at hn
      obtain ⟨ih1, ih2⟩ := ih cs[place key k] (by omega) (Well.kid hw _ hi)
      have hin : inner (.mk k cs) = true := by simp [inner, Tr.cs]; intro h; simp [h] at hc
      have hno : (Tr.mk k cs).hit key = false → ¬ (place key k < k.length ∧ k.getD (place key k) 0 = key) := by
        intro h
        simpa [hit, hin, hasAt, ks] using h
      refine ⟨fun pre x hp hpre hx => ?_, fun h => ?_⟩
      · cases pre with
        | nil =>
          have hxm : x = .mk k cs := by
            obtain ⟨r, hr⟩ := hp
            simp at hr
            exact hr.1
          rw [hxm]
        | cons y pre =>
          obtain ⟨r, hr⟩ := hp
          simp only [List.cons_append, List.cons.injEq] at hr
          obtain ⟨rfl, hr⟩ := hr
          rw [stand_inner (hno (hpre (.mk k cs) (by simp))) hi]
          exact ih1 pre x ⟨r, hr⟩ (fun y hy => hpre y (by simp [hy])) hx
      · rw [stand_inner (hno (h (.mk k cs) (by simp))) hi]
        exact ih2 (fun y hy => h y (by simp [hy]))
theorem way_stand (key : Int) (t : Tr) (hw : Well t) :
    (∀ pre x, pre ++ [x] <+: t.way key → (∀ y ∈ pre, y.hit key = false) → x.hit key = true → t.stand key = x.stand key) ∧
    ((∀ y ∈ t.way key, y.hit key = false) → t.stand key = (0, false)) := way_stand' key t.weight t (Nat.le_refl _) hw

/-- A key that is not found has none. -/
theorem stand_none' (key : Int) : ∀ (n : Nat) (t : Tr), t.weight ≤ n → Well t → (t.path key).2 = false → t.stand key = (0, false) := by
  intro n
  induction n with
  | zero =>
    rintro ⟨k, cs⟩ hn hw _
    simp only [weight] at hn
    exact stand_leaf (by have := length_le_weights cs; omega)
  | succ n ih =>
    rintro ⟨k, cs⟩ hn hw hf
    by_cases hc : cs.length = 0
    · exact stand_leaf hc
    · have hcl := Well.inner hw hc
      have hp := place_le key k
      have hi : place key k < cs.length := by omega
      have hwt := weight_get_le cs _ hi
      simp only [weight] at hn
      by_cases h : place key k < k.length ∧ k.getD (place key k) 0 = key
      · rw [path_found h] at hf; cases hf
      · rw [path_inner h hi] at hf
        rw [stand_inner h hi]
        exact ih _ (by omega) (Well.kid hw _ hi) hf
theorem stand_none (key : Int) (t : Tr) (hw : Well t) (h : (t.path key).2 = false) : t.stand key = (0, false) := stand_none' key t.weight t (Nat.le_refl _) hw h

/-- A step of the path to a key that is found. -/
theorem path_step {key i : Int} {r : List Int} {k : List Int} {cs : List Tr} (h : (Tr.mk k cs).path key = (i :: r, true)) (hw : Well (.mk k cs)) :
    ∃ hi : place key k < cs.length, i = (place key k : Int) ∧ cs[place key k].path key = (r, true) ∧ (Tr.mk k cs).stand key = cs[place key k].stand key := by
  by_cases hf : place key k < k.length ∧ k.getD (place key k) 0 = key
  · rw [path_found hf] at h; simp at h
  · by_cases hc : cs.length = 0
    · rw [path_leaf hf hc] at h; simp at h
    · have hcl := Well.inner hw hc
      have hp := place_le key k
      have hi : place key k < cs.length := by omega
      rw [path_inner hf hi] at h
      simp only [Prod.mk.injEq, List.cons.injEq] at h
      exact ⟨hi, h.1.1.symm, Prod.ext h.1.2 h.2, stand_inner hf hi⟩
/-- Its end. -/
theorem path_end {key : Int} {k : List Int} {cs : List Tr} (h : (Tr.mk k cs).path key = ([], true)) (hw : Well (.mk k cs)) :
    place key k < k.length ∧ k.getD (place key k) 0 = key := by
  by_cases hf : place key k < k.length ∧ k.getD (place key k) 0 = key
  · exact hf
  · by_cases hc : cs.length = 0
    · rw [path_leaf hf hc] at h; simp at h
    · have hcl := Well.inner hw hc
      have hp := place_le key k
      rw [path_inner hf (by omega)] at h
      simp at h

/-- A tree whose nodes are as a valid tree's, with a key at least; one that may be a valid tree's root. -/
def Full (t : Tr) : Prop := ∃ wide least d, 2 ≤ wide ∧ 1 ≤ least ∧ nodesB wide least d t = true
def Tops (t : Tr) : Prop := ∃ wide least d, 2 ≤ wide ∧ nodesB wide least d t = true
theorem Full.tops {t : Tr} (h : Full t) : Tops t := by obtain ⟨w, l, d, h1, _, h3⟩ := h; exact ⟨w, l, d, h1, h3⟩
theorem Tops.kid {k : List Int} {c : List Tr} (h : Tops (.mk k c)) (i : Nat) (hi : i < c.length) : Full c[i] := by
  obtain ⟨w, l, d, h1, hn⟩ := h
  rcases (nodesB_parts hn).2 with ⟨h1, _⟩ | ⟨_, _, _, _, h5⟩
  · omega
  · exact ⟨_, _, _, h1, by omega, h5 i hi⟩
theorem Full.keys {k : List Int} {c : List Tr} (h : Full (.mk k c)) : k.length ≠ 0 := by
  obtain ⟨w, l, d, h1, h2, hn⟩ := h
  have := (nodesB_parts hn).1
  omega
theorem Tops.of_valid {t : Tr} {wide : Int} (h : validB wide t = true) (hw : 2 ≤ wide) : Tops t := by
  unfold validB at h
  simp only [Bool.and_eq_true] at h
  exact ⟨wide, 0, _, hw, h.2.1⟩
theorem someB_valid {t : Tr} {wide : Int} (h : validB wide t = true) : t.someB = true := by
  have h1 : 2 ≤ wide ∧ wide ≤ 6 := by
    have h := h
    unfold validB at h
    simp only [Bool.and_eq_true, inB, decide_eq_true_eq] at h
    exact h.1
  have hq : ((wide.toNat : Nat) : Int) = wide := by omega
  exact (someB_of t).1 wide.toNat (by omega) (by omega) (by rw [hq]; exact h)
theorem way_tops' (c : Int) : ∀ (n : Nat) (t : Tr), t.weight ≤ n → Well t → Tops t → ∀ x ∈ t.way c, Tops x := by
  intro n
  induction n with
  | zero =>
    rintro ⟨k, cs⟩ hn hw ht
    simp only [weight] at hn
    have hc : cs.length = 0 := by have := length_le_weights cs; omega
    rw [way_leaf hc]
    exact fun x hx => by simp at hx; subst hx; exact ht
  | succ n ih =>
    rintro ⟨k, cs⟩ hn hw ht
    by_cases hc : cs.length = 0
    · rw [way_leaf hc]
      exact fun x hx => by simp at hx; subst hx; exact ht
    · have hcl := Well.inner hw hc
      have hp := place_le c k
      have hi : place c k < cs.length := by omega
      rw [way_inner hi]
      have hwt := weight_get_le cs _ hi
      simp only [weight] at hn
      intro x hx
      rcases List.mem_cons.1 hx with rfl | hx
      · exact ht
      · exact ih cs[place c k] (by omega) (Well.kid hw _ hi) (Tops.kid ht _ hi).tops x hx
theorem way_tops (c : Int) (t : Tr) (hw : Well t) (ht : Tops t) : ∀ x ∈ t.way c, Tops x := way_tops' c t.weight t (Nat.le_refl _) hw ht
end Tr
end Go.Proofs.YticfkfjijnfcbaaDoor
