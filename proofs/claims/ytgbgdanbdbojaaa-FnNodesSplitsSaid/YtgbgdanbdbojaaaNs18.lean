/- Inserting: a tree whose nodes are as a valid tree's keeps such nodes. -/
import Derived.Test.YtgbgdanbdbojaaaNs0
import Derived.Test.YtgbgdanbdbojaaaKeys
import Derived.Test.YtgbgdanbdbojaaaNs14
import Derived.Test.YtgbgdanbdbojaaaNs15
import Derived.Test.YtgbgdanbdbojaaaNs17
import Derived.Test.YtgbgdanbdbojaaaValid
import Derived.Test.YtgbgdanbdbojaaaNs12

/- Finding: plain data: what stands next to a number, how many keys are less. -/
namespace Go.Proofs.Ytgbgdanbdbojaaa
open Go.RowKit

theorem place_lt {c : Int} : ∀ {k : List Int} {i : Nat}, i < place c k → k.getD i 0 < c
  | [], i, h => by simp [place] at h
  | x :: r, i, h => by
    simp only [place] at h
    split at h
    · cases i with
      | zero => simpa using ‹x < c›
      | succ i => simpa using place_lt (k := r) (by omega)
    · omega
theorem place_ge {c : Int} : ∀ {k : List Int}, place c k < k.length → c ≤ k.getD (place c k) 0
  | [], h => by simp at h
  | x :: r, h => by
    simp only [place] at h ⊢
    split
    · rename_i hx
      rw [if_pos hx] at h
      simpa using place_ge (k := r) (by simpa using h)
    · simp; omega
theorem place_append_lt {c : Int} : ∀ {a b : List Int}, (∀ x ∈ a, x < c) → place c (a ++ b) = a.length + place c b
  | [], b, _ => by simp
  | x :: r, b, h => by
    have h1 := h x (by simp)
    have h2 := place_append_lt (a := r) (b := b) (fun y hy => h y (by simp [hy]))
    simp only [List.cons_append, place, if_pos h1, h2, List.length_cons]; omega
theorem place_append_ge {c : Int} : ∀ {a b : List Int}, (∀ x r, b = x :: r → c ≤ x) → place c (a ++ b) = place c a
  | [], b, h => by
    cases b with
    | nil => rfl
    | cons x r => simp only [List.nil_append, place]; rw [if_neg (by have := h x r rfl; omega)]
  | x :: r, b, h => by
    have h2 := place_append_ge (a := r) (b := b) h
    simp only [List.cons_append, place, h2]
theorem find_place (c : Int) (k : List Int) : k.find? (fun x => decide (c ≤ x)) = k[place c k]? := by
  induction k with
  | nil => rfl
  | cons x r ih =>
    simp only [place]
    by_cases h : x < c
    · rw [if_pos h, List.find?_cons_of_neg (by simp; omega), ih]; simp
    · rw [if_neg h, List.find?_cons_of_pos (by simp; omega)]; simp

namespace Tr
theorem upto_pre (kss : List (List Int)) (k : List Int) (p n : Nat) (h : p ≤ n) : ∃ R, upto kss k n = upto kss k p ++ R ∧ (p = n → R = []) := by
  induction h with
  | refl => exact ⟨[], by simp, fun _ => rfl⟩
  | step h ih =>
    obtain ⟨R, h1, h2⟩ := ih
    rename_i m
    have h : p ≤ m := h
    refine ⟨R ++ part kss k m, by rw [upto_succ, h1, List.append_assoc], fun e => by omega⟩

/-- The keys of a node parted at a number: those ahead of the kid where it belongs, those of the kid, those behind it. -/
theorem Well.split {k : List Int} {cs : List Tr} (h : Well (.mk k cs)) (hc : cs.length ≠ 0) (c : Int) (hp : place c k < cs.length) :
    ∃ R, (Tr.mk k cs).keys = upto (keyss cs) k (place c k) ++ (cs[place c k].keys ++ ((k[place c k]?).toList ++ R)) ∧ (∀ x ∈ upto (keyss cs) k (place c k), x < c) ∧ (place c k = k.length → R = []) := by
  have hcl := Well.inner h hc
  obtain ⟨R, h1, h2⟩ := upto_pre (keyss cs) k (place c k + 1) (max k.length cs.length) (by omega)
  have hk : (Tr.mk k cs).keys = upto (keyss cs) k (place c k) ++ (cs[place c k].keys ++ ((k[place c k]?).toList ++ R)) := by
    rw [Tr.keys, h1, upto_succ, part, keyss_get cs _ hp]; simp
  refine ⟨R, hk, fun x hx => ?_, fun e => h2 (by omega)⟩
  have hs := h.2
  rw [hk] at hs
  have hs' := (List.pairwise_append.1 hs).1
  by_cases h0 : place c k = 0
  · rw [h0] at hx; simp [upto] at hx
  · obtain ⟨q, hq⟩ : ∃ q, place c k = q + 1 := ⟨place c k - 1, by omega⟩
    have hle := place_le c k
    have hlast : upto (keyss cs) k (place c k) = (upto (keyss cs) k q ++ ((keyss cs)[q]?).getD []) ++ [k.getD q 0] := by
      rw [hq, upto_succ, part, List.append_assoc]
      have : (k[q]?).toList = [k.getD q 0] := by
        have hlt : q < k.length := by omega
        simp [hlt, List.getD_eq_getElem?_getD]
      rw [this]
    rw [hlast] at hs' hx
    have hq' : k.getD q 0 < c := place_lt (by omega)
    rcases List.mem_append.1 hx with hx | hx
    · have := (List.pairwise_append.1 hs').2.2 x hx (k.getD q 0) (by simp)
      omega
    · simp at hx; rw [hx, ← List.getD_eq_getElem?_getD]; exact hq'

theorem keys_leaf {k : List Int} {cs : List Tr} (hc : cs.length = 0) : (Tr.mk k cs).keys = k := by
  have h0 : cs = [] := List.length_eq_zero_iff.1 hc
  subst h0
  rw [keys]
  have : ∀ n, n ≤ k.length → upto (keyss []) k n = k.take n := by
    intro n
    induction n with
    | zero => intro _; simp [upto]
    | succ n ih =>
      intro hn
      rw [upto_succ, ih (by omega), part, List.take_add_one]; simp [keyss]
  simp only [List.length_nil, Nat.max_zero]
  rw [this _ (Nat.le_refl _), List.take_length]

/-- The head of what stands behind the kid. -/
theorem behind_ge {k R : List Int} {c : Int} (hR : place c k = k.length → R = []) : ∀ x r, (k[place c k]?).toList ++ R = x :: r → c ≤ x := by
  intro x r h
  by_cases hp : place c k < k.length
  · have h1 : (k[place c k]?).toList = [k.getD (place c k) 0] := by simp [hp, List.getD_eq_getElem?_getD]
    rw [h1] at h
    simp only [List.cons_append, List.cons.injEq] at h
    rw [← h.1]; exact place_ge hp
  · have := place_le c k
    rw [hR (by omega), List.getElem?_eq_none (by omega)] at h
    simp at h

def nextStep (c : Int) (acc : Int × Bool) (x : Tr) : Int × Bool := if place c x.ks < x.ks.length then (x.ks.getD (place c x.ks) 0, true) else acc
def prevStep (c : Int) (acc : Int × Bool) (x : Tr) : Int × Bool := if 0 < place c x.ks then (x.ks.getD (place c x.ks - 1) 0, true) else acc
theorem nextStep_mk (c : Int) (acc : Int × Bool) (k : List Int) (cs : List Tr) : nextStep c acc (.mk k cs) = if place c k < k.length then (k.getD (place c k) 0, true) else acc := rfl
theorem prevStep_mk (c : Int) (acc : Int × Bool) (k : List Int) (cs : List Tr) : prevStep c acc (.mk k cs) = if 0 < place c k then (k.getD (place c k - 1) 0, true) else acc := rfl
theorem getD_right {a b : List Int} {i : Nat} (h : a.length ≤ i) : (a ++ b).getD i 0 = b.getD (i - a.length) 0 := by
  rw [List.getD_eq_getElem?_getD, List.getElem?_append_right h, ← List.getD_eq_getElem?_getD]
theorem getD_left {a b : List Int} {i : Nat} (h : i < a.length) : (a ++ b).getD i 0 = a.getD i 0 := by
  rw [List.getD_eq_getElem?_getD, List.getElem?_append_left h, ← List.getD_eq_getElem?_getD]
def optOr (o : Option Int) (acc : Int × Bool) : Int × Bool := match o with | some k => (k, true) | none => acc
def prevOf (c : Int) (keys : List Int) (acc : Int × Bool) : Int × Bool := if 0 < place c keys then (keys.getD (place c keys - 1) 0, true) else acc

theorem next_way' (c : Int) : ∀ (n : Nat) (t : Tr), t.weight ≤ n → Well t → ∀ acc, (t.way c).foldl (nextStep c) acc = optOr (t.keys.find? (fun x => decide (c ≤ x))) acc := by
  intro n
  have hleaf : ∀ (k : List Int) (cs : List Tr), cs.length = 0 → ∀ acc, ((Tr.mk k cs).way c).foldl (nextStep c) acc = optOr ((Tr.mk k cs).keys.find? (fun x => decide (c ≤ x))) acc := by
    intro k cs hc acc
    rw [way_leaf hc, keys_leaf hc, find_place]
    rw [List.foldl_cons, List.foldl_nil, nextStep_mk]
    by_cases h : place c k < k.length
    · rw [if_pos h]; simp [optOr, h, List.getD_eq_getElem?_getD]
    · rw [if_neg h, List.getElem?_eq_none (by omega)]; rfl
  induction n with
  | zero =>
    rintro ⟨k, cs⟩ hn hw acc
    simp only [weight] at hn
    exact hleaf k cs (by have := length_le_weights cs; omega) acc
  | succ n ih =>
    rintro ⟨k, cs⟩ hn hw acc
    by_cases hc : cs.length = 0
    · exact hleaf k cs hc acc
    · have hcl := Well.inner hw hc
      have hpl := place_le c k
      have hi : place c k < cs.length := by omega
      have hwt := weight_get_le cs _ hi
      simp only [weight] at hn
      obtain ⟨R, h1, h2, h3⟩ := Well.split hw hc c hi
      rw [way_inner hi, List.foldl_cons, ih _ (by omega) (Well.kid hw _ hi), h1, List.find?_append, List.find?_append]
      have e1 : (upto (keyss cs) k (place c k)).find? (fun x => decide (c ≤ x)) = none := by
        rw [List.find?_eq_none]; intro x hx; have := h2 x hx; simp; omega
      rw [e1, Option.none_or]
      cases hf : cs[place c k].keys.find? (fun x => decide (c ≤ x)) with
      | some y => simp [optOr]
      | none =>
        rw [Option.none_or, nextStep_mk, optOr]
        by_cases h : place c k < k.length
        · have hg := place_ge h
          have h4 : (k[place c k]?).toList = [k.getD (place c k) 0] := by simp [h, List.getD_eq_getElem?_getD]
          rw [if_pos h, h4, List.singleton_append, List.find?_cons_of_pos (by simpa using hg)]; rfl
        · rw [if_neg h, h3 (by omega), List.getElem?_eq_none (by omega)]; rfl

theorem next_way (c : Int) (t : Tr) (hw : Well t) (acc : Int × Bool) : (t.way c).foldl (nextStep c) acc = optOr (t.keys.find? (fun x => decide (c ≤ x))) acc := next_way' c t.weight t (Nat.le_refl _) hw acc

/-- What is next behind a number, in a tree that is valid. -/
def nextB (key : Int) (t : Tr) : Int × Bool := if t.someB then optOr (t.keys.find? (fun x => decide (key + 1 ≤ x))) (0, false) else (0, false)
theorem nextB_is (key : Int) (t : Tr) : (t.someB = true → t.nextB key = optOr (t.keys.find? (fun x => decide (key + 1 ≤ x))) (0, false)) ∧ (t.someB = false → t.nextB key = (0, false)) := by
  unfold nextB; constructor <;> intro h <;> simp [h]

theorem upto_length_le (kss : List (List Int)) (k : List Int) (p : Nat) (h : p ≤ k.length) : p ≤ (upto kss k p).length := by
  rw [upto_length, List.length_take]; omega

theorem prev_way' (c : Int) : ∀ (n : Nat) (t : Tr), t.weight ≤ n → Well t → ∀ acc, (t.way c).foldl (prevStep c) acc = prevOf c t.keys acc := by
  intro n
  have hleaf : ∀ (k : List Int) (cs : List Tr), cs.length = 0 → ∀ acc, ((Tr.mk k cs).way c).foldl (prevStep c) acc = prevOf c (Tr.mk k cs).keys acc := by
    intro k cs hc acc
    rw [way_leaf hc, keys_leaf hc]
    rw [List.foldl_cons, List.foldl_nil, prevStep_mk, prevOf]
  induction n with
  | zero =>
    rintro ⟨k, cs⟩ hn hw acc
    simp only [weight] at hn
    exact hleaf k cs (by have := length_le_weights cs; omega) acc
  | succ n ih =>
    rintro ⟨k, cs⟩ hn hw acc
    by_cases hc : cs.length = 0
    · exact hleaf k cs hc acc
    · have hcl := Well.inner hw hc
      have hpl := place_le c k
      have hi : place c k < cs.length := by omega
      have hwt := weight_get_le cs _ hi
      simp only [weight] at hn
      obtain ⟨R, h1, h2, h3⟩ := Well.split hw hc c hi
      rw [way_inner hi, List.foldl_cons, ih _ (by omega) (Well.kid hw _ hi)]
      unfold prevOf
      rw [h1, place_append_lt h2, place_append_ge (behind_ge h3)]
      have hul := upto_length_le (keyss cs) k (place c k) hpl
      by_cases hk : 0 < place c cs[place c k].keys
      · have hpk := place_le c cs[place c k].keys
        rw [if_pos hk, if_pos (by omega)]
        congr 1
        rw [getD_right (by omega), getD_left (by omega)]
        congr 1; omega
      · rw [if_neg hk]
        rw [prevStep_mk]
        by_cases h0 : 0 < place c k
        · rw [if_pos h0, if_pos (by omega)]
          congr 1
          obtain ⟨q, hq⟩ : ∃ q, place c k = q + 1 := ⟨place c k - 1, by omega⟩
          have hlast : upto (keyss cs) k (place c k) = (upto (keyss cs) k q ++ ((keyss cs)[q]?).getD []) ++ [k.getD q 0] := by
            rw [hq, upto_succ, part, List.append_assoc]
            have : (k[q]?).toList = [k.getD q 0] := by
              have hlt : q < k.length := by omega
              simp [hlt, List.getD_eq_getElem?_getD]
            rw [this]
          have e0 : place c cs[place c k].keys = 0 := by omega
          rw [e0, hlast]
          simp only [List.length_append, List.length_cons, List.length_nil, Nat.add_zero]
          rw [getD_left (by simp), getD_right (by simp), hq]
          simp
        · have e1 : place c k = 0 := by omega
          have e0 : place c cs[place c k].keys = 0 := by omega
          rw [if_neg h0, e0, if_neg]
          rw [e1]; simp [upto]

theorem prev_way (c : Int) (t : Tr) (hw : Well t) (acc : Int × Bool) : (t.way c).foldl (prevStep c) acc = prevOf c t.keys acc := prev_way' c t.weight t (Nat.le_refl _) hw acc

/-- What is next ahead of a number, in a tree that is valid. -/
def prevB (key : Int) (t : Tr) : Int × Bool := if t.someB then prevOf key t.keys (0, false) else (0, false)
theorem prevB_is (key : Int) (t : Tr) : (t.someB = true → t.prevB key = prevOf key t.keys (0, false)) ∧ (t.someB = false → t.prevB key = (0, false)) := by
  unfold prevB; constructor <;> intro h <;> simp [h]

/-- How many keys are less than a number, node by node on the way. -/
def rankStep (c : Int) (x : Tr) : Nat := (upto (keyss x.cs) x.ks (place c x.ks)).length
theorem rank_way' (c : Int) : ∀ (n : Nat) (t : Tr), t.weight ≤ n → Well t → ((t.way c).map (rankStep c)).sum = place c t.keys := by
  intro n
  have hleaf : ∀ (k : List Int) (cs : List Tr), cs.length = 0 → (((Tr.mk k cs).way c).map (rankStep c)).sum = place c (Tr.mk k cs).keys := by
    intro k cs hc
    rw [way_leaf hc, keys_leaf hc]
    have h0 : cs = [] := List.length_eq_zero_iff.1 hc
    subst h0
    have hp := place_le c k
    simp only [List.map_cons, List.map_nil, List.sum_cons, List.sum_nil, rankStep, ks, Tr.cs, keyss]
    rw [upto_length]
    simp [lens]; omega
  induction n with
  | zero =>
    rintro ⟨k, cs⟩ hn hw
    simp only [weight] at hn
    exact hleaf k cs (by have := length_le_weights cs; omega)
  | succ n ih =>
    rintro ⟨k, cs⟩ hn hw
    by_cases hc : cs.length = 0
    · exact hleaf k cs hc
    · have hcl := Well.inner hw hc
      have hpl := place_le c k
      have hi : place c k < cs.length := by omega
      have hwt := weight_get_le cs _ hi
      simp only [weight] at hn
      obtain ⟨R, h1, h2, h3⟩ := Well.split hw hc c hi
      rw [way_inner hi, List.map_cons, List.sum_cons, ih _ (by omega) (Well.kid hw _ hi), h1, place_append_lt h2, place_append_ge (behind_ge h3)]
      rfl
theorem rank_way (c : Int) (t : Tr) (hw : Well t) : ((t.way c).map (rankStep c)).sum = place c t.keys := rank_way' c t.weight t (Nat.le_refl _) hw
end Tr
end Go.Proofs.Ytgbgdanbdbojaaa

/- Inserting: the keys of a tree into which a key is put. -/
namespace Go.Proofs.Ytgbgdanbdbojaaa
open Go.RowKit

namespace Tr
/-- The keys of kids and the keys between them. -/
def weave : List Tr → List Int → List Int
  | [], ks => ks
  | t :: r, [] => t.keys ++ weave r []
  | t :: r, x :: ks => t.keys ++ x :: weave r ks
/-- What follows behind a kid. -/
def tailW (r : List Tr) : List Int → List Int
  | [] => weave r []
  | x :: ks => x :: weave r ks
theorem weave_cons (t : Tr) (r : List Tr) (ks : List Int) : weave (t :: r) ks = t.keys ++ tailW r ks := by
  cases ks <;> rfl
theorem upto_cons (a : List Int) (kss : List (List Int)) (x : Int) (ks : List Int) (n : Nat) : upto (a :: kss) (x :: ks) (n + 1) = a ++ x :: upto kss ks n := by
  simp [upto, List.range_succ_eq_map, List.flatMap_map, part]
  rfl
theorem upto_cons0 (a : List Int) (kss : List (List Int)) (n : Nat) : upto (a :: kss) [] (n + 1) = a ++ upto kss [] n := by
  simp [upto, List.range_succ_eq_map, List.flatMap_map, part]
  congr 1; funext a; simp [part]
theorem upto_keys (ks : List Int) : upto [] ks ks.length = ks := by
  induction ks with
  | nil => rfl
  | cons x ks ih =>
    have h : upto [] (x :: ks) (ks.length + 1) = x :: upto [] ks ks.length := by
      simp [upto, List.range_succ_eq_map, List.flatMap_map, part]
      rfl
    rw [List.length_cons, h, ih]
theorem upto_weave : ∀ (c : List Tr) (k : List Int), upto (keyss c) k (max k.length c.length) = weave c k
  | [], k => by simp only [keyss, weave, List.length_nil, Nat.max_zero]; exact upto_keys k
  | t :: r, [] => by
    rw [weave, ← upto_weave r [], keyss, List.length_nil, Nat.zero_max, List.length_cons, upto_cons0, Nat.zero_max]
  | t :: r, x :: ks => by
    rw [weave, ← upto_weave r ks, keyss, List.length_cons, List.length_cons, Nat.succ_max_succ, upto_cons]
theorem keys_weave (k : List Int) (c : List Tr) : (Tr.mk k c).keys = weave c k := by rw [keys]; exact upto_weave c k
theorem weave_append : ∀ (c : List Tr) (k : List Int) (c2 : List Tr) (k2 : List Int), c.length = k.length → weave (c ++ c2) (k ++ k2) = weave c k ++ weave c2 k2
  | [], [], c2, k2, _ => rfl
  | [], x :: k, c2, k2, h => by simp at h
  | t :: c, [], c2, k2, h => by simp at h
  | t :: c, x :: k, c2, k2, h => by
    rw [List.cons_append, List.cons_append, weave, weave, weave_append c k c2 k2 (by simpa using h)]
    simp

/-- The keys of a node, around those of a kid. -/
theorem keys_around {k : List Int} {c : List Tr} {i : Nat} (hi : i < c.length) (hc : c.length = k.length + 1) :
    (Tr.mk k c).keys = weave (c.take i) (k.take i) ++ (c[i].keys ++ tailW (c.drop (i + 1)) (k.drop i)) := by
  rw [keys_weave, ← weave_cons, ← weave_append _ _ _ _ (by simp; omega), List.take_append_drop]
  congr 1
  rw [List.getElem_cons_drop, List.take_append_drop]
theorem keys_setKid {k : List Int} {c : List Tr} {i : Nat} (u : Tr) (hi : i < c.length) (hc : c.length = k.length + 1) :
    (Tr.mk k (setKid c i u)).keys = weave (c.take i) (k.take i) ++ (u.keys ++ tailW (c.drop (i + 1)) (k.drop i)) := by
  rw [keys_weave, setKid, ← weave_cons, ← weave_append _ _ _ _ (by simp; omega), List.take_append_drop]
theorem keys_splitKid {k : List Int} {c : List Tr} {i : Nat} (u : Tr) (hi : i < c.length) (hc : c.length = k.length + 1) :
    (splitKid k c i u).keys = weave (c.take i) (k.take i) ++ (u.leftOf.keys ++ u.midOf :: (u.rightOf.keys ++ tailW (c.drop (i + 1)) (k.drop i))) := by
  rw [splitKid, keys_weave, putAt, weave_append _ _ _ _ (by simp; omega), weave, weave_cons]
/-- The keys of a node are those of its halves, and the one between. -/
theorem keys_halves {u : Tr} (h : u.ks.length ≠ 0) (hc : u.cs.length = 0 ∨ u.cs.length = u.ks.length + 1) :
    u.keys = u.leftOf.keys ++ u.midOf :: u.rightOf.keys := by
  cases u with
  | mk k c =>
    simp only [ks, cs] at h hc
    have hm : k.length / 2 < k.length := by omega
    have hk : k = k.take (k.length / 2) ++ k.getD (k.length / 2) 0 :: k.drop (k.length / 2 + 1) := by
      rw [List.getD_eq_getElem?_getD, List.getElem?_eq_getElem hm, Option.getD_some, List.getElem_cons_drop, List.take_append_drop]
    rw [leftOf, rightOf, midOf, keys_weave, keys_weave, keys_weave]
    rcases hc with h0 | h1
    · have : c = [] := List.length_eq_zero_iff.1 h0
      subst this
      simp only [List.take_nil, List.drop_nil, weave]
      exact hk
    · obtain ⟨m, hme⟩ : ∃ m, m = k.length / 2 := ⟨_, rfl⟩
      rw [← hme] at hm hk ⊢
      have hmc : m < c.length := by omega
      have h2 := keys_around (k := k) hmc h1
      rw [keys_weave] at h2
      rw [h2, List.take_succ_eq_append_getElem hmc]
      have e1 : weave (c.take m ++ [c[m]]) (k.take m) = weave (c.take m) (k.take m) ++ c[m].keys := by
        have := weave_append (c.take m) (k.take m) [c[m]] [] (by simp; omega)
        rw [List.append_nil] at this
        rw [this, weave_cons]
        simp [tailW, weave]
      rw [e1, List.append_assoc]
      congr 2
      have e2 : k.drop m = k.getD m 0 :: k.drop (m + 1) := by
        rw [List.getD_eq_getElem?_getD, List.getElem?_eq_getElem hm, Option.getD_some, List.getElem_cons_drop]
      rw [e2]; rfl
end Tr
end Go.Proofs.Ytgbgdanbdbojaaa

/- Inserting: a tree whose nodes are as a valid tree's keeps such nodes. -/
namespace Go.Proofs.Ytgbgdanbdbojaaa
open Go.RowKit

namespace Tr
/-- A node as a valid tree's, but for one key too many. -/
def Over (wide least d : Int) : Tr → Prop
  | .mk k c => (least ≤ (k.length : Int) ∧ (k.length : Int) ≤ wide + 1) ∧ ((c.length = 0 ∧ d = 1) ∨ (c.length ≠ 0 ∧ d ≠ 1 ∧ c.length = k.length + 1 ∧ k.length ≠ 0 ∧ ∀ x ∈ c, nodesB wide (wide / 2) (d - 1) x = true))
theorem nodes_mem {wide least d : Int} {k : List Int} {c : List Tr} (h : nodesB wide least d (.mk k c) = true) :
    (least ≤ (k.length : Int) ∧ (k.length : Int) ≤ wide) ∧ ((c.length = 0 ∧ d = 1) ∨ (c.length ≠ 0 ∧ d ≠ 1 ∧ c.length = k.length + 1 ∧ k.length ≠ 0 ∧ ∀ x ∈ c, nodesB wide (wide / 2) (d - 1) x = true)) := by
  obtain ⟨h1, h2⟩ := nodesB_parts h
  refine ⟨h1, h2.imp id (fun ⟨a, b, c', e, f⟩ => ⟨a, b, c', e, fun x hx => ?_⟩)⟩
  obtain ⟨i, hi, rfl⟩ := List.getElem_of_mem hx
  exact f i hi
theorem nodes_of {wide least d : Int} {k : List Int} {c : List Tr} (h : (least ≤ (k.length : Int) ∧ (k.length : Int) ≤ wide) ∧ ((c.length = 0 ∧ d = 1) ∨ (c.length ≠ 0 ∧ d ≠ 1 ∧ c.length = k.length + 1 ∧ k.length ≠ 0 ∧ ∀ x ∈ c, nodesB wide (wide / 2) (d - 1) x = true))) :
    nodesB wide least d (.mk k c) = true := by
  obtain ⟨⟨h1, h2⟩, ⟨h3, rfl⟩ | ⟨h3, h4, h5, h6, h7⟩⟩ := h
  · exact nodesB_leaf h1 h2 h3
  · exact nodesB_inner h1 h2 h4 h5 h6 (fun i hi => h7 _ (List.getElem_mem hi))
theorem Over.fits {wide least d : Int} {t : Tr} (h : Over wide least d t) (hl : (t.ks.length : Int) ≤ wide) : nodesB wide least d t = true := by
  cases t with
  | mk k c => exact nodes_of ⟨⟨h.1.1, hl⟩, h.2⟩
theorem Over.left {wide least d : Int} {t : Tr} (hw : 2 ≤ wide) (h : Over wide least d t) (hl : wide < (t.ks.length : Int)) : nodesB wide (wide / 2) d t.leftOf = true := by
  cases t with
  | mk k c =>
    obtain ⟨⟨h1, h2⟩, h3⟩ := h
    simp only [ks] at hl
    refine nodes_of ⟨⟨by simp; omega, by simp; omega⟩, ?_⟩
    rcases h3 with ⟨h3, h4⟩ | ⟨h3, h4, h5, h6, h7⟩
    · exact .inl ⟨by simp [h3], h4⟩
    · exact .inr ⟨by rw [List.length_take]; omega, h4, by rw [List.length_take, List.length_take]; omega, by rw [List.length_take]; omega, fun x hx => h7 x (List.mem_of_mem_take hx)⟩
theorem Over.right {wide least d : Int} {t : Tr} (hw : 2 ≤ wide) (h : Over wide least d t) (hl : wide < (t.ks.length : Int)) : nodesB wide (wide / 2) d t.rightOf = true := by
  cases t with
  | mk k c =>
    obtain ⟨⟨h1, h2⟩, h3⟩ := h
    simp only [ks] at hl
    refine nodes_of ⟨⟨by simp; omega, by simp; omega⟩, ?_⟩
    rcases h3 with ⟨h3, h4⟩ | ⟨h3, h4, h5, h6, h7⟩
    · exact .inl ⟨by simp [h3], h4⟩
    · exact .inr ⟨by simp; omega, h4, by simp; omega, by simp; omega, fun x hx => h7 x (List.mem_of_mem_drop hx)⟩

/-- A key more in a node as a valid tree's makes at most one too many. -/
theorem grow_over {wide : Int} (hw : 2 ≤ wide) (key : Int) : ∀ (n : Nat) (least d : Int) (t : Tr), t.weight ≤ n → nodesB wide least d t = true → Over wide least d (grow wide key t).1 := by
  intro n
  induction n with
  | zero =>
    rintro least d ⟨k, c⟩ hn h
    simp only [weight] at hn
    have hc : c.length = 0 := by have := length_le_weights c; omega
    obtain ⟨⟨h1, h2⟩, h3⟩ := nodes_mem h
    rw [grow_leaf hc]
    have hl := putAt_length (x := key) (place_le key k)
    refine ⟨⟨by rw [hl]; omega, by rw [hl]; omega⟩, .inl ⟨rfl, ?_⟩⟩
    rcases h3 with h3 | h3
    · exact h3.2
    · exact absurd hc h3.1
  | succ n ih =>
    rintro least d ⟨k, c⟩ hn h
    obtain ⟨⟨h1, h2⟩, h3⟩ := nodes_mem h
    have hl := fun x : Int => putAt_length (x := x) (place_le key k)
    rcases h3 with ⟨hc, hd⟩ | ⟨hc, hd, h5, h6, h7⟩
    · rw [grow_leaf hc]
      exact ⟨⟨by rw [hl]; omega, by rw [hl]; omega⟩, .inl ⟨rfl, hd⟩⟩
    · have hp := place_le key k
      have hi : place key k < c.length := by omega
      rw [grow_inner hi]
      have hwt := weight_get_le c _ hi
      simp only [weight] at hn
      have hu := ih (wide / 2) (d - 1) c[place key k] (by omega) (h7 _ (List.getElem_mem hi))
      generalize (grow wide key c[place key k]) = r at hu ⊢
      generalize place key k = i at *
      unfold growStep
      by_cases hs : wide < (r.1.ks.length : Int)
      · rw [if_pos hs]
        have hL := hu.left hw hs
        have hR := hu.right hw hs
        refine ⟨⟨by rw [hl]; omega, by rw [hl]; omega⟩, .inr ⟨by simp, hd, ?_, by rw [hl]; omega, fun x hx => ?_⟩⟩
        · rw [hl]; simp; omega
        · rcases List.mem_append.1 hx with hx | hx
          · exact h7 x (List.mem_of_mem_take hx)
          · rcases List.mem_cons.1 hx with rfl | hx
            · exact hL
            · rcases List.mem_cons.1 hx with rfl | hx
              · exact hR
              · exact h7 x (List.mem_of_mem_drop hx)
      · rw [if_neg hs]
        have hF := hu.fits (by omega)
        refine ⟨⟨h1, by omega⟩, .inr ⟨by simp [setKid], hd, by rw [setKid_length hi]; exact h5, h6, fun x hx => ?_⟩⟩
        rcases List.mem_append.1 hx with hx | hx
        · exact h7 x (List.mem_of_mem_take hx)
        · rcases List.mem_cons.1 hx with rfl | hx
          · exact hF
          · exact h7 x (List.mem_of_mem_drop hx)

/-- The tree that a key makes has nodes as a valid tree's. -/
theorem insT_nodes {wide : Int} (hw : 2 ≤ wide) (key : Int) {d : Int} {t : Tr} (h : nodesB wide 0 d t = true) : nodesB wide 0 (if insG wide key t then d + 1 else d) (insT wide key t) = true := by
  have hu := grow_over hw key t.weight 0 d t (Nat.le_refl _) h
  unfold insG insT
  dsimp only
  by_cases hs : wide < ((grow wide key t).1.ks.length : Int)
  · rw [if_pos hs, if_pos (by simpa using hs)]
    refine nodes_of ⟨⟨by simp, by simp; omega⟩, .inr ⟨by simp, ?_, by simp, by simp, fun x hx => ?_⟩⟩
    · have := nodesB_pos wide t.weight 0 d t (Nat.le_refl _) h
      omega
    · rw [show d + 1 - 1 = d by omega]
      simp only [List.mem_cons, List.not_mem_nil, or_false] at hx
      rcases hx with rfl | rfl
      · exact hu.left hw hs
      · exact hu.right hw hs
  · rw [if_neg hs, if_neg (by simpa using hs)]
    exact hu.fits (by omega)
/-- A tree with such nodes is as deep as told. -/
theorem nodes_depth (wide : Int) : ∀ (n : Nat) (least d : Int) (t : Tr), t.weight ≤ n → nodesB wide least d t = true → (t.depth : Int) = d := by
  intro n
  induction n with
  | zero =>
    rintro least d ⟨k, c⟩ hn h
    simp only [weight] at hn
    have hc : c.length = 0 := by have := length_le_weights c; omega
    obtain ⟨_, h3⟩ := nodesB_parts h
    rcases h3 with h3 | h3
    · rw [List.length_eq_zero_iff.1 hc, h3.2]; rfl
    · exact absurd hc h3.1
  | succ n ih =>
    rintro least d ⟨k, c⟩ hn h
    obtain ⟨_, h3⟩ := nodesB_parts h
    rcases h3 with ⟨hc, hd⟩ | ⟨hc, hd, h5, h6, h7⟩
    · rw [List.length_eq_zero_iff.1 hc, hd]; rfl
    · simp only [weight] at hn
      have hk : ∀ i (hi : i < c.length), (c[i].depth : Int) = d - 1 := fun i hi => by
        have := weight_get_le c i hi
        exact ih _ _ _ (by omega) (h7 i hi)
      have h0 := hk 0 (by omega)
      have hs := depths_same (D := (d - 1).toNat) hc (fun i hi => by have := hk i hi; omega)
      rw [depth, hs]
      omega
/-- The tree that a key makes of a valid one has a valid one's nodes, and the depth that is asked. -/
theorem insT_depth {wide : Int} (hw : 2 ≤ wide) (key : Int) {t : Tr} (h : nodesB wide 0 t.depth t = true) : nodesB wide 0 (insT wide key t).depth (insT wide key t) = true := by
  have h1 := insT_nodes hw key h
  have h2 := nodes_depth wide _ _ _ _ (Nat.le_refl _) h1
  rw [← h2] at h1
  exact h1
end Tr
end Go.Proofs.Ytgbgdanbdbojaaa
