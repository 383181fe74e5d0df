/- Finding: plain data: what stands next to a number, how many keys are less. -/
import Derived.Test.YticfkfjijnfcbaaDoorCx10
namespace Go.Proofs.YticfkfjijnfcbaaDoor
open Go.RowKit
theorem place_lt {c : Int} : ∀ {k : List Int} {i : Nat}, i < place c k → k.getD i 0 < c
 | [], i, h => by simp [place] at h
 | x :: r, i, h => by
   simp only [place] at h
   split at h
   · cases i with
     | zero => simpa using ‹x < c›
     | succ i => simpa using place_lt (k := r) (by omega)
   · omega
theorem place_ge {c : Int} : ∀ {k : List Int}, place c k < k.length → c ≤ k.getD (place c k) 0
 | [], h => by simp at h
 | x :: r, h => by
   simp only [place] at h ⊢
   split
   · rename_i hx
     rw [if_pos hx] at h
     simpa using place_ge (k := r) (by simpa using h)
   · simp; omega
theorem place_append_lt {c : Int} : ∀ {a b : List Int}, (∀ x ∈ a, x < c) → place c (a ++ b) = a.length + place c b
 | [], b, _ => by simp
 | x :: r, b, h => by
   have h1 := h x (by simp)
   have h2 := place_append_lt (a := r) (b := b) (fun y hy => h y (by simp [hy]))
   simp only [List.cons_append, place, if_pos h1, h2, List.length_cons]; omega
theorem place_append_ge {c : Int} : ∀ {a b : List Int}, (∀ x r, b = x :: r → c ≤ x) → place c (a ++ b) = place c a
 | [], b, h => by
   cases b with
   | nil => rfl
   | cons x r => simp only [List.nil_append, place]; rw [if_neg (by have := h x r rfl; omega)]
 | x :: r, b, h => by
   have h2 := place_append_ge (a := r) (b := b) h
   simp only [List.cons_append, place, h2]
theorem find_place (c : Int) (k : List Int) : k.find? (fun x => decide (c ≤ x)) = k[place c k]? := by
 induction k with
 | nil => rfl
 | cons x r ih =>
   simp only [place]
   by_cases h : x < c
   · rw [if_pos h, List.find?_cons_of_neg (by simp; omega), ih]; simp
   · rw [if_neg h, List.find?_cons_of_pos (by simp; omega)]; simp
namespace Tr
theorem upto_pre (kss : List (List Int)) (k : List Int) (p n : Nat) (h : p ≤ n) : ∃ R, upto kss k n = upto kss k p ++ R ∧ (p = n → R = []) := by
 induction h with
 | refl => exact ⟨[], by simp, fun _ => rfl⟩
 | step h ih =>
   obtain ⟨R, h1, h2⟩ := ih
   rename_i m
   have h : p ≤ m := h
   refine ⟨R ++ part kss k m, by rw [upto_succ, h1, List.append_assoc], fun e => by omega⟩
theorem Well.split {k : List Int} {cs : List Tr} (h : Well (.mk k cs)) (hc : cs.length ≠ 0) (c : Int) (hp : place c k < cs.length) :
   ∃ R, (Tr.mk k cs).keys = upto (keyss cs) k (place c k) ++ (cs[place c k].keys ++ ((k[place c k]?).toList ++ R)) ∧ (∀ x ∈ upto (keyss cs) k (place c k), x < c) ∧ (place c k = k.length → R = []) := by
 have hcl := Well.inner h hc
 obtain ⟨R, h1, h2⟩ := upto_pre (keyss cs) k (place c k + 1) (max k.length cs.length) (by omega)
 have hk : (Tr.mk k cs).keys = upto (keyss cs) k (place c k) ++ (cs[place c k].keys ++ ((k[place c k]?).toList ++ R)) := by
   rw [Tr.keys, h1, upto_succ, part, keyss_get cs _ hp]; simp
 refine ⟨R, hk, fun x hx => ?_, fun e => h2 (by omega)⟩
 have hs := h.2
 rw [hk] at hs
 have hs' := (List.pairwise_append.1 hs).1
 by_cases h0 : place c k = 0
 · rw [h0] at hx; simp [upto] at hx
 · obtain ⟨q, hq⟩ : ∃ q, place c k = q + 1 := ⟨place c k - 1, by omega⟩
   have hle := place_le c k
   have hlast : upto (keyss cs) k (place c k) = (upto (keyss cs) k q ++ ((keyss cs)[q]?).getD []) ++ [k.getD q 0] := by
     rw [hq, upto_succ, part, List.append_assoc]
     have : (k[q]?).toList = [k.getD q 0] := by
       have hlt : q < k.length := by omega
       simp [hlt, List.getD_eq_getElem?_getD]
     rw [this]
   rw [hlast] at hs' hx
   have hq' : k.getD q 0 < c := place_lt (by omega)
   rcases List.mem_append.1 hx with hx | hx
   · have := (List.pairwise_append.1 hs').2.2 x hx (k.getD q 0) (by simp)
     omega
   · simp at hx; rw [hx, ← List.getD_eq_getElem?_getD]; exact hq'
theorem keys_leaf {k : List Int} {cs : List Tr} (hc : cs.length = 0) : (Tr.mk k cs).keys = k := by
 have h0 : cs = [] := List.length_eq_zero_iff.1 hc
 subst h0
 rw [keys]
 have : ∀ n, n ≤ k.length → upto (keyss []) k n = k.take n := by
   intro n
   induction n with
   | zero => intro _; simp [upto]
   | succ n ih =>
     intro hn
     rw [upto_succ, ih (by omega), part, List.take_add_one]; simp [keyss]
 simp only [List.length_nil, Nat.max_zero]
 rw [this _ (Nat.le_refl _), List.take_length]
theorem behind_ge {k R : List Int} {c : Int} (hR : place c k = k.length → R = []) : ∀ x r, (k[place c k]?).toList ++ R = x :: r → c ≤ x := by
 intro x r h
 by_cases hp : place c k < k.length
 · have h1 : (k[place c k]?).toList = [k.getD (place c k) 0] := by simp [hp, List.getD_eq_getElem?_getD]
   rw [h1] at h
   simp only [List.cons_append, List.cons.injEq] at h
   rw [← h.1]; exact place_ge hp
 · have := place_le c k
   rw [hR (by omega), List.getElem?_eq_none (by omega)] at h
   simp at h
def nextStep (c : Int) (acc : Int × Bool) (x : Tr) : Int × Bool := if place c x.ks < x.ks.length then (x.ks.getD (place c x.ks) 0, true) else acc
def prevStep (c : Int) (acc : Int × Bool) (x : Tr) : Int × Bool := if 0 < place c x.ks then (x.ks.getD (place c x.ks - 1) 0, true) else acc
theorem nextStep_mk (c : Int) (acc : Int × Bool) (k : List Int) (cs : List Tr) : nextStep c acc (.mk k cs) = if place c k < k.length then (k.getD (place c k) 0, true) else acc := rfl
theorem prevStep_mk (c : Int) (acc : Int × Bool) (k : List Int) (cs : List Tr) : prevStep c acc (.mk k cs) = if 0 < place c k then (k.getD (place c k - 1) 0, true) else acc := rfl
theorem getD_right {a b : List Int} {i : Nat} (h : a.length ≤ i) : (a ++ b).getD i 0 = b.getD (i - a.length) 0 := by
 rw [List.getD_eq_getElem?_getD, List.getElem?_append_right h, ← List.getD_eq_getElem?_getD]
theorem getD_left {a b : List Int} {i : Nat} (h : i < a.length) : (a ++ b).getD i 0 = a.getD i 0 := by
 rw [List.getD_eq_getElem?_getD, List.getElem?_append_left h, ← List.getD_eq_getElem?_getD]
def optOr (o : Option Int) (acc : Int × Bool) : Int × Bool := match o with | some k => (k, true) | none => acc
def prevOf (c : Int) (keys : List Int) (acc : Int × Bool) : Int × Bool := if 0 < place c keys then (keys.getD (place c keys - 1) 0, true) else acc
theorem next_way' (c : Int) : ∀ (n : Nat) (t : Tr), t.weight ≤ n → Well t → ∀ acc, (t.way c).foldl (nextStep c) acc = optOr (t.keys.find? (fun x => decide (c ≤ x))) acc := by
 intro n
 have hleaf : ∀ (k : List Int) (cs : List Tr), cs.length = 0 → ∀ acc, ((Tr.mk k cs).way c).foldl (nextStep c) acc = optOr ((Tr.mk k cs).keys.find? (fun x => decide (c ≤ x))) acc := by
   intro k cs hc acc
   rw [way_leaf hc, keys_leaf hc, find_place]
   rw [List.foldl_cons, List.foldl_nil, nextStep_mk]
   by_cases h : place c k < k.length
   · rw [if_pos h]; simp [optOr, h, List.getD_eq_getElem?_getD]
   · rw [if_neg h, List.getElem?_eq_none (by omega)]; rfl
 induction n with
 | zero =>
   rintro ⟨k, cs⟩ hn hw acc
   simp only [weight] at hn
   exact hleaf k cs (by have := length_le_weights cs; omega) acc
 | succ n ih =>
   rintro ⟨k, cs⟩ hn hw acc
   by_cases hc : cs.length = 0
   · exact hleaf k cs hc acc
   · have hcl := Well.inner hw hc
     have hpl := place_le c k
     have hi : place c k < cs.length := by omega
     have hwt := weight_get_le cs _ hi
     simp only [weight] at hn
     obtain ⟨R, h1, h2, h3⟩ := Well.split hw hc c hi
     rw [way_inner hi, List.foldl_cons, ih _ (by omega) (Well.kid hw _ hi), h1, List.find?_append, List.find?_append]
     have e1 : (upto (keyss cs) k (place c k)).find? (fun x => decide (c ≤ x)) = none := by
       rw [List.find?_eq_none]; intro x hx; have := h2 x hx; simp; omega
     rw [e1, Option.none_or]
     cases hf : cs[place c k].keys.find? (fun x => decide (c ≤ x)) with
     | some y => simp [optOr]
     | none =>
       rw [Option.none_or, nextStep_mk, optOr]
       by_cases h : place c k < k.length
       · have hg := place_ge h
         have h4 : (k[place c k]?).toList = [k.getD (place c k) 0] := by simp [h, List.getD_eq_getElem?_getD]
         rw [if_pos h, h4, List.singleton_append, List.find?_cons_of_pos (by simpa using hg)]; rfl
       · rw [if_neg h, h3 (by omega), List.getElem?_eq_none (by omega)]; rfl
theorem next_way (c : Int) (t : Tr) (hw : Well t) (acc : Int × Bool) : (t.way c).foldl (nextStep c) acc = optOr (t.keys.find? (fun x => decide (c ≤ x))) acc := next_way' c t.weight t (Nat.le_refl _) hw acc
def nextB (key : Int) (t : Tr) : Int × Bool := if t.someB then optOr (t.keys.find? (fun x => decide (key + 1 ≤ x))) (0, false) else (0, false)
theorem nextB_is (key : Int) (t : Tr) : (t.someB = true → t.nextB key = optOr (t.keys.find? (fun x => decide (key + 1 ≤ x))) (0, false)) ∧ (t.someB = false → t.nextB key = (0, false)) := by
 unfold nextB; constructor <;> intro h <;> simp [h]
theorem upto_length_le (kss : List (List Int)) (k : List Int) (p : Nat) (h : p ≤ k.length) : p ≤ (upto kss k p).length := by
 rw [upto_length, List.length_take]; omega
theorem prev_way' (c : Int) : ∀ (n : Nat) (t : Tr), t.weight ≤ n → Well t → ∀ acc, (t.way c).foldl (prevStep c) acc = prevOf c t.keys acc := by
 intro n
 have hleaf : ∀ (k : List Int) (cs : List Tr), cs.length = 0 → ∀ acc, ((Tr.mk k cs).way c).foldl (prevStep c) acc = prevOf c (Tr.mk k cs).keys acc := by
   intro k cs hc acc
   rw [way_leaf hc, keys_leaf hc]
   rw [List.foldl_cons, List.foldl_nil, prevStep_mk, prevOf]
 induction n with
 | zero =>
   rintro ⟨k, cs⟩ hn hw acc
   simp only [weight] at hn
   exact hleaf k cs (by have := length_le_weights cs; omega) acc
 | succ n ih =>
   rintro ⟨k, cs⟩ hn hw acc
   by_cases hc : cs.length = 0
   · exact hleaf k cs hc acc
   · have hcl := Well.inner hw hc
     have hpl := place_le c k
     have hi : place c k < cs.length := by omega
     have hwt := weight_get_le cs _ hi
     simp only [weight] at hn
     obtain ⟨R, h1, h2, h3⟩ := Well.split hw hc c hi
     rw [way_inner hi, List.foldl_cons, ih _ (by omega) (Well.kid hw _ hi)]
     unfold prevOf
     rw [h1, place_append_lt h2, place_append_ge (behind_ge h3)]
     have hul := upto_length_le (keyss cs) k (place c k) hpl
     by_cases hk : 0 < place c cs[place c k].keys
     · have hpk := place_le c cs[place c k].keys
       rw [if_pos hk, if_pos (by omega)]
       congr 1
       rw [getD_right (by omega), getD_left (by omega)]
       congr 1; omega
     · rw [if_neg hk]
       rw [prevStep_mk]
       by_cases h0 : 0 < place c k
       · rw [if_pos h0, if_pos (by omega)]
         congr 1
         obtain ⟨q, hq⟩ : ∃ q, place c k = q + 1 := ⟨place c k - 1, by omega⟩
         have hlast : upto (keyss cs) k (place c k) = (upto (keyss cs) k q ++ ((keyss cs)[q]?).getD []) ++ [k.getD q 0] := by
           rw [hq, upto_succ, part, List.append_assoc]
           have : (k[q]?).toList = [k.getD q 0] := by
             have hlt : q < k.length := by omega
             simp [hlt, List.getD_eq_getElem?_getD]
           rw [this]
         have e0 : place c cs[place c k].keys = 0 := by omega
         rw [e0, hlast]
         simp only [List.length_append, List.length_cons, List.length_nil, Nat.add_zero]
         rw [getD_left (by simp), getD_right (by simp), hq]
         simp
       · have e1 : place c k = 0 := by omega
         have e0 : place c cs[place c k].keys = 0 := by omega
         rw [if_neg h0, e0, if_neg]
         rw [e1]; simp [upto]
theorem prev_way (c : Int) (t : Tr) (hw : Well t) (acc : Int × Bool) : (t.way c).foldl (prevStep c) acc = prevOf c t.keys acc := prev_way' c t.weight t (Nat.le_refl _) hw acc
def prevB (key : Int) (t : Tr) : Int × Bool := if t.someB then prevOf key t.keys (0, false) else (0, false)
theorem prevB_is (key : Int) (t : Tr) : (t.someB = true → t.prevB key = prevOf key t.keys (0, false)) ∧ (t.someB = false → t.prevB key = (0, false)) := by
 unfold prevB; constructor <;> intro h <;> simp [h]
def rankStep (c : Int) (x : Tr) : Nat := (upto (keyss x.cs) x.ks (place c x.ks)).length
end Tr
end Go.Proofs.YticfkfjijnfcbaaDoor
