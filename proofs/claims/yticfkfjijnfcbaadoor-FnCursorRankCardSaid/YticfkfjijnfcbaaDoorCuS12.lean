/- Finding: plain data: what stands next to a number, how many keys are less. -/
import Derived.Test.YticfkfjijnfcbaaDoorCu10
namespace Go.Proofs.YticfkfjijnfcbaaDoor
open Go.RowKit
theorem place_lt {c : Int} : ∀ {k : List Int} {i : Nat}, i < place c k → k.getD i 0 < c
 | [], i, h => by simp [place] at h
 | x :: r, i, h => by
   simp only [place] at h
   split at h
   · cases i with
     | zero => simpa using ‹x < c›
     | succ i => simpa using place_lt (k := r) (by omega)
   · omega
theorem place_ge {c : Int} : ∀ {k : List Int}, place c k < k.length → c ≤ k.getD (place c k) 0
 | [], h => by simp at h
 | x :: r, h => by
   simp only [place] at h ⊢
   split
   · rename_i hx
     rw [if_pos hx] at h
     simpa using place_ge (k := r) (by simpa using h)
   · simp; omega
theorem place_append_lt {c : Int} : ∀ {a b : List Int}, (∀ x ∈ a, x < c) → place c (a ++ b) = a.length + place c b
 | [], b, _ => by simp
 | x :: r, b, h => by
   have h1 := h x (by simp)
   have h2 := place_append_lt (a := r) (b := b) (fun y hy => h y (by simp [hy]))
   simp only [List.cons_append, place, if_pos h1, h2, List.length_cons]; omega
theorem place_append_ge {c : Int} : ∀ {a b : List Int}, (∀ x r, b = x :: r → c ≤ x) → place c (a ++ b) = place c a
 | [], b, h => by
   cases b with
   | nil => rfl
   | cons x r => simp only [List.nil_append, place]; rw [if_neg (by have := h x r rfl; omega)]
 | x :: r, b, h => by
   have h2 := place_append_ge (a := r) (b := b) h
   simp only [List.cons_append, place, h2]
namespace Tr
theorem upto_pre (kss : List (List Int)) (k : List Int) (p n : Nat) (h : p ≤ n) : ∃ R, upto kss k n = upto kss k p ++ R ∧ (p = n → R = []) := by
 induction h with
 | refl => exact ⟨[], by simp, fun _ => rfl⟩
 | step h ih =>
   obtain ⟨R, h1, h2⟩ := ih
   rename_i m
   have h : p ≤ m := h
   refine ⟨R ++ part kss k m, by rw [upto_succ, h1, List.append_assoc], fun e => by omega⟩
theorem Well.split {k : List Int} {cs : List Tr} (h : Well (.mk k cs)) (hc : cs.length ≠ 0) (c : Int) (hp : place c k < cs.length) :
   ∃ R, (Tr.mk k cs).keys = upto (keyss cs) k (place c k) ++ (cs[place c k].keys ++ ((k[place c k]?).toList ++ R)) ∧ (∀ x ∈ upto (keyss cs) k (place c k), x < c) ∧ (place c k = k.length → R = []) := by
 have hcl := Well.inner h hc
 obtain ⟨R, h1, h2⟩ := upto_pre (keyss cs) k (place c k + 1) (max k.length cs.length) (by omega)
 have hk : (Tr.mk k cs).keys = upto (keyss cs) k (place c k) ++ (cs[place c k].keys ++ ((k[place c k]?).toList ++ R)) := by
   rw [Tr.keys, h1, upto_succ, part, keyss_get cs _ hp]; simp
 refine ⟨R, hk, fun x hx => ?_, fun e => h2 (by omega)⟩
 have hs := h.2
 rw [hk] at hs
 have hs' := (List.pairwise_append.1 hs).1
 by_cases h0 : place c k = 0
 · rw [h0] at hx; simp [upto] at hx
 · obtain ⟨q, hq⟩ : ∃ q, place c k = q + 1 := ⟨place c k - 1, by omega⟩
   have hle := place_le c k
   have hlast : upto (keyss cs) k (place c k) = (upto (keyss cs) k q ++ ((keyss cs)[q]?).getD []) ++ [k.getD q 0] := by
     rw [hq, upto_succ, part, List.append_assoc]
     have : (k[q]?).toList = [k.getD q 0] := by
       have hlt : q < k.length := by omega
       simp [hlt, List.getD_eq_getElem?_getD]
     rw [this]
   rw [hlast] at hs' hx
   have hq' : k.getD q 0 < c := place_lt (by omega)
   rcases List.mem_append.1 hx with hx | hx
   · have := (List.pairwise_append.1 hs').2.2 x hx (k.getD q 0) (by simp)
     omega
   · simp at hx; rw [hx, ← List.getD_eq_getElem?_getD]; exact hq'
theorem keys_leaf {k : List Int} {cs : List Tr} (hc : cs.length = 0) : (Tr.mk k cs).keys = k := by
 have h0 : cs = [] := List.length_eq_zero_iff.1 hc
 subst h0
 rw [keys]
 have : ∀ n, n ≤ k.length → upto (keyss []) k n = k.take n := by
   intro n
   induction n with
   | zero => intro _; simp [upto]
   | succ n ih =>
     intro hn
     rw [upto_succ, ih (by omega), part, List.take_add_one]; simp [keyss]
 simp only [List.length_nil, Nat.max_zero]
 rw [this _ (Nat.le_refl _), List.take_length]
theorem behind_ge {k R : List Int} {c : Int} (hR : place c k = k.length → R = []) : ∀ x r, (k[place c k]?).toList ++ R = x :: r → c ≤ x := by
 intro x r h
 by_cases hp : place c k < k.length
 · have h1 : (k[place c k]?).toList = [k.getD (place c k) 0] := by simp [hp, List.getD_eq_getElem?_getD]
   rw [h1] at h
   simp only [List.cons_append, List.cons.injEq] at h
   rw [← h.1]; exact place_ge hp
 · have := place_le c k
   rw [hR (by omega), List.getElem?_eq_none (by omega)] at h
   simp at h
def nextStep (c : Int) (acc : Int × Bool) (x : Tr) : Int × Bool := if place c x.ks < x.ks.length then (x.ks.getD (place c x.ks) 0, true) else acc
def prevStep (c : Int) (acc : Int × Bool) (x : Tr) : Int × Bool := if 0 < place c x.ks then (x.ks.getD (place c x.ks - 1) 0, true) else acc
theorem getD_right {a b : List Int} {i : Nat} (h : a.length ≤ i) : (a ++ b).getD i 0 = b.getD (i - a.length) 0 := by
 rw [List.getD_eq_getElem?_getD, List.getElem?_append_right h, ← List.getD_eq_getElem?_getD]
theorem getD_left {a b : List Int} {i : Nat} (h : i < a.length) : (a ++ b).getD i 0 = a.getD i 0 := by
 rw [List.getD_eq_getElem?_getD, List.getElem?_append_left h, ← List.getD_eq_getElem?_getD]
def optOr (o : Option Int) (acc : Int × Bool) : Int × Bool := match o with | some k => (k, true) | none => acc
def prevOf (c : Int) (keys : List Int) (acc : Int × Bool) : Int × Bool := if 0 < place c keys then (keys.getD (place c keys - 1) 0, true) else acc
def nextB (key : Int) (t : Tr) : Int × Bool := if t.someB then optOr (t.keys.find? (fun x => decide (key + 1 ≤ x))) (0, false) else (0, false)
def prevB (key : Int) (t : Tr) : Int × Bool := if t.someB then prevOf key t.keys (0, false) else (0, false)
def rankStep (c : Int) (x : Tr) : Nat := (upto (keyss x.cs) x.ks (place c x.ks)).length
theorem rank_way' (c : Int) : ∀ (n : Nat) (t : Tr), t.weight ≤ n → Well t → ((t.way c).map (rankStep c)).sum = place c t.keys := by
 intro n
 have hleaf : ∀ (k : List Int) (cs : List Tr), cs.length = 0 → (((Tr.mk k cs).way c).map (rankStep c)).sum = place c (Tr.mk k cs).keys := by
   intro k cs hc
   rw [way_leaf hc, keys_leaf hc]
   have h0 : cs = [] := List.length_eq_zero_iff.1 hc
   subst h0
   have hp := place_le c k
   simp only [List.map_cons, List.map_nil, List.sum_cons, List.sum_nil, rankStep, ks, Tr.cs, keyss]
   rw [upto_length]
   simp [lens]; omega
 induction n with
 | zero =>
   rintro ⟨k, cs⟩ hn hw
   simp only [weight] at hn
   exact hleaf k cs (by have := length_le_weights cs; omega)
 | succ n ih =>
   rintro ⟨k, cs⟩ hn hw
   by_cases hc : cs.length = 0
   · exact hleaf k cs hc
   · have hcl := Well.inner hw hc
     have hpl := place_le c k
     have hi : place c k < cs.length := by omega
     have hwt := weight_get_le cs _ hi
     simp only [weight] at hn
     obtain ⟨R, h1, h2, h3⟩ := Well.split hw hc c hi
     rw [way_inner hi, List.map_cons, List.sum_cons, ih _ (by omega) (Well.kid hw _ hi), h1, place_append_lt h2, place_append_ge (behind_ge h3)]
     rfl
theorem rank_way (c : Int) (t : Tr) (hw : Well t) : ((t.way c).map (rankStep c)).sum = place c t.keys := rank_way' c t.weight t (Nat.le_refl _) hw
end Tr
end Go.Proofs.YticfkfjijnfcbaaDoor
