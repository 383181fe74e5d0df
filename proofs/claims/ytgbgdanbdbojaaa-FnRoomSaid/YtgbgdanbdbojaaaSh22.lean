/- Inserting: a key comes to its place among the keys of a tree. -/
import Derived.Test.YtgbgdanbdbojaaaSh0
import Derived.Test.YtgbgdanbdbojaaaSh7
import Derived.Test.YtgbgdanbdbojaaaSh12
import Derived.Test.YtgbgdanbdbojaaaSh15
import Derived.Test.YtgbgdanbdbojaaaSh21
import Derived.Test.YtgbgdanbdbojaaaSh9
import Derived.Test.YtgbgdanbdbojaaaSh10
import Derived.Test.YtgbgdanbdbojaaaSh19
import Derived.Test.YtgbgdanbdbojaaaInsBelow

/- Inserting: the keys of a tree into which a key is put. -/
namespace Go.Proofs.Ytgbgdanbdbojaaa
open Go.RowKit

namespace Tr
/-- The keys of kids and the keys between them. -/
def weave : List Tr → List Int → List Int
  | [], ks => ks
  | t :: r, [] => t.keys ++ weave r []
  | t :: r, x :: ks => t.keys ++ x :: weave r ks
/-- What follows behind a kid. -/
def tailW (r : List Tr) : List Int → List Int
  | [] => weave r []
  | x :: ks => x :: weave r ks
theorem weave_cons (t : Tr) (r : List Tr) (ks : List Int) : weave (t :: r) ks = t.keys ++ tailW r ks := by
  cases ks <;> rfl
theorem upto_cons (a : List Int) (kss : List (List Int)) (x : Int) (ks : List Int) (n : Nat) : upto (a :: kss) (x :: ks) (n + 1) = a ++ x :: upto kss ks n := by
  simp [upto, List.range_succ_eq_map, List.flatMap_map, part]
  rfl
theorem upto_cons0 (a : List Int) (kss : List (List Int)) (n : Nat) : upto (a :: kss) [] (n + 1) = a ++ upto kss [] n := by
  simp [upto, List.range_succ_eq_map, List.flatMap_map, part]
  congr 1; funext a; simp [part]
theorem upto_keys (ks : List Int) : upto [] ks ks.length = ks := by
  induction ks with
  | nil => rfl
  | cons x ks ih =>
    have h : upto [] (x :: ks) (ks.length + 1) = x :: upto [] ks ks.length := by
      simp [upto, List.range_succ_eq_map, List.flatMap_map, part]
      rfl
    rw [List.length_cons, h, ih]
theorem upto_weave : ∀ (c : List Tr) (k : List Int), upto (keyss c) k (max k.length c.length) = weave c k
  | [], k => by simp only [keyss, weave, List.length_nil, Nat.max_zero]; exact upto_keys k
  | t :: r, [] => by
    rw [weave, ← upto_weave r [], keyss, List.length_nil, Nat.zero_max, List.length_cons, upto_cons0, Nat.zero_max]
  | t :: r, x :: ks => by
    rw [weave, ← upto_weave r ks, keyss, List.length_cons, List.length_cons, Nat.succ_max_succ, upto_cons]
theorem keys_weave (k : List Int) (c : List Tr) : (Tr.mk k c).keys = weave c k := by rw [keys]; exact upto_weave c k
theorem weave_append : ∀ (c : List Tr) (k : List Int) (c2 : List Tr) (k2 : List Int), c.length = k.length → weave (c ++ c2) (k ++ k2) = weave c k ++ weave c2 k2
  | [], [], c2, k2, _ => rfl
  | [], x :: k, c2, k2, h => by simp at h
  | t :: c, [], c2, k2, h => by simp at h
  | t :: c, x :: k, c2, k2, h => by
    rw [List.cons_append, List.cons_append, weave, weave, weave_append c k c2 k2 (by simpa using h)]
    simp

/-- The keys of a node, around those of a kid. -/
theorem keys_around {k : List Int} {c : List Tr} {i : Nat} (hi : i < c.length) (hc : c.length = k.length + 1) :
    (Tr.mk k c).keys = weave (c.take i) (k.take i) ++ (c[i].keys ++ tailW (c.drop (i + 1)) (k.drop i)) := by
  rw [keys_weave, ← weave_cons, ← weave_append _ _ _ _ (by simp; omega), List.take_append_drop]
  congr 1
  rw [List.getElem_cons_drop, List.take_append_drop]
theorem keys_setKid {k : List Int} {c : List Tr} {i : Nat} (u : Tr) (hi : i < c.length) (hc : c.length = k.length + 1) :
    (Tr.mk k (setKid c i u)).keys = weave (c.take i) (k.take i) ++ (u.keys ++ tailW (c.drop (i + 1)) (k.drop i)) := by
  rw [keys_weave, setKid, ← weave_cons, ← weave_append _ _ _ _ (by simp; omega), List.take_append_drop]
theorem keys_splitKid {k : List Int} {c : List Tr} {i : Nat} (u : Tr) (hi : i < c.length) (hc : c.length = k.length + 1) :
    (splitKid k c i u).keys = weave (c.take i) (k.take i) ++ (u.leftOf.keys ++ u.midOf :: (u.rightOf.keys ++ tailW (c.drop (i + 1)) (k.drop i))) := by
  rw [splitKid, keys_weave, putAt, weave_append _ _ _ _ (by simp; omega), weave, weave_cons]
/-- The keys of a node are those of its halves, and the one between. -/
theorem keys_halves {u : Tr} (h : u.ks.length ≠ 0) (hc : u.cs.length = 0 ∨ u.cs.length = u.ks.length + 1) :
    u.keys = u.leftOf.keys ++ u.midOf :: u.rightOf.keys := by
  cases u with
  | mk k c =>
    simp only [ks, cs] at h hc
    have hm : k.length / 2 < k.length := by omega
    have hk : k = k.take (k.length / 2) ++ k.getD (k.length / 2) 0 :: k.drop (k.length / 2 + 1) := by
      rw [List.getD_eq_getElem?_getD, List.getElem?_eq_getElem hm, Option.getD_some, List.getElem_cons_drop, List.take_append_drop]
    rw [leftOf, rightOf, midOf, keys_weave, keys_weave, keys_weave]
    rcases hc with h0 | h1
    · have : c = [] := List.length_eq_zero_iff.1 h0
      subst this
      simp only [List.take_nil, List.drop_nil, weave]
      exact hk
    · obtain ⟨m, hme⟩ : ∃ m, m = k.length / 2 := ⟨_, rfl⟩
      rw [← hme] at hm hk ⊢
      have hmc : m < c.length := by omega
      have h2 := keys_around (k := k) hmc h1
      rw [keys_weave] at h2
      rw [h2, List.take_succ_eq_append_getElem hmc]
      have e1 : weave (c.take m ++ [c[m]]) (k.take m) = weave (c.take m) (k.take m) ++ c[m].keys := by
        have := weave_append (c.take m) (k.take m) [c[m]] [] (by simp; omega)
        rw [List.append_nil] at this
        rw [this, weave_cons]
        simp [tailW, weave]
      rw [e1, List.append_assoc]
      congr 2
      have e2 : k.drop m = k.getD m 0 :: k.drop (m + 1) := by
        rw [List.getD_eq_getElem?_getD, List.getElem?_eq_getElem hm, Option.getD_some, List.getElem_cons_drop]
      rw [e2]; rfl
end Tr
end Go.Proofs.Ytgbgdanbdbojaaa

/- Inserting: a key comes to its place among the keys of a tree. -/
namespace Go.Proofs.Ytgbgdanbdbojaaa
open Go.RowKit

theorem putAt_within {α : Type} (P K S : List α) (q : Nat) (x : α) (h : q ≤ K.length) : putAt (P ++ (K ++ S)) (P.length + q) x = P ++ (putAt K q x ++ S) := by
  unfold putAt
  rw [List.take_length_add_append, List.drop_length_add_append, List.take_append_of_le_length h, List.drop_append_of_le_length h]
  simp

namespace Tr
theorem Well.of_valid {t : Tr} {wide : Int} (h : validB wide t = true) : Well t := by
  unfold validB at h
  simp only [Bool.and_eq_true] at h
  exact ⟨⟨wide, 0, _, h.2.1⟩, pairwise_of_sorted h.2.2⟩
theorem keys_ahead {k : List Int} {c : List Tr} {j : Nat} (hj : j < k.length) (hc : c.length = k.length + 1) :
    weave (c.take (j + 1)) (k.take (j + 1)) = weave (c.take j) (k.take j) ++ (c[j].keys ++ [k[j]]) := by
  rw [List.take_succ_eq_append_getElem (by omega : j < c.length), List.take_succ_eq_append_getElem hj, weave_append _ _ _ _ (by simp; omega)]
  rfl
theorem grow_keys {wide : Int} (hw : 0 ≤ wide) (key : Int) : ∀ (n : Nat) (t : Tr), t.weight ≤ n → Well t → (grow wide key t).1.keys = putAt t.keys (place key t.keys) key := by
  intro n
  induction n with
  | zero =>
    rintro ⟨k, c⟩ hn _
    simp only [weight] at hn
    have hc : c.length = 0 := by have := length_le_weights c; omega
    rw [grow_leaf hc, List.length_eq_zero_iff.1 hc, keys_weave, keys_weave]; rfl
  | succ n ih =>
    rintro ⟨k, c⟩ hn hwell
    by_cases hc : c.length = 0
    · rw [grow_leaf hc, List.length_eq_zero_iff.1 hc, keys_weave, keys_weave]; rfl
    · have hcl := Well.inner hwell hc
      have hp := place_le key k
      have hi : place key k < c.length := by omega
      have hlt := fun j => place_lt (c := key) (k := k) (i := j)
      have hge := place_ge (c := key) (k := k)
      rw [grow_inner hi]
      have hwt := weight_get_le c _ hi
      simp only [weight] at hn
      have hkid := Well.kid hwell _ hi
      have hu := ih c[place key k] (by omega) hkid
      have hsh := grow_shaped wide key c[place key k] hkid.fits
      have hso := hwell.2
      generalize (grow wide key c[place key k]) = r at hu hsh ⊢
      generalize place key k = i at *
      rw [keys_around hi hcl] at hso ⊢
      have hP : ∀ x ∈ weave (c.take i) (k.take i), x < key := by
        cases i with
        | zero => intro x hx; simp [weave] at hx
        | succ j =>
          have hj : j < k.length := by omega
          have h1 := hlt j (by omega)
          rw [List.getD_eq_getElem?_getD, List.getElem?_eq_getElem hj, Option.getD_some] at h1
          rw [keys_ahead hj hcl] at hso ⊢
          have h2 := (List.pairwise_append.1 hso).1
          intro x hx
          rw [← List.append_assoc] at h2 hx
          rcases List.mem_append.1 hx with hx | hx
          · have := (List.pairwise_append.1 h2).2.2 x hx k[j] (by simp)
            omega
          · simp at hx; omega
      have hS : ∀ x r, tailW (c.drop (i + 1)) (k.drop i) = x :: r → key ≤ x := by
        intro x r hx
        by_cases h : i < k.length
        · have h1 := hge h
          rw [List.getD_eq_getElem?_getD, List.getElem?_eq_getElem h, Option.getD_some] at h1
          rw [List.drop_eq_getElem_cons h] at hx
          simp only [tailW, List.cons.injEq] at hx
          omega
        · rw [List.drop_of_length_le (by omega), List.drop_of_length_le (by omega)] at hx
          simp [tailW, weave] at hx
      rw [place_append_lt hP, place_append_ge hS, putAt_within _ _ _ _ _ (place_le key _), ← hu]
      unfold growStep
      by_cases hs : wide < (r.1.ks.length : Int)
      · rw [if_pos hs]
        dsimp only
        rw [keys_splitKid _ hi hcl, keys_halves (u := r.1) (by omega) hsh]
        simp
      · rw [if_neg hs]
        exact keys_setKid _ hi hcl
/-- The keys of the tree that a key makes. -/
theorem insT_keys {wide : Int} (hw : 0 ≤ wide) (key : Int) {t : Tr} (h : Well t) : (insT wide key t).keys = putAt t.keys (place key t.keys) key := by
  have hu := grow_keys hw key t.weight t (Nat.le_refl _) h
  have hsh := grow_shaped wide key t h.fits
  unfold insT
  dsimp only
  by_cases hs : wide < ((grow wide key t).1.ks.length : Int)
  · rw [if_pos hs, ← hu, keys_halves (by omega) hsh, keys_weave]
    simp [weave, keys_weave]
  · rw [if_neg hs, hu]
theorem sorted_of {ks : List Int} (h : ks.Pairwise (· < ·)) (hr : ∀ x ∈ ks, 0 ≤ x ∧ x ≤ 99) : sortedB ks = true := by
  refine sortedB_of fun i hi => ?_
  have e1 : ks.getD i 0 = ks[i] := by rw [List.getD_eq_getElem?_getD, List.getElem?_eq_getElem hi, Option.getD_some]
  have h1 := hr ks[i] (List.getElem_mem hi)
  unfold okAt inB
  rw [e1]
  cases i with
  | zero => simp; omega
  | succ j =>
    have hj : j < ks.length := by omega
    have e2 : ks.getD j 0 = ks[j] := by rw [List.getD_eq_getElem?_getD, List.getElem?_eq_getElem hj, Option.getD_some]
    have h2 := List.pairwise_iff_getElem.1 h j (j + 1) hj hi (by omega)
    rw [Nat.add_sub_cancel, e2]
    simp [h2]; omega
theorem put_sorted {ks : List Int} (h : ks.Pairwise (· < ·)) {key : Int} (hk : key ∉ ks) : (putAt ks (place key ks) key).Pairwise (· < ·) := by
  have h0 := h
  rw [← List.take_append_drop (place key ks) ks] at h0
  obtain ⟨h1, h2, h3⟩ := List.pairwise_append.1 h0
  have ha : ∀ x ∈ ks.take (place key ks), x < key := fun x hx => by
    obtain ⟨i, hi, rfl⟩ := List.getElem_of_mem hx
    have hi' : i < place key ks := by simp at hi; omega
    have hl : i < ks.length := by simp at hi; omega
    have := place_lt hi'
    rw [List.getD_eq_getElem?_getD, List.getElem?_eq_getElem hl, Option.getD_some] at this
    simpa using this
  have hb : ∀ x ∈ ks.drop (place key ks), key < x := fun x hx => by
    by_cases hp : place key ks < ks.length
    · have h4 := place_ge hp
      rw [List.getD_eq_getElem?_getD, List.getElem?_eq_getElem hp, Option.getD_some] at h4
      have h5 : ks[place key ks] ≤ x := by
        rw [List.drop_eq_getElem_cons hp] at hx h2
        rcases List.mem_cons.1 hx with rfl | hx
        · exact Int.le_refl _
        · exact Int.le_of_lt ((List.pairwise_cons.1 h2).1 x hx)
      have h6 : x ≠ key := fun e => hk (e ▸ List.mem_of_mem_drop hx)
      omega
    · rw [List.drop_of_length_le (by omega)] at hx
      simp at hx
  unfold putAt
  refine List.pairwise_append.2 ⟨h1, List.pairwise_cons.2 ⟨hb, h2⟩, fun x hx y hy => ?_⟩
  rcases List.mem_cons.1 hy with rfl | hy
  · exact ha x hx
  · have := ha x hx
    have := hb y hy
    omega
/-- A key that a valid tree does not have makes a valid tree of it. -/
theorem insT_valid {wide key : Int} {t : Tr} (h : validB wide t = true) (h0 : 0 ≤ key) (h9 : key ≤ 99) (hk : key ∉ t.keys) : validB wide (insT wide key t) = true := by
  have hw := Well.of_valid h
  unfold validB at h ⊢
  simp only [Bool.and_eq_true] at h ⊢
  have hwide : 2 ≤ wide ∧ wide ≤ 6 := by simpa [inB] using h.1
  refine ⟨h.1, insT_depth hwide.1 key h.2.1, ?_⟩
  rw [insT_keys (by omega) key hw]
  refine sorted_of (put_sorted hw.2 hk) fun x hx => ?_
  unfold putAt at hx
  have hin : ∀ y ∈ t.keys, 0 ≤ y ∧ y ≤ 99 := fun y hy => by
    obtain ⟨i, hi, rfl⟩ := List.getElem_of_mem hy
    have := sorted_ge h.2.2 i hi
    rw [List.getD_eq_getElem?_getD, List.getElem?_eq_getElem hi, Option.getD_some] at this
    omega
  rcases List.mem_append.1 hx with hx | hx
  · exact hin x (List.mem_of_mem_take hx)
  · rcases List.mem_cons.1 hx with rfl | hx
    · exact ⟨h0, h9⟩
    · exact hin x (List.mem_of_mem_drop hx)
end Tr
end Go.Proofs.Ytgbgdanbdbojaaa
