/- Keys one behind the other, and back: plain data. -/
import Derived.Test.YtjnkdbgebkajoaaSh0
import Derived.Test.YtjnkdbgebkajoaaSh6
import Derived.Test.YtjnkdbgebkajoaaSh12
import Derived.Test.YtjnkdbgebkajoaaSh15
import Derived.Test.YtjnkdbgebkajoaaSh22
import Derived.Test.YtjnkdbgebkajoaaSh30
import Derived.Test.YtjnkdbgebkajoaaSh9
import Derived.Test.YtjnkdbgebkajoaaSh10
import Derived.Test.YtjnkdbgebkajoaaInsBelow
import Derived.Test.YtjnkdbgebkajoaaSh24
import Derived.Test.YtjnkdbgebkajoaaSh16
import Derived.Test.YtjnkdbgebkajoaaSh26
import Derived.Test.YtjnkdbgebkajoaaSh29
import Derived.Test.YtjnkdbgebkajoaaValid

/- Inserting: a key comes to its place among the keys of a tree. -/
namespace Go.Proofs.Ytjnkdbgebkajoaa
open Go.RowKit

theorem putAt_within {α : Type} (P K S : List α) (q : Nat) (x : α) (h : q ≤ K.length) : putAt (P ++ (K ++ S)) (P.length + q) x = P ++ (putAt K q x ++ S) := by
  unfold putAt
  rw [List.take_length_add_append, List.drop_length_add_append, List.take_append_of_le_length h, List.drop_append_of_le_length h]
  simp

namespace Tr
theorem Well.of_valid {t : Tr} {wide : Int} (h : validB wide t = true) : Well t := by
  unfold validB at h
  simp only [Bool.and_eq_true] at h
  exact ⟨⟨wide, 0, _, h.2.1⟩, pairwise_of_sorted h.2.2⟩
theorem keys_ahead {k : List Int} {c : List Tr} {j : Nat} (hj : j < k.length) (hc : c.length = k.length + 1) :
    weave (c.take (j + 1)) (k.take (j + 1)) = weave (c.take j) (k.take j) ++ (c[j].keys ++ [k[j]]) := by
  rw [List.take_succ_eq_append_getElem (by omega : j < c.length), List.take_succ_eq_append_getElem hj, weave_append _ _ _ _ (by simp; omega)]
  rfl
theorem grow_keys {wide : Int} (hw : 0 ≤ wide) (key : Int) : ∀ (n : Nat) (t : Tr), t.weight ≤ n → Well t → (grow wide key t).1.keys = putAt t.keys (place key t.keys) key := by
  intro n
  induction n with
  | zero =>
    rintro ⟨k, c⟩ hn _
    simp only [weight] at hn
    have hc : c.length = 0 := by have := length_le_weights c; omega
    rw [grow_leaf hc, List.length_eq_zero_iff.1 hc, keys_weave, keys_weave]; rfl
  | succ n ih =>
    rintro ⟨k, c⟩ hn hwell
    by_cases hc : c.length = 0
    · rw [grow_leaf hc, List.length_eq_zero_iff.1 hc, keys_weave, keys_weave]; rfl
    · have hcl := Well.inner hwell hc
      have hp := place_le key k
      have hi : place key k < c.length := by omega
      have hlt := fun j => place_lt (c := key) (k := k) (i := j)
      have hge := place_ge (c := key) (k := k)
      rw [grow_inner hi]
      have hwt := weight_get_le c _ hi
      simp only [weight] at hn
      have hkid := Well.kid hwell _ hi
      have hu := ih c[place key k] (by omega) hkid
      have hsh := grow_shaped wide key c[place key k] hkid.fits
      have hso := hwell.2
      generalize (grow wide key c[place key k]) = r at hu hsh ⊢
      generalize place key k = i at *
      rw [keys_around hi hcl] at hso ⊢
      have hP : ∀ x ∈ weave (c.take i) (k.take i), x < key := by
        cases i with
        | zero => intro x hx; simp [weave] at hx
        | succ j =>
          have hj : j < k.length := by omega
          have h1 := hlt j (by omega)
          rw [List.getD_eq_getElem?_getD, List.getElem?_eq_getElem hj, Option.getD_some] at h1
          rw [keys_ahead hj hcl] at hso ⊢
          have h2 := (List.pairwise_append.1 hso).1
          intro x hx
          rw [← List.append_assoc] at h2 hx
          rcases List.mem_append.1 hx with hx | hx
          · have := (List.pairwise_append.1 h2).2.2 x hx k[j] (by simp)
            omega
          · simp at hx; omega
      have hS : ∀ x r, tailW (c.drop (i + 1)) (k.drop i) = x :: r → key ≤ x := by
        intro x r hx
        by_cases h : i < k.length
        · have h1 := hge h
          rw [List.getD_eq_getElem?_getD, List.getElem?_eq_getElem h, Option.getD_some] at h1
          rw [List.drop_eq_getElem_cons h] at hx
          simp only [tailW, List.cons.injEq] at hx
          omega
        · rw [List.drop_of_length_le (by omega), List.drop_of_length_le (by omega)] at hx
          simp [tailW, weave] at hx
      rw [place_append_lt hP, place_append_ge hS, putAt_within _ _ _ _ _ (place_le key _), ← hu]
      unfold growStep
      by_cases hs : wide < (r.1.ks.length : Int)
      · rw [if_pos hs]
        dsimp only
        rw [keys_splitKid _ hi hcl, keys_halves (u := r.1) (by omega) hsh]
        simp
      · rw [if_neg hs]
        exact keys_setKid _ hi hcl
/-- The keys of the tree that a key makes. -/
theorem insT_keys {wide : Int} (hw : 0 ≤ wide) (key : Int) {t : Tr} (h : Well t) : (insT wide key t).keys = putAt t.keys (place key t.keys) key := by
  have hu := grow_keys hw key t.weight t (Nat.le_refl _) h
  have hsh := grow_shaped wide key t h.fits
  unfold insT
  dsimp only
  by_cases hs : wide < ((grow wide key t).1.ks.length : Int)
  · rw [if_pos hs, ← hu, keys_halves (by omega) hsh, keys_weave]
    simp [weave, keys_weave]
  · rw [if_neg hs, hu]
theorem sorted_of {ks : List Int} (h : ks.Pairwise (· < ·)) (hr : ∀ x ∈ ks, 0 ≤ x ∧ x ≤ 99) : sortedB ks = true := by
  refine sortedB_of fun i hi => ?_
  have e1 : ks.getD i 0 = ks[i] := by rw [List.getD_eq_getElem?_getD, List.getElem?_eq_getElem hi, Option.getD_some]
  have h1 := hr ks[i] (List.getElem_mem hi)
  unfold okAt inB
  rw [e1]
  cases i with
  | zero => simp; omega
  | succ j =>
    have hj : j < ks.length := by omega
    have e2 : ks.getD j 0 = ks[j] := by rw [List.getD_eq_getElem?_getD, List.getElem?_eq_getElem hj, Option.getD_some]
    have h2 := List.pairwise_iff_getElem.1 h j (j + 1) hj hi (by omega)
    rw [Nat.add_sub_cancel, e2]
    simp [h2]; omega
theorem put_sorted {ks : List Int} (h : ks.Pairwise (· < ·)) {key : Int} (hk : key ∉ ks) : (putAt ks (place key ks) key).Pairwise (· < ·) := by
  have h0 := h
  rw [← List.take_append_drop (place key ks) ks] at h0
  obtain ⟨h1, h2, h3⟩ := List.pairwise_append.1 h0
  have ha : ∀ x ∈ ks.take (place key ks), x < key := fun x hx => by
    obtain ⟨i, hi, rfl⟩ := List.getElem_of_mem hx
    have hi' : i < place key ks := by simp at hi; omega
    have hl : i < ks.length := by simp at hi; omega
    have := place_lt hi'
    rw [List.getD_eq_getElem?_getD, List.getElem?_eq_getElem hl, Option.getD_some] at this
    simpa using this
  have hb : ∀ x ∈ ks.drop (place key ks), key < x := fun x hx => by
    by_cases hp : place key ks < ks.length
    · have h4 := place_ge hp
      rw [List.getD_eq_getElem?_getD, List.getElem?_eq_getElem hp, Option.getD_some] at h4
      have h5 : ks[place key ks] ≤ x := by
        rw [List.drop_eq_getElem_cons hp] at hx h2
        rcases List.mem_cons.1 hx with rfl | hx
        · exact Int.le_refl _
        · exact Int.le_of_lt ((List.pairwise_cons.1 h2).1 x hx)
      have h6 : x ≠ key := fun e => hk (e ▸ List.mem_of_mem_drop hx)
      omega
    · rw [List.drop_of_length_le (by omega)] at hx
      simp at hx
  unfold putAt
  refine List.pairwise_append.2 ⟨h1, List.pairwise_cons.2 ⟨hb, h2⟩, fun x hx y hy => ?_⟩
  rcases List.mem_cons.1 hy with rfl | hy
  · exact ha x hx
  · have := ha x hx
    have := hb y hy
    omega
/-- A key that a valid tree does not have makes a valid tree of it. -/
theorem insT_valid {wide key : Int} {t : Tr} (h : validB wide t = true) (h0 : 0 ≤ key) (h9 : key ≤ 99) (hk : key ∉ t.keys) : validB wide (insT wide key t) = true := by
  have hw := Well.of_valid h
  unfold validB at h ⊢
  simp only [Bool.and_eq_true] at h ⊢
  have hwide : 2 ≤ wide ∧ wide ≤ 6 := by simpa [inB] using h.1
  refine ⟨h.1, insT_depth hwide.1 key h.2.1, ?_⟩
  rw [insT_keys (by omega) key hw]
  refine sorted_of (put_sorted hw.2 hk) fun x hx => ?_
  unfold putAt at hx
  have hin : ∀ y ∈ t.keys, 0 ≤ y ∧ y ≤ 99 := fun y hy => by
    obtain ⟨i, hi, rfl⟩ := List.getElem_of_mem hy
    have := sorted_ge h.2.2 i hi
    rw [List.getD_eq_getElem?_getD, List.getElem?_eq_getElem hi, Option.getD_some] at this
    omega
  rcases List.mem_append.1 hx with hx | hx
  · exact hin x (List.mem_of_mem_take hx)
  · rcases List.mem_cons.1 hx with rfl | hx
    · exact ⟨h0, h9⟩
    · exact hin x (List.mem_of_mem_drop hx)
end Tr
end Go.Proofs.Ytjnkdbgebkajoaa

/- Two keys inserted in either order: plain data. -/
namespace Go.Proofs.Ytjnkdbgebkajoaa
open Go.RowKit

theorem mem_putAt {α : Type} {K : List α} {p : Nat} {k x : α} : x ∈ putAt K p k ↔ x = k ∨ x ∈ K := by
  unfold putAt
  constructor
  · intro h
    simp only [List.mem_append, List.mem_cons] at h
    rcases h with h | h | h
    · exact .inr (List.mem_of_mem_take h)
    · exact .inl h
    · exact .inr (List.mem_of_mem_drop h)
  · intro h
    simp only [List.mem_append, List.mem_cons]
    rcases h with h | h
    · exact .inr (.inl h)
    · rw [← List.take_append_drop p K] at h
      rcases List.mem_append.1 h with h | h
      · exact .inl h
      · exact .inr (.inr h)

theorem sorted_ext : ∀ (l m : List Int), l.Pairwise (· < ·) → m.Pairwise (· < ·) → (∀ x, x ∈ l ↔ x ∈ m) → l = m
  | [], [], _, _, _ => rfl
  | [], b :: m, _, _, h => by have := (h b).2 (by simp); cases this
  | a :: l, [], _, _, h => by have := (h a).1 (by simp); cases this
  | a :: l, b :: m, hl, hm, h => by
    obtain ⟨l1, l2⟩ := List.pairwise_cons.1 hl
    obtain ⟨m1, m2⟩ := List.pairwise_cons.1 hm
    have hab : a = b := by
      have h1 := (h a).1 (by simp)
      have h2 := (h b).2 (by simp)
      rcases List.mem_cons.1 h1 with h1 | h1
      · exact h1
      · rcases List.mem_cons.1 h2 with h2 | h2
        · exact h2.symm
        · have := m1 a h1; have := l1 b h2; omega
    subst hab
    rw [sorted_ext l m l2 m2 (fun x => ?_)]
    constructor
    · intro hx
      rcases List.mem_cons.1 ((h x).1 (by simp [hx])) with h3 | h3
      · have := l1 x hx; omega
      · exact h3
    · intro hx
      rcases List.mem_cons.1 ((h x).2 (by simp [hx])) with h3 | h3
      · have := m1 x hx; omega
      · exact h3

namespace Tr
theorem asked_iff {wide key : Int} {t : Tr} (h : validB wide t = true) : askedB wide key t = true ↔ (0 ≤ key ∧ key ≤ 99) ∧ key ∉ t.keys := by
  have hb := hasB_iff key t (valid_some h)
  unfold askedB
  rw [h]
  simp only [Bool.true_and, Bool.and_eq_true, Bool.not_eq_true', inB, decide_eq_true_eq]
  rw [← hb]
  simp

theorem ins_more {wide key : Int} {t : Tr} (h : askedB wide key t = true) : validB wide (insT wide key t) = true ∧ ∀ x, x ∈ (insT wide key t).keys ↔ x = key ∨ x ∈ t.keys := by
  have hv := (asked_path h).1
  obtain ⟨⟨h0, h9⟩, hn⟩ := (asked_iff hv).1 h
  refine ⟨insT_valid hv h0 h9 hn, fun x => ?_⟩
  rw [insT_keys (by have := valid_wide hv; omega) key (valid_well hv)]
  exact mem_putAt

/-- What the law on two insertions asks. -/
theorem two_facts {wide key other : Int} {t : Tr} (h1 : askedB wide key t = true) (h3 : askedB wide other t = true) (hne : key ≠ other) :
    askedB wide other (insT wide key t) = true ∧ askedB wide key (insT wide other t) = true ∧ (insT wide other (insT wide key t)).keys = (insT wide key (insT wide other t)).keys := by
  have hv := (asked_path h1).1
  obtain ⟨a1, a2⟩ := (asked_iff hv).1 h1
  obtain ⟨b1, b2⟩ := (asked_iff hv).1 h3
  obtain ⟨v1, m1⟩ := ins_more h1
  obtain ⟨v3, m3⟩ := ins_more h3
  have hq1 : askedB wide other (insT wide key t) = true := (asked_iff v1).2 ⟨b1, fun h => ((m1 other).1 h).elim (fun h => hne h.symm) b2⟩
  have hq3 : askedB wide key (insT wide other t) = true := (asked_iff v3).2 ⟨a1, fun h => ((m3 key).1 h).elim hne a2⟩
  obtain ⟨v2, m2⟩ := ins_more hq1
  obtain ⟨v4, m4⟩ := ins_more hq3
  refine ⟨hq1, hq3, sorted_ext _ _ (pairwise_of_sorted (valid_keys v2)) (pairwise_of_sorted (valid_keys v4)) (fun x => ?_)⟩
  rw [m2 x, m4 x, m1 x, m3 x]
  constructor
  · rintro (h | h | h)
    · exact .inr (.inl h)
    · exact .inl h
    · exact .inr (.inr h)
  · rintro (h | h | h)
    · exact .inr (.inl h)
    · exact .inl h
    · exact .inr (.inr h)
end Tr
end Go.Proofs.Ytjnkdbgebkajoaa

/- A tree is the same as itself: plain data. -/
namespace Go.Proofs.Ytjnkdbgebkajoaa
open Go.RowKit
namespace Tr
mutual
theorem sameB_refl : ∀ t : Tr, sameB t t = true
  | .mk k c => by simp [sameB, samesB_refl c]
theorem samesB_refl : ∀ c : List Tr, samesB c c = true
  | [] => by simp [samesB]
  | a :: r => by simp [samesB, sameB_refl a, samesB_refl r]
end
end Tr
end Go.Proofs.Ytjnkdbgebkajoaa

/- Finding: plain data: the keys of a range. -/
namespace Go.Proofs.Ytjnkdbgebkajoaa
open Go.RowKit

/-- The keys from a number to a number. -/
def rangeL (low high : Int) (keys : List Int) : List Int := keys.filter (fun k => inB k low high)
theorem rangeL_snoc (low high : Int) (a : List Int) (x : Int) : rangeL low high (a ++ [x]) = if inB x low high = true then rangeL low high a ++ [x] else rangeL low high a := by
  unfold rangeL
  rw [List.filter_append]
  cases h : inB x low high with
  | true => simp [h]
  | false => simp [h]
theorem rangeL_len (low high : Int) (a : List Int) : (rangeL low high a).length ≤ a.length := List.length_filter_le _ _
theorem rangeL_none {low high : Int} (h : ¬ low ≤ high) (keys : List Int) : rangeL low high keys = [] := by
  unfold rangeL
  rw [List.filter_eq_nil_iff]
  intro x _
  simp only [inB, Bool.and_eq_true, decide_eq_true_eq]
  omega
theorem filter_all {p : Int → Bool} : ∀ {l : List Int}, (∀ x ∈ l, p x = true) → l.filter p = l
  | [], _ => rfl
  | x :: r, h => by rw [List.filter_cons, if_pos (h x (by simp)), filter_all (fun y hy => h y (by simp [hy]))]

/-- In a list that ascends, they are what lies between two places. -/
theorem rangeL_cut {low high : Int} (hlh : low ≤ high) {keys : List Int} (hs : keys.Pairwise (· < ·)) : rangeL low high keys = (keys.drop (place low keys)).take (place (high + 1) keys - place low keys) := by
  induction keys with
  | nil => rfl
  | cons x r ih =>
    have hr := List.pairwise_cons.1 hs
    have ih := ih hr.2
    unfold rangeL at ih ⊢
    rw [List.filter_cons]
    simp only [place]
    by_cases h1 : x < low
    · have hin : inB x low high = false := inB_false (by omega)
      rw [hin, if_pos h1, if_pos (show x < high + 1 by omega)]
      simp only [Bool.false_eq_true, if_false, List.drop_succ_cons]
      rw [ih]
      congr 1; omega
    · rw [if_neg h1]
      have hp0 : place low r = 0 := by
        cases r with
        | nil => rfl
        | cons y r' =>
          have := hr.1 y (by simp)
          simp only [place]; rw [if_neg (by omega)]
      rw [hp0] at ih
      simp only [List.drop_zero, Nat.sub_zero] at ih ⊢
      by_cases h2 : x < high + 1
      · have hin : inB x low high = true := inB_true (by omega) (by omega)
        rw [hin, if_pos h2, if_pos rfl, ih]; rfl
      · have hin : inB x low high = false := inB_false (by omega)
        have hp1 : place (high + 1) r = 0 := by
          cases r with
          | nil => rfl
          | cons y r' =>
            have := hr.1 y (by simp)
            simp only [place]; rw [if_neg (by omega)]
        rw [hin, if_neg h2, ih, hp1]; rfl

def Tr.rangeB (low high : Int) (t : Tr) : List Int := if t.someB then rangeL low high t.keys else []
theorem rangeB_is (low high : Int) (t : Tr) : (t.someB = true → t.rangeB low high = rangeL low high t.keys) ∧ (t.someB = false → t.rangeB low high = []) := by
  unfold Tr.rangeB; constructor <;> intro h <;> simp [h]
theorem rangeB_len (low high : Int) (t : Tr) : (t.rangeB low high).length ≤ t.weight := by
  have h1 := Tr.keys_length_le t
  have h2 := rangeL_len low high t.keys
  unfold Tr.rangeB
  split
  · omega
  · simp
end Go.Proofs.Ytjnkdbgebkajoaa

/- What is next, ahead and between; plain data. -/
namespace Go.Proofs.Ytjnkdbgebkajoaa
open Go.RowKit

namespace Tr
theorem some_sorted {t : Tr} (h : t.someB = true) : sortedB t.keys = true := by
  have hv : ∃ w : Int, validB w t = true := by
    unfold someB at h
    simp only [Bool.or_eq_true] at h
    rcases h with (((h | h) | h) | h) | h
    all_goals exact ⟨_, h⟩
  obtain ⟨w, hv⟩ := hv
  unfold validB at hv
  simp only [Bool.and_eq_true] at hv
  exact hv.2.2
theorem some_keys {t : Tr} (h : t.someB = true) {x : Int} (hx : x ∈ t.keys) : 0 ≤ x ∧ x ≤ 99 := by
  obtain ⟨i, hi, rfl⟩ := List.mem_iff_getElem.1 hx
  have h1 := okAt_get (some_sorted h) i hi
  simp only [okAt, inB, Bool.and_eq_true, decide_eq_true_eq] at h1
  have e : t.keys.getD i 0 = t.keys[i] := by simp [List.getD_eq_getElem?_getD, hi]
  rw [e] at h1
  exact h1.1

/-- What holds of a key that is next. -/
theorem next_fact {t : Tr} {key n : Int} (h : t.nextB key = (n, true)) : t.someB = true ∧ key < n ∧ 0 ≤ n ∧ n ≤ 99 ∧ (t.pathB n).2 = true ∧
    ((t.prevB n).2 = true → (t.prevB n).1 ≤ key) ∧ ((t.pathB key).2 = true → (t.prevB n).2 = true ∧ (t.prevB n).1 = key) ∧ t.rangeB (key + 1) (n - 1) = [] := by
  have hs : t.someB = true := by
    cases hs : t.someB with
    | true => rfl
    | false =>
      have := (nextB_is key t).2 hs
      rw [this] at h
      simp at h
  have hw := (Well.of_some hs).2
  rw [(nextB_is key t).1 hs, find_place] at h
  have hpl : place (key + 1) t.keys < t.keys.length := by
    rcases Nat.lt_or_ge (place (key + 1) t.keys) t.keys.length with g | g
    · exact g
    · rw [List.getElem?_eq_none g] at h
      simp [optOr] at h
  rw [List.getElem?_eq_getElem hpl] at h
  simp only [optOr, Prod.mk.injEq, and_true] at h
  have hge := place_ge hpl
  have e : t.keys.getD (place (key + 1) t.keys) 0 = n := by rw [← h]; simp [List.getD_eq_getElem?_getD, hpl]
  rw [e] at hge
  have hmem : n ∈ t.keys := by rw [← h]; exact List.getElem_mem hpl
  have hb := some_keys hs hmem
  have hpn : place n t.keys = place (key + 1) t.keys := by
    have := place_get hw hpl
    rwa [e] at this
  have hbelow : ∀ i, i < place (key + 1) t.keys → t.keys.getD i 0 ≤ key := fun i hi => by
    have := place_lt (c := key + 1) (k := t.keys) hi
    omega
  have hprev : t.prevB n = if 0 < place (key + 1) t.keys then (t.keys.getD (place (key + 1) t.keys - 1) 0, true) else (0, false) := by
    rw [(prevB_is n t).1 hs, prevOf, hpn]
  refine ⟨hs, by omega, hb.1, hb.2, (hasB_iff n t hs).2 hmem, ?_, ?_, ?_⟩
  · rw [hprev]
    split
    · intro _; exact hbelow _ (by omega)
    · intro h; cases h
  · intro hk
    have hkm := (hasB_iff key t hs).1 hk
    obtain ⟨h1, h2⟩ := place_mem hw hkm
    have hlt : place key t.keys < place (key + 1) t.keys := by
      rcases Nat.lt_or_ge (place key t.keys) (place (key + 1) t.keys) with g | g
      · exact g
      · exfalso
        rcases Nat.lt_or_ge (place (key + 1) t.keys) (place key t.keys) with g2 | g2
        · have := sorted_get hw g2 h1
          rw [e, h2] at this
          omega
        · have e3 : place key t.keys = place (key + 1) t.keys := by omega
          rw [e3, e] at h2
          omega
    rw [hprev, if_pos (by omega)]
    refine ⟨rfl, ?_⟩
    show t.keys.getD (place (key + 1) t.keys - 1) 0 = key
    have hle := hbelow (place (key + 1) t.keys - 1) (by omega)
    rcases Nat.lt_or_ge (place key t.keys) (place (key + 1) t.keys - 1) with g | g
    · have := sorted_get hw g (by omega)
      rw [h2] at this
      omega
    · rw [show place (key + 1) t.keys - 1 = place key t.keys by omega]
      exact h2
  · rw [(rangeB_is (key + 1) (n - 1) t).1 hs]
    unfold rangeL
    refine List.filter_eq_nil_iff.2 (fun x hx => ?_)
    obtain ⟨i, hi, rfl⟩ := List.mem_iff_getElem.1 hx
    have e4 : t.keys.getD i 0 = t.keys[i] := by simp [List.getD_eq_getElem?_getD, hi]
    simp only [inB, Bool.and_eq_true, decide_eq_true_eq]
    rintro ⟨g1, g2⟩
    rw [← e4] at g1 g2
    rcases Nat.lt_or_ge i (place (key + 1) t.keys) with g | g
    · have := hbelow i g
      omega
    · rcases Nat.lt_or_ge (place (key + 1) t.keys) i with g3 | g3
      · have := sorted_get hw g3 hi
        rw [e] at this
        omega
      · rw [show i = place (key + 1) t.keys by omega, e] at g2
        omega
end Tr
end Go.Proofs.Ytjnkdbgebkajoaa

/- Keys one behind the other, and back: plain data. -/
namespace Go.Proofs.Ytjnkdbgebkajoaa
open Go.RowKit

def lenOf : Value → Nat | .slice _ n _ => n | _ => 0

/-- A row of one int, just laid, is its holder's own. -/
theorem IntsOwn.one (w : World) (k : Int) (lo : Nat) (h : lo ≤ w.heap.size) : IntsOwn (w.alloc (.cells #[.int .i64 k] 3)) lo (.slice (some ⟨w.heap.size, 0, none⟩) 1 1) [k] :=
  ⟨by simp, .inr ⟨_, 1, #[.int .i64 k], rfl, h, new_blk _ _, Nat.le_refl _, by unfold maxLen; omega, rfl, by simp⟩⟩

/-- Where the walk through the keys stands, ahead and back. -/
def curAt (K : List Int) (j : Nat) : Int := if j = 0 then -1 else K.getD (j - 1) 0
def backAt (K : List Int) (j : Nat) : Int := if j = 0 then 100 else K.getD (K.length - j) 0

theorem getD_mem' {K : List Int} {i : Nat} (h : i < K.length) : K.getD i 0 ∈ K := by
  rw [List.getD_eq_getElem?_getD, List.getElem?_eq_getElem h]
  exact List.getElem_mem h

namespace Tr
theorem some_few {t : Tr} (hs : t.someB = true) : t.keys.length ≤ 100 := by
  have := few t.keys 0 (Well.of_some hs).2 (fun x hx => some_keys hs hx)
  omega
theorem next_cur {t : Tr} (hs : t.someB = true) {j : Nat} (h : j < t.keys.length) : t.nextB (curAt t.keys j) = (t.keys.getD j 0, true) := by
  have hw := (Well.of_some hs).2
  have hp : place (curAt t.keys j + 1) t.keys = j := by
    refine place_eq (by omega) (fun i hi => ?_) (fun _ => ?_)
    · unfold curAt
      rw [if_neg (by omega)]
      by_cases hij : i = j - 1
      · rw [hij]; omega
      · have := sorted_get hw (i := i) (j := j - 1) (by omega) (by omega)
        omega
    · unfold curAt
      by_cases hj : j = 0
      · rw [if_pos hj]
        have := some_keys hs (getD_mem' h)
        omega
      · rw [if_neg hj]
        have := sorted_get hw (i := j - 1) (j := j) (by omega) h
        omega
  rw [(nextB_is _ t).1 hs, find_place, hp, List.getElem?_eq_getElem h]
  simp [optOr, List.getD_eq_getElem?_getD, h]
theorem next_end {t : Tr} (hs : t.someB = true) : t.nextB (curAt t.keys t.keys.length) = (0, false) := by
  have hw := (Well.of_some hs).2
  have hp : place (curAt t.keys t.keys.length + 1) t.keys = t.keys.length := by
    refine place_eq (Nat.le_refl _) (fun i hi => ?_) (fun h => by omega)
    unfold curAt
    rw [if_neg (by omega)]
    by_cases hij : i = t.keys.length - 1
    · rw [hij]; omega
    · have := sorted_get hw (i := i) (j := t.keys.length - 1) (by omega) (by omega)
      omega
  rw [(nextB_is _ t).1 hs, find_place, hp, List.getElem?_eq_none (Nat.le_refl _)]
  rfl
theorem prev_back {t : Tr} (hs : t.someB = true) {j : Nat} (h : j < t.keys.length) : t.prevB (backAt t.keys j) = (t.keys.getD (t.keys.length - j - 1) 0, true) := by
  have hw := (Well.of_some hs).2
  have hp : place (backAt t.keys j) t.keys = t.keys.length - j := by
    unfold backAt
    by_cases hj : j = 0
    · rw [if_pos hj]
      refine place_eq (by omega) (fun i hi => ?_) (fun h => by omega)
      have := some_keys hs (getD_mem' (K := t.keys) (i := i) (by omega))
      omega
    · rw [if_neg hj]
      exact place_get hw (by omega)
  rw [(prevB_is _ t).1 hs, prevOf, hp, if_pos (by omega)]
end Tr

theorem cur_snoc {K : List Int} {j : Nat} (h : j < K.length) : K.take j ++ [K.getD j 0] = K.take (j + 1) := by
  rw [List.take_add_one, List.getElem?_eq_getElem h, List.getD_eq_getElem?_getD, List.getElem?_eq_getElem h]
  rfl
theorem back_cons {K : List Int} {j : Nat} (h : j < K.length) : [K.getD (K.length - j - 1) 0] ++ K.drop (K.length - j) = K.drop (K.length - (j + 1)) := by
  have e : K.length - (j + 1) = K.length - j - 1 := by omega
  have h2 : K.length - j - 1 < K.length := by omega
  rw [e, List.drop_eq_getElem_cons h2, List.getD_eq_getElem?_getD, List.getElem?_eq_getElem h2, show K.length - j - 1 + 1 = K.length - j by omega]
  rfl
theorem cur_succ (K : List Int) (j : Nat) : curAt K (j + 1) = K.getD j 0 := by unfold curAt; simp
theorem back_succ (K : List Int) (j : Nat) : backAt K (j + 1) = K.getD (K.length - j - 1) 0 := by
  unfold backAt
  rw [if_neg (by omega), show K.length - (j + 1) = K.length - j - 1 by omega]
end Go.Proofs.Ytjnkdbgebkajoaa
