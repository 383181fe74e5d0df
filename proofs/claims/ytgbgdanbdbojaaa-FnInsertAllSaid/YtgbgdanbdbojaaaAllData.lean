/- A list of keys inserted, and the same list backwards: plain data. -/
import Derived.Test.YtgbgdanbdbojaaaSh0
import Derived.Test.YtgbgdanbdbojaaaSame
import Derived.Test.YtgbgdanbdbojaaaSh28
import Derived.Test.YtgbgdanbdbojaaaSh23
namespace Go.Proofs.Ytgbgdanbdbojaaa
open Go.RowKit
namespace Tr

mutual
theorem sameB_refl : ∀ t : Tr, sameB t t = true
  | .mk k c => by simp [sameB, samesB_refl c]
theorem samesB_refl : ∀ c : List Tr, samesB c c = true
  | [] => by simp [samesB]
  | a :: r => by simp [samesB, sameB_refl a, samesB_refl r]
end

theorem put_mem {wide k : Int} {s : Tr × Nat} (h : validB wide s.1 = true) (x : Int) : x ∈ (putKey wide s k).1.keys ↔ x = k ∨ x ∈ s.1.keys := by
  unfold putKey
  split
  · rename_i hp
    have hm := (path_has h).1 hp
    constructor
    · exact .inr
    · rintro (rfl | h2)
      · exact hm
      · exact h2
  · show x ∈ (insT wide k s.1).keys ↔ _
    rw [insT_keys (by have := valid_wide h; omega) k (valid_well h)]
    exact mem_putAt

theorem putAt_len {α : Type} (K : List α) (p : Nat) (k : α) : (putAt K p k).length = K.length + 1 := by
  unfold putAt
  simp only [List.length_append, List.length_cons, List.length_take, List.length_drop]
  omega

theorem put_len {wide k : Int} {s : Tr × Nat} (h : validB wide s.1 = true) : (putKey wide s k).1.keys.length ≤ s.1.keys.length + 1 := by
  unfold putKey
  split
  · omega
  · show (insT wide k s.1).keys.length ≤ _
    rw [insT_keys (by have := valid_wide h; omega) k (valid_well h), putAt_len]
    omega

theorem take_mem {ks : List Int} {j : Nat} (h : j < ks.length) (x : Int) : x ∈ ks.take (j + 1) ↔ x = ks.getD j 0 ∨ x ∈ ks.take j := by
  have e : ks.take (j + 1) = ks.take j ++ [ks.getD j 0] := by
    rw [List.take_add_one, List.getElem?_eq_getElem h, List.getD_eq_getElem?_getD, List.getElem?_eq_getElem h]
    rfl
  rw [e, List.mem_append, List.mem_singleton]
  exact Or.comm

theorem all_mem {wide : Int} (h2 : 2 ≤ wide) (h6 : wide ≤ 6) {ks : List Int} (hk : ∀ i, i < ks.length → inB (ks.getD i 0) 0 99 = true) :
    ∀ j, j ≤ ks.length → (∀ x, x ∈ (allIn wide (ks.take j)).1.keys ↔ x ∈ ks.take j) ∧ (allIn wide (ks.take j)).1.keys.length ≤ j := by
  intro j
  induction j with
  | zero => intro _; simp [allIn, keys, upto]
  | succ j ih =>
    intro hj
    obtain ⟨i1, i2⟩ := ih (by omega)
    have hv := (allIn_valid h2 h6 hk j (by omega)).1
    rw [allIn_snoc wide (by omega)]
    refine ⟨fun x => ?_, ?_⟩
    · rw [put_mem hv x, take_mem (by omega) x, i1 x]
    · have := put_len (k := ks.getD j 0) hv
      omega

theorem ok_back {wide : Int} {ks : List Int} (h : allOk wide ks = true) : allOk wide ks.reverse = true := by
  simp only [allOk, Bool.and_eq_true] at h ⊢
  obtain ⟨h1, h2⟩ := keysOk_at h.2
  refine ⟨h.1, ?_⟩
  rw [keysOk_of (fun i hi => ?_)]
  · simpa using h2
  · have hi' : i < ks.length := by simpa using hi
    have := h1 (ks.length - 1 - i) (by omega)
    rw [List.getD_eq_getElem?_getD] at this ⊢
    rwa [List.getElem?_reverse hi']

theorem all_facts {wide : Int} {ks : List Int} (h : allOk wide ks = true) :
    validB wide (insAllT wide ks) = true ∧ (∀ x, x ∈ (insAllT wide ks).keys ↔ x ∈ ks) ∧ (insAllT wide ks).keys.length ≤ ks.length := by
  have h' := h
  simp only [allOk, Bool.and_eq_true] at h'
  have hw : 2 ≤ wide ∧ wide ≤ 6 := by simpa [inB] using h'.1
  have hk := (keysOk_at h'.2).1
  have v := (allIn_valid hw.1 hw.2 hk ks.length (Nat.le_refl _)).1
  obtain ⟨m, l⟩ := all_mem hw.1 hw.2 hk ks.length (Nat.le_refl _)
  rw [List.take_length] at v m l
  have e : insAllT wide ks = (allIn wide ks).1 := by simp [insAllT, h]
  rw [e]
  exact ⟨v, m, l⟩

/-- What the law on inserting lists asks. -/
theorem back_facts {wide : Int} {ks : List Int} (h : allOk wide ks = true) :
    allOk wide ks.reverse = true ∧ validB wide (insAllT wide ks) = true ∧ validB wide (insAllT wide ks.reverse) = true ∧ (insAllT wide ks.reverse).keys = (insAllT wide ks).keys ∧ (insAllT wide ks).keys.length ≤ ks.length ∧
    (∀ i, i < ks.length → ((insAllT wide ks).pathB (ks.getD i 0)).2 = true ∧ ((insAllT wide ks.reverse).pathB (ks.getD i 0)).2 = true) := by
  have hr := ok_back h
  obtain ⟨v1, m1, l1⟩ := all_facts h
  obtain ⟨v2, m2, l2⟩ := all_facts hr
  refine ⟨hr, v1, v2, sorted_ext _ _ (pairwise_of_sorted (valid_keys v2)) (pairwise_of_sorted (valid_keys v1)) (fun x => by rw [m2 x, m1 x, List.mem_reverse]), l1, fun i hi => ?_⟩
  have hm : ks.getD i 0 ∈ ks := by
    rw [List.getD_eq_getElem?_getD, List.getElem?_eq_getElem hi]
    exact List.getElem_mem hi
  exact ⟨(hasB_iff _ _ (valid_some v1)).2 ((m1 _).2 hm), (hasB_iff _ _ (valid_some v2)).2 ((m2 _).2 (by simpa using hm))⟩

theorem back_snoc {ks : List Int} {j : Nat} (h : j < ks.length) : ks.reverse.take (j + 1) = ks.reverse.take j ++ [ks.getD (ks.length - 1 - j) 0] := by
  rw [List.take_add_one, List.getElem?_reverse h, List.getD_eq_getElem?_getD, List.getElem?_eq_getElem (show ks.length - 1 - j < ks.length by omega)]
  rfl
end Tr
end Go.Proofs.Ytgbgdanbdbojaaa
