/- How many keys a valid tree has that is so deep: plain data. -/
import Derived.Test.YtdkldcgiiiejfaaDoorBase
import Derived.Test.YtdkldcgiiiejfaaDoorKeys
import Derived.Test.YtdkldcgiiiejfaaDoorSorted
import Derived.Test.YtdkldcgiiiejfaaDoorDa6
import Derived.Test.YtdkldcgiiiejfaaDoorEvenValid
import Derived.Test.YtdkldcgiiiejfaaDoorGrowValid
import Derived.Test.YtdkldcgiiiejfaaDoorDa7
import Derived.Test.YtdkldcgiiiejfaaDoorSizes
namespace Go.Proofs.YtdkldcgiiiejfaaDoor
open Go.RowKit
namespace Tr

theorem kids_lens (L M : Nat) : ∀ (c : List Tr), (∀ x ∈ c, L ≤ x.keys.length ∧ x.keys.length ≤ M) → c.length * L ≤ lens (keyss c) ∧ lens (keyss c) ≤ c.length * M
  | [], _ => by simp [keyss, lens]
  | t :: r, h => by
    have h1 := h t (by simp)
    have h2 := kids_lens L M r (fun x hx => h x (by simp [hx]))
    rw [lens_cons, List.length_cons, Nat.add_mul, Nat.add_mul]
    omega

theorem deep_keys (W : Nat) : ∀ (e : Nat) (t : Tr), nodesB W ((W / 2 : Nat) : Int) ((e + 1 : Nat) : Int) t = true → leastN W (e + 1) ≤ t.keys.length ∧ t.keys.length ≤ mostN W (e + 1) := by
  intro e
  induction e with
  | zero =>
    rintro ⟨k, c⟩ h
    obtain ⟨⟨h1, h2⟩, h3⟩ := nodes_mem h
    rcases h3 with ⟨h3, _⟩ | ⟨_, h4, _⟩
    · rw [keys_length, List.length_eq_zero_iff.1 h3]
      simp only [leastN, mostN, keyss, lens]
      simp
      omega
    · exact absurd rfl h4
  | succ e ih =>
    rintro ⟨k, c⟩ h
    obtain ⟨⟨h1, h2⟩, h3⟩ := nodes_mem h
    rcases h3 with ⟨_, h3⟩ | ⟨_, _, h5, _, h7⟩
    · omega
    · have hk := kids_lens (leastN W (e + 1)) (mostN W (e + 1)) c (fun x hx => ih x (by
        have := h7 x hx
        rwa [show ((e + 1 + 1 : Nat) : Int) - 1 = ((e + 1 : Nat) : Int) by omega, show (W : Int) / 2 = ((W / 2 : Nat) : Int) by omega] at this))
      rw [keys_length, leastN, mostN]
      generalize leastN W (e + 1) = L at hk
      generalize mostN W (e + 1) = M at hk
      have hl : (W / 2 + 1) * L ≤ c.length * L := Nat.mul_le_mul_right L (by omega)
      have hm : c.length * M ≤ (W + 1) * M := Nat.mul_le_mul_right M (by omega)
      constructor <;> omega

theorem root_keys (W : Nat) (e : Nat) (t : Tr) (h : nodesB W 0 ((e + 1 : Nat) : Int) t = true) : lowN W (e + 1) ≤ t.keys.length ∧ t.keys.length ≤ mostN W (e + 1) := by
  obtain ⟨k, c⟩ := t
  obtain ⟨⟨h1, h2⟩, h3⟩ := nodes_mem h
  cases e with
  | zero =>
    rcases h3 with ⟨h3, _⟩ | ⟨_, h4, _⟩
    · rw [keys_length, List.length_eq_zero_iff.1 h3]
      simp only [lowN, mostN, keyss, lens]
      simp
      omega
    · exact absurd rfl h4
  | succ e =>
    rcases h3 with ⟨_, h3⟩ | ⟨_, _, h5, h6, h7⟩
    · omega
    · have hk := kids_lens (leastN W (e + 1)) (mostN W (e + 1)) c (fun x hx => deep_keys W e x (by
        have := h7 x hx
        rwa [show ((e + 1 + 1 : Nat) : Int) - 1 = ((e + 1 : Nat) : Int) by omega, show (W : Int) / 2 = ((W / 2 : Nat) : Int) by omega] at this))
      rw [keys_length, mostN]
      unfold lowN
      rw [if_pos (by omega), show e + 1 + 1 - 1 = e + 1 by omega]
      generalize leastN W (e + 1) = L at hk
      generalize mostN W (e + 1) = M at hk
      have hl : 2 * L ≤ c.length * L := Nat.mul_le_mul_right L (by omega)
      have hm : c.length * M ≤ (W + 1) * M := Nat.mul_le_mul_right M (by omega)
      constructor <;> omega

theorem leastN_mono (W : Nat) (e : Nat) : leastN W e ≤ leastN W (e + 1) := by
  rw [leastN]
  have := Nat.mul_le_mul_right (leastN W e) (show 1 ≤ W / 2 + 1 by omega)
  omega
theorem lowN_mono (W : Nat) {a b : Nat} (h : a ≤ b) : lowN W a ≤ lowN W b := by
  have hl : ∀ x y, x ≤ y → leastN W x ≤ leastN W y := fun x y hxy => by
    induction hxy with
    | refl => exact Nat.le_refl _
    | step _ ih => exact Nat.le_trans ih (leastN_mono W _)
  unfold lowN
  split
  · rw [if_pos (by omega)]
    have := hl (a - 1) (b - 1) (by omega)
    omega
  · omega
end Tr

theorem upFrom_le (p : Nat → Bool) (e : Nat) (he : p e = true) : ∀ (k a : Nat), a ≤ e → e ≤ a + k → upFrom p k a ≤ e := by
  intro k
  induction k with
  | zero => intro a h1 h2; simp only [upFrom]; exact h1
  | succ k ih =>
    intro a h1 h2
    rw [upFrom]
    split
    · exact h1
    · rename_i hp
      have hne : a ≠ e := fun e1 => hp (by rw [e1]; exact he)
      exact ih (a + 1) (by omega) (by omega)
theorem upFrom_ge (p : Nat → Bool) (e : Nat) : ∀ (k a : Nat), (∀ x, a ≤ x → x < e → p x = false) → a ≤ e → e ≤ a + k → e ≤ upFrom p k a := by
  intro k
  induction k with
  | zero => intro a _ h1 h2; simp only [upFrom]; omega
  | succ k ih =>
    intro a h h1 h2
    rw [upFrom]
    split
    · rename_i hp
      by_cases hae : a < e
      · rw [h a (Nat.le_refl _) hae] at hp; cases hp
      · omega
    · by_cases hae : a < e
      · exact ih (a + 1) (fun x hx1 hx2 => h x (by omega) hx2) (by omega) (by omega)
      · have hge : ∀ k a, a ≤ upFrom p k a := fun k => by
          induction k with
          | zero => intro a; exact Nat.le_refl _
          | succ k ih2 => intro a; rw [upFrom]; split; exact Nat.le_refl _; exact Nat.le_trans (Nat.le_succ _) (ih2 (a + 1))
        have := hge k (a + 1)
        omega

theorem sizes_ok : ∀ wd ≤ 6, 2 ≤ wd → ∀ n ≤ 100, leastDep wd n ≤ mostDep wd n := by decide +kernel

/-- What the law asks of a width and a number. -/
theorem deps_ok (wd n : Int) : ¬ (leastD wd n > mostD wd n) ∧ decide (leastD wd n < 0) = decide (mostD wd n < 0) := by
  unfold leastD mostD
  by_cases h : (inB wd 2 6 && inB n 0 100) = true
  · rw [if_pos h, if_pos h]
    simp only [Bool.and_eq_true, inB, decide_eq_true_eq] at h
    obtain ⟨⟨h1, h2⟩, h3, h4⟩ := h
    have := sizes_ok wd.toNat (by omega) (by omega) n.toNat (by omega)
    refine ⟨by omega, ?_⟩
    rw [decide_eq_false (by omega), decide_eq_false (by omega)]
  · rw [if_neg h, if_neg h]
    exact ⟨by omega, rfl⟩

/-- What the law asks of a valid tree. -/
theorem Tr.deep_facts {wide : Int} {t : Tr} (h : Tr.validB wide t = true) :
    leastD wide t.keys.length ≤ t.depth ∧ (t.depth : Int) ≤ mostD wide t.keys.length ∧ leastV wide t.depth ≤ t.keys.length ∧ (t.keys.length : Int) ≤ mostV wide t.depth ∧ t.depth ≤ 7 ∧ t.keys.length ≤ 100 := by
  have hw := Tr.valid_wide h
  have hk := sorted_len (Tr.valid_keys h)
  have h' := h
  simp only [Tr.validB, Bool.and_eq_true] at h'
  have hn := h'.2.1
  obtain ⟨e, he⟩ : ∃ e, t.depth = e + 1 := by
    obtain ⟨k, c⟩ := t
    refine ⟨(Tr.mk k c).depth - 1, ?_⟩
    have : 1 ≤ (Tr.mk k c).depth := by simp only [Tr.depth]; omega
    omega
  obtain ⟨W, rfl⟩ : ∃ W : Nat, wide = W := ⟨wide.toNat, by omega⟩
  rw [he] at hn ⊢
  obtain ⟨hlo, hhi⟩ := Tr.root_keys W e t hn
  have h7 : e + 1 ≤ 7 := by
    by_cases h8 : e + 1 ≤ 7
    · exact h8
    · have h1 := Tr.lowN_mono W (show 7 + 1 ≤ e + 1 by omega)
      have h2 := low8 W (by omega) (by omega)
      omega
  obtain ⟨n, hne⟩ : ∃ n, n = t.keys.length := ⟨_, rfl⟩
  rw [← hne] at hlo hhi hk ⊢
  have hL : leastDep W n ≤ e + 1 := upFrom_le _ (e + 1) (by simpa using hhi) 7 1 (by omega) (by omega)
  have hM : e + 1 ≤ mostDep W n := upFrom_ge _ (e + 1) 7 1 (fun x hx1 hx2 => by
    have := Tr.lowN_mono W (show x + 1 ≤ e + 1 by omega)
    simp
    omega) (by omega) (by omega)
  have hi1 : (inB (W : Int) 2 6 && inB (n : Int) 0 100) = true := by simp only [Bool.and_eq_true, inB, decide_eq_true_eq]; omega
  have hi2 : (inB (W : Int) 2 6 && inB ((e + 1 : Nat) : Int) 1 8) = true := by simp only [Bool.and_eq_true, inB, decide_eq_true_eq]; omega
  unfold leastD mostD leastV mostV
  rw [if_pos hi1, if_pos hi1, if_pos hi2, if_pos hi2]
  simp only [Int.toNat_natCast]
  exact ⟨by omega, by omega, by omega, by omega, h7, hk⟩
end Go.Proofs.YtdkldcgiiiejfaaDoor
