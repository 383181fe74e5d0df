/- What one comes by on the way through a tree, turn by turn. -/
import Derived.Test.YtodcapgmhginoaaFuS0
import Derived.Test.YtodcapgmhginoaaFuS5
import Derived.Test.YtodcapgmhginoaaFuS7
import Derived.Test.YtodcapgmhginoaaFuS11
import Derived.Test.YtodcapgmhginoaaFuS12
namespace Go.Proofs.Ytodcapgmhginoaa
open Go.RowKit

/-- The keys that a node yields at its p-th turn. -/
def ATr.behind (a : ATr) (p : Nat) : List Int := (a.ks.take (if p = a.cs.length then a.ks.length else p)).drop (p - 1)
/-- What a node yields at its p-th turn. -/
def ATr.turn (a : ATr) (p : Nat) : List Step := (if p = 0 then [Step.beg a] else []) ++ (a.behind p).map (Step.key a) ++ (if p = a.cs.length then [Step.fin a] else [])
def turnS (f : Ro ATr × Nat) : List Step := f.1.lab.turn f.2

theorem remS_tail (a : ATr) : ∀ n i, a.ks.length - i ≤ n → a.cs.length ≤ i + 1 → remS (a, 2 * i + 1) = (a.ks.drop i).map (Step.key a) ++ [.fin a] := by
  intro n
  induction n with
  | zero =>
    intro i hi hc
    rw [List.drop_eq_nil_of_le (by omega)]
    by_cases h : 2 * i + 1 < 2 * max a.cs.length a.ks.length
    · rw [remS_step h, hev_nokey (by omega), List.nil_append]
      exact remS_end (by omega)
    · exact remS_end (by omega)
  | succ n ih =>
    intro i hi hc
    by_cases hk : i < a.ks.length
    · rw [remS_step (by omega), hev_key hk, List.drop_eq_getElem_cons hk]
      have hnext : remS (a, 2 * i + 1 + 1) = (a.ks.drop (i + 1)).map (Step.key a) ++ [.fin a] := by
        by_cases h : 2 * i + 1 + 1 < 2 * max a.cs.length a.ks.length
        · rw [remS_step h]
          have h2 := hev_nokid (a := a) (i := i + 1) (by omega)
          rw [show 2 * (i + 1) = 2 * i + 1 + 1 by omega] at h2
          rw [h2, List.nil_append]
          have h3 := ih (i + 1) (by omega) (by omega)
          rw [show 2 * (i + 1) + 1 = 2 * i + 1 + 1 + 1 by omega] at h3
          exact h3
        · rw [List.drop_eq_nil_of_le (by omega)]
          exact remS_end (by omega)
      have hg : a.ks.getD i 0 = a.ks[i] := by simp [List.getD_eq_getElem?_getD, hk]
      rw [hnext, hg]
      rfl
    · exact ih i (by omega) hc

theorem turn_mid (a : ATr) (p : Nat) (h0 : 0 < p) (h : p < a.cs.length) : a.turn p = hev a (ATr.evss a.cs) (2 * (p - 1) + 1) := by
  unfold ATr.turn ATr.behind
  rw [if_neg (by omega), if_neg (by omega), if_neg (by omega), List.nil_append, List.append_nil]
  by_cases hk : p - 1 < a.ks.length
  · rw [hev_key hk]
    have : (a.ks.take p).drop (p - 1) = [a.ks[p - 1]] := by
      apply List.ext_getElem
      · simp; omega
      · intro i i1 i2
        simp at i1 i2 ⊢
        congr 1
        omega
    rw [this]
    simp [List.getD_eq_getElem?_getD, hk]
  · rw [hev_nokey hk]
    rw [List.drop_eq_nil_of_le (by simp; omega)]; rfl

/-- The turns of a tree yield its steps. -/
theorem evs_turns : ∀ n (a : ATr), a.weight ≤ n → a.ro.trn.flatMap turnS = a.evs := by
  intro n
  induction n with
  | zero =>
    intro a ha
    have := ATr.ks_le a
    have hcs : a.cs = [] := List.length_eq_zero_iff.1 (by omega)
    have hks : a.ks = [] := List.length_eq_zero_iff.1 (by omega)
    rw [trn_eq, remT_end (by rw [ATr.ro_cs, ATr.ros_length]; omega), evs_eq]
    simp only [List.flatMap_cons, List.flatMap_nil, List.append_nil, turnS, ATr.ro_lab, ATr.turn, ATr.behind]
    rw [remS_end (by simp [hcs, hks])]
    simp [hcs, hks]
  | succ n ih =>
    intro a ha
    have hcl : a.ro.cs.length = a.cs.length := by rw [ATr.ro_cs, ATr.ros_length]
    have hkid : ∀ p (h : p < a.cs.length), (remT (a.ro.cs[p]'(by omega), 0)).flatMap turnS = hev a (ATr.evss a.cs) (2 * p) := fun p h => by
      have e : a.ro.cs[p]'(by omega) = a.cs[p].ro := by
        have := ATr.ros_get a.cs p h
        simpa [ATr.ro_cs] using this
      rw [e, ← trn_eq, ih a.cs[p] (by have := ATr.weight_kid h; omega), hev_kid h]
    have hD : ∀ m p, 0 < p → p ≤ a.cs.length → a.cs.length - p ≤ m → (remT (a.ro, p)).flatMap turnS = remS (a, 2 * (p - 1) + 1) := by
      intro m
      induction m with
      | zero =>
        intro p h0 h1 h2
        obtain rfl : p = a.cs.length := by omega
        rw [remT_end (by omega), remS_tail a _ (a.cs.length - 1) (Nat.le_refl _) (by omega)]
        simp only [List.flatMap_cons, List.flatMap_nil, List.append_nil, turnS, ATr.ro_lab, ATr.turn, ATr.behind]
        rw [if_neg (by omega)]
        simp
      | succ m ihm =>
        intro p h0 h1 h2
        by_cases h : p < a.cs.length
        · rw [remT_kid (by omega)]
          simp only [List.flatMap_cons, List.flatMap_append]
          rw [hkid p h, ihm (p + 1) (by omega) (by omega) (by omega)]
          show a.ro.lab.turn p ++ _ = _
          rw [ATr.ro_lab, turn_mid a p h0 h, remS_step (p := 2 * (p - 1) + 1) (by omega), show 2 * (p - 1) + 1 + 1 = 2 * p by omega, remS_step (p := 2 * p) (by omega), Nat.add_sub_cancel]
        · exact ihm p h0 h1 (by omega)
    rw [evs_eq, trn_eq]
    by_cases h : 0 < a.cs.length
    · rw [remT_kid (by omega)]
      simp only [List.flatMap_cons, List.flatMap_append]
      rw [hkid 0 h, hD _ 1 (by omega) (by omega) (Nat.le_refl _)]
      show a.ro.lab.turn 0 ++ _ = _
      rw [ATr.ro_lab, show (remS (a, 0)) = hev a (ATr.evss a.cs) (2 * 0) ++ remS (a, 0 + 1) from remS_step (by omega)]
      unfold ATr.turn ATr.behind
      rw [if_pos rfl, if_neg (by omega), if_neg (by omega)]
      simp
    · rw [remT_end (by omega)]
      have hn : a.cs.length = 0 := by omega
      simp only [List.flatMap_cons, List.flatMap_nil, List.append_nil, turnS, ATr.ro_lab, ATr.turn, ATr.behind]
      have h0 : remS (a, 0) = a.ks.map (Step.key a) ++ [.fin a] := by
        by_cases hk : 0 < a.ks.length
        · rw [remS_step (by omega)]
          have h2 := hev_nokid (a := a) (i := 0) (by omega)
          rw [show 2 * 0 = 0 by omega] at h2
          rw [h2, List.nil_append]
          exact remS_tail a _ 0 (Nat.le_refl _) (by omega)
        · have hks : a.ks = [] := List.length_eq_zero_iff.1 (by omega)
          rw [remS_end (by omega), hks]; rfl
      rw [h0, hn]
      simp
end Go.Proofs.Ytodcapgmhginoaa
