/- More on the steps of a tree: the nodes that one comes by; how deep one is. -/
import Derived.Test.YtodcapgmhginoaaFuS0
import Derived.Test.YtodcapgmhginoaaFuS5
import Derived.Test.YtodcapgmhginoaaFuS7
import Derived.Test.YtodcapgmhginoaaFuS22
namespace Go.Proofs.Ytodcapgmhginoaa
open Go.RowKit

theorem mem_rem {a : ATr} {p : Nat} {x : Step} (h : x ∈ remS (a, p)) : x.node = a ∨ ∃ i, ∃ hi : i < a.cs.length, x ∈ a.cs[i].evs := by
  unfold remS remOf at h
  rcases List.mem_append.1 h with h | h
  · obtain ⟨q, _, hq⟩ := List.mem_flatMap.1 h
    have hq : x ∈ hev a (ATr.evss a.cs) q := hq
    obtain ⟨i, hi | hi⟩ : ∃ i, q = 2 * i ∨ q = 2 * i + 1 := ⟨q / 2, by omega⟩
    · subst hi
      by_cases hk : i < a.cs.length
      · rw [hev_kid hk] at hq; exact .inr ⟨i, hk, hq⟩
      · rw [hev_nokid hk] at hq; simp at hq
    · subst hi
      by_cases hk : i < a.ks.length
      · rw [hev_key hk] at hq
        left
        rw [List.mem_singleton.1 hq]; rfl
      · rw [hev_nokey hk] at hq; simp at hq
  · left; rw [List.mem_singleton.1 h]; rfl

/-- What holds of a tree and goes down to the kids holds of all nodes that one comes by. -/
theorem evs_all (P : ATr → Prop) (hkid : ∀ a, P a → ∀ i (h : i < a.cs.length), P a.cs[i]) : ∀ n (a : ATr), a.weight ≤ n → P a → ∀ x ∈ a.evs, P x.node := by
  intro n
  induction n with
  | zero =>
    intro a ha hP x hx
    rw [evs_eq] at hx
    rcases List.mem_cons.1 hx with rfl | hx
    · exact hP
    · rcases mem_rem hx with h | ⟨i, hi, _⟩
      · rw [h]; exact hP
      · have := ATr.ks_le a; omega
  | succ n ih =>
    intro a ha hP x hx
    rw [evs_eq] at hx
    rcases List.mem_cons.1 hx with rfl | hx
    · exact hP
    · rcases mem_rem hx with h | ⟨i, hi, h⟩
      · rw [h]; exact hP
      · exact ih a.cs[i] (by have := ATr.weight_kid hi; omega) (hkid a hP i hi) x h

theorem evs_at {w : World} {a : ATr} (h : AT w a) {x : Step} (hx : x ∈ a.evs) : AT w x.node :=
  evs_all (AT w) (fun a h i hi => by obtain ⟨_, _, _, _, _, _, _, _, _, _, _, _, _, h, _⟩ := h.parts; exact h i hi) a.weight a (Nat.le_refl _) h x hx

/-- How many nodes end. -/
def fins : List Step → Nat
  | [] => 0
  | .fin _ :: r => fins r + 1
  | .key _ _ :: r => fins r
  | .beg _ :: r => fins r
theorem fins_append (a b : List Step) : fins (a ++ b) = fins a + fins b := by
  induction a with
  | nil => simp [fins]
  | cons x r ih => cases x <;> simp [fins, ih] <;> omega

/-- How deep one is, and how deep one has been. -/
def dep : Int × Int → List Step → Int × Int
  | s, [] => s
  | s, .beg _ :: r => dep (s.1 + 1, max s.2 (s.1 + 1)) r
  | s, .key _ _ :: r => dep s r
  | s, .fin _ :: r => dep (s.1 - 1, s.2) r
theorem dep_append (a b : List Step) : ∀ s, dep s (a ++ b) = dep (dep s a) b := by
  induction a with
  | nil => intro s; rfl
  | cons x r ih => intro s; cases x <;> exact ih _

theorem dep_bounds (l : List Step) : ∀ s : Int × Int, s.1 - fins l ≤ (dep s l).1 ∧ (dep s l).1 ≤ s.1 + begs l ∧ s.2 ≤ (dep s l).2 ∧ (dep s l).2 ≤ max s.2 (s.1 + begs l) := by
  induction l with
  | nil => intro s; simp [dep, fins, begs]; omega
  | cons x r ih =>
    intro s
    cases x with
    | beg a => have h := ih (s.1 + 1, max s.2 (s.1 + 1)); simp only [dep, fins, begs]; simp only at h; omega
    | key a k => have h := ih s; simp only [dep, fins, begs]; omega
    | fin a => have h := ih (s.1 - 1, s.2); simp only [dep, fins, begs]; simp only at h; omega

theorem dep_evs : ∀ n (a : ATr), a.weight ≤ n → ∀ (c d : Int), dep (c, d) a.evs = (c, max d (c + a.tr.depth)) := by
  intro n
  induction n with
  | zero =>
    intro a ha c d
    have hc : a.cs.length = 0 := by have := ATr.ks_le a; omega
    have hk0 : a.ks.length = 0 := by have := ATr.ks_le a; omega
    rw [evs_eq, remS_end (by omega)]
    have hd : a.tr.depth = 1 := by
      cases a with
      | mk nb no k cs =>
        have : cs = [] := List.length_eq_zero_iff.1 hc
        subst this; simp [ATr.tr, ATr.trs, Tr.depth, Tr.depths]
    rw [hd]
    simp only [dep, Prod.mk.injEq]
    omega
  | succ n ih =>
    intro a ha c d
    have hrem : ∀ m p (d : Int), 2 * max a.cs.length a.ks.length - p = m → c + 1 ≤ d → dep (c + 1, d) (remS (a, p)) = (c, max d (c + 1 + Tr.depths (ATr.trs (a.cs.drop ((p + 1) / 2))))) := by
      intro m
      induction m with
      | zero =>
        intro p d hp hd
        rw [remS_end (by omega), List.drop_eq_nil_of_le (by omega)]
        simp only [dep, ATr.trs, Tr.depths, Prod.mk.injEq]
        omega
      | succ m ihm =>
        intro p d hp hd
        rw [remS_step (by omega), dep_append]
        obtain ⟨i, hi | hi⟩ : ∃ i, p = 2 * i ∨ p = 2 * i + 1 := ⟨p / 2, by omega⟩
        · subst hi
          by_cases hk1 : i < a.cs.length
          · rw [hev_kid hk1, ih a.cs[i] (by have := ATr.weight_kid hk1; omega), ihm _ _ (by omega) (by omega), show (2 * i + 1 + 1) / 2 = i + 1 by omega, show (2 * i + 1) / 2 = i by omega, List.drop_eq_getElem_cons hk1]
            have hm : ((max (a.cs[i].tr.depth) (Tr.depths (ATr.trs (a.cs.drop (i + 1)))) : Nat) : Int) = max (a.cs[i].tr.depth : Int) (Tr.depths (ATr.trs (a.cs.drop (i + 1))) : Int) := by omega
            simp only [ATr.trs, Tr.depths, Prod.mk.injEq, true_and, hm]
            generalize (a.cs[i].tr.depth : Int) = x
            generalize (Tr.depths (ATr.trs (a.cs.drop (i + 1))) : Int) = y
            omega
          · rw [hev_nokid hk1]
            show dep (c + 1, d) (remS (a, 2 * i + 1)) = _
            rw [ihm _ _ (by omega) hd, List.drop_eq_nil_of_le (by omega), List.drop_eq_nil_of_le (by omega)]
        · subst hi
          have hh : dep (c + 1, d) (hev a (ATr.evss a.cs) (2 * i + 1)) = (c + 1, d) := by
            by_cases hk1 : i < a.ks.length
            · rw [hev_key hk1]; rfl
            · rw [hev_nokey hk1]; rfl
          rw [hh, ihm _ _ (by omega) hd, show (2 * i + 1 + 1 + 1) / 2 = i + 1 by omega, show (2 * i + 1 + 1) / 2 = i + 1 by omega]
    rw [evs_eq]
    show dep (c + 1, max d (c + 1)) (remS (a, 0)) = _
    rw [hrem _ 0 _ rfl (by omega)]
    have hd : (a.tr.depth : Int) = (Tr.depths (ATr.trs a.cs) : Int) + 1 := by cases a; simp [ATr.tr, Tr.depth, ATr.cs]
    simp only [List.drop_zero, Nat.zero_add, show (1 : Nat) / 2 = 0 by omega, Prod.mk.injEq, true_and]
    omega

theorem fins_evs (a : ATr) : (fins a.evs : Int) = begs a.evs := by
  -- from the depth: one ends where one began
  have h1 : ∀ (l : List Step) (s : Int × Int), (dep s l).1 = s.1 + begs l - fins l := by
    intro l
    induction l with
    | nil => intro s; simp [dep, begs, fins]
    | cons x r ih => intro s; cases x <;> simp only [dep, begs, fins, ih] <;> omega
  have h2 := h1 a.evs (0, 0)
  rw [dep_evs a.weight a (Nat.le_refl _)] at h2
  simp only at h2
  omega
end Go.Proofs.Ytodcapgmhginoaa
