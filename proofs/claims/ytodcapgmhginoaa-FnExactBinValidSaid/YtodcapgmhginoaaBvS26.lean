/- A tree is valid just if evenDepth tells a depth and the keys ascend: plain data. -/
import Derived.Test.YtodcapgmhginoaaBvS0
import Derived.Test.YtodcapgmhginoaaBvS10
import Derived.Test.YtodcapgmhginoaaBvS13
import Derived.Test.YtodcapgmhginoaaBvS14
import Derived.Test.YtodcapgmhginoaaBvS25
namespace Go.Proofs.Ytodcapgmhginoaa
open Go.RowKit

theorem nodesB_parts {wide least d : Int} {ks : List Int} {cs : List Tr} (h : Tr.nodesB wide least d (.mk ks cs) = true) :
    (least ≤ (ks.length : Int) ∧ (ks.length : Int) ≤ wide) ∧ ((cs.length = 0 ∧ d = 1) ∨ (cs.length ≠ 0 ∧ d ≠ 1 ∧ cs.length = ks.length + 1 ∧ ks.length ≠ 0 ∧ ∀ i (hi : i < cs.length), Tr.nodesB wide (wide / 2) (d - 1) cs[i] = true)) := by
  simp only [Tr.nodesB, Bool.and_eq_true, Bool.or_eq_true, inB, decide_eq_true_eq, beq_iff_eq, Bool.not_eq_true', decide_eq_false_iff_not] at h
  obtain ⟨⟨h1, h2⟩, h3⟩ := h
  refine ⟨h1, ?_⟩
  by_cases h0 : cs.length = 0
  · left
    refine ⟨h0, ?_⟩
    simp only [h0, decide_true] at h2
    exact of_decide_eq_true h2.symm
  · right
    rcases h3 with h3 | ⟨⟨h3, h4⟩, h5⟩
    · exact absurd h3 h0
    · refine ⟨h0, fun e => ?_, h3, h4, fun i hi => Tr.nodesAllB_get h5 i hi⟩
      simp [h0, e] at h2

theorem nodesB_leaf {wide least : Int} {ks : List Int} {cs : List Tr} (h1 : least ≤ (ks.length : Int)) (h2 : (ks.length : Int) ≤ wide) (h0 : cs.length = 0) : Tr.nodesB wide least 1 (.mk ks cs) = true := by
  simp [Tr.nodesB, inB, h1, h2, h0]

theorem nodesB_inner {wide least d : Int} {ks : List Int} {cs : List Tr} (h1 : least ≤ (ks.length : Int)) (h2 : (ks.length : Int) ≤ wide) (hd : d ≠ 1) (hl : cs.length = ks.length + 1) (hk : ks.length ≠ 0)
    (hc : ∀ i (hi : i < cs.length), Tr.nodesB wide (wide / 2) (d - 1) cs[i] = true) : Tr.nodesB wide least d (.mk ks cs) = true := by
  have h0 : cs.length ≠ 0 := by omega
  have hall := Tr.nodesAllB_of hc
  have e0 : decide (cs.length = 0) = false := decide_eq_false h0
  have e1 : decide (d = 1) = false := decide_eq_false hd
  have e2 : decide (ks.length = 0) = false := decide_eq_false hk
  have e3 : decide (cs.length = ks.length + 1) = true := decide_eq_true hl
  simp only [Tr.nodesB, inB, h1, h2, decide_true, Bool.and_true, e0, e1, e2, e3, hall, Bool.not_false]
  rfl

theorem depths_same {cs : List Tr} {D : Nat} (h0 : cs.length ≠ 0) (h : ∀ i (hi : i < cs.length), cs[i].depth = D) : Tr.depths cs = D := by
  induction cs with
  | nil => exact absurd rfl h0
  | cons t r ih =>
    have h1 := h 0 (by simp)
    simp only [List.getElem_cons_zero] at h1
    simp only [Tr.depths, h1]
    by_cases hr : r.length = 0
    · have : r = [] := List.length_eq_zero_iff.1 hr
      subst this; simp [Tr.depths]
    · rw [ih hr (fun i hi => by have := h (i + 1) (by simpa using hi); simpa using this)]
      simp

theorem even_yes {ds : List Nat} (h : evenF ds ≠ 0) : ds.getD 0 0 ≠ 0 ∧ (∀ i (hi : i < ds.length), ds[i] = ds.getD 0 0) ∧ evenF ds = ds.getD 0 0 + 1 := by
  unfold evenF at h ⊢
  split at h
  · rename_i hc
    rw [if_pos hc]
    exact ⟨hc.1, fun i hi => hc.2 _ (List.getElem_mem hi), rfl⟩
  · exact absurd rfl h

theorem even_nodes (wide : Int) (hw : 2 ≤ wide) : ∀ (l : Nat) (least : Int) (t : Tr), (∀ ks cs, t = .mk ks cs → cs.length ≠ 0 → 1 ≤ least) → t.evenD wide l least ≠ 0 →
    t.nodesB wide least (t.evenD wide l least) = true ∧ t.depth = t.evenD wide l least
  | 0, _, _, _, h => absurd rfl h
  | l + 1, least, .mk ks cs, hin, h => by
    have hu : Tr.evenD wide (l + 1) least (.mk ks cs) = if (ks.length : Int) < least ∨ wide < (ks.length : Int) then 0 else if cs.length = 0 then 1 else if cs.length ≠ ks.length + 1 then 0 else evenF (cs.map (Tr.evenD wide l (wide / 2))) := by simp only [Tr.evenD]
    rw [hu] at h ⊢
    by_cases g1 : (ks.length : Int) < least ∨ wide < (ks.length : Int)
    · rw [if_pos g1] at h; exact absurd rfl h
    rw [if_neg g1] at h ⊢
    by_cases g2 : cs.length = 0
    · rw [if_pos g2]
      have : cs = [] := List.length_eq_zero_iff.1 g2
      subst this
      exact ⟨nodesB_leaf (by omega) (by omega) rfl, by simp [Tr.depth, Tr.depths]⟩
    rw [if_neg g2] at h ⊢
    by_cases g3 : cs.length ≠ ks.length + 1
    · rw [if_pos g3] at h; exact absurd rfl h
    rw [if_neg g3] at h ⊢
    obtain ⟨y1, y2, y3⟩ := even_yes h
    generalize hD : (cs.map (Tr.evenD wide l (wide / 2))).getD 0 0 = D at y1 y2 y3
    have hk : ∀ i (hi : i < cs.length), cs[i].evenD wide l (wide / 2) = D := fun i hi => by
      have := y2 i (by simpa using hi)
      simpa using this
    have hkid : ∀ i (hi : i < cs.length), cs[i].nodesB wide (wide / 2) D = true ∧ cs[i].depth = D := fun i hi => by
      have := even_nodes wide hw l (wide / 2) cs[i] (fun _ _ _ _ => by omega) (by rw [hk i hi]; exact y1)
      rw [hk i hi] at this
      exact this
    have hl1 := hin ks cs rfl g2
    rw [y3]
    refine ⟨nodesB_inner (by omega) (by omega) (by omega) (by omega) (by omega) (fun i hi => ?_), ?_⟩
    · have := (hkid i hi).1
      rw [show ((D + 1 : Nat) : Int) - 1 = (D : Int) by omega]
      exact this
    · simp only [Tr.depth]
      rw [depths_same g2 (fun i hi => (hkid i hi).2)]

theorem nodesB_pos (wide : Int) : ∀ (n : Nat) (least d : Int) (t : Tr), t.weight ≤ n → t.nodesB wide least d = true → 1 ≤ d := by
  intro n
  induction n with
  | zero =>
    intro least d t hn h
    cases t with
    | mk ks cs =>
      rcases (nodesB_parts h).2 with ⟨_, h2⟩ | ⟨h0, h2, h3, h4, h5⟩
      · omega
      · simp only [Tr.weight] at hn; have := Tr.length_le_weights cs; omega
  | succ n ih =>
    intro least d t hn h
    cases t with
    | mk ks cs =>
      rcases (nodesB_parts h).2 with ⟨_, h2⟩ | ⟨h0, h2, h3, h4, h5⟩
      · omega
      · have hk := h5 0 (by omega)
        simp only [Tr.weight] at hn
        have := Tr.weight_get_le cs 0 (by omega)
        have := ih _ _ _ (by omega) hk
        omega

theorem nodes_even (wide : Int) (hw : 2 ≤ wide) : ∀ (l : Nat) (least d : Int) (t : Tr), t.nodesB wide least d = true → d ≤ l → (t.evenD wide l least : Int) = d
  | 0, least, d, t, h, hd => by have := nodesB_pos wide _ least d t (Nat.le_refl _) h; omega
  | l + 1, least, d, .mk ks cs, h, hd => by
    have hu : Tr.evenD wide (l + 1) least (.mk ks cs) = if (ks.length : Int) < least ∨ wide < (ks.length : Int) then 0 else if cs.length = 0 then 1 else if cs.length ≠ ks.length + 1 then 0 else evenF (cs.map (Tr.evenD wide l (wide / 2))) := by simp only [Tr.evenD]
    obtain ⟨⟨h1, h2⟩, h3⟩ := nodesB_parts h
    rw [hu, if_neg (by omega)]
    rcases h3 with ⟨h3, h4⟩ | ⟨h3, h4, h5, h6, h7⟩
    · rw [if_pos h3, h4]; rfl
    · rw [if_neg h3, if_neg (by omega)]
      have hp := nodesB_pos wide _ _ _ _ (Nat.le_refl _) (h7 0 (by omega))
      rw [evenF_yes (d := (d - 1).toNat) (by simp; omega) (by omega) (fun i hi => ?_)]
      · omega
      · have hi' : i < cs.length := by simpa using hi
        have := nodes_even wide hw l (wide / 2) (d - 1) cs[i] (h7 i hi') (by omega)
        simp only [List.getElem_map]
        omega

theorem lens_ge {cs : List Tr} {m : Nat} (h : ∀ i (hi : i < cs.length), m ≤ cs[i].keys.length + 1) : cs.length * m ≤ Tr.lens (Tr.keyss cs) + cs.length := by
  induction cs with
  | nil => simp
  | cons t r ih =>
    have h1 := h 0 (by simp)
    have h2 := ih (fun i hi => by have := h (i + 1) (by simpa using hi); simpa using this)
    simp only [List.getElem_cons_zero] at h1
    simp only [Tr.keyss, Tr.lens, List.length_cons, Nat.add_mul, Nat.one_mul]
    omega

theorem keys_len (ks : List Int) (cs : List Tr) : (Tr.mk ks cs).keys.length = Tr.lens (Tr.keyss cs) + ks.length := by
  have hk := Tr.length_keyss cs
  rw [Tr.keys, Tr.upto_length, List.take_of_length_le (by omega), List.take_of_length_le (by omega)]

theorem nodes_keys (wide : Int) (hw : 2 ≤ wide) : ∀ (e : Nat) (least d : Int) (t : Tr), d = (e : Int) + 1 → (1 ≤ least ∨ 1 ≤ e) → t.nodesB wide least d = true → 2 ^ (e + 1) ≤ t.keys.length + 1
  | 0, least, d, .mk ks cs, hd, hl, h => by
    obtain ⟨⟨h1, h2⟩, h3⟩ := nodesB_parts h
    rw [keys_len]
    rcases hl with hl | hl
    · omega
    · omega
  | e + 1, least, d, .mk ks cs, hd, hl, h => by
    obtain ⟨⟨h1, h2⟩, h3⟩ := nodesB_parts h
    rcases h3 with ⟨h3, h4⟩ | ⟨h3, h4, h5, h6, h7⟩
    · omega
    · have hkid : ∀ i (hi : i < cs.length), 2 ^ (e + 1) ≤ cs[i].keys.length + 1 := fun i hi => nodes_keys wide hw e (wide / 2) (d - 1) cs[i] (by omega) (.inl (by omega)) (h7 i hi)
      have h8 := lens_ge hkid
      have h9 : 2 * 2 ^ (e + 1) ≤ cs.length * 2 ^ (e + 1) := Nat.mul_le_mul_right _ (by omega)
      rw [keys_len]
      have : 2 ^ (e + 1 + 1) = 2 * 2 ^ (e + 1) := by rw [Nat.pow_succ, Nat.mul_comm]
      omega

theorem okAt_get {ks : List Int} (h : sortedB ks = true) (i : Nat) (hi : i < ks.length) : okAt ks i = true := by
  simp only [sortedB, List.all_eq_true, List.mem_range] at h
  exact h i hi

theorem sorted_ge {ks : List Int} (h : sortedB ks = true) : ∀ i, i < ks.length → (i : Int) ≤ ks.getD i 0 ∧ ks.getD i 0 ≤ 99 := by
  intro i
  induction i with
  | zero =>
    intro hi
    have h1 := okAt_get h 0 hi
    simp only [okAt, inB, Bool.and_eq_true, decide_eq_true_eq] at h1
    omega
  | succ i ih =>
    intro hi
    have h0 := ih (by omega)
    have h1 := okAt_get h (i + 1) hi
    simp only [okAt, inB, Bool.and_eq_true, decide_eq_true_eq, Bool.or_eq_true, Nat.add_sub_cancel] at h1
    omega

theorem sorted_len {ks : List Int} (h : sortedB ks = true) : ks.length ≤ 100 := by
  by_cases h0 : ks.length ≤ 100
  · exact h0
  · have := sorted_ge h 100 (by omega)
    omega

theorem nodesB_root {wide d : Int} {ks : List Int} {cs : List Tr} : Tr.nodesB wide 0 d (.mk ks cs) = Tr.nodesB wide ((min cs.length 1 : Nat) : Int) d (.mk ks cs) := by
  rw [Bool.eq_iff_iff]
  constructor
  · intro h
    obtain ⟨⟨h1, h2⟩, h3⟩ := nodesB_parts h
    rcases h3 with ⟨h3, rfl⟩ | ⟨h3, h4, h5, h6, h7⟩
    · exact nodesB_leaf (by omega) h2 h3
    · exact nodesB_inner (by omega) h2 h4 h5 h6 h7
  · intro h
    obtain ⟨⟨h1, h2⟩, h3⟩ := nodesB_parts h
    rcases h3 with ⟨h3, rfl⟩ | ⟨h3, h4, h5, h6, h7⟩
    · exact nodesB_leaf (by omega) h2 h3
    · exact nodesB_inner (by omega) h2 h4 h5 h6 h7

theorem even_valid {wide : Int} (h1 : 2 ≤ wide) (h2 : wide ≤ 6) (ks : List Int) (cs : List Tr) :
    Tr.validB wide (.mk ks cs) = (decide (0 < Tr.evenD wide 6 ((min cs.length 1 : Nat) : Int) (.mk ks cs)) && sortedB (Tr.mk ks cs).keys) := by
  unfold Tr.validB
  rw [inB_true h1 h2, Bool.true_and, nodesB_root]
  cases hs : sortedB (Tr.mk ks cs).keys with
  | false => simp
  | true =>
    rw [Bool.and_true, Bool.and_true, Bool.eq_iff_iff, decide_eq_true_eq]
    have hlen := sorted_len hs
    have hin : ∀ ks' cs', Tr.mk ks cs = .mk ks' cs' → cs'.length ≠ 0 → (1 : Int) ≤ ((min cs.length 1 : Nat) : Int) := fun ks' cs' e h => by cases e; omega
    constructor
    · intro h
      have hp := nodesB_pos wide _ _ _ _ (Nat.le_refl _) h
      have hd : (Tr.mk ks cs).depth ≤ 6 := by
        by_cases hd : (Tr.mk ks cs).depth ≤ 6
        · exact hd
        · have := nodes_keys wide h1 ((Tr.mk ks cs).depth - 1) _ _ _ (by omega) (.inr (by omega)) h
          have h64 : 2 ^ 7 ≤ 2 ^ ((Tr.mk ks cs).depth - 1 + 1) := Nat.pow_le_pow_right (by omega) (by omega)
          omega
      have := nodes_even wide h1 6 _ _ _ h (by omega)
      omega
    · intro h
      obtain ⟨g1, g2⟩ := even_nodes wide h1 6 _ _ hin (by omega)
      rw [g2]; exact g1
end Go.Proofs.Ytodcapgmhginoaa
