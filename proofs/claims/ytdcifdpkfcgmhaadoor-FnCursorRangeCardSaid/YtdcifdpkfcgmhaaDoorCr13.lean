/- Two lists that are the same: the laws' own function. -/
import Derived.Test.YtdcifdpkfcgmhaaDoorCr0
import Derived.Test.YtdcifdpkfcgmhaaDoorCrS2
import Derived.Test.YtdcifdpkfcgmhaaDoorCr5
import Derived.Test.YtdcifdpkfcgmhaaDoorCr11
import Derived.Test.YtdcifdpkfcgmhaaDoorCr12
import Derived.Test.YtdcifdpkfcgmhaaDoorProg
import Derived.Deep.QuietTactic
import Derived.BigQuiet
import Derived.WalkSmall

/- A tree is valid just if evenDepth tells a depth and the keys ascend: plain data. -/
namespace Go.Proofs.YtdcifdpkfcgmhaaDoor
open Go.RowKit

theorem nodesB_parts {wide least d : Int} {ks : List Int} {cs : List Tr} (h : Tr.nodesB wide least d (.mk ks cs) = true) :
    (least ≤ (ks.length : Int) ∧ (ks.length : Int) ≤ wide) ∧ ((cs.length = 0 ∧ d = 1) ∨ (cs.length ≠ 0 ∧ d ≠ 1 ∧ cs.length = ks.length + 1 ∧ ks.length ≠ 0 ∧ ∀ i (hi : i < cs.length), Tr.nodesB wide (wide / 2) (d - 1) cs[i] = true)) := by
  simp only [Tr.nodesB, Bool.and_eq_true, Bool.or_eq_true, inB, decide_eq_true_eq, beq_iff_eq, Bool.not_eq_true', decide_eq_false_iff_not] at h
  obtain ⟨⟨h1, h2⟩, h3⟩ := h
  refine ⟨h1, ?_⟩
  by_cases h0 : cs.length = 0
  · left
    refine ⟨h0, ?_⟩
    simp only [h0, decide_true] at h2
    exact of_decide_eq_true h2.symm
  · right
    rcases h3 with h3 | ⟨⟨h3, h4⟩, h5⟩
    · exact absurd h3 h0
    · refine ⟨h0, fun e => ?_, h3, h4, fun i hi => Tr.nodesAllB_get h5 i hi⟩
      simp [h0, e] at h2

theorem nodesB_leaf {wide least : Int} {ks : List Int} {cs : List Tr} (h1 : least ≤ (ks.length : Int)) (h2 : (ks.length : Int) ≤ wide) (h0 : cs.length = 0) : Tr.nodesB wide least 1 (.mk ks cs) = true := by
  simp [Tr.nodesB, inB, h1, h2, h0]

theorem nodesB_inner {wide least d : Int} {ks : List Int} {cs : List Tr} (h1 : least ≤ (ks.length : Int)) (h2 : (ks.length : Int) ≤ wide) (hd : d ≠ 1) (hl : cs.length = ks.length + 1) (hk : ks.length ≠ 0)
    (hc : ∀ i (hi : i < cs.length), Tr.nodesB wide (wide / 2) (d - 1) cs[i] = true) : Tr.nodesB wide least d (.mk ks cs) = true := by
  have h0 : cs.length ≠ 0 := by omega
  have hall := Tr.nodesAllB_of hc
  have e0 : decide (cs.length = 0) = false := decide_eq_false h0
  have e1 : decide (d = 1) = false := decide_eq_false hd
  have e2 : decide (ks.length = 0) = false := decide_eq_false hk
  have e3 : decide (cs.length = ks.length + 1) = true := decide_eq_true hl
  simp only [Tr.nodesB, inB, h1, h2, decide_true, Bool.and_true, e0, e1, e2, e3, hall, Bool.not_false]
  rfl

theorem depths_same {cs : List Tr} {D : Nat} (h0 : cs.length ≠ 0) (h : ∀ i (hi : i < cs.length), cs[i].depth = D) : Tr.depths cs = D := by
  induction cs with
  | nil => exact absurd rfl h0
  | cons t r ih =>
    have h1 := h 0 (by simp)
    simp only [List.getElem_cons_zero] at h1
    simp only [Tr.depths, h1]
    by_cases hr : r.length = 0
    · have : r = [] := List.length_eq_zero_iff.1 hr
      subst this; simp [Tr.depths]
    · rw [ih hr (fun i hi => by have := h (i + 1) (by simpa using hi); simpa using this)]
      simp

theorem even_yes {ds : List Nat} (h : evenF ds ≠ 0) : ds.getD 0 0 ≠ 0 ∧ (∀ i (hi : i < ds.length), ds[i] = ds.getD 0 0) ∧ evenF ds = ds.getD 0 0 + 1 := by
  unfold evenF at h ⊢
  split at h
  · rename_i hc
    rw [if_pos hc]
    exact ⟨hc.1, fun i hi => hc.2 _ (List.getElem_mem hi), rfl⟩
  · exact absurd rfl h

theorem even_nodes (wide : Int) (hw : 2 ≤ wide) : ∀ (l : Nat) (least : Int) (t : Tr), (∀ ks cs, t = .mk ks cs → cs.length ≠ 0 → 1 ≤ least) → t.evenD wide l least ≠ 0 →
    t.nodesB wide least (t.evenD wide l least) = true ∧ t.depth = t.evenD wide l least
  | 0, _, _, _, h => absurd rfl h
  | l + 1, least, .mk ks cs, hin, h => by
    have hu : Tr.evenD wide (l + 1) least (.mk ks cs) = if (ks.length : Int) < least ∨ wide < (ks.length : Int) then 0 else if cs.length = 0 then 1 else if cs.length ≠ ks.length + 1 then 0 else evenF (cs.map (Tr.evenD wide l (wide / 2))) := by simp only [Tr.evenD]
    rw [hu] at h ⊢
    by_cases g1 : (ks.length : Int) < least ∨ wide < (ks.length : Int)
    · rw [if_pos g1] at h; exact absurd rfl h
    rw [if_neg g1] at h ⊢
    by_cases g2 : cs.length = 0
    · rw [if_pos g2]
      have : cs = [] := List.length_eq_zero_iff.1 g2
      subst this
      exact ⟨nodesB_leaf (by omega) (by omega) rfl, by simp [Tr.depth, Tr.depths]⟩
    rw [if_neg g2] at h ⊢
    by_cases g3 : cs.length ≠ ks.length + 1
    · rw [if_pos g3] at h; exact absurd rfl h
    rw [if_neg g3] at h ⊢
    obtain ⟨y1, y2, y3⟩ := even_yes h
    generalize hD : (cs.map (Tr.evenD wide l (wide / 2))).getD 0 0 = D at y1 y2 y3
    have hk : ∀ i (hi : i < cs.length), cs[i].evenD wide l (wide / 2) = D := fun i hi => by
      have := y2 i (by simpa using hi)
      simpa using this
    have hkid : ∀ i (hi : i < cs.length), cs[i].nodesB wide (wide / 2) D = true ∧ cs[i].depth = D := fun i hi => by
      have := even_nodes wide hw l (wide / 2) cs[i] (fun _ _ _ _ => by omega) (by rw [hk i hi]; exact y1)
      rw [hk i hi] at this
      exact this
    have hl1 := hin ks cs rfl g2
    rw [y3]
    refine ⟨nodesB_inner (by omega) (by omega) (by omega) (by omega) (by omega) (fun i hi => ?_), ?_⟩
    · have := (hkid i hi).1
      rw [show ((D + 1 : Nat) : Int) - 1 = (D : Int) by omega]
      exact this
    · simp only [Tr.depth]
      rw [depths_same g2 (fun i hi => (hkid i hi).2)]

theorem nodesB_pos (wide : Int) : ∀ (n : Nat) (least d : Int) (t : Tr), t.weight ≤ n → t.nodesB wide least d = true → 1 ≤ d := by
  intro n
  induction n with
  | zero =>
    intro least d t hn h
    cases t with
    | mk ks cs =>
      rcases (nodesB_parts h).2 with ⟨_, h2⟩ | ⟨h0, h2, h3, h4, h5⟩
      · omega
      · simp only [Tr.weight] at hn; have := Tr.length_le_weights cs; omega
  | succ n ih =>
    intro least d t hn h
    cases t with
    | mk ks cs =>
      rcases (nodesB_parts h).2 with ⟨_, h2⟩ | ⟨h0, h2, h3, h4, h5⟩
      · omega
      · have hk := h5 0 (by omega)
        simp only [Tr.weight] at hn
        have := Tr.weight_get_le cs 0 (by omega)
        have := ih _ _ _ (by omega) hk
        omega

theorem nodes_even (wide : Int) (hw : 2 ≤ wide) : ∀ (l : Nat) (least d : Int) (t : Tr), t.nodesB wide least d = true → d ≤ l → (t.evenD wide l least : Int) = d
  | 0, least, d, t, h, hd => by have := nodesB_pos wide _ least d t (Nat.le_refl _) h; omega
  | l + 1, least, d, .mk ks cs, h, hd => by
    have hu : Tr.evenD wide (l + 1) least (.mk ks cs) = if (ks.length : Int) < least ∨ wide < (ks.length : Int) then 0 else if cs.length = 0 then 1 else if cs.length ≠ ks.length + 1 then 0 else evenF (cs.map (Tr.evenD wide l (wide / 2))) := by simp only [Tr.evenD]
    obtain ⟨⟨h1, h2⟩, h3⟩ := nodesB_parts h
    rw [hu, if_neg (by omega)]
    rcases h3 with ⟨h3, h4⟩ | ⟨h3, h4, h5, h6, h7⟩
    · rw [if_pos h3, h4]; rfl
    · rw [if_neg h3, if_neg (by omega)]
      have hp := nodesB_pos wide _ _ _ _ (Nat.le_refl _) (h7 0 (by omega))
      rw [evenF_yes (d := (d - 1).toNat) (by simp; omega) (by omega) (fun i hi => ?_)]
      · omega
      · have hi' : i < cs.length := by simpa using hi
        have := nodes_even wide hw l (wide / 2) (d - 1) cs[i] (h7 i hi') (by omega)
        simp only [List.getElem_map]
        omega

theorem lens_ge {cs : List Tr} {m : Nat} (h : ∀ i (hi : i < cs.length), m ≤ cs[i].keys.length + 1) : cs.length * m ≤ Tr.lens (Tr.keyss cs) + cs.length := by
  induction cs with
  | nil => simp
  | cons t r ih =>
    have h1 := h 0 (by simp)
    have h2 := ih (fun i hi => by have := h (i + 1) (by simpa using hi); simpa using this)
    simp only [List.getElem_cons_zero] at h1
    simp only [Tr.keyss, Tr.lens, List.length_cons, Nat.add_mul, Nat.one_mul]
    omega

theorem keys_len (ks : List Int) (cs : List Tr) : (Tr.mk ks cs).keys.length = Tr.lens (Tr.keyss cs) + ks.length := by
  have hk := Tr.length_keyss cs
  rw [Tr.keys, Tr.upto_length, List.take_of_length_le (by omega), List.take_of_length_le (by omega)]

theorem nodes_keys (wide : Int) (hw : 2 ≤ wide) : ∀ (e : Nat) (least d : Int) (t : Tr), d = (e : Int) + 1 → (1 ≤ least ∨ 1 ≤ e) → t.nodesB wide least d = true → 2 ^ (e + 1) ≤ t.keys.length + 1
  | 0, least, d, .mk ks cs, hd, hl, h => by
    obtain ⟨⟨h1, h2⟩, h3⟩ := nodesB_parts h
    rw [keys_len]
    rcases hl with hl | hl
    · omega
    · omega
  | e + 1, least, d, .mk ks cs, hd, hl, h => by
    obtain ⟨⟨h1, h2⟩, h3⟩ := nodesB_parts h
    rcases h3 with ⟨h3, h4⟩ | ⟨h3, h4, h5, h6, h7⟩
    · omega
    · have hkid : ∀ i (hi : i < cs.length), 2 ^ (e + 1) ≤ cs[i].keys.length + 1 := fun i hi => nodes_keys wide hw e (wide / 2) (d - 1) cs[i] (by omega) (.inl (by omega)) (h7 i hi)
      have h8 := lens_ge hkid
      have h9 : 2 * 2 ^ (e + 1) ≤ cs.length * 2 ^ (e + 1) := Nat.mul_le_mul_right _ (by omega)
      rw [keys_len]
      have : 2 ^ (e + 1 + 1) = 2 * 2 ^ (e + 1) := by rw [Nat.pow_succ, Nat.mul_comm]
      omega

theorem okAt_get {ks : List Int} (h : sortedB ks = true) (i : Nat) (hi : i < ks.length) : okAt ks i = true := by
  simp only [sortedB, List.all_eq_true, List.mem_range] at h
  exact h i hi

theorem sorted_ge {ks : List Int} (h : sortedB ks = true) : ∀ i, i < ks.length → (i : Int) ≤ ks.getD i 0 ∧ ks.getD i 0 ≤ 99 := by
  intro i
  induction i with
  | zero =>
    intro hi
    have h1 := okAt_get h 0 hi
    simp only [okAt, inB, Bool.and_eq_true, decide_eq_true_eq] at h1
    omega
  | succ i ih =>
    intro hi
    have h0 := ih (by omega)
    have h1 := okAt_get h (i + 1) hi
    simp only [okAt, inB, Bool.and_eq_true, decide_eq_true_eq, Bool.or_eq_true, Nat.add_sub_cancel] at h1
    omega

theorem sorted_len {ks : List Int} (h : sortedB ks = true) : ks.length ≤ 100 := by
  by_cases h0 : ks.length ≤ 100
  · exact h0
  · have := sorted_ge h 100 (by omega)
    omega

theorem nodesB_root {wide d : Int} {ks : List Int} {cs : List Tr} : Tr.nodesB wide 0 d (.mk ks cs) = Tr.nodesB wide ((min cs.length 1 : Nat) : Int) d (.mk ks cs) := by
  rw [Bool.eq_iff_iff]
  constructor
  · intro h
    obtain ⟨⟨h1, h2⟩, h3⟩ := nodesB_parts h
    rcases h3 with ⟨h3, rfl⟩ | ⟨h3, h4, h5, h6, h7⟩
    · exact nodesB_leaf (by omega) h2 h3
    · exact nodesB_inner (by omega) h2 h4 h5 h6 h7
  · intro h
    obtain ⟨⟨h1, h2⟩, h3⟩ := nodesB_parts h
    rcases h3 with ⟨h3, rfl⟩ | ⟨h3, h4, h5, h6, h7⟩
    · exact nodesB_leaf (by omega) h2 h3
    · exact nodesB_inner (by omega) h2 h4 h5 h6 h7

theorem even_valid {wide : Int} (h1 : 2 ≤ wide) (h2 : wide ≤ 6) (ks : List Int) (cs : List Tr) :
    Tr.validB wide (.mk ks cs) = (decide (0 < Tr.evenD wide 6 ((min cs.length 1 : Nat) : Int) (.mk ks cs)) && sortedB (Tr.mk ks cs).keys) := by
  unfold Tr.validB
  rw [inB_true h1 h2, Bool.true_and, nodesB_root]
  cases hs : sortedB (Tr.mk ks cs).keys with
  | false => simp
  | true =>
    rw [Bool.and_true, Bool.and_true, Bool.eq_iff_iff, decide_eq_true_eq]
    have hlen := sorted_len hs
    have hin : ∀ ks' cs', Tr.mk ks cs = .mk ks' cs' → cs'.length ≠ 0 → (1 : Int) ≤ ((min cs.length 1 : Nat) : Int) := fun ks' cs' e h => by cases e; omega
    constructor
    · intro h
      have hp := nodesB_pos wide _ _ _ _ (Nat.le_refl _) h
      have hd : (Tr.mk ks cs).depth ≤ 6 := by
        by_cases hd : (Tr.mk ks cs).depth ≤ 6
        · exact hd
        · have := nodes_keys wide h1 ((Tr.mk ks cs).depth - 1) _ _ _ (by omega) (.inr (by omega)) h
          have h64 : 2 ^ 7 ≤ 2 ^ ((Tr.mk ks cs).depth - 1 + 1) := Nat.pow_le_pow_right (by omega) (by omega)
          omega
      have := nodes_even wide h1 6 _ _ _ h (by omega)
      omega
    · intro h
      obtain ⟨g1, g2⟩ := even_nodes wide h1 6 _ _ hin (by omega)
      rw [g2]; exact g1
end Go.Proofs.YtdcifdpkfcgmhaaDoor

/- Whether a tree is valid for some width: the model. -/
namespace Go.Proofs.YtdcifdpkfcgmhaaDoor
open Go.RowKit

/-- Valid for some width. -/
def Tr.someB (t : Tr) : Bool := Tr.validB 2 t || Tr.validB 3 t || Tr.validB 4 t || Tr.validB 5 t || Tr.validB 6 t
theorem someB_of (t : Tr) : (∀ q : Nat, 2 ≤ q → q ≤ 6 → Tr.validB q t = true → t.someB = true) ∧ ((∀ q : Nat, 2 ≤ q → q ≤ 6 → Tr.validB q t = false) → t.someB = false) := by
  constructor
  · intro q h1 h2 h
    have hq : q = 2 ∨ q = 3 ∨ q = 4 ∨ q = 5 ∨ q = 6 := by omega
    unfold Tr.someB
    rcases hq with rfl | rfl | rfl | rfl | rfl
    · have h' : Tr.validB 2 t = true := h
      simp [h']
    · have h' : Tr.validB 3 t = true := h
      simp [h']
    · have h' : Tr.validB 4 t = true := h
      simp [h']
    · have h' : Tr.validB 5 t = true := h
      simp [h']
    · have h' : Tr.validB 6 t = true := h
      simp [h']
  · intro h
    have a2 : Tr.validB 2 t = false := h 2 (by omega) (by omega)
    have a3 : Tr.validB 3 t = false := h 3 (by omega) (by omega)
    have a4 : Tr.validB 4 t = false := h 4 (by omega) (by omega)
    have a5 : Tr.validB 5 t = false := h 5 (by omega) (by omega)
    have a6 : Tr.validB 6 t = false := h 6 (by omega) (by omega)
    unfold Tr.someB
    simp [a2, a3, a4, a5, a6]

set_option maxRecDepth 100000 in
set_option maxHeartbeats 1000000 in
theorem l2Valid_c {w : World} {B : Nat} {kv cv : Value} {t : Tr} (ht : TreeIn w B kv cv t) (hw : t.weight ≤ 1048576) (w' : World) (hbw : Below B w w') (hB : B ≤ w'.heap.size) :
    Calls Tryd.prog 57 #[.agg #[kv, cv]] w' fun e w'' => e = .returned (.bool t.someB) ∧ Below w'.heap.size w' w'' := by
  obtain ⟨a5, n5, m5, a6, n6, m6, rfl, rfl⟩ := ht.slices
  obtain ⟨W1, hW1⟩ : ∃ W1, W1 = w'.alloc (.cells #[.slice a5 n5 m5, .slice a6 n6 m6] 33) := ⟨_, rfl⟩
  have hs1 : W1.heap.size = w'.heap.size + 1 := by rw [hW1]; simp
  have hb1 : Below w'.heap.size w' W1 := by rw [hW1]; exact (Below.refl _ _).alloc (Nat.le_refl _) _
  have kb : W1.heap[w'.heap.size]? = some (.cells #[.slice a5 n5 m5, .slice a6 n6 m6] 33 (0, 0)) := by rw [hW1, new_blk]
  have HT := Lib.hid ht
  have HBW := Lib.hid hbw
  have HW1 := Lib.hid hW1
  have H1 := Lib.hid (And.intro hb1 kb)
  have hsb := someB_of t
  have HSB := Lib.hid hsb
  clear ht hbw hW1 hb1 kb hsb
  go_enter Tryd.func57, Tryd.ntmps57
  go_wp2_with fail
  rw [← HW1.out]
  go_loopw [3] (fun i wr => ∃ (j : Nat), 2 ≤ j ∧ j ≤ 7 ∧ i = .int .i64 j ∧ (∀ q : Nat, 2 ≤ q → q < j → Tr.validB q t = false) ∧ Below W1.heap.size W1 wr) (fun i _ => 7 - (intOf i).toNat)
  case atStart => exact ⟨2, Nat.le_refl _, by omega, rfl, fun q h1 h2 => by omega, Below.refl _ _⟩
  case round =>
    obtain ⟨j, hj2, hj7, rfl, hall, hbel⟩ := hrel
    have hsr := hbel.size
    obtain ⟨x1, x2, x3, x4⟩ := box2 ((hbel.block w'.heap.size (by omega)).trans H1.out.2)
    have HALL := Lib.hid hall
    have HBEL := Lib.hid hbel
    clear hall hbel
    by_cases hlt : j ≤ 6
    · have hlt' : (j : Int) ≤ 6 := by omega
      go_wp2_with fail
      refine (specTreeValid_c HT.out hw (j : Int) wr (HBW.out.trans ((H1.out.1.mono hB).trans (HBEL.out.mono (by omega)))) (by omega)).mono ?_
      rintro e w2 ⟨rfl, hb2⟩
      have HB2 := Lib.hid (HBEL.out.trans (hb2.mono hsr))
      clear hb2
      cases hv : Tr.validB j t with
      | true =>
        have hso := HSB.out.1 j hj2 (by omega) hv
        have HSO := Lib.hid hso
        have HV := Lib.hid hv
        clear hso hv
        go_wp2_with fail
        go_ret
        exact ⟨ret_bool HSO.out.symm, H1.out.1.trans (HB2.out.mono (by omega))⟩
      | false =>
        have HV := Lib.hid hv
        clear hv
        go_wp2_with fail
        go_roundw
        case rel =>
          refine ⟨j + 1, by omega, by omega, by go_num, fun q h1 h2 => ?_, HB2.out⟩
          by_cases hq : q = j
          · rw [hq]; exact HV.out
          · exact HALL.out q h1 (by omega)
        case measure => simp [intOf]; omega
    · have hlt' : ¬ (j : Int) ≤ 6 := by omega
      have hso := HSB.out.2 (fun q h1 h2 => HALL.out q h1 (by omega))
      have HSO := Lib.hid hso
      clear hso
      go_wp2_with fail
      go_ret
      exact ⟨ret_bool HSO.out.symm, H1.out.1.trans (HBEL.out.mono (by omega))⟩

end Go.Proofs.YtdcifdpkfcgmhaaDoor

/- Finding: plain data: places in a node, the way down. -/
namespace Go.Proofs.YtdcifdpkfcgmhaaDoor
open Go.RowKit

/-- How many keys stand ahead of the first that is not less than a number. -/
def place (key : Int) : List Int → Nat
  | [] => 0
  | k :: r => if k < key then place key r + 1 else 0

theorem place_le (key : Int) (ks : List Int) : place key ks ≤ ks.length := by
  induction ks with
  | nil => simp [place]
  | cons k r ih => simp only [place, List.length_cons]; split <;> omega

theorem place_eq {key : Int} : ∀ {ks : List Int} {j : Nat}, j ≤ ks.length → (∀ i, i < j → ks.getD i 0 < key) → (j < ks.length → ¬ ks.getD j 0 < key) → place key ks = j
  | [], j, h, _, _ => by simp at h; simp [place, h]
  | k :: r, 0, _, _, h2 => by
    have := h2 (by simp)
    simp only [List.getD_cons_zero] at this
    simp [place, this]
  | k :: r, j + 1, h, h1, h2 => by
    have h0 := h1 0 (by omega)
    simp only [List.getD_cons_zero] at h0
    have := place_eq (key := key) (ks := r) (j := j) (by simpa using h) (fun i hi => by have := h1 (i + 1) (by omega); simpa using this) (fun hj => by have := h2 (by simpa using hj); simpa using this)
    simp [place, h0, this]

namespace Tr
def ks : Tr → List Int | .mk k _ => k
def cs : Tr → List Tr | .mk _ c => c
mutual
/-- Which kids one goes to, and whether the key is there. -/
def path (key : Int) : Tr → List Int × Bool
  | .mk k c =>
    if place key k < k.length ∧ k.getD (place key k) 0 = key then ([], true)
    else if c.length = 0 then ([], false)
    else ((place key k : Int) :: ((paths key c).getD (place key k) ([], false)).1, ((paths key c).getD (place key k) ([], false)).2)
def paths (key : Int) : List Tr → List (List Int × Bool)
  | [] => []
  | t :: r => path key t :: paths key r
end
theorem paths_get (key : Int) (c : List Tr) (i : Nat) (h : i < c.length) : (paths key c).getD i ([], false) = c[i].path key := by
  induction c generalizing i with
  | nil => simp at h
  | cons t r ih =>
    cases i with
    | zero => simp [paths]
    | succ i => simpa [paths] using ih i (by simpa using h)
theorem path_found {key : Int} {k : List Int} {c : List Tr} (h : place key k < k.length ∧ k.getD (place key k) 0 = key) : (Tr.mk k c).path key = ([], true) := by
  rw [path, if_pos h]
theorem path_leaf {key : Int} {k : List Int} {c : List Tr} (h : ¬ (place key k < k.length ∧ k.getD (place key k) 0 = key)) (h0 : c.length = 0) : (Tr.mk k c).path key = ([], false) := by
  rw [path, if_neg h, if_pos h0]
theorem path_inner {key : Int} {k : List Int} {c : List Tr} (h : ¬ (place key k < k.length ∧ k.getD (place key k) 0 = key)) (hi : place key k < c.length) :
    (Tr.mk k c).path key = ((place key k : Int) :: (c[place key k].path key).1, (c[place key k].path key).2) := by
  rw [path, if_neg h, if_neg (by omega), paths_get key c _ hi]
theorem paths_length (key : Int) (c : List Tr) : (paths key c).length = c.length := by
  induction c with
  | nil => rfl
  | cons t r ih => simp only [paths, List.length_cons, ih]
theorem path_len' (key : Int) : ∀ (n : Nat) (t : Tr), t.weight ≤ n → (t.path key).1.length ≤ t.weight
  | n, .mk k c, hn => by
    rw [path]
    split
    · simp
    · split
      · simp
      · simp only [List.length_cons, weight] at *
        by_cases hi : place key k < c.length
        · rw [paths_get key c _ hi]
          have h1 := weight_get_le c _ hi
          cases n with
          | zero => omega
          | succ n =>
            have := path_len' key n c[place key k] (by omega)
            omega
        · have h2 := paths_length key c
          rw [List.getD_eq_getElem?_getD, List.getElem?_eq_none (by omega)]
          have := length_le_weights c
          simp; omega
theorem path_len (key : Int) (t : Tr) : (t.path key).1.length ≤ t.weight := path_len' key t.weight t (Nat.le_refl _)
/-- The path in a tree that is valid for some width. -/
def pathB (key : Int) (t : Tr) : List Int × Bool := if t.someB then t.path key else ([], false)

/-- Each node has one kid more than keys, or none; and its keys ascend. -/
def Well (t : Tr) : Prop := (∃ wide least d, nodesB wide least d t = true) ∧ t.keys.Pairwise (· < ·)

theorem Well.inner {k : List Int} {c : List Tr} (h : Well (.mk k c)) (h0 : c.length ≠ 0) : c.length = k.length + 1 := by
  obtain ⟨⟨w, l, d, h⟩, _⟩ := h
  rcases (nodesB_parts h).2 with ⟨h1, _⟩ | ⟨_, _, h3, _⟩
  · exact absurd h1 h0
  · exact h3

theorem part_sub (kss : List (List Int)) (ks : List Int) (n i : Nat) (h : i < n) : (part kss ks i).Sublist (upto kss ks n) := by
  induction n with
  | zero => omega
  | succ n ih =>
    rw [upto_succ]
    by_cases hi : i < n
    · exact (ih hi).trans (List.sublist_append_left _ _)
    · obtain rfl : i = n := by omega
      exact List.sublist_append_right _ _

theorem kid_sub {k : List Int} {c : List Tr} (i : Nat) (hi : i < c.length) : (c[i].keys).Sublist (Tr.mk k c).keys := by
  have h := part_sub (keyss c) k (max k.length c.length) i (by omega)
  refine List.Sublist.trans ?_ h
  unfold part
  rw [keyss_get c i hi]
  exact List.sublist_append_left _ _

theorem take_sub (kss : List (List Int)) (ks : List Int) (n : Nat) : (ks.take n).Sublist (upto kss ks n) := by
  induction n with
  | zero => simp
  | succ n ih =>
    rw [upto_succ, List.take_add_one]
    refine List.Sublist.append ih ?_
    unfold part
    exact List.sublist_append_right _ _

theorem own_sub (k : List Int) (c : List Tr) : k.Sublist (Tr.mk k c).keys := by
  have h := take_sub (keyss c) k (max k.length c.length)
  rw [List.take_of_length_le (by omega)] at h
  exact h

theorem Well.keys {k : List Int} {c : List Tr} (h : Well (.mk k c)) : k.Pairwise (· < ·) := h.2.sublist (own_sub k c)

theorem Well.kid {k : List Int} {c : List Tr} (h : Well (.mk k c)) (i : Nat) (hi : i < c.length) : Well c[i] := by
  obtain ⟨⟨w, l, d, hn⟩, hp⟩ := h
  rcases (nodesB_parts hn).2 with ⟨h1, _⟩ | ⟨_, _, _, _, h5⟩
  · omega
  · exact ⟨⟨_, _, _, h5 i hi⟩, hp.sublist (kid_sub i hi)⟩

theorem pairwise_of_sorted {ks : List Int} (h : sortedB ks = true) : ks.Pairwise (· < ·) := by
  have hstep : ∀ i, i + 1 < ks.length → ks.getD i 0 < ks.getD (i + 1) 0 := fun i hi => by
    have h1 := okAt_get h (i + 1) hi
    simp only [okAt, inB, Bool.and_eq_true, decide_eq_true_eq, Bool.or_eq_true, Nat.add_sub_cancel] at h1
    omega
  have hall : ∀ d i, i + d + 1 < ks.length → ks.getD i 0 < ks.getD (i + d + 1) 0 := by
    intro d
    induction d with
    | zero => intro i hi; exact hstep i hi
    | succ d ih => intro i hi; have := ih i (by omega); have := hstep (i + d + 1) (by omega); rw [show i + (d + 1) + 1 = i + d + 1 + 1 by omega]; omega
  rw [List.pairwise_iff_getElem]
  intro i j hi hj hij
  have := hall (j - i - 1) i (by omega)
  rw [show i + (j - i - 1) + 1 = j by omega] at this
  simpa [List.getD_eq_getElem?_getD, hi, hj] using this

theorem Well.of_some {t : Tr} (h : t.someB = true) : Well t := by
  have hv : ∃ w : Int, validB w t = true := by
    unfold someB at h
    simp only [Bool.or_eq_true] at h
    rcases h with (((h | h) | h) | h) | h
    all_goals exact ⟨_, h⟩
  obtain ⟨w, hv⟩ := hv
  unfold validB at hv
  simp only [Bool.and_eq_true] at hv
  exact ⟨⟨w, 0, _, hv.2.1⟩, pairwise_of_sorted hv.2.2⟩
end Tr

theorem someB_path (key : Int) (t : Tr) : (t.someB = true → t.pathB key = t.path key) ∧ (t.someB = false → t.pathB key = ([], false)) := by
  unfold Tr.pathB
  constructor <;> intro h <;> simp [h]
end Go.Proofs.YtdcifdpkfcgmhaaDoor

/- A tree that is valid for some width has few keys. -/
namespace Go.Proofs.YtdcifdpkfcgmhaaDoor
open Go.RowKit

namespace Tr
theorem keys_length (k : List Int) (c : List Tr) : (Tr.mk k c).keys.length = lens (keyss c) + k.length := by
  have hk := length_keyss c
  simp only [keys, upto_length]
  rw [List.take_of_length_le (by omega), List.take_of_length_le (by omega)]
mutual
theorem small {wide : Int} (h2 : 2 ≤ wide) : ∀ (t : Tr) (d : Int), nodesB wide (wide / 2) d t = true → t.weight + 1 ≤ 2 * t.keys.length
  | .mk k c, d, h => by
    simp only [nodesB, Bool.and_eq_true, Bool.or_eq_true] at h
    have h1 : wide / 2 ≤ (k.length : Int) := by have := h.1.1; simp [inB] at this; omega
    rw [keys_length]
    simp only [weight]
    rcases h.2 with h3 | h3
    · have hc : c = [] := by simpa using h3
      subst hc
      simp [weights, keyss, lens]; omega
    · have := smalls h2 c _ h3.2
      omega
theorem smalls {wide : Int} (h2 : 2 ≤ wide) : ∀ (c : List Tr) (d : Int), nodesAllB wide d c = true → weights c ≤ 2 * lens (keyss c)
  | [], d, _ => by simp [weights]
  | t :: r, d, h => by
    simp only [nodesAllB, Bool.and_eq_true] at h
    have h3 := small h2 t _ h.1
    have h4 := smalls h2 r _ h.2
    simp only [weights, keyss, lens]; omega
end
theorem few : ∀ (l : List Int) (lo : Int), l.Pairwise (· < ·) → (∀ x, x ∈ l → lo ≤ x ∧ x ≤ 99) → (l.length : Int) ≤ max 0 (100 - lo)
  | [], lo, _, _ => by simp; omega
  | a :: r, lo, hp, hm => by
    rw [List.pairwise_cons] at hp
    have h1 := hm a (by simp)
    have h2 := few r (a + 1) hp.2 (fun x hx => ⟨by have := hp.1 x hx; omega, (hm x (by simp [hx])).2⟩)
    simp only [List.length_cons]
    omega
theorem sorted_mem {ks : List Int} (h : sortedB ks = true) : ∀ x, x ∈ ks → 0 ≤ x ∧ x ≤ 99 := fun x hx => by
  obtain ⟨i, hi, rfl⟩ := List.mem_iff_getElem.1 hx
  simp only [sortedB, List.all_eq_true, List.mem_range] at h
  have h1 := h i hi
  simp only [okAt, Bool.and_eq_true, inB, decide_eq_true_eq] at h1
  have h2 := h1.1
  simpa [List.getD_eq_getElem?_getD, hi] using h2
theorem valid_keys {wide : Int} {t : Tr} (h : validB wide t = true) : sortedB t.keys = true := by
  simp only [validB, Bool.and_eq_true] at h; exact h.2.2
theorem valid_well {wide : Int} {t : Tr} (h : validB wide t = true) : Well t := by
  have h' := h
  simp only [validB, Bool.and_eq_true] at h'
  exact ⟨⟨wide, 0, _, h'.2.1⟩, pairwise_of_sorted h'.2.2⟩
theorem valid_small {wide : Int} {t : Tr} (h : validB wide t = true) : t.weight ≤ 200 := by
  have hk := valid_keys h
  have hf := few t.keys 0 (pairwise_of_sorted hk) (sorted_mem hk)
  have hw := valid_wide h
  simp only [validB, Bool.and_eq_true] at h
  cases t with
  | mk k c =>
    rw [keys_length] at hf
    have h' := h.2.1
    simp only [nodesB, Bool.and_eq_true, Bool.or_eq_true] at h'
    simp only [weight]
    rcases h'.2 with h3 | h3
    · have hc : c = [] := by simpa using h3
      subst hc
      simp [weights] at hf ⊢; omega
    · have := smalls hw.1 c _ h3.2
      omega
end Tr
end Go.Proofs.YtdcifdpkfcgmhaaDoor

/- Two lists that are the same: the laws' own function. -/
namespace Go.Proofs.YtdcifdpkfcgmhaaDoor
open Go.RowKit

set_option maxHeartbeats 1000000 in
theorem ftSame_c (ks : List Int) (v v' : Value) (w : World) (B : Nat) (hB : B ≤ w.heap.size) (hk : IntsIn w B v ks) (hk' : IntsIn w B v' ks) :
    Calls Tryd.prog 53 #[v, v'] w fun e w' => e = .returned (.bool true) ∧ Below w.heap.size w w' := by
  obtain ⟨a, cap, rfl, h1, h2, _, h3⟩ := hk
  obtain ⟨a', cap', rfl, h1', h2', _, h3'⟩ := hk'
  unfold maxLen at h2 h2'
  have HK := Lib.hid h3
  have HK' := Lib.hid h3'
  clear h3 h3'
  have heq : ((ks.length : Int) == ks.length) = true := by simp
  have hmin : min (ks.length : Int) (ks.length : Int) = (ks.length : Int) := by simp
  go_enter Tryd.func53, Tryd.ntmps53
  go_wp2_with fail
  go_loopw [5, 11] (fun s5 i wr => ∃ (j : Nat), j ≤ ks.length ∧ i = .int .i64 j ∧ Below w.heap.size w wr) (fun _ i _ => ks.length - (intOf i).toNat)
  case atStart => exact ⟨0, Nat.zero_le _, rfl, Below.refl _ _⟩
  case round =>
    obtain ⟨j, hj, rfl, hbel⟩ := hrel
    by_cases hlt : j < ks.length
    · rcases HK.out with h | ⟨b, off, rfl, hb, hat⟩
      · simp [h] at hlt
      rcases HK'.out with h | ⟨b', off', rfl, hb', hat'⟩
      · simp [h] at hlt
      have ha1 : wr.cell? ⟨b, off + j, none⟩ = some (.int .i64 (ks.getD j 0)) := by rw [below_cell hbel (by omega)]; exact hat j hlt
      have ha2 : wr.cell? ⟨b', off' + j, none⟩ = some (.int .i64 (ks.getD j 0)) := by rw [below_cell hbel (by omega)]; exact hat' j hlt
      have hne2 : ((ks.getD j 0 : Int) != ks.getD j 0) = false := by simp
      have hjl : (j : Int) < (ks.length : Int) := by omega
      clear hat hat'
      generalize ks.getD j 0 = x at ha1 ha2 hne2
      go_wp2_with fail
      go_quiet (fail)
      go_wp2_with fail
      go_roundw
      case rel => exact ⟨j + 1, by omega, by go_num, below_drewN hbel _⟩
      case measure => simp [intOf]; omega
    · obtain rfl : j = ks.length := by omega
      have hjl : ¬ ((ks.length : Nat) : Int) < (ks.length : Int) := by omega
      go_wp2_with fail
      go_ret
      exact ⟨rfl, hbel⟩
end Go.Proofs.YtdcifdpkfcgmhaaDoor
