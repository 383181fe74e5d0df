/- Cursors that go on: what they come to is what the model comes to: plain data. -/
import Derived.Test.YtdcifdpkfcgmhaaDoorCbS1
import Derived.Test.YtdcifdpkfcgmhaaDoorCbS5
import Derived.Test.YtdcifdpkfcgmhaaDoorCbS8
import Derived.Test.YtdcifdpkfcgmhaaDoorCbS16
import Derived.Test.YtdcifdpkfcgmhaaDoorCbS21
import Derived.Test.YtdcifdpkfcgmhaaDoorCbS11
import Derived.Test.YtdcifdpkfcgmhaaDoorCbS17
import Derived.Test.YtdcifdpkfcgmhaaDoorCbS23
namespace Go.Proofs.YtdcifdpkfcgmhaaDoor
open Go.RowKit
namespace Tr

theorem some_key {t : Tr} (h : t.someB = true) {x : Int} (hx : x ∈ t.keys) : 0 ≤ x ∧ x ≤ 99 := by
  obtain ⟨w, hv⟩ : ∃ w : Int, validB w t = true := by
    unfold someB at h
    simp only [Bool.or_eq_true] at h
    rcases h with (((h | h) | h) | h) | h
    all_goals exact ⟨_, h⟩
  unfold validB at hv
  simp only [Bool.and_eq_true] at hv
  obtain ⟨i, hi, rfl⟩ := List.getElem_of_mem hx
  have := sorted_ge hv.2.2 i hi
  rw [List.getD_eq_getElem?_getD, List.getElem?_eq_getElem hi] at this
  simp only [Option.getD_some] at this
  omega

theorem goF_at {c : Int} {t u : Tr} {ks : List Int} (h : nodeTo ks t = some u) : goF c t ks = upF t (ks ++ sink c u) := by unfold goF; rw [h]
theorem goB_at {c : Int} {t u : Tr} {ks : List Int} (h : nodeTo ks t = some u) : goB c t ks = upB (ks ++ sink c u) := by unfold goB; rw [h]

theorem goF_first {k : List Int} {cs : List Tr} (hs : someB (.mk k cs) = true) (hk : k.length ≠ 0) : goF 0 (.mk k cs) [] = (downF (Tr.mk k cs).weight (.mk k cs), 0, true) := by
  rw [goF_at rfl, upF_zero rfl (Well.of_some hs) (Full.of_some hs hk) (fun x hx => (some_key hs hx).1) _ (Nat.le_refl _)]
  rfl
theorem goB_last {k : List Int} {cs : List Tr} (hs : someB (.mk k cs) = true) (hk : k.length ≠ 0) : goB 100 (.mk k cs) [] = ((downL (Tr.mk k cs).weight (.mk k cs)).1, ((downL (Tr.mk k cs).weight (.mk k cs)).2 : Int) - 1, true) := by
  rw [goB_at rfl, upB_full (Well.of_some hs) (Full.of_some hs hk) (fun x hx => by have := (some_key hs hx).2; omega) _ (Nat.le_refl _)]
  rfl

theorem stopF_last {t : Tr} {L : List Int} {x : Int} (h : ¬ x < (lenAt t L : Int)) : stopF t (L ++ [x]) (L.length + 0) = false := by
  show stopF t (L ++ [x]) L.length = false
  unfold stopF
  rw [getD_right (Nat.le_refl _), List.take_left' rfl]
  exact decide_eq_false (by simpa using h)

/-- What the model's Forward comes to. -/
def nextCur (t : Tr) (ks : List Int) (N : Nat) : List Int × Int × Bool :=
  match nodeTo ks t with
  | some (.mk k cs) => if h : N + 1 < cs.length then (ks ++ ((N + 1 : Nat) : Int) :: downF cs[N + 1].weight cs[N + 1], 0, true) else if N + 1 < k.length then (ks, ((N + 1 : Nat) : Int), true) else upF t ks
  | none => ([], 0, false)
theorem goF_next {t : Tr} {ks : List Int} (hs : someB t = true) {k : List Int} {cs : List Tr} (hn : nodeTo ks t = some (.mk k cs)) {N : Nat} (hN : N < k.length) :
    goF (k.getD N 0 + 1) t ks = nextCur t ks N := by
  have hw := nodeTo_well ks (Well.of_some hs) hn
  have ht := nodeTo_tops ks (Tops.of_some hs) hn
  obtain ⟨-, hp⟩ := place_of hw.keys hN
  unfold nextCur
  rw [goF_at hn, hn]
  by_cases h0 : cs.length = 0
  · rw [sink_leaf h0, hp]
    simp only
    rw [dif_neg (by omega)]
    split
    · rename_i h
      exact upF_stop (by rw [lenAt_of hn]; simp only [Tr.ks]; omega)
    · rename_i h
      refine upF_skip (fun i hi => ?_)
      have : i = 0 := by simpa using hi
      subst this
      refine stopF_last ?_
      rw [lenAt_of hn]; simp only [Tr.ks]; omega
  · have hcl := Well.inner hw h0
    have hi : N + 1 < cs.length := by omega
    have hi' : place (k.getD N 0 + 1) k < cs.length := by omega
    rw [sink_inner hi']
    simp only [hp]
    rw [dif_pos hi, List.append_cons, upF_zero (nodeTo_snoc hn hi) (hw.kid _ hi) (ht.kid _ hi) (fun x hx => by have := (kid_sides hw (N + 1) hi hx).1 N (by omega); omega) _ (Nat.le_refl _)]
    simp

/-- What the model's Backward comes to. -/
def prevCur (t : Tr) (ks : List Int) (N : Nat) : List Int × Int × Bool :=
  match nodeTo ks t with
  | some (.mk _ cs) => if h : N < cs.length then (ks ++ (N : Int) :: (downL cs[N].weight cs[N]).1, ((downL cs[N].weight cs[N]).2 : Int) - 1, true) else if 0 < N then (ks, (N : Int) - 1, true) else upB ks
  | none => ([], 0, false)
theorem goB_prev {t : Tr} {ks : List Int} (hs : someB t = true) {k : List Int} {cs : List Tr} (hn : nodeTo ks t = some (.mk k cs)) {N : Nat} (hN : N < k.length) :
    goB (k.getD N 0) t ks = prevCur t ks N := by
  have hw := nodeTo_well ks (Well.of_some hs) hn
  have ht := nodeTo_tops ks (Tops.of_some hs) hn
  obtain ⟨hp, -⟩ := place_of hw.keys hN
  unfold prevCur
  rw [goB_at hn, hn]
  by_cases h0 : cs.length = 0
  · rw [sink_leaf h0, hp]
    simp only
    rw [dif_neg (by omega)]
    split
    · rename_i h
      exact upB_stop (by omega)
    · rename_i h
      refine upB_skip (fun i hi => ?_)
      have : i = 0 := by simpa using hi
      subst this
      simp; omega
  · have hcl := Well.inner hw h0
    have hi : N < cs.length := by omega
    have hi' : place (k.getD N 0) k < cs.length := by omega
    rw [sink_inner hi']
    simp only [hp]
    rw [dif_pos hi, List.append_cons, upB_full (hw.kid _ hi) (ht.kid _ hi) (fun x hx => (kid_sides hw N hi hx).2 hN) _ (Nat.le_refl _)]
    simp

/-- What the model's SeekCursor comes to. -/
def seekCur (t : Tr) (key : Int) : List Int × Int × Bool :=
  match nodeTo (t.path key).1 t with
  | some (.mk k _) => if place key k < k.length then ((t.path key).1, (place key k : Int), true) else upF t (t.path key).1
  | none => ([], 0, false)

/-- The path to a key leads to a node; from there on one only goes to what is ahead of it. -/
theorem path_sink (key : Int) : ∀ (n : Nat) (t : Tr), t.weight ≤ n → Well t → ∃ uk uc M, nodeTo (t.path key).1 t = some (.mk uk uc) ∧ Well (.mk uk uc) ∧ sink key t = (t.path key).1 ++ (place key uk : Int) :: M ∧
    (M = [] ∨ ∃ (h : place key uk < uc.length), place key uk < uk.length ∧ M = sink key uc[place key uk] ∧ ∀ x ∈ uc[place key uk].keys, x < key)
  | n, .mk k cs, hn, hw => by
    by_cases hf : place key k < k.length ∧ k.getD (place key k) 0 = key
    · rw [path_found hf]
      by_cases h0 : cs.length = 0
      · exact ⟨_, _, [], rfl, hw, by rw [sink_leaf h0]; rfl, .inl rfl⟩
      · have hcl := Well.inner hw h0
        have hi : place key k < cs.length := by omega
        exact ⟨_, _, _, rfl, hw, by rw [sink_inner hi]; rfl, .inr ⟨hi, hf.1, rfl, fun x hx => by
          have := (kid_sides hw (place key k) hi hx).2 hf.1; rw [hf.2] at this; exact this⟩⟩
    · by_cases h0 : cs.length = 0
      · rw [path_leaf hf h0]
        exact ⟨_, _, [], rfl, hw, by rw [sink_leaf h0]; rfl, .inl rfl⟩
      · have hcl := Well.inner hw h0
        have hp := place_le key k
        have hi : place key k < cs.length := by omega
        have hwt := weight_get_le cs _ hi
        simp only [weight] at hn
        cases n with
        | zero => have := length_le_weights cs; omega
        | succ n =>
          obtain ⟨uk, uc, M, h1, h2, h3, h4⟩ := path_sink key n cs[place key k] (by omega) (hw.kid _ hi)
          rw [path_inner hf hi]
          refine ⟨uk, uc, M, ?_, h2, ?_, h4⟩
          · rw [nodeTo, if_pos ⟨by omega, by omega⟩, Int.toNat_natCast, List.getD_eq_getElem?_getD, List.getElem?_eq_getElem hi]
            exact h1
          · rw [sink_inner hi, h3]; rfl

theorem goF_seek {t : Tr} (hs : someB t = true) (key : Int) : goF key t [] = seekCur t key := by
  obtain ⟨k, cs, M, h1, h2, h3, h4⟩ := path_sink key t.weight t (Nat.le_refl _) (Well.of_some hs)
  unfold seekCur
  rw [goF_at rfl, List.nil_append, h3, h1]
  simp only
  rcases h4 with rfl | ⟨hi, h5, rfl, h6⟩
  · split
    · rename_i h
      exact upF_stop (by rw [lenAt_of h1]; simp only [Tr.ks]; omega)
    · rename_i h
      refine upF_skip (fun i hi => ?_)
      have : i = 0 := by simpa using hi
      subst this
      refine stopF_last ?_
      rw [lenAt_of h1]; simp only [Tr.ks]; omega
  · rw [if_pos h5, List.append_cons, upF_full (nodeTo_snoc h1 hi) (h2.kid _ hi) h6]
    exact upF_stop (by rw [lenAt_of h1]; simp only [Tr.ks]; omega)

theorem sink_pos (c : Int) (u : Tr) : 1 ≤ (sink c u).length := by obtain ⟨k, cs⟩ := u; unfold sink; rw [way]; simp
theorem six {t u : Tr} {ks : List Int} (hs : someB t = true) (hn : nodeTo ks t = some u) (c : Int) : (ks ++ sink c u).length ≤ 6 := by
  have hw := nodeTo_well ks (Well.of_some hs) hn
  have hl : (sink c u).length = (u.way c).length := by unfold sink; simp
  have hp := sink_pos c u
  have h := way_node (c := c) u.weight u (Nat.le_refl _) hw ((u.way c).length - 1) (by omega)
  have h2 : nodeTo (ks ++ (sink c u).take ((u.way c).length - 1)) t = some (u.way c)[(u.way c).length - 1] := by rw [nodeTo_append, hn]; exact h
  have := nodeTo_few hs h2
  rw [List.length_append, List.length_take] at this
  rw [List.length_append]
  omega
theorem nodeTo_small : ∀ (p : List Int) {t u : Tr}, nodeTo p t = some u → u.weight ≤ t.weight ∧ ∀ i, i < p.length → p.getD i 0 ≤ (t.weight : Int)
  | [], t, u, hn => by simp only [nodeTo, Option.some.injEq] at hn; exact ⟨by rw [hn]; exact Nat.le_refl _, fun i h => absurd h (Nat.not_lt_zero i)⟩
  | x :: p, .mk k c, u, hn => by
    simp only [nodeTo] at hn
    split at hn
    · rename_i hx
      have hN : x.toNat < c.length := by omega
      rw [List.getD_eq_getElem?_getD, List.getElem?_eq_getElem hN] at hn
      obtain ⟨h1, h2⟩ := nodeTo_small p hn
      have hwt := weight_get_le c _ hN
      simp only [Option.getD_some] at h1 h2
      simp only [weight]
      refine ⟨by omega, fun i hi => ?_⟩
      cases i with
      | zero => simp; omega
      | succ i => have := h2 i (by simpa using hi); simp only [List.getD_cons_succ]; omega
    · cases hn
theorem smallAt {t u : Tr} {ks : List Int} (hs : someB t = true) (hw : t.weight ≤ 1048576) (hn : nodeTo ks t = some u) (c : Int) : ∀ i, i < (ks ++ sink c u).length → (ks ++ sink c u).getD i 0 ≤ 2000000 := by
  obtain ⟨h1, h2⟩ := nodeTo_small ks hn
  have hwu := nodeTo_well ks (Well.of_some hs) hn
  intro i hi
  by_cases h : i < ks.length
  · rw [getD_left h]; have := h2 i h; omega
  · rw [getD_right (by omega)]
    have hl : (sink c u).length = (u.way c).length := by unfold sink; simp
    rw [List.length_append] at hi
    have hj : i - ks.length < (u.way c).length := by omega
    have hmem := (way_all c u hwu).2 _ (List.getElem_mem hj)
    have e : (sink c u).getD (i - ks.length) 0 = (place c (u.way c)[i - ks.length].ks : Int) := by
      unfold sink
      rw [List.getD_eq_getElem?_getD, List.getElem?_map, List.getElem?_eq_getElem hj]; rfl
    rw [e]
    have h3 := place_le c (u.way c)[i - ks.length].ks
    have h4 : (u.way c)[i - ks.length].ks.length ≤ (u.way c)[i - ks.length].weight := by
      obtain ⟨k, cs⟩ := (u.way c)[i - ks.length]
      simp only [Tr.ks, weight]; omega
    omega
end Tr
end Go.Proofs.YtdcifdpkfcgmhaaDoor
