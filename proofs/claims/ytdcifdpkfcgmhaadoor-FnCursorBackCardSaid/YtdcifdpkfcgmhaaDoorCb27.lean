/- Cursors that go back, by ranks: plain data. -/
import Derived.Test.YtdcifdpkfcgmhaaDoorCb0
import Derived.Test.YtdcifdpkfcgmhaaDoorCbS3
import Derived.Test.YtdcifdpkfcgmhaaDoorCb14
import Derived.Test.YtdcifdpkfcgmhaaDoorCb22
import Derived.Test.YtdcifdpkfcgmhaaDoorCbS13
import Derived.Test.YtdcifdpkfcgmhaaDoorCb23
import Derived.Test.YtdcifdpkfcgmhaaDoorCb19
import Derived.Test.YtdcifdpkfcgmhaaDoorCb21
import Derived.Test.YtdcifdpkfcgmhaaDoorCbS17
import Derived.Test.YtdcifdpkfcgmhaaDoorCb26

/- The cursors of a tree in the order of its keys: plain data. -/
namespace Go.Proofs.YtdcifdpkfcgmhaaDoor
open Go.RowKit
namespace Tr

/-- The cursor at a key, by its number in order. -/
def curAt (t : Tr) (i : Nat) : List Int × Int × Bool := goF (t.keys.getD i 0) t []

theorem keys_place {ks : List Int} (h : ks.Pairwise (· < ·)) {i : Nat} (hi : i < ks.length) : place (ks.getD i 0) ks = i ∧ place (ks.getD i 0 + 1) ks = i + 1 := place_of h hi

/-- What is sought is the cursor at the first key that isn't less. -/
theorem goF_curAt {t : Tr} (hs : someB t = true) (c : Int) : (place c t.keys < t.keys.length → goF c t [] = curAt t (place c t.keys)) ∧ (¬ place c t.keys < t.keys.length → goF c t [] = ([], 0, false)) := by
  obtain ⟨h1, h2⟩ := seek_key c t.weight t (Nat.le_refl _) (Well.of_some hs)
  have e : goF c t [] = upF t (sink c t) := goF_at rfl
  constructor
  · intro h
    obtain ⟨P, A, k, cs, g1, g2, g3, g4⟩ := h1 h
    have := goF_self hs g2 g3
    rw [g4] at this
    rw [e, g1, curAt, this]
  · intro h
    rw [e, h2 h]

/-- A cursor in order: it stands at its key. -/
theorem curAt_at {t : Tr} (hs : someB t = true) {i : Nat} (hi : i < t.keys.length) : ∃ P A k cs, curAt t i = (P, ((A : Nat) : Int), true) ∧ nodeTo P t = some (.mk k cs) ∧ A < k.length ∧ k.getD A 0 = t.keys.getD i 0 := by
  have hw := Well.of_some hs
  obtain ⟨h1, -⟩ := seek_key (t.keys.getD i 0) t.weight t (Nat.le_refl _) hw
  have hp := (keys_place hw.2 hi).1
  rw [hp] at h1
  obtain ⟨P, A, k, cs, g1, g2, g3, g4⟩ := h1 hi
  exact ⟨P, A, k, cs, by rw [curAt, goF_at rfl]; exact g1, g2, g3, g4⟩
theorem curB_at {t : Tr} (hs : someB t = true) {P : List Int} {A : Nat} {k : List Int} {cs : List Tr} (hn : nodeTo P t = some (.mk k cs)) (hA : A < k.length) : curB t P A = true ∧ curK t P A = k.getD A 0 := by
  have h : curB t P A = true := by unfold curB; rw [hn]; simp [hs, inB]; omega
  exact ⟨h, by rw [(curK_at h hn).1]; simp⟩

/-- What holds of the cursor at number i. -/
theorem curAt_facts {t : Tr} (hs : someB t = true) {i : Nat} (hi : i < t.keys.length) :
    curB t (curAt t i).1 (curAt t i).2.1 = true ∧ curK t (curAt t i).1 (curAt t i).2.1 = t.keys.getD i 0 ∧ (curAt t i).2.2 = true ∧ (curAt t i).1.length ≤ 5 ∧
    walkB t (curAt t i).1 (curAt t i).2.1 (fun K => goF (K + 1) t (curAt t i).1) = (if i + 1 < t.keys.length then curAt t (i + 1) else ([], 0, false)) := by
  obtain ⟨P, A, k, cs, g1, g2, g3, g4⟩ := curAt_at hs hi
  obtain ⟨b1, b2⟩ := curB_at hs g2 g3
  rw [g1]
  refine ⟨b1, by rw [b2, g4], rfl, nodeTo_few hs g2, ?_⟩
  rw [walkB_at b1 g2, Int.toNat_natCast, goF_pass hs g2 g3 (.inr rfl), g4]
  have hp := (keys_place (Well.of_some hs).2 hi).2
  obtain ⟨h1, h2⟩ := goF_curAt hs (t.keys.getD i 0 + 1)
  rw [hp] at h1 h2
  split
  · rename_i h; exact h1 h
  · rename_i h; exact h2 h

/-- The first one. -/
theorem first_curAt {t : Tr} (hs : someB t = true) (h0 : 0 < t.keys.length) : goF 0 t [] = curAt t 0 := by
  obtain ⟨h1, -⟩ := goF_curAt hs 0
  have hp : place 0 t.keys = 0 := place_zero (fun x hx => (some_key hs hx).1)
  rw [hp] at h1
  exact h1 h0

/-- The last key below a node. -/
theorem downL_key : ∀ (n : Nat) (t : Tr), t.weight ≤ n → Well t → Full t → ∃ k cs A, nodeTo (downL n t).1 t = some (.mk k cs) ∧ (downL n t).2 = k.length ∧ k.length ≠ 0 ∧ t.keys = A ++ [k.getD (k.length - 1) 0]
  | n, .mk k cs, hn, hw, hf => by
    have hk0 := Full.keys hf
    by_cases h0 : cs.length = 0
    · have e : downL n (.mk k cs) = ([], k.length) := by
        cases n with
        | zero => rfl
        | succ n => rw [downL, dif_neg (by omega)]
      have hne : k ≠ [] := fun e => hk0 (by rw [e]; rfl)
      refine ⟨k, cs, k.dropLast, by rw [e]; rfl, by rw [e], hk0, ?_⟩
      rw [keys_leaf h0]
      have : k.getD (k.length - 1) 0 = k.getLast hne := by
        rw [List.getLast_eq_getElem, List.getD_eq_getElem?_getD, List.getElem?_eq_getElem (by omega)]; rfl
      rw [this]
      exact (List.dropLast_concat_getLast hne).symm
    · have hlt : cs.length - 1 < cs.length := by omega
      have hcl := Well.inner hw h0
      have hwt := weight_get_le cs _ hlt
      simp only [weight] at hn
      cases n with
      | zero => have := length_le_weights cs; omega
      | succ n =>
        obtain ⟨k', cs', A, h1, h2, h3, h4⟩ := downL_key n cs[cs.length - 1] (by omega) (hw.kid _ hlt) (hf.tops.kid _ hlt)
        refine ⟨k', cs', upto (keyss cs) k (cs.length - 1) ++ A, ?_, ?_, h3, ?_⟩
        · rw [downL, dif_pos hlt, nodeTo, if_pos ⟨by omega, by omega⟩, Int.toNat_natCast, List.getD_eq_getElem?_getD, List.getElem?_eq_getElem hlt]; exact h1
        · rw [downL, dif_pos hlt]; exact h2
        · have hm : max k.length cs.length = cs.length - 1 + 1 := by omega
          have hkn : k[cs.length - 1]? = none := List.getElem?_eq_none (by omega)
          rw [Tr.keys, hm, upto_succ, part, keyss_get cs _ hlt, hkn]
          simp [h4]

theorem keys_own {k : List Int} {cs : List Tr} (hs : someB (.mk k cs) = true) : k.length ≠ 0 ↔ 0 < (Tr.mk k cs).keys.length := by
  constructor
  · intro h
    have := (own_sub k cs).length_le
    omega
  · intro h hk
    have hw := Well.of_some hs
    have hc : cs.length = 0 := by
      refine Classical.byContradiction fun h => ?_
      obtain ⟨⟨w, l, d, hn⟩, _⟩ := hw
      rcases (nodesB_parts hn).2 with ⟨h1, _⟩ | ⟨_, _, _, h4, _⟩
      · exact h h1
      · exact h4 hk
    rw [keys_leaf hc] at h
    omega

/-- The last one. -/
theorem last_curAt {t : Tr} (hs : someB t = true) (h0 : 0 < t.keys.length) : goB 100 t [] = curAt t (t.keys.length - 1) := by
  obtain ⟨k, cs⟩ := t
  have hk := (keys_own hs).2 h0
  rw [goB_last hs hk]
  obtain ⟨k', cs', A, h1, h2, h3, h4⟩ := downL_key (Tr.mk k cs).weight (.mk k cs) (Nat.le_refl _) (Well.of_some hs) (Full.of_some hs hk)
  have hself := goF_self hs h1 (show k'.length - 1 < k'.length by omega)
  have hl : (Tr.mk k cs).keys.getD ((Tr.mk k cs).keys.length - 1) 0 = k'.getD (k'.length - 1) 0 := by
    rw [h4, List.length_append, List.length_singleton, getD_right (by omega), show A.length + 1 - 1 - A.length = 0 by omega]; rfl
  rw [curAt, hl, hself, h2]
  congr 2
  omega

/-- FirstCursor and LastCursor, in these words. -/
theorem whole_first (t : Tr) : walkB t [] 0 (fun _ => goF 0 t []) = if t.someB = true ∧ 0 < t.keys.length then curAt t 0 else ([], 0, false) := by
  unfold walkB
  obtain ⟨k, cs⟩ := t
  by_cases hs : (Tr.mk k cs).someB = true
  · have hk := keys_own hs
    by_cases h0 : 0 < (Tr.mk k cs).keys.length
    · have hb : curB (.mk k cs) [] 0 = true := by unfold curB; simp only [nodeTo]; rw [hs]; have := hk.2 h0; simp [inB]; omega
      rw [if_pos hb, if_pos ⟨hs, h0⟩]
      exact first_curAt hs h0
    · have hb : ¬ curB (.mk k cs) [] 0 = true := by unfold curB; simp only [nodeTo]; rw [hs]; have := fun h => h0 (hk.1 h); simp [inB]; omega
      rw [if_neg hb, if_neg (fun h => h0 h.2)]
  · have hb : ¬ curB (.mk k cs) [] 0 = true := by unfold curB; simp only [nodeTo]; simp [hs]
    rw [if_neg hb, if_neg (fun h => hs h.1)]
theorem whole_last (t : Tr) : walkB t [] 0 (fun _ => goB 100 t []) = if t.someB = true ∧ 0 < t.keys.length then curAt t (t.keys.length - 1) else ([], 0, false) := by
  unfold walkB
  obtain ⟨k, cs⟩ := t
  by_cases hs : (Tr.mk k cs).someB = true
  · have hk := keys_own hs
    by_cases h0 : 0 < (Tr.mk k cs).keys.length
    · have hb : curB (.mk k cs) [] 0 = true := by unfold curB; simp only [nodeTo]; rw [hs]; have := hk.2 h0; simp [inB]; omega
      rw [if_pos hb, if_pos ⟨hs, h0⟩]
      exact last_curAt hs h0
    · have hb : ¬ curB (.mk k cs) [] 0 = true := by unfold curB; simp only [nodeTo]; rw [hs]; have := fun h => h0 (hk.1 h); simp [inB]; omega
      rw [if_neg hb, if_neg (fun h => h0 h.2)]
  · have hb : ¬ curB (.mk k cs) [] 0 = true := by unfold curB; simp only [nodeTo]; simp [hs]
    rw [if_neg hb, if_neg (fun h => hs h.1)]
end Tr
end Go.Proofs.YtdcifdpkfcgmhaaDoor

/- Cursors that go back, by ranks: plain data. -/
namespace Go.Proofs.YtdcifdpkfcgmhaaDoor
open Go.RowKit
namespace Tr

theorem upB_cons (x : Int) (M : List Int) :
    upB (x :: M) = if (upB M).2.2 = true then (x :: (upB M).1, (upB M).2.1, true) else if 0 < x then ([], x - 1, true) else ([], 0, false) := by
  have hP : ∀ j, stopB (x :: M) (j + 1) = stopB M j := fun j => by unfold stopB; rw [List.getD_cons_succ]
  have h0 : stopB (x :: M) 0 = decide (0 < x) := by unfold stopB; simp
  unfold upB
  rw [List.length_cons, climb_cons, climb_congr (Q := stopB M) M.length (fun j _ => hP j), h0]
  unfold upTo
  by_cases hz : climb (stopB M) M.length = 0
  · rw [if_pos hz]
    simp only [hz, if_true]
    by_cases hk : 0 < x
    · simp [hk]
    · simp [hk]
  · rw [if_neg hz]
    obtain ⟨D, hD⟩ : ∃ D, climb (stopB M) M.length = D + 1 := ⟨climb (stopB M) M.length - 1, by omega⟩
    rw [hD]
    simp

theorem upto_ends {cs : List Tr} {k : List Int} {p : Nat} (hp : p < k.length) : ∃ U, upto (keyss cs) k (p + 1) = U ++ [k.getD p 0] := by
  refine ⟨upto (keyss cs) k p ++ ((keyss cs)[p]?).getD [], ?_⟩
  have : (k[p]?).toList = [k.getD p 0] := by simp [hp, List.getD_eq_getElem?_getD]
  rw [upto_succ, part, this, List.append_assoc]

theorem seek_keyB (c : Int) : ∀ (n : Nat) (t : Tr), t.weight ≤ n → Well t →
    (0 < place c t.keys → ∃ P A k cs, upB (sink c t) = (P, ((A : Nat) : Int), true) ∧ nodeTo P t = some (.mk k cs) ∧ A < k.length ∧ k.getD A 0 = t.keys.getD (place c t.keys - 1) 0) ∧
    (¬ 0 < place c t.keys → upB (sink c t) = ([], 0, false))
  | n, .mk k cs, hn, hw => by
    have hp := place_le c k
    by_cases h0 : cs.length = 0
    · rw [sink_leaf h0, keys_leaf h0, upB_cons]
      have e : (upB []).2.2 = false := by simp [upB, upTo, climb]
      rw [if_neg (by rw [e]; simp)]
      constructor
      · intro h
        rw [if_pos (by omega)]
        exact ⟨[], place c k - 1, k, cs, by congr 2; omega, rfl, by omega, rfl⟩
      · intro h
        rw [if_neg (by omega)]
    · have hcl := Well.inner hw h0
      have hi : place c k < cs.length := by omega
      have hwt := weight_get_le cs _ hi
      simp only [weight] at hn
      cases n with
      | zero => have := length_le_weights cs; omega
      | succ n =>
        obtain ⟨ih1, ih2⟩ := seek_keyB c n cs[place c k] (by omega) (hw.kid _ hi)
        obtain ⟨R, hkeys, hahead, hR⟩ := hw.split h0 c hi
        have hU : ∃ U, U = upto (keyss cs) k (place c k) ∧ (0 < place c k → ∃ V, U = V ++ [k.getD (place c k - 1) 0]) ∧ (place c k = 0 → U = []) := by
          refine ⟨_, rfl, fun h => ?_, fun h => by rw [h]; rfl⟩
          obtain ⟨V, hV⟩ := upto_ends (cs := cs) (k := k) (p := place c k - 1) (by omega)
          rw [show place c k - 1 + 1 = place c k by omega] at hV
          exact ⟨V, hV⟩
        obtain ⟨U, hU, hU1, hU2⟩ := hU
        rw [← hU] at hkeys hahead
        rw [sink_inner hi, upB_cons, hkeys, place_append_lt hahead, place_append_ge (behind_ge hR)]
        have hle := place_le c cs[place c k].keys
        by_cases hin : 0 < place c cs[place c k].keys
        · obtain ⟨P, A, k', cs', h1, h2, h3, h4⟩ := ih1 hin
          rw [h1, if_pos rfl]
          constructor
          · intro _
            refine ⟨(place c k : Int) :: P, A, k', cs', rfl, ?_, h3, ?_⟩
            · rw [nodeTo, if_pos ⟨by omega, by omega⟩, Int.toNat_natCast, List.getD_eq_getElem?_getD, List.getElem?_eq_getElem hi]; exact h2
            · rw [h4, getD_right (by omega), show U.length + place c cs[place c k].keys - 1 - U.length = place c cs[place c k].keys - 1 by omega, getD_left (by omega)]
          · intro h; omega
        · rw [ih2 hin, if_neg (by simp)]
          by_cases hk : 0 < place c k
          · rw [if_pos (by omega)]
            obtain ⟨V, hV⟩ := hU1 hk
            have hUl : U.length = V.length + 1 := by rw [hV]; simp
            constructor
            · intro _
              refine ⟨[], place c k - 1, k, cs, by congr 2; omega, rfl, by omega, ?_⟩
              rw [getD_left (by omega), show U.length + place c cs[place c k].keys - 1 = V.length by omega, hV, getD_right (Nat.le_refl _), Nat.sub_self]; rfl
            · intro h; omega
          · rw [if_neg (by omega)]
            have := hU2 (by omega)
            constructor
            · intro h
              rw [this] at h
              simp at h
              omega
            · intro _; rfl

/-- What is sought backward is the cursor at the last key that is less. -/
theorem goB_curAt {t : Tr} (hs : someB t = true) (c : Int) : (0 < place c t.keys → goB c t [] = curAt t (place c t.keys - 1)) ∧ (¬ 0 < place c t.keys → goB c t [] = ([], 0, false)) := by
  obtain ⟨h1, h2⟩ := seek_keyB c t.weight t (Nat.le_refl _) (Well.of_some hs)
  have e : goB c t [] = upB (sink c t) := goB_at rfl
  constructor
  · intro h
    obtain ⟨P, A, k, cs, g1, g2, g3, g4⟩ := h1 h
    have := goF_self hs g2 g3
    rw [g4] at this
    rw [e, g1, curAt, this]
  · intro h
    rw [e, h2 h]

/-- Going back from the cursor at number i. -/
theorem curAt_back {t : Tr} (hs : someB t = true) {i : Nat} (hi : i < t.keys.length) :
    walkB t (curAt t i).1 (curAt t i).2.1 (fun K => goB K t (curAt t i).1) = (if 0 < i then curAt t (i - 1) else ([], 0, false)) := by
  obtain ⟨P, A, k, cs, g1, g2, g3, g4⟩ := curAt_at hs hi
  obtain ⟨b1, b2⟩ := curB_at hs g2 g3
  rw [g1, walkB_at b1 g2, Int.toNat_natCast, goB_pass hs g2 g3 (.inl rfl), g4]
  have hp := (keys_place (Well.of_some hs).2 hi).1
  obtain ⟨h1, h2⟩ := goB_curAt hs (t.keys.getD i 0)
  rw [hp] at h1 h2
  split
  · rename_i h; exact h1 h
  · rename_i h; exact h2 h

mutual
theorem depth_le_weight : ∀ t : Tr, t.depth ≤ t.weight + 1
  | .mk k c => by
    have := depths_le_weights c
    simp only [depth, weight]; omega
theorem depths_le_weights : ∀ c : List Tr, depths c ≤ weights c
  | [] => by simp [depths]
  | t :: r => by
    have h1 := depth_le_weight t
    have h2 := depths_le_weights r
    simp only [depths, weights]; omega
end
theorem depths_ge : ∀ (cs : List Tr) (i : Nat) (h : i < cs.length), cs[i].depth ≤ depths cs
  | t :: r, 0, _ => by simp only [depths, List.getElem_cons_zero]; omega
  | t :: r, i + 1, h => by
    have := depths_ge r i (by simpa using h)
    simp only [depths, List.getElem_cons_succ]; omega
theorem nodeTo_deep : ∀ (p : List Int) {t u : Tr}, nodeTo p t = some u → p.length < t.depth
  | [], .mk k c, u, _ => by simp only [depth, List.length_nil]; omega
  | x :: p, .mk k c, u, hn => by
    simp only [nodeTo] at hn
    split at hn
    · rename_i hx
      have hN : x.toNat < c.length := by omega
      rw [List.getD_eq_getElem?_getD, List.getElem?_eq_getElem hN] at hn
      have h1 := nodeTo_deep p hn
      have h2 := depths_ge c _ hN
      simp only [Option.getD_some] at h1
      simp only [depth, List.length_cons]
      omega
    · cases hn
theorem curAt_deep {t : Tr} (hs : someB t = true) {i : Nat} (hi : i < t.keys.length) : (curAt t i).1.length < t.depth := by
  obtain ⟨P, A, k, cs, g1, g2, g3, g4⟩ := curAt_at hs hi
  rw [g1]
  exact nodeTo_deep P g2
end Tr
end Go.Proofs.YtdcifdpkfcgmhaaDoor
