/- Cursors that go back, by ranks: plain data. -/
import Derived.Test.YticfkfjijnfcbaaDoorSh0
import Derived.Test.YticfkfjijnfcbaaDoorKeys
import Derived.Test.YticfkfjijnfcbaaDoorSh7
import Derived.Test.YticfkfjijnfcbaaDoorSh11
import Derived.Test.YticfkfjijnfcbaaDoorCurWalk
import Derived.Test.YticfkfjijnfcbaaDoorSh12
import Derived.Test.YticfkfjijnfcbaaDoorSh10
import Derived.Test.YticfkfjijnfcbaaDoorWalk
import Derived.Test.YticfkfjijnfcbaaDoorSh24
namespace Go.Proofs.YticfkfjijnfcbaaDoor
open Go.RowKit
namespace Tr

theorem upB_cons (x : Int) (M : List Int) :
    upB (x :: M) = if (upB M).2.2 = true then (x :: (upB M).1, (upB M).2.1, true) else if 0 < x then ([], x - 1, true) else ([], 0, false) := by
  have hP : ∀ j, stopB (x :: M) (j + 1) = stopB M j := fun j => by unfold stopB; rw [List.getD_cons_succ]
  have h0 : stopB (x :: M) 0 = decide (0 < x) := by unfold stopB; simp
  unfold upB
  rw [List.length_cons, climb_cons, climb_congr (Q := stopB M) M.length (fun j _ => hP j), h0]
  unfold upTo
  by_cases hz : climb (stopB M) M.length = 0
  · rw [if_pos hz]
    simp only [hz, if_true]
    by_cases hk : 0 < x
    · simp [hk]
    · simp [hk]
  · rw [if_neg hz]
    obtain ⟨D, hD⟩ : ∃ D, climb (stopB M) M.length = D + 1 := ⟨climb (stopB M) M.length - 1, by omega⟩
    rw [hD]
    simp

theorem upto_ends {cs : List Tr} {k : List Int} {p : Nat} (hp : p < k.length) : ∃ U, upto (keyss cs) k (p + 1) = U ++ [k.getD p 0] := by
  refine ⟨upto (keyss cs) k p ++ ((keyss cs)[p]?).getD [], ?_⟩
  have : (k[p]?).toList = [k.getD p 0] := by simp [hp, List.getD_eq_getElem?_getD]
  rw [upto_succ, part, this, List.append_assoc]

theorem seek_keyB (c : Int) : ∀ (n : Nat) (t : Tr), t.weight ≤ n → Well t →
    (0 < place c t.keys → ∃ P A k cs, upB (sink c t) = (P, ((A : Nat) : Int), true) ∧ nodeTo P t = some (.mk k cs) ∧ A < k.length ∧ k.getD A 0 = t.keys.getD (place c t.keys - 1) 0) ∧
    (¬ 0 < place c t.keys → upB (sink c t) = ([], 0, false))
  | n, .mk k cs, hn, hw => by
    have hp := place_le c k
    by_cases h0 : cs.length = 0
    · rw [sink_leaf h0, keys_leaf h0, upB_cons]
      have e : (upB []).2.2 = false := by simp [upB, upTo, climb]
      rw [if_neg (by rw [e]; simp)]
      constructor
      · intro h
        rw [if_pos (by omega)]
        exact ⟨[], place c k - 1, k, cs, by congr 2; omega, rfl, by omega, rfl⟩
      · intro h
        rw [if_neg (by omega)]
    · have hcl := Well.inner hw h0
      have hi : place c k < cs.length := by omega
      have hwt := weight_get_le cs _ hi
      simp only [weight] at hn
      cases n with
      | zero => have := length_le_weights cs; omega
      | succ n =>
        obtain ⟨ih1, ih2⟩ := seek_keyB c n cs[place c k] (by omega) (hw.kid _ hi)
        obtain ⟨R, hkeys, hahead, hR⟩ := hw.split h0 c hi
        have hU : ∃ U, U = upto (keyss cs) k (place c k) ∧ (0 < place c k → ∃ V, U = V ++ [k.getD (place c k - 1) 0]) ∧ (place c k = 0 → U = []) := by
          refine ⟨_, rfl, fun h => ?_, fun h => by rw [h]; rfl⟩
          obtain ⟨V, hV⟩ := upto_ends (cs := cs) (k := k) (p := place c k - 1) (by omega)
          rw [show place c k - 1 + 1 = place c k by omega] at hV
          exact ⟨V, hV⟩
        obtain ⟨U, hU, hU1, hU2⟩ := hU
        rw [← hU] at hkeys hahead
        rw [sink_inner hi, upB_cons, hkeys, place_append_lt hahead, place_append_ge (behind_ge hR)]
        have hle := place_le c cs[place c k].keys
        by_cases hin : 0 < place c cs[place c k].keys
        · obtain ⟨P, A, k', cs', h1, h2, h3, h4⟩ := ih1 hin
          rw [h1, if_pos rfl]
          constructor
          · intro _
            refine ⟨(place c k : Int) :: P, A, k', cs', rfl, ?_, h3, ?_⟩
            · rw [nodeTo, if_pos ⟨by omega, by omega⟩, Int.toNat_natCast, List.getD_eq_getElem?_getD, List.getElem?_eq_getElem hi]; exact h2
            · rw [h4, getD_right (by omega), show U.length + place c cs[place c k].keys - 1 - U.length = place c cs[place c k].keys - 1 by omega, getD_left (by omega)]
          · intro h; omega
        · rw [ih2 hin, if_neg (by simp)]
          by_cases hk : 0 < place c k
          · rw [if_pos (by omega)]
            obtain ⟨V, hV⟩ := hU1 hk
            have hUl : U.length = V.length + 1 := by rw [hV]; simp
            constructor
            · intro _
              refine ⟨[], place c k - 1, k, cs, by congr 2; omega, rfl, by omega, ?_⟩
              rw [getD_left (by omega), show U.length + place c cs[place c k].keys - 1 = V.length by omega, hV, getD_right (Nat.le_refl _), Nat.sub_self]; rfl
            · intro h; omega
          · rw [if_neg (by omega)]
            have := hU2 (by omega)
            constructor
            · intro h
              rw [this] at h
              simp at h
              omega
            · intro _; rfl

/-- What is sought backward is the cursor at the last key that is less. -/
theorem goB_curAt {t : Tr} (hs : someB t = true) (c : Int) : (0 < place c t.keys → goB c t [] = curAt t (place c t.keys - 1)) ∧ (¬ 0 < place c t.keys → goB c t [] = ([], 0, false)) := by
  obtain ⟨h1, h2⟩ := seek_keyB c t.weight t (Nat.le_refl _) (Well.of_some hs)
  have e : goB c t [] = upB (sink c t) := goB_at rfl
  constructor
  · intro h
    obtain ⟨P, A, k, cs, g1, g2, g3, g4⟩ := h1 h
    have := goF_self hs g2 g3
    rw [g4] at this
    rw [e, g1, curAt, this]
  · intro h
    rw [e, h2 h]

/-- Going back from the cursor at number i. -/
theorem curAt_back {t : Tr} (hs : someB t = true) {i : Nat} (hi : i < t.keys.length) :
    walkB t (curAt t i).1 (curAt t i).2.1 (fun K => goB K t (curAt t i).1) = (if 0 < i then curAt t (i - 1) else ([], 0, false)) := by
  obtain ⟨P, A, k, cs, g1, g2, g3, g4⟩ := curAt_at hs hi
  obtain ⟨b1, b2⟩ := curB_at hs g2 g3
  rw [g1, walkB_at b1 g2, Int.toNat_natCast, goB_pass hs g2 g3 (.inl rfl), g4]
  have hp := (keys_place (Well.of_some hs).2 hi).1
  obtain ⟨h1, h2⟩ := goB_curAt hs (t.keys.getD i 0)
  rw [hp] at h1 h2
  split
  · rename_i h; exact h1 h
  · rename_i h; exact h2 h

mutual
theorem depth_le_weight : ∀ t : Tr, t.depth ≤ t.weight + 1
  | .mk k c => by
    have := depths_le_weights c
    simp only [depth, weight]; omega
theorem depths_le_weights : ∀ c : List Tr, depths c ≤ weights c
  | [] => by simp [depths]
  | t :: r => by
    have h1 := depth_le_weight t
    have h2 := depths_le_weights r
    simp only [depths, weights]; omega
end
theorem depths_ge : ∀ (cs : List Tr) (i : Nat) (h : i < cs.length), cs[i].depth ≤ depths cs
  | t :: r, 0, _ => by simp only [depths, List.getElem_cons_zero]; omega
  | t :: r, i + 1, h => by
    have := depths_ge r i (by simpa using h)
    simp only [depths, List.getElem_cons_succ]; omega
theorem nodeTo_deep : ∀ (p : List Int) {t u : Tr}, nodeTo p t = some u → p.length < t.depth
  | [], .mk k c, u, _ => by simp only [depth, List.length_nil]; omega
  | x :: p, .mk k c, u, hn => by
    simp only [nodeTo] at hn
    split at hn
    · rename_i hx
      have hN : x.toNat < c.length := by omega
      rw [List.getD_eq_getElem?_getD, List.getElem?_eq_getElem hN] at hn
      have h1 := nodeTo_deep p hn
      have h2 := depths_ge c _ hN
      simp only [Option.getD_some] at h1
      simp only [depth, List.length_cons]
      omega
    · cases hn
theorem curAt_deep {t : Tr} (hs : someB t = true) {i : Nat} (hi : i < t.keys.length) : (curAt t i).1.length < t.depth := by
  obtain ⟨P, A, k, cs, g1, g2, g3, g4⟩ := curAt_at hs hi
  rw [g1]
  exact nodeTo_deep P g2
end Tr
end Go.Proofs.YticfkfjijnfcbaaDoor
