/- What the program and the model answer about cursors is the same: plain data. -/
import Derived.Test.YticfkfjijnfcbaaDoorSh0
import Derived.Test.YticfkfjijnfcbaaDoorCurWalk
import Derived.Test.YticfkfjijnfcbaaDoorSh12
import Derived.Test.YticfkfjijnfcbaaDoorSh8
import Derived.Test.YticfkfjijnfcbaaDoorWalk
import Derived.Test.YticfkfjijnfcbaaDoorSh16
import Derived.Test.YticfkfjijnfcbaaDoorSpecFB
namespace Go.Proofs.YticfkfjijnfcbaaDoor
open Go.RowKit
namespace Tr

theorem cur0 (t : Tr) : curB t [] 0 = (t.someB && decide (t.ks.length ≠ 0)) := by
  obtain ⟨k, c⟩ := t
  unfold curB
  simp only [nodeTo, Tr.ks, inB]
  congr 1
  by_cases h : k.length = 0
  · simp [h]
  · simp [h]; omega

theorem first_eq (t : Tr) : walkB t [] 0 (fun _ => goF 0 t []) = wholeB t (downF t.weight t, 0, true) := by
  unfold walkB wholeB
  rw [cur0]
  obtain ⟨k, c⟩ := t
  by_cases hs : (Tr.mk k c).someB = true <;> by_cases hk : (Tr.mk k c).ks.length = 0
  · simp [hk]
  · simp only [hs, Bool.true_and, decide_eq_true_eq]
    rw [if_pos hk, if_pos ⟨trivial, hk⟩]
    exact goF_first hs hk
  · simp [hk]
  · simp [hs]
theorem last_eq (t : Tr) : walkB t [] 0 (fun _ => goB 100 t []) = wholeB t ((downL t.weight t).1, ((downL t.weight t).2 : Int) - 1, true) := by
  unfold walkB wholeB
  rw [cur0]
  obtain ⟨k, c⟩ := t
  by_cases hs : (Tr.mk k c).someB = true <;> by_cases hk : (Tr.mk k c).ks.length = 0
  · simp [hk]
  · simp only [hs, Bool.true_and, decide_eq_true_eq]
    rw [if_pos hk, if_pos ⟨trivial, hk⟩]
    exact goB_last hs hk
  · simp [hk]
  · simp [hs]
theorem seek_eq (t : Tr) (key : Int) : walkB t [] 0 (fun _ => goF key t []) = seekB t key := by
  unfold walkB seekB
  rw [cur0]
  obtain ⟨k, c⟩ := t
  by_cases hs : (Tr.mk k c).someB = true
  · simp only [hs, Bool.true_and, decide_eq_true_eq, if_true]
    by_cases hk : (Tr.mk k c).ks.length = 0
    · rw [if_neg (by simpa using hk)]
      have hk0 : k = [] := List.length_eq_zero_iff.1 hk
      have hw := Well.of_some hs
      have hc : c.length = 0 := by
        refine Classical.byContradiction fun h => ?_
        obtain ⟨⟨w, l, d, hn⟩, _⟩ := hw
        rcases (nodesB_parts hn).2 with ⟨h1, _⟩ | ⟨_, _, _, h4, _⟩
        · exact h h1
        · exact h4 hk
      subst hk0
      unfold seekCur
      rw [path_leaf (by simp [place]) hc]
      simp [nodeTo, place, upF, upTo, climb]
    · rw [if_pos hk]
      exact goF_seek hs key
  · simp [hs]
theorem forward_eq (t : Tr) (ks : List Int) (a : Int) : walkB t ks a (fun K => goF (K + 1) t ks) = fromB t ks a (fun N => nextCur t ks N) := by
  unfold fromB
  cases hv : curB t ks a with
  | false => rw [walkB_no hv]; simp
  | true =>
    obtain ⟨uk, uc, hn⟩ : ∃ uk uc, nodeTo ks t = some (.mk uk uc) := by
      cases hn : nodeTo ks t with
      | none => unfold curB at hv; rw [hn] at hv; cases hv
      | some u => obtain ⟨uk, uc⟩ := u; exact ⟨uk, uc, rfl⟩
    obtain ⟨-, ha1, ha2, hsb⟩ := curK_at hv hn
    rw [walkB_at hv hn, if_pos rfl]
    exact goF_next hsb hn (by omega)
theorem backward_eq (t : Tr) (ks : List Int) (a : Int) : walkB t ks a (fun K => goB K t ks) = fromB t ks a (fun N => prevCur t ks N) := by
  unfold fromB
  cases hv : curB t ks a with
  | false => rw [walkB_no hv]; simp
  | true =>
    obtain ⟨uk, uc, hn⟩ : ∃ uk uc, nodeTo ks t = some (.mk uk uc) := by
      cases hn : nodeTo ks t with
      | none => unfold curB at hv; rw [hn] at hv; cases hv
      | some u => obtain ⟨uk, uc⟩ := u; exact ⟨uk, uc, rfl⟩
    obtain ⟨-, ha1, ha2, hsb⟩ := curK_at hv hn
    rw [walkB_at hv hn, if_pos rfl]
    exact goB_prev hsb hn (by omega)
theorem walk_short {t : Tr} {ks : List Int} {a c : Int} : (walkB t ks a (fun K => goF (K + c) t ks)).1.length < 6 ∧ (walkB t ks a (fun K => goB (K + c) t ks)).1.length < 6 ∧ (walkB t ks a (fun _ => goF c t ks)).1.length < 6 ∧ (walkB t ks a (fun _ => goB c t ks)).1.length < 6 := by
  unfold walkB
  split
  · rename_i hv
    have hs : t.someB = true := by
      unfold curB at hv
      split at hv
      · simp only [Bool.and_eq_true] at hv; exact hv.1
      · cases hv
    exact ⟨(go_short hs).1, (go_short hs).2, (go_short hs).1, (go_short hs).2⟩
  · simp
end Tr
end Go.Proofs.YticfkfjijnfcbaaDoor
