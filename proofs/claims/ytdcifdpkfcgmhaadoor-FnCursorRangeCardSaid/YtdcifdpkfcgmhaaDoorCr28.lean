/- A range, gone through by a cursor: plain data. -/
import Derived.Test.YtdcifdpkfcgmhaaDoorCr0
import Derived.Test.YtdcifdpkfcgmhaaDoorCrS16
import Derived.Test.YtdcifdpkfcgmhaaDoorCr25
import Derived.Test.YtdcifdpkfcgmhaaDoorCr22
import Derived.Test.YtdcifdpkfcgmhaaDoorCrS18
import Derived.Test.YtdcifdpkfcgmhaaDoorCr27
import Derived.Test.YtdcifdpkfcgmhaaDoorCrS22
import Derived.Test.YtdcifdpkfcgmhaaDoorCrS2
import Derived.Test.YtdcifdpkfcgmhaaDoorCr13
import Derived.Test.YtdcifdpkfcgmhaaDoorCr18
import Derived.Test.YtdcifdpkfcgmhaaDoorCr24
import Derived.Test.YtdcifdpkfcgmhaaDoorCr19
import Derived.Test.YtdcifdpkfcgmhaaDoorCr21
import Derived.Test.YtdcifdpkfcgmhaaDoorCr20

/- What the program and the model answer about cursors is the same: plain data. -/
namespace Go.Proofs.YtdcifdpkfcgmhaaDoor
open Go.RowKit
namespace Tr

theorem cur0 (t : Tr) : curB t [] 0 = (t.someB && decide (t.ks.length ≠ 0)) := by
  obtain ⟨k, c⟩ := t
  unfold curB
  simp only [nodeTo, Tr.ks, inB]
  congr 1
  by_cases h : k.length = 0
  · simp [h]
  · simp [h]; omega

theorem first_eq (t : Tr) : walkB t [] 0 (fun _ => goF 0 t []) = wholeB t (downF t.weight t, 0, true) := by
  unfold walkB wholeB
  rw [cur0]
  obtain ⟨k, c⟩ := t
  by_cases hs : (Tr.mk k c).someB = true <;> by_cases hk : (Tr.mk k c).ks.length = 0
  · simp [hk]
  · simp only [hs, Bool.true_and, decide_eq_true_eq]
    rw [if_pos hk, if_pos ⟨trivial, hk⟩]
    exact goF_first hs hk
  · simp [hk]
  · simp [hs]
theorem last_eq (t : Tr) : walkB t [] 0 (fun _ => goB 100 t []) = wholeB t ((downL t.weight t).1, ((downL t.weight t).2 : Int) - 1, true) := by
  unfold walkB wholeB
  rw [cur0]
  obtain ⟨k, c⟩ := t
  by_cases hs : (Tr.mk k c).someB = true <;> by_cases hk : (Tr.mk k c).ks.length = 0
  · simp [hk]
  · simp only [hs, Bool.true_and, decide_eq_true_eq]
    rw [if_pos hk, if_pos ⟨trivial, hk⟩]
    exact goB_last hs hk
  · simp [hk]
  · simp [hs]
theorem seek_eq (t : Tr) (key : Int) : walkB t [] 0 (fun _ => goF key t []) = seekB t key := by
  unfold walkB seekB
  rw [cur0]
  obtain ⟨k, c⟩ := t
  by_cases hs : (Tr.mk k c).someB = true
  · simp only [hs, Bool.true_and, decide_eq_true_eq, if_true]
    by_cases hk : (Tr.mk k c).ks.length = 0
    · rw [if_neg (by simpa using hk)]
      have hk0 : k = [] := List.length_eq_zero_iff.1 hk
      have hw := Well.of_some hs
      have hc : c.length = 0 := by
        refine Classical.byContradiction fun h => ?_
        obtain ⟨⟨w, l, d, hn⟩, _⟩ := hw
        rcases (nodesB_parts hn).2 with ⟨h1, _⟩ | ⟨_, _, _, h4, _⟩
        · exact h h1
        · exact h4 hk
      subst hk0
      unfold seekCur
      rw [path_leaf (by simp [place]) hc]
      simp [nodeTo, place, upF, upTo, climb]
    · rw [if_pos hk]
      exact goF_seek hs key
  · simp [hs]
theorem forward_eq (t : Tr) (ks : List Int) (a : Int) : walkB t ks a (fun K => goF (K + 1) t ks) = fromB t ks a (fun N => nextCur t ks N) := by
  unfold fromB
  cases hv : curB t ks a with
  | false => rw [walkB_no hv]; simp
  | true =>
    obtain ⟨uk, uc, hn⟩ : ∃ uk uc, nodeTo ks t = some (.mk uk uc) := by
      cases hn : nodeTo ks t with
      | none => unfold curB at hv; rw [hn] at hv; cases hv
      | some u => obtain ⟨uk, uc⟩ := u; exact ⟨uk, uc, rfl⟩
    obtain ⟨-, ha1, ha2, hsb⟩ := curK_at hv hn
    rw [walkB_at hv hn, if_pos rfl]
    exact goF_next hsb hn (by omega)
theorem backward_eq (t : Tr) (ks : List Int) (a : Int) : walkB t ks a (fun K => goB K t ks) = fromB t ks a (fun N => prevCur t ks N) := by
  unfold fromB
  cases hv : curB t ks a with
  | false => rw [walkB_no hv]; simp
  | true =>
    obtain ⟨uk, uc, hn⟩ : ∃ uk uc, nodeTo ks t = some (.mk uk uc) := by
      cases hn : nodeTo ks t with
      | none => unfold curB at hv; rw [hn] at hv; cases hv
      | some u => obtain ⟨uk, uc⟩ := u; exact ⟨uk, uc, rfl⟩
    obtain ⟨-, ha1, ha2, hsb⟩ := curK_at hv hn
    rw [walkB_at hv hn, if_pos rfl]
    exact goB_prev hsb hn (by omega)
theorem walk_short {t : Tr} {ks : List Int} {a c : Int} : (walkB t ks a (fun K => goF (K + c) t ks)).1.length < 6 ∧ (walkB t ks a (fun K => goB (K + c) t ks)).1.length < 6 ∧ (walkB t ks a (fun _ => goF c t ks)).1.length < 6 ∧ (walkB t ks a (fun _ => goB c t ks)).1.length < 6 := by
  unfold walkB
  split
  · rename_i hv
    have hs : t.someB = true := by
      unfold curB at hv
      split at hv
      · simp only [Bool.and_eq_true] at hv; exact hv.1
      · cases hv
    exact ⟨(go_short hs).1, (go_short hs).2, (go_short hs).1, (go_short hs).2⟩
  · simp
end Tr
end Go.Proofs.YtdcifdpkfcgmhaaDoor

/- Cursors and ranks: where seeking comes to, that going on is seeking, that a cursor is told by its key: plain data. -/
namespace Go.Proofs.YtdcifdpkfcgmhaaDoor
open Go.RowKit
namespace Tr

theorem climb_cons (P : Nat → Bool) : ∀ n, climb P (n + 1) = if climb (fun i => P (i + 1)) n = 0 then (if P 0 then 1 else 0) else climb (fun i => P (i + 1)) n + 1
  | 0 => by simp [climb]
  | n + 1 => by
    rw [climb]
    by_cases h : P (n + 1) = true
    · rw [if_pos h, climb, if_pos h, if_neg (by omega)]
    · rw [if_neg h, climb_cons P n]
      have e : climb (fun i => P (i + 1)) (n + 1) = climb (fun i => P (i + 1)) n := by rw [climb, if_neg h]
      rw [e]

theorem lenAt_cons {k : List Int} {cs : List Tr} {i : Nat} (hi : i < cs.length) (p : List Int) : lenAt (.mk k cs) ((i : Int) :: p) = lenAt cs[i] p := by
  unfold lenAt
  rw [nodeTo, if_pos ⟨by omega, by omega⟩, Int.toNat_natCast, List.getD_eq_getElem?_getD, List.getElem?_eq_getElem hi]; rfl

theorem upF_cons {k : List Int} {cs : List Tr} {i : Nat} (hi : i < cs.length) (M : List Int) :
    upF (.mk k cs) ((i : Int) :: M) = if (upF cs[i] M).2.2 = true then ((i : Int) :: (upF cs[i] M).1, (upF cs[i] M).2.1, true) else if i < k.length then ([], (i : Int), true) else ([], 0, false) := by
  have hP : ∀ j, stopF (.mk k cs) ((i : Int) :: M) (j + 1) = stopF cs[i] M j := fun j => by
    unfold stopF
    rw [List.take_succ_cons, lenAt_cons hi, List.getD_cons_succ]
  have h0 : stopF (.mk k cs) ((i : Int) :: M) 0 = decide (i < k.length) := by
    unfold stopF lenAt
    simp [nodeTo, Tr.ks]
  unfold upF
  rw [List.length_cons, climb_cons, climb_congr (Q := stopF cs[i] M) M.length (fun j _ => hP j), h0]
  unfold upTo
  by_cases hz : climb (stopF cs[i] M) M.length = 0
  · rw [if_pos hz]
    simp only [hz, if_true]
    by_cases hk : i < k.length
    · simp [hk]
    · simp [hk]
  · rw [if_neg hz]
    obtain ⟨D, hD⟩ : ∃ D, climb (stopF cs[i] M) M.length = D + 1 := ⟨climb (stopF cs[i] M) M.length - 1, by omega⟩
    rw [hD]
    simp

theorem place_in {c : Int} : ∀ {a b : List Int}, place c a < a.length → place c (a ++ b) = place c a
  | [], _, h => by simp at h
  | x :: r, b, h => by
    simp only [place, List.cons_append, List.length_cons] at h ⊢
    split
    · rename_i hx
      rw [if_pos hx] at h
      rw [place_in (by omega)]
    · rfl
theorem place_all {c : Int} : ∀ {a : List Int}, ¬ place c a < a.length → ∀ x ∈ a, x < c → True := fun _ _ _ _ => trivial
theorem place_ahead {c : Int} {a : List Int} (hs : a.Pairwise (· < ·)) (h : ¬ place c a < a.length) : ∀ x ∈ a, x < c := by
  intro x hx
  obtain ⟨i, hi, rfl⟩ := List.getElem_of_mem hx
  have hle := place_le c a
  have := place_lt (c := c) (k := a) (i := i) (by omega)
  simpa [List.getD_eq_getElem?_getD, hi] using this

/-- Where one comes to, seeking. -/
theorem seek_key (c : Int) : ∀ (n : Nat) (t : Tr), t.weight ≤ n → Well t →
    (place c t.keys < t.keys.length → ∃ P A k cs, upF t (sink c t) = (P, ((A : Nat) : Int), true) ∧ nodeTo P t = some (.mk k cs) ∧ A < k.length ∧ k.getD A 0 = t.keys.getD (place c t.keys) 0) ∧
    (¬ place c t.keys < t.keys.length → upF t (sink c t) = ([], 0, false))
  | n, .mk k cs, hn, hw => by
    have hp := place_le c k
    by_cases h0 : cs.length = 0
    · rw [sink_leaf h0, keys_leaf h0]
      constructor
      · intro h
        refine ⟨[], place c k, k, cs, ?_, rfl, h, rfl⟩
        have := upF_stop (t := .mk k cs) (L := []) (x := (place c k : Int)) (by unfold lenAt; simp only [nodeTo, Tr.ks]; omega)
        simpa using this
      · intro h
        have := upF_skip (t := .mk k cs) (L := []) (M := [(place c k : Int)]) (fun i hi => by
          have : i = 0 := by simpa using hi
          subst this
          unfold stopF lenAt
          simp [nodeTo, Tr.ks]; omega)
        simpa [upF, upTo, climb] using this
    · have hcl := Well.inner hw h0
      have hi : place c k < cs.length := by omega
      have hwt := weight_get_le cs _ hi
      simp only [weight] at hn
      cases n with
      | zero => have := length_le_weights cs; omega
      | succ n =>
        obtain ⟨ih1, ih2⟩ := seek_key c n cs[place c k] (by omega) (hw.kid _ hi)
        obtain ⟨R, hkeys, hahead, hR⟩ := hw.split h0 c hi
        obtain ⟨U, hU⟩ : ∃ U, U = upto (keyss cs) k (place c k) := ⟨_, rfl⟩
        rw [← hU] at hkeys hahead
        rw [sink_inner hi, upF_cons hi, hkeys, place_append_lt hahead]
        by_cases hin : place c cs[place c k].keys < cs[place c k].keys.length
        · obtain ⟨P, A, k', cs', h1, h2, h3, h4⟩ := ih1 hin
          rw [h1, if_pos rfl, place_in hin]
          constructor
          · intro _
            refine ⟨(place c k : Int) :: P, A, k', cs', rfl, ?_, h3, ?_⟩
            · rw [nodeTo, if_pos ⟨by omega, by omega⟩, Int.toNat_natCast, List.getD_eq_getElem?_getD, List.getElem?_eq_getElem hi]; exact h2
            · rw [h4, getD_right (by omega), show U.length + place c cs[place c k].keys - U.length = place c cs[place c k].keys by omega, getD_left hin]
          · intro h
            exfalso
            simp only [List.length_append] at h
            omega
        · rw [ih2 hin]
          have hall := place_ahead (hw.kid _ hi).2 hin
          have hz : place c ((k[place c k]?).toList ++ R) = 0 := by
            have hb := behind_ge hR
            cases hl : (k[place c k]?).toList ++ R with
            | nil => rfl
            | cons x r => have := hb x r hl; simp only [place]; rw [if_neg (by omega)]
          rw [place_append_lt hall, hz, Nat.add_zero, if_neg (by simp)]
          by_cases hk : place c k < k.length
          · have e : (k[place c k]?).toList = [k.getD (place c k) 0] := by simp [hk, List.getD_eq_getElem?_getD]
            rw [if_pos hk, e]
            constructor
            · intro _
              refine ⟨[], place c k, k, cs, rfl, rfl, hk, ?_⟩
              rw [getD_right (by omega), show U.length + cs[place c k].keys.length - U.length = cs[place c k].keys.length by omega, getD_right (by omega), Nat.sub_self]; rfl
            · intro h
              exfalso
              simp only [List.length_append, List.length_singleton] at h
              omega
          · have e : (k[place c k]?).toList = [] := by rw [List.getElem?_eq_none (by omega)]; rfl
            rw [if_neg hk, e, hR (by omega)]
            constructor
            · intro h
              exfalso
              simp only [List.length_append, List.length_nil] at h
              omega
            · intro _; rfl

/-- The way to a key goes through the nodes that lead to it, and so does the way to what is behind it. -/
theorem nodeTo_sub : ∀ (p : List Int) {t u : Tr}, nodeTo p t = some u → u.keys.Sublist t.keys
  | [], t, u, hn => by simp only [nodeTo, Option.some.injEq] at hn; rw [hn]; exact List.Sublist.refl _
  | x :: p, .mk k c, u, hn => by
    simp only [nodeTo] at hn
    split at hn
    · rename_i hx
      have hN : x.toNat < c.length := by omega
      rw [List.getD_eq_getElem?_getD, List.getElem?_eq_getElem hN] at hn
      exact (nodeTo_sub p hn).trans (kid_sub _ hN)
    · cases hn
theorem sink_pass {K c : Int} (hc : c = K ∨ c = K + 1) : ∀ (p : List Int) {t u : Tr}, Well t → nodeTo p t = some u → K ∈ u.keys → sink c t = p ++ sink c u
  | [], t, u, hw, hn, hk => by simp only [nodeTo, Option.some.injEq] at hn; rw [hn]; rfl
  | x :: p, .mk k cs, u, hw, hn, hk => by
    simp only [nodeTo] at hn
    split at hn
    · rename_i hx
      obtain ⟨N, rfl⟩ : ∃ N : Nat, x = N := ⟨x.toNat, by omega⟩
      rw [Int.toNat_natCast] at hn
      have hN : N < cs.length := by omega
      rw [List.getD_eq_getElem?_getD, List.getElem?_eq_getElem hN] at hn
      have hcl := Well.inner hw (by omega)
      have hmem : K ∈ cs[N].keys := (nodeTo_sub p hn).subset hk
      obtain ⟨s1, s2⟩ := kid_sides hw N hN hmem
      have hpl : place c k = N := by
        refine place_eq (by omega) (fun j hj => ?_) (fun hj => ?_)
        · have := s1 j hj; omega
        · have := s2 hj; omega
      have hi : place c k < cs.length := by omega
      rw [sink_inner hi]
      have e : cs[place c k] = cs[N] := by simp only [hpl]
      rw [e, hpl, sink_pass hc p (hw.kid _ hN) hn hk]; rfl
    · cases hn

theorem own_mem {k : List Int} {cs : List Tr} {N : Nat} (hN : N < k.length) : k.getD N 0 ∈ (Tr.mk k cs).keys :=
  (own_sub k cs).subset (by rw [List.getD_eq_getElem?_getD, List.getElem?_eq_getElem hN]; exact List.getElem_mem hN)

/-- Going on from a cursor is seeking what is behind its key. -/
theorem goF_pass {t : Tr} {ks : List Int} (hs : someB t = true) {k : List Int} {cs : List Tr} (hn : nodeTo ks t = some (.mk k cs)) {N : Nat} (hN : N < k.length) {c : Int} (hc : c = k.getD N 0 ∨ c = k.getD N 0 + 1) : goF c t ks = goF c t [] := by
  rw [goF_at hn, goF_at rfl, List.nil_append, sink_pass hc ks (Well.of_some hs) hn (own_mem hN)]
theorem goB_pass {t : Tr} {ks : List Int} (hs : someB t = true) {k : List Int} {cs : List Tr} (hn : nodeTo ks t = some (.mk k cs)) {N : Nat} (hN : N < k.length) {c : Int} (hc : c = k.getD N 0 ∨ c = k.getD N 0 + 1) : goB c t ks = goB c t [] := by
  rw [goB_at hn, goB_at rfl, List.nil_append, sink_pass hc ks (Well.of_some hs) hn (own_mem hN)]

/-- A cursor is what is sought by its key. -/
theorem goF_self {t : Tr} {ks : List Int} (hs : someB t = true) {k : List Int} {cs : List Tr} (hn : nodeTo ks t = some (.mk k cs)) {N : Nat} (hN : N < k.length) : goF (k.getD N 0) t [] = (ks, (N : Int), true) := by
  have hw := nodeTo_well ks (Well.of_some hs) hn
  obtain ⟨hp, -⟩ := place_of hw.keys hN
  rw [← goF_pass hs hn hN (.inl rfl), goF_at hn]
  by_cases h0 : cs.length = 0
  · rw [sink_leaf h0, hp]
    exact upF_stop (by rw [lenAt_of hn]; simp only [Tr.ks]; omega)
  · have hcl := Well.inner hw h0
    have hi : N < cs.length := by omega
    have hi' : place (k.getD N 0) k < cs.length := by omega
    rw [sink_inner hi']
    simp only [hp]
    rw [List.append_cons, upF_full (nodeTo_snoc hn hi) (hw.kid _ hi) (fun x hx => (kid_sides hw N hi hx).2 hN)]
    exact upF_stop (by rw [lenAt_of hn]; simp only [Tr.ks]; omega)
end Tr
end Go.Proofs.YtdcifdpkfcgmhaaDoor

/- The cursors of a tree in the order of its keys: plain data. -/
namespace Go.Proofs.YtdcifdpkfcgmhaaDoor
open Go.RowKit
namespace Tr

/-- The cursor at a key, by its number in order. -/
def curAt (t : Tr) (i : Nat) : List Int × Int × Bool := goF (t.keys.getD i 0) t []

theorem keys_place {ks : List Int} (h : ks.Pairwise (· < ·)) {i : Nat} (hi : i < ks.length) : place (ks.getD i 0) ks = i ∧ place (ks.getD i 0 + 1) ks = i + 1 := place_of h hi

/-- What is sought is the cursor at the first key that isn't less. -/
theorem goF_curAt {t : Tr} (hs : someB t = true) (c : Int) : (place c t.keys < t.keys.length → goF c t [] = curAt t (place c t.keys)) ∧ (¬ place c t.keys < t.keys.length → goF c t [] = ([], 0, false)) := by
  obtain ⟨h1, h2⟩ := seek_key c t.weight t (Nat.le_refl _) (Well.of_some hs)
  have e : goF c t [] = upF t (sink c t) := goF_at rfl
  constructor
  · intro h
    obtain ⟨P, A, k, cs, g1, g2, g3, g4⟩ := h1 h
    have := goF_self hs g2 g3
    rw [g4] at this
    rw [e, g1, curAt, this]
  · intro h
    rw [e, h2 h]

/-- A cursor in order: it stands at its key. -/
theorem curAt_at {t : Tr} (hs : someB t = true) {i : Nat} (hi : i < t.keys.length) : ∃ P A k cs, curAt t i = (P, ((A : Nat) : Int), true) ∧ nodeTo P t = some (.mk k cs) ∧ A < k.length ∧ k.getD A 0 = t.keys.getD i 0 := by
  have hw := Well.of_some hs
  obtain ⟨h1, -⟩ := seek_key (t.keys.getD i 0) t.weight t (Nat.le_refl _) hw
  have hp := (keys_place hw.2 hi).1
  rw [hp] at h1
  obtain ⟨P, A, k, cs, g1, g2, g3, g4⟩ := h1 hi
  exact ⟨P, A, k, cs, by rw [curAt, goF_at rfl]; exact g1, g2, g3, g4⟩
theorem curB_at {t : Tr} (hs : someB t = true) {P : List Int} {A : Nat} {k : List Int} {cs : List Tr} (hn : nodeTo P t = some (.mk k cs)) (hA : A < k.length) : curB t P A = true ∧ curK t P A = k.getD A 0 := by
  have h : curB t P A = true := by unfold curB; rw [hn]; simp [hs, inB]; omega
  exact ⟨h, by rw [(curK_at h hn).1]; simp⟩

/-- What holds of the cursor at number i. -/
theorem curAt_facts {t : Tr} (hs : someB t = true) {i : Nat} (hi : i < t.keys.length) :
    curB t (curAt t i).1 (curAt t i).2.1 = true ∧ curK t (curAt t i).1 (curAt t i).2.1 = t.keys.getD i 0 ∧ (curAt t i).2.2 = true ∧ (curAt t i).1.length ≤ 5 ∧
    walkB t (curAt t i).1 (curAt t i).2.1 (fun K => goF (K + 1) t (curAt t i).1) = (if i + 1 < t.keys.length then curAt t (i + 1) else ([], 0, false)) := by
  obtain ⟨P, A, k, cs, g1, g2, g3, g4⟩ := curAt_at hs hi
  obtain ⟨b1, b2⟩ := curB_at hs g2 g3
  rw [g1]
  refine ⟨b1, by rw [b2, g4], rfl, nodeTo_few hs g2, ?_⟩
  rw [walkB_at b1 g2, Int.toNat_natCast, goF_pass hs g2 g3 (.inr rfl), g4]
  have hp := (keys_place (Well.of_some hs).2 hi).2
  obtain ⟨h1, h2⟩ := goF_curAt hs (t.keys.getD i 0 + 1)
  rw [hp] at h1 h2
  split
  · rename_i h; exact h1 h
  · rename_i h; exact h2 h

/-- The first one. -/
theorem first_curAt {t : Tr} (hs : someB t = true) (h0 : 0 < t.keys.length) : goF 0 t [] = curAt t 0 := by
  obtain ⟨h1, -⟩ := goF_curAt hs 0
  have hp : place 0 t.keys = 0 := place_zero (fun x hx => (some_key hs hx).1)
  rw [hp] at h1
  exact h1 h0

/-- The last key below a node. -/
theorem downL_key : ∀ (n : Nat) (t : Tr), t.weight ≤ n → Well t → Full t → ∃ k cs A, nodeTo (downL n t).1 t = some (.mk k cs) ∧ (downL n t).2 = k.length ∧ k.length ≠ 0 ∧ t.keys = A ++ [k.getD (k.length - 1) 0]
  | n, .mk k cs, hn, hw, hf => by
    have hk0 := Full.keys hf
    by_cases h0 : cs.length = 0
    · have e : downL n (.mk k cs) = ([], k.length) := by
        cases n with
        | zero => rfl
        | succ n => rw [downL, dif_neg (by omega)]
      have hne : k ≠ [] := fun e => hk0 (by rw [e]; rfl)
      refine ⟨k, cs, k.dropLast, by rw [e]; rfl, by rw [e], hk0, ?_⟩
      rw [keys_leaf h0]
      have : k.getD (k.length - 1) 0 = k.getLast hne := by
        rw [List.getLast_eq_getElem, List.getD_eq_getElem?_getD, List.getElem?_eq_getElem (by omega)]; rfl
      rw [this]
      exact (List.dropLast_concat_getLast hne).symm
    · have hlt : cs.length - 1 < cs.length := by omega
      have hcl := Well.inner hw h0
      have hwt := weight_get_le cs _ hlt
      simp only [weight] at hn
      cases n with
      | zero => have := length_le_weights cs; omega
      | succ n =>
        obtain ⟨k', cs', A, h1, h2, h3, h4⟩ := downL_key n cs[cs.length - 1] (by omega) (hw.kid _ hlt) (hf.tops.kid _ hlt)
        refine ⟨k', cs', upto (keyss cs) k (cs.length - 1) ++ A, ?_, ?_, h3, ?_⟩
        · rw [downL, dif_pos hlt, nodeTo, if_pos ⟨by omega, by omega⟩, Int.toNat_natCast, List.getD_eq_getElem?_getD, List.getElem?_eq_getElem hlt]; exact h1
        · rw [downL, dif_pos hlt]; exact h2
        · have hm : max k.length cs.length = cs.length - 1 + 1 := by omega
          have hkn : k[cs.length - 1]? = none := List.getElem?_eq_none (by omega)
          rw [Tr.keys, hm, upto_succ, part, keyss_get cs _ hlt, hkn]
          simp [h4]

theorem keys_own {k : List Int} {cs : List Tr} (hs : someB (.mk k cs) = true) : k.length ≠ 0 ↔ 0 < (Tr.mk k cs).keys.length := by
  constructor
  · intro h
    have := (own_sub k cs).length_le
    omega
  · intro h hk
    have hw := Well.of_some hs
    have hc : cs.length = 0 := by
      refine Classical.byContradiction fun h => ?_
      obtain ⟨⟨w, l, d, hn⟩, _⟩ := hw
      rcases (nodesB_parts hn).2 with ⟨h1, _⟩ | ⟨_, _, _, h4, _⟩
      · exact h h1
      · exact h4 hk
    rw [keys_leaf hc] at h
    omega

/-- The last one. -/
theorem last_curAt {t : Tr} (hs : someB t = true) (h0 : 0 < t.keys.length) : goB 100 t [] = curAt t (t.keys.length - 1) := by
  obtain ⟨k, cs⟩ := t
  have hk := (keys_own hs).2 h0
  rw [goB_last hs hk]
  obtain ⟨k', cs', A, h1, h2, h3, h4⟩ := downL_key (Tr.mk k cs).weight (.mk k cs) (Nat.le_refl _) (Well.of_some hs) (Full.of_some hs hk)
  have hself := goF_self hs h1 (show k'.length - 1 < k'.length by omega)
  have hl : (Tr.mk k cs).keys.getD ((Tr.mk k cs).keys.length - 1) 0 = k'.getD (k'.length - 1) 0 := by
    rw [h4, List.length_append, List.length_singleton, getD_right (by omega), show A.length + 1 - 1 - A.length = 0 by omega]; rfl
  rw [curAt, hl, hself, h2]
  congr 2
  omega

/-- FirstCursor and LastCursor, in these words. -/
theorem whole_first (t : Tr) : walkB t [] 0 (fun _ => goF 0 t []) = if t.someB = true ∧ 0 < t.keys.length then curAt t 0 else ([], 0, false) := by
  unfold walkB
  obtain ⟨k, cs⟩ := t
  by_cases hs : (Tr.mk k cs).someB = true
  · have hk := keys_own hs
    by_cases h0 : 0 < (Tr.mk k cs).keys.length
    · have hb : curB (.mk k cs) [] 0 = true := by unfold curB; simp only [nodeTo]; rw [hs]; have := hk.2 h0; simp [inB]; omega
      rw [if_pos hb, if_pos ⟨hs, h0⟩]
      exact first_curAt hs h0
    · have hb : ¬ curB (.mk k cs) [] 0 = true := by unfold curB; simp only [nodeTo]; rw [hs]; have := fun h => h0 (hk.1 h); simp [inB]; omega
      rw [if_neg hb, if_neg (fun h => h0 h.2)]
  · have hb : ¬ curB (.mk k cs) [] 0 = true := by unfold curB; simp only [nodeTo]; simp [hs]
    rw [if_neg hb, if_neg (fun h => hs h.1)]
theorem whole_last (t : Tr) : walkB t [] 0 (fun _ => goB 100 t []) = if t.someB = true ∧ 0 < t.keys.length then curAt t (t.keys.length - 1) else ([], 0, false) := by
  unfold walkB
  obtain ⟨k, cs⟩ := t
  by_cases hs : (Tr.mk k cs).someB = true
  · have hk := keys_own hs
    by_cases h0 : 0 < (Tr.mk k cs).keys.length
    · have hb : curB (.mk k cs) [] 0 = true := by unfold curB; simp only [nodeTo]; rw [hs]; have := hk.2 h0; simp [inB]; omega
      rw [if_pos hb, if_pos ⟨hs, h0⟩]
      exact last_curAt hs h0
    · have hb : ¬ curB (.mk k cs) [] 0 = true := by unfold curB; simp only [nodeTo]; rw [hs]; have := fun h => h0 (hk.1 h); simp [inB]; omega
      rw [if_neg hb, if_neg (fun h => h0 h.2)]
  · have hb : ¬ curB (.mk k cs) [] 0 = true := by unfold curB; simp only [nodeTo]; simp [hs]
    rw [if_neg hb, if_neg (fun h => hs h.1)]
end Tr
end Go.Proofs.YtdcifdpkfcgmhaaDoor

/- What seeking a key comes to, beside its rank: plain data. -/
namespace Go.Proofs.YtdcifdpkfcgmhaaDoor
open Go.RowKit
namespace Tr

theorem whole_seek (t : Tr) (key : Int) : walkB t [] 0 (fun _ => goF key t []) = if t.someB = true ∧ place key t.keys < t.keys.length then curAt t (place key t.keys) else ([], 0, false) := by
  unfold walkB
  obtain ⟨k, cs⟩ := t
  by_cases hs : (Tr.mk k cs).someB = true
  · have hk := keys_own hs
    obtain ⟨g1, g2⟩ := goF_curAt hs key
    by_cases h0 : place key (Tr.mk k cs).keys < (Tr.mk k cs).keys.length
    · have hb : curB (.mk k cs) [] 0 = true := by unfold curB; simp only [nodeTo]; rw [hs]; have := hk.2 (by omega); simp [inB]; omega
      rw [if_pos hb, if_pos ⟨hs, h0⟩]
      exact g1 h0
    · have hr : (if (Tr.mk k cs).someB = true ∧ place key (Tr.mk k cs).keys < (Tr.mk k cs).keys.length then curAt (Tr.mk k cs) (place key (Tr.mk k cs).keys) else ([], 0, false)) = ([], 0, false) := if_neg (fun h => h0 h.2)
      rw [hr]
      by_cases hb : curB (.mk k cs) [] 0 = true
      · rw [if_pos hb]
        exact g2 h0
      · rw [if_neg hb]
  · have hb : ¬ curB (.mk k cs) [] 0 = true := by unfold curB; simp only [nodeTo]; simp [hs]
    rw [if_neg hb, if_neg (fun h => hs h.1)]

theorem seek_facts {t : Tr} (hs : t.someB = true) {key : Int} (hp : place key t.keys < t.keys.length) :
    t.rankB key = (place key t.keys : Int) ∧ t.keyAtB (t.rankB key) = (t.keys.getD (place key t.keys) 0, true) ∧ key ≤ t.keys.getD (place key t.keys) 0 ∧
    (t.keys.getD (place key t.keys) 0 = key ↔ (t.pathB key).2 = true) := by
  have hr : t.rankB key = (place key t.keys : Int) := by unfold Tr.rankB; simp [hs]
  refine ⟨hr, ?_, place_ge hp, ?_⟩
  · rw [hr, (keyAtB_is _ t).1 hs]
    unfold keyL
    rw [if_pos ⟨by omega, by omega⟩, Int.toNat_natCast]
  · rw [hasB_iff key t hs]
    constructor
    · intro h
      rw [← h, List.getD_eq_getElem?_getD, List.getElem?_eq_getElem hp]
      exact List.getElem_mem hp
    · exact fun h => (place_mem (Well.of_some hs).2 h).2
theorem rank_none {t : Tr} (hs : ¬ t.someB = true) (key : Int) : t.rankB key = -1 := by unfold Tr.rankB; simp [hs]
theorem rank_end {t : Tr} (hs : t.someB = true) {key : Int} (hp : ¬ place key t.keys < t.keys.length) : t.rankB key = (t.keys.length : Int) := by
  have := place_le key t.keys
  unfold Tr.rankB
  simp [hs]
  omega
end Tr
end Go.Proofs.YtdcifdpkfcgmhaaDoor

/- A range, gone through by a cursor: plain data. -/
namespace Go.Proofs.YtdcifdpkfcgmhaaDoor
open Go.RowKit

def rowLen : Value → Nat | .slice _ n _ => n | _ => 0

theorem get_mem {K : List Int} {x : Int} (h : x ∈ K) : ∃ i, i < K.length ∧ K.getD i 0 = x := by
  obtain ⟨i, hi, rfl⟩ := List.getElem_of_mem h
  exact ⟨i, hi, by simp [List.getD_eq_getElem?_getD, hi]⟩
theorem take_mem {K : List Int} {p : Nat} {x : Int} (h : x ∈ K.take p) : ∃ i, i < p ∧ i < K.length ∧ K.getD i 0 = x := by
  obtain ⟨i, hi, rfl⟩ := List.getElem_of_mem h
  rw [List.length_take] at hi
  exact ⟨i, by omega, by omega, by simp [List.getD_eq_getElem?_getD, show i < K.length by omega]⟩
theorem drop_mem {K : List Int} {p : Nat} {x : Int} (h : x ∈ K.drop p) : ∃ i, p ≤ i ∧ i < K.length ∧ K.getD i 0 = x := by
  obtain ⟨i, hi, rfl⟩ := List.getElem_of_mem h
  rw [List.length_drop] at hi
  exact ⟨p + i, by omega, by omega, by simp [List.getD_eq_getElem?_getD, show p + i < K.length by omega]⟩
theorem sorted_le {K : List Int} (hs : K.Pairwise (· < ·)) {i j : Nat} (h : i ≤ j) (hj : j < K.length) : K.getD i 0 ≤ K.getD j 0 := by
  by_cases e : i = j
  · rw [e]; exact Int.le_refl _
  · have := sorted_get hs (show i < j by omega) hj
    omega
theorem part_snoc {K : List Int} {p n : Nat} (h : p + n < K.length) : (K.drop p).take n ++ [K.getD (p + n) 0] = (K.drop p).take (n + 1) := by
  rw [List.take_succ_eq_append_getElem (by rw [List.length_drop]; omega), List.getElem_drop]
  simp [List.getD_eq_getElem?_getD, h]

theorem rangeL_walk {low high : Int} {K : List Int} (hs : K.Pairwise (· < ·)) {n : Nat} (hle : ∀ x ∈ (K.drop (place low K)).take n, x ≤ high)
    (hend : place low K + n = K.length ∨ (place low K + n < K.length ∧ high < K.getD (place low K + n) 0)) : rangeL low high K = (K.drop (place low K)).take n := by
  have hlow : ∀ i, place low K ≤ i → i < K.length → low ≤ K.getD i 0 := fun i h1 h2 => by
    have := place_ge (c := low) (k := K) (by omega)
    have := sorted_le hs h1 h2
    omega
  have hbel : ∀ i, i < place low K → K.getD i 0 < low := fun i h => place_lt h
  obtain ⟨p, hp⟩ : ∃ p, p = place low K := ⟨_, rfl⟩
  rw [← hp] at hle hend hlow hbel ⊢
  have e : K = K.take p ++ ((K.drop p).take n ++ K.drop (p + n)) := by
    rw [← List.drop_drop, List.take_append_drop, List.take_append_drop]
  have f1 : rangeL low high (K.take p) = [] := by
    unfold rangeL
    rw [List.filter_eq_nil_iff]
    intro x hx
    obtain ⟨i, h1, h2, rfl⟩ := take_mem hx
    have := hbel i h1
    generalize K.getD i 0 = z at this ⊢
    simp [inB]
    omega
  have f2 : rangeL low high ((K.drop p).take n) = (K.drop p).take n := by
    unfold rangeL
    refine filter_all (fun x hx => ?_)
    have h1 := hle x hx
    obtain ⟨i, h2, h3, rfl⟩ := drop_mem (List.mem_of_mem_take hx)
    have := hlow i h2 h3
    exact inB_true this h1
  have f3 : rangeL low high (K.drop (p + n)) = [] := by
    unfold rangeL
    rw [List.filter_eq_nil_iff]
    intro x hx
    obtain ⟨i, h1, h2, rfl⟩ := drop_mem hx
    rcases hend with h | ⟨h, hh⟩
    · omega
    · have := sorted_le hs h1 h2
      generalize K.getD i 0 = z at this ⊢
      generalize K.getD (p + n) 0 = z2 at this hh
      simp [inB]
      omega
  have : rangeL low high K = rangeL low high (K.take p ++ ((K.drop p).take n ++ K.drop (p + n))) := by rw [← e]
  rw [this]
  unfold rangeL at f1 f2 f3 ⊢
  rw [List.filter_append, List.filter_append, f1, f2, f3]
  simp
end Go.Proofs.YtdcifdpkfcgmhaaDoor
