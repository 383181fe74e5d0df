/- The cursors of a tree in the order of its keys: plain data. -/
import Derived.Test.YticfkfjijnfcbaaDoorCwS23
/- Cursors and ranks: where seeking comes to, that going on is seeking, that a cursor is told by its key: plain data. -/
namespace Go.Proofs.YticfkfjijnfcbaaDoor
open Go.RowKit
namespace Tr
theorem climb_cons (P : Nat → Bool) : ∀ n, climb P (n + 1) = if climb (fun i => P (i + 1)) n = 0 then (if P 0 then 1 else 0) else climb (fun i => P (i + 1)) n + 1
 | 0 => by simp [climb]
 | n + 1 => by
   rw [climb]
   by_cases h : P (n + 1) = true
   · rw [if_pos h, climb, if_pos h, if_neg (by omega)]
   · rw [if_neg h, climb_cons P n]
     have e : climb (fun i => P (i + 1)) (n + 1) = climb (fun i => P (i + 1)) n := by rw [climb, if_neg h]
     rw [e]
theorem lenAt_cons {k : List Int} {cs : List Tr} {i : Nat} (hi : i < cs.length) (p : List Int) : lenAt (.mk k cs) ((i : Int) :: p) = lenAt cs[i] p := by
 unfold lenAt
 rw [nodeTo, if_pos ⟨by omega, by omega⟩, Int.toNat_natCast, List.getD_eq_getElem?_getD, List.getElem?_eq_getElem hi]; rfl
theorem upF_cons {k : List Int} {cs : List Tr} {i : Nat} (hi : i < cs.length) (M : List Int) :
   upF (.mk k cs) ((i : Int) :: M) = if (upF cs[i] M).2.2 = true then ((i : Int) :: (upF cs[i] M).1, (upF cs[i] M).2.1, true) else if i < k.length then ([], (i : Int), true) else ([], 0, false) := by
 have hP : ∀ j, stopF (.mk k cs) ((i : Int) :: M) (j + 1) = stopF cs[i] M j := fun j => by
   unfold stopF
   rw [List.take_succ_cons, lenAt_cons hi, List.getD_cons_succ]
 have h0 : stopF (.mk k cs) ((i : Int) :: M) 0 = decide (i < k.length) := by
   unfold stopF lenAt
   simp [nodeTo, Tr.ks]
 unfold upF
 rw [List.length_cons, climb_cons, climb_congr (Q := stopF cs[i] M) M.length (fun j _ => hP j), h0]
 unfold upTo
 by_cases hz : climb (stopF cs[i] M) M.length = 0
 · rw [if_pos hz]
   simp only [hz, if_true]
   by_cases hk : i < k.length
   · simp [hk]
   · simp [hk]
 · rw [if_neg hz]
   obtain ⟨D, hD⟩ : ∃ D, climb (stopF cs[i] M) M.length = D + 1 := ⟨climb (stopF cs[i] M) M.length - 1, by omega⟩
   rw [hD]
   simp
theorem place_in {c : Int} : ∀ {a b : List Int}, place c a < a.length → place c (a ++ b) = place c a
 | [], _, h => by simp at h
 | x :: r, b, h => by
   simp only [place, List.cons_append, List.length_cons] at h ⊢
   split
   · rename_i hx
     rw [if_pos hx] at h
     rw [place_in (by omega)]
   · rfl
theorem place_ahead {c : Int} {a : List Int} (hs : a.Pairwise (· < ·)) (h : ¬ place c a < a.length) : ∀ x ∈ a, x < c := by
 intro x hx
 obtain ⟨i, hi, rfl⟩ := List.getElem_of_mem hx
 have hle := place_le c a
 have := place_lt (c := c) (k := a) (i := i) (by omega)
 simpa [List.getD_eq_getElem?_getD, hi] using this
theorem seek_key (c : Int) : ∀ (n : Nat) (t : Tr), t.weight ≤ n → Well t →
   (place c t.keys < t.keys.length → ∃ P A k cs, upF t (sink c t) = (P, ((A : Nat) : Int), true) ∧ nodeTo P t = some (.mk k cs) ∧ A < k.length ∧ k.getD A 0 = t.keys.getD (place c t.keys) 0) ∧
   (¬ place c t.keys < t.keys.length → upF t (sink c t) = ([], 0, false))
 | n, .mk k cs, hn, hw => by
   have hp := place_le c k
   by_cases h0 : cs.length = 0
   · rw [sink_leaf h0, keys_leaf h0]
     constructor
     · intro h
       refine ⟨[], place c k, k, cs, ?_, rfl, h, rfl⟩
       have := upF_stop (t := .mk k cs) (L := []) (x := (place c k : Int)) (by unfold lenAt; simp only [nodeTo, Tr.ks]; omega)
       simpa using this
     · intro h
       have := upF_skip (t := .mk k cs) (L := []) (M := [(place c k : Int)]) (fun i hi => by
         have : i = 0 := by simpa using hi
         subst this
         unfold stopF lenAt
         simp [nodeTo, Tr.ks]; omega)
       simpa [upF, upTo, climb] using this
   · have hcl := Well.inner hw h0
     have hi : place c k < cs.length := by omega
     have hwt := weight_get_le cs _ hi
     simp only [weight] at hn
     cases n with
     | zero => have := length_le_weights cs; omega
     | succ n =>
       obtain ⟨ih1, ih2⟩ := seek_key c n cs[place c k] (by omega) (hw.kid _ hi)
       obtain ⟨R, hkeys, hahead, hR⟩ := hw.split h0 c hi
       obtain ⟨U, hU⟩ : ∃ U, U = upto (keyss cs) k (place c k) := ⟨_, rfl⟩
       rw [← hU] at hkeys hahead
       rw [sink_inner hi, upF_cons hi, hkeys, place_append_lt hahead]
       by_cases hin : place c cs[place c k].keys < cs[place c k].keys.length
       · obtain ⟨P, A, k', cs', h1, h2, h3, h4⟩ := ih1 hin
         rw [h1, if_pos rfl, place_in hin]
         constructor
         · intro _
           refine ⟨(place c k : Int) :: P, A, k', cs', rfl, ?_, h3, ?_⟩
           · rw [nodeTo, if_pos ⟨by omega, by omega⟩, Int.toNat_natCast, List.getD_eq_getElem?_getD, List.getElem?_eq_getElem hi]; exact h2
           · rw [h4, getD_right (by omega), show U.length + place c cs[place c k].keys - U.length = place c cs[place c k].keys by omega, getD_left hin]
         · intro h
           exfalso
           simp only [List.length_append] at h
           omega
       · rw [ih2 hin]
         have hall := place_ahead (hw.kid _ hi).2 hin
         have hz : place c ((k[place c k]?).toList ++ R) = 0 := by
           have hb := behind_ge hR
           cases hl : (k[place c k]?).toList ++ R with
           | nil => rfl
           | cons x r => have := hb x r hl; simp only [place]; rw [if_neg (by omega)]
         rw [place_append_lt hall, hz, Nat.add_zero, if_neg (by simp)]
         by_cases hk : place c k < k.length
         · have e : (k[place c k]?).toList = [k.getD (place c k) 0] := by simp [hk, List.getD_eq_getElem?_getD]
           rw [if_pos hk, e]
           constructor
           · intro _
             refine ⟨[], place c k, k, cs, rfl, rfl, hk, ?_⟩
             rw [getD_right (by omega), show U.length + cs[place c k].keys.length - U.length = cs[place c k].keys.length by omega, getD_right (by omega), Nat.sub_self]; rfl
           · intro h
             exfalso
             simp only [List.length_append, List.length_singleton] at h
             omega
         · have e : (k[place c k]?).toList = [] := by rw [List.getElem?_eq_none (by omega)]; rfl
           rw [if_neg hk, e, hR (by omega)]
           constructor
           · intro h
             exfalso
             simp only [List.length_append, List.length_nil] at h
             omega
           · intro _; rfl
theorem nodeTo_sub : ∀ (p : List Int) {t u : Tr}, nodeTo p t = some u → u.keys.Sublist t.keys
 | [], t, u, hn => by simp only [nodeTo, Option.some.injEq] at hn; rw [hn]; exact List.Sublist.refl _
 | x :: p, .mk k c, u, hn => by
   simp only [nodeTo] at hn
   split at hn
   · rename_i hx
     have hN : x.toNat < c.length := by omega
     rw [List.getD_eq_getElem?_getD, List.getElem?_eq_getElem hN] at hn
     exact (nodeTo_sub p hn).trans (kid_sub _ hN)
   · cases hn
theorem sink_pass {K c : Int} (hc : c = K ∨ c = K + 1) : ∀ (p : List Int) {t u : Tr}, Well t → nodeTo p t = some u → K ∈ u.keys → sink c t = p ++ sink c u
 | [], t, u, hw, hn, hk => by simp only [nodeTo, Option.some.injEq] at hn; rw [hn]; rfl
 | x :: p, .mk k cs, u, hw, hn, hk => by
   simp only [nodeTo] at hn
   split at hn
   · rename_i hx
     obtain ⟨N, rfl⟩ : ∃ N : Nat, x = N := ⟨x.toNat, by omega⟩
     rw [Int.toNat_natCast] at hn
     have hN : N < cs.length := by omega
     rw [List.getD_eq_getElem?_getD, List.getElem?_eq_getElem hN] at hn
     have hcl := Well.inner hw (by omega)
     have hmem : K ∈ cs[N].keys := (nodeTo_sub p hn).subset hk
     obtain ⟨s1, s2⟩ := kid_sides hw N hN hmem
     have hpl : place c k = N := by
       refine place_eq (by omega) (fun j hj => ?_) (fun hj => ?_)
       · have := s1 j hj; omega
       · have := s2 hj; omega
     have hi : place c k < cs.length := by omega
     rw [sink_inner hi]
     have e : cs[place c k] = cs[N] := by simp only [hpl]
     rw [e, hpl, sink_pass hc p (hw.kid _ hN) hn hk]; rfl
   · cases hn
theorem own_mem {k : List Int} {cs : List Tr} {N : Nat} (hN : N < k.length) : k.getD N 0 ∈ (Tr.mk k cs).keys :=
 (own_sub k cs).subset (by rw [List.getD_eq_getElem?_getD, List.getElem?_eq_getElem hN]; exact List.getElem_mem hN)
theorem goF_pass {t : Tr} {ks : List Int} (hs : someB t = true) {k : List Int} {cs : List Tr} (hn : nodeTo ks t = some (.mk k cs)) {N : Nat} (hN : N < k.length) {c : Int} (hc : c = k.getD N 0 ∨ c = k.getD N 0 + 1) : goF c t ks = goF c t [] := by
 rw [goF_at hn, goF_at rfl, List.nil_append, sink_pass hc ks (Well.of_some hs) hn (own_mem hN)]
theorem goB_pass {t : Tr} {ks : List Int} (hs : someB t = true) {k : List Int} {cs : List Tr} (hn : nodeTo ks t = some (.mk k cs)) {N : Nat} (hN : N < k.length) {c : Int} (hc : c = k.getD N 0 ∨ c = k.getD N 0 + 1) : goB c t ks = goB c t [] := by
 rw [goB_at hn, goB_at rfl, List.nil_append, sink_pass hc ks (Well.of_some hs) hn (own_mem hN)]
theorem goF_self {t : Tr} {ks : List Int} (hs : someB t = true) {k : List Int} {cs : List Tr} (hn : nodeTo ks t = some (.mk k cs)) {N : Nat} (hN : N < k.length) : goF (k.getD N 0) t [] = (ks, (N : Int), true) := by
 have hw := nodeTo_well ks (Well.of_some hs) hn
 obtain ⟨hp, -⟩ := place_of hw.keys hN
 rw [← goF_pass hs hn hN (.inl rfl), goF_at hn]
 by_cases h0 : cs.length = 0
 · rw [sink_leaf h0, hp]
   exact upF_stop (by rw [lenAt_of hn]; simp only [Tr.ks]; omega)
 · have hcl := Well.inner hw h0
   have hi : N < cs.length := by omega
   have hi' : place (k.getD N 0) k < cs.length := by omega
   rw [sink_inner hi']
   simp only [hp]
   rw [List.append_cons, upF_full (nodeTo_snoc hn hi) (hw.kid _ hi) (fun x hx => (kid_sides hw N hi hx).2 hN)]
   exact upF_stop (by rw [lenAt_of hn]; simp only [Tr.ks]; omega)
end Tr
end Go.Proofs.YticfkfjijnfcbaaDoor
/- The cursors of a tree in the order of its keys: plain data. -/
namespace Go.Proofs.YticfkfjijnfcbaaDoor
open Go.RowKit
namespace Tr
def curAt (t : Tr) (i : Nat) : List Int × Int × Bool := goF (t.keys.getD i 0) t []
theorem keys_place {ks : List Int} (h : ks.Pairwise (· < ·)) {i : Nat} (hi : i < ks.length) : place (ks.getD i 0) ks = i ∧ place (ks.getD i 0 + 1) ks = i + 1 := place_of h hi
theorem goF_curAt {t : Tr} (hs : someB t = true) (c : Int) : (place c t.keys < t.keys.length → goF c t [] = curAt t (place c t.keys)) ∧ (¬ place c t.keys < t.keys.length → goF c t [] = ([], 0, false)) := by
 obtain ⟨h1, h2⟩ := seek_key c t.weight t (Nat.le_refl _) (Well.of_some hs)
 have e : goF c t [] = upF t (sink c t) := goF_at rfl
 constructor
 · intro h
   obtain ⟨P, A, k, cs, g1, g2, g3, g4⟩ := h1 h
   have := goF_self hs g2 g3
   rw [g4] at this
   rw [e, g1, curAt, this]
 · intro h
   rw [e, h2 h]
theorem curAt_at {t : Tr} (hs : someB t = true) {i : Nat} (hi : i < t.keys.length) : ∃ P A k cs, curAt t i = (P, ((A : Nat) : Int), true) ∧ nodeTo P t = some (.mk k cs) ∧ A < k.length ∧ k.getD A 0 = t.keys.getD i 0 := by
 have hw := Well.of_some hs
 obtain ⟨h1, -⟩ := seek_key (t.keys.getD i 0) t.weight t (Nat.le_refl _) hw
 have hp := (keys_place hw.2 hi).1
 rw [hp] at h1
 obtain ⟨P, A, k, cs, g1, g2, g3, g4⟩ := h1 hi
 exact ⟨P, A, k, cs, by rw [curAt, goF_at rfl]; exact g1, g2, g3, g4⟩
theorem curB_at {t : Tr} (hs : someB t = true) {P : List Int} {A : Nat} {k : List Int} {cs : List Tr} (hn : nodeTo P t = some (.mk k cs)) (hA : A < k.length) : curB t P A = true ∧ curK t P A = k.getD A 0 := by
 have h : curB t P A = true := by unfold curB; rw [hn]; simp [hs, inB]; omega
 exact ⟨h, by rw [(curK_at h hn).1]; simp⟩
theorem curAt_facts {t : Tr} (hs : someB t = true) {i : Nat} (hi : i < t.keys.length) :
   curB t (curAt t i).1 (curAt t i).2.1 = true ∧ curK t (curAt t i).1 (curAt t i).2.1 = t.keys.getD i 0 ∧ (curAt t i).2.2 = true ∧ (curAt t i).1.length ≤ 5 ∧
   walkB t (curAt t i).1 (curAt t i).2.1 (fun K => goF (K + 1) t (curAt t i).1) = (if i + 1 < t.keys.length then curAt t (i + 1) else ([], 0, false)) := by
 obtain ⟨P, A, k, cs, g1, g2, g3, g4⟩ := curAt_at hs hi
 obtain ⟨b1, b2⟩ := curB_at hs g2 g3
 rw [g1]
 refine ⟨b1, by rw [b2, g4], rfl, nodeTo_few hs g2, ?_⟩
 rw [walkB_at b1 g2, Int.toNat_natCast, goF_pass hs g2 g3 (.inr rfl), g4]
 have hp := (keys_place (Well.of_some hs).2 hi).2
 obtain ⟨h1, h2⟩ := goF_curAt hs (t.keys.getD i 0 + 1)
 rw [hp] at h1 h2
 split
 · rename_i h; exact h1 h
 · rename_i h; exact h2 h
end Tr
end Go.Proofs.YticfkfjijnfcbaaDoor
