/- Cursors and ranks: where seeking comes to, that going on is seeking, that a cursor is told by its key: plain data. -/
import Derived.Test.YticfkfjijnfcbaaDoorCu21
/- The model's CursorKey. -/
namespace Go.Proofs.YticfkfjijnfcbaaDoor
open Go.RowKit
set_option maxHeartbeats 2000000 in
set_option maxRecDepth 100000 in
theorem specCursorKey_c {w : World} {B : Nat} {kv cv v : Value} {t : Tr} {ks : List Int} (ht : TreeIn w B kv cv t) (hw : t.weight ≤ 1048576) (hk : IntsIn w B v ks) (a : Int) (w' : World) (hbw : Below B w w') (hB : B ≤ w'.heap.size) :
   Calls Tryd.prog 46 #[.agg #[kv, cv], .agg #[v, .int .i64 a]] w' fun e w'' => e = .returned (.tuple #[.int .i64 (Tr.curK t ks a), .bool (Tr.curB t ks a)]) ∧ Below w'.heap.size w' w'' := by
 have HT := Lib.hid ht
 have HK := Lib.hid hk
 obtain ⟨g1, g2, g3, g4, g5, g6, rfl, rfl⟩ := ht.slices
 obtain ⟨va, vcap, rfl, -⟩ := hk
 obtain ⟨W2, hW2⟩ : ∃ W2, W2 = (w'.alloc (.cells #[.slice g1 g2 g3, .slice g4 g5 g6] 33)).alloc (.cells #[.slice va ks.length vcap, .int .i64 a] 28) := ⟨_, rfl⟩
 have hb2 : Below w'.heap.size w' W2 := by rw [hW2]; exact ((Below.refl _ _).alloc (Nat.le_refl _) _).alloc (by simp) _
 have hs2 : W2.heap.size = w'.heap.size + 2 := by rw [hW2]; simp
 have k0 : W2.heap[w'.heap.size]? = some (.cells #[.slice g1 g2 g3, .slice g4 g5 g6] 33 (0, 0)) := by rw [hW2, old_blk _ _ _ (by simp), new_blk]
 have k1 : W2.heap[w'.heap.size + 1]? = some (.cells #[.slice va ks.length vcap, .int .i64 a] 28 (0, 0)) := by
   rw [hW2, show w'.heap.size + 1 = (w'.alloc (.cells #[.slice g1 g2 g3, .slice g4 g5 g6] 33)).heap.size by simp, new_blk]
 have BOX : Hid (∀ wx : World, Below W2.heap.size W2 wx → wx.heap[w'.heap.size]? = some (.cells #[.slice g1 g2 g3, .slice g4 g5 g6] 33 (0, 0)) ∧ wx.heap[w'.heap.size + 1]? = some (.cells #[.slice va ks.length vcap, .int .i64 a] 28 (0, 0))) :=
   Lib.hid (fun wx hx => ⟨(hx.block _ (by omega)).trans k0, (hx.block _ (by omega)).trans k1⟩)
 have k0x := k0
 have k1x := k1
 rw [hW2] at k0x k1x
 obtain ⟨x1, x2, x3, x4⟩ := box2 k0x
 obtain ⟨y1, y2, y3, y4⟩ := box2 k1x
 have hlt2 : w'.heap.size < W2.heap.size := by omega
 have HB2 := Lib.hid (And.intro hb2 (hbw.trans (hb2.mono hB)))
 have HW2 := Lib.hid hW2
 have HS2 := Lib.hid hs2
 clear ht hbw hW2 hb2 k0 k1 k0x k1x hs2
 go_enter Tryd.func46, Tryd.ntmps46
 go_wp2_with fail
 rw [← HW2.out]
 refine (specCursorValid_c HT.out hw HK.out a W2 HB2.out.2 (by omega)).mono ?_
 rintro e w3 ⟨rfl, hb3⟩
 have hs3 := hb3.size
 clear x1 x2 x3 x4 y1 y2 y3 y4
 obtain ⟨x1, x2, x3, x4⟩ := box2 (BOX.out w3 hb3).1
 obtain ⟨y1, y2, y3, y4⟩ := box2 (BOX.out w3 hb3).2
 have H3 := Lib.hid hb3
 clear hb3
 cases hc : Tr.curB t ks a with
 | false =>
   have HC := Lib.hid (And.intro (curK_no hc) hc)
   have HL := Lib.hid (HB2.out.1.trans (H3.out.mono (by omega)))
   clear hc
   go_wp2_with fail
   exact bodyPost_ret (v := .tuple #[.int .i64 0, .bool false]) (by simp [results, Tryd.results46]) rfl ⟨by rw [HC.out.1, HC.out.2], HL.out⟩
 | true =>
   have HC := Lib.hid hc
   have HND := Lib.hid (l8Node_c HT.out HK.out w3 (HB2.out.2.trans (H3.out.mono (by omega))) (by omega))
   clear hc
   go_wp2_with fail
   refine HND.out.mono ?_
   rintro e w4 ⟨hnode, hb4⟩
   have hb24 := H3.out.trans (hb4.mono hs3)
   have hs4 := hb24.size
   rcases hnode with ⟨⟨uk, uc⟩, ku, cu, hn, rfl, hu⟩ | ⟨hn, rfl⟩
   case inr =>
     have := HC.out
     unfold Tr.curB at this
     rw [hn] at this
     cases this
   obtain ⟨hk1, ha1, ha2, -⟩ := curK_at HC.out hn
   obtain ⟨ca, ccap, kvs, cvs, rfl, hik, -, -, -, -⟩ := hu.parts
   obtain ⟨ua, ucap, rfl, hu1, hu2, -, hu3⟩ := hik
   unfold maxLen at hu2
   obtain ⟨N, rfl⟩ : ∃ N : Nat, a = N := ⟨a.toNat, by omega⟩
   rw [Int.toNat_natCast] at hk1
   have hN : N < uk.length := by omega
   rcases hu3 with h0 | ⟨kb, ko, rfl, hkb, hkc⟩
   · simp [h0] at hN
   obtain ⟨W5, hW5⟩ : ∃ W5, W5 = w4.alloc (.cells #[.slice (some ⟨kb, ko, none⟩) uk.length ucap, .slice ca uc.length ccap] 33) := ⟨_, rfl⟩
   have hs5 : w4.heap.size < W5.heap.size := by rw [hW5]; simp
   have hb5 : Below w4.heap.size w4 W5 := by rw [hW5]; exact (Below.refl _ _).alloc (Nat.le_refl _) _
   have hx5 : W5.heap[w4.heap.size]? = some (.cells #[.slice (some ⟨kb, ko, none⟩) uk.length ucap, .slice ca uc.length ccap] 33 (0, 0)) := by rw [hW5, new_blk]
   have hb25 : Below W2.heap.size W2 W5 := hb24.trans (hb5.mono hs4)
   have hkN : W5.cell? ⟨kb, ko + N, none⟩ = some (.int .i64 (uk.getD N 0)) := by
     rw [below_cell (HB2.out.2.trans (hb25.mono (by omega))) hkb]; exact hkc N hN
   obtain ⟨K, hK⟩ : ∃ K, K = uk.getD N 0 := ⟨_, rfl⟩
   rw [← hK] at hkN hk1
   obtain ⟨z1, z2, z3, z4⟩ := box2 hx5
   obtain ⟨q1, q2, q3, q4⟩ := box2 (BOX.out W5 hb25).2
   rw [hW5] at hkN z1 z2 z3 z4 q1 q2 q3 q4
   have hNl : (N : Int) < (uk.length : Int) := by omega
   have HK1 := Lib.hid hk1
   have HL := Lib.hid (HB2.out.1.trans (hb25.mono (by omega)))
   have HW5 := Lib.hid hW5
   clear hn hu hb4 hb24 hkc hW5 hb5 hx5 hb25 hK hk1 ha1 ha2 x1 x2 x3 x4 y1 y2 y3 y4
   go_wp2_with fail
   rw [← HW5.out]
   exact bodyPost_ret (v := .tuple #[.int .i64 K, .bool true]) (by simp [results, Tryd.results46]) rfl ⟨by rw [HK1.out, HC.out], HL.out⟩
end Go.Proofs.YticfkfjijnfcbaaDoor
/- Cursors and ranks: where seeking comes to, that going on is seeking, that a cursor is told by its key: plain data. -/
namespace Go.Proofs.YticfkfjijnfcbaaDoor
open Go.RowKit
namespace Tr
theorem climb_cons (P : Nat → Bool) : ∀ n, climb P (n + 1) = if climb (fun i => P (i + 1)) n = 0 then (if P 0 then 1 else 0) else climb (fun i => P (i + 1)) n + 1
 | 0 => by simp [climb]
 | n + 1 => by
   rw [climb]
   by_cases h : P (n + 1) = true
   · rw [if_pos h, climb, if_pos h, if_neg (by omega)]
   · rw [if_neg h, climb_cons P n]
     have e : climb (fun i => P (i + 1)) (n + 1) = climb (fun i => P (i + 1)) n := by rw [climb, if_neg h]
     rw [e]
theorem lenAt_cons {k : List Int} {cs : List Tr} {i : Nat} (hi : i < cs.length) (p : List Int) : lenAt (.mk k cs) ((i : Int) :: p) = lenAt cs[i] p := by
 unfold lenAt
 rw [nodeTo, if_pos ⟨by omega, by omega⟩, Int.toNat_natCast, List.getD_eq_getElem?_getD, List.getElem?_eq_getElem hi]; rfl
theorem upF_cons {k : List Int} {cs : List Tr} {i : Nat} (hi : i < cs.length) (M : List Int) :
   upF (.mk k cs) ((i : Int) :: M) = if (upF cs[i] M).2.2 = true then ((i : Int) :: (upF cs[i] M).1, (upF cs[i] M).2.1, true) else if i < k.length then ([], (i : Int), true) else ([], 0, false) := by
 have hP : ∀ j, stopF (.mk k cs) ((i : Int) :: M) (j + 1) = stopF cs[i] M j := fun j => by
   unfold stopF
   rw [List.take_succ_cons, lenAt_cons hi, List.getD_cons_succ]
 have h0 : stopF (.mk k cs) ((i : Int) :: M) 0 = decide (i < k.length) := by
   unfold stopF lenAt
   simp [nodeTo, Tr.ks]
 unfold upF
 rw [List.length_cons, climb_cons, climb_congr (Q := stopF cs[i] M) M.length (fun j _ => hP j), h0]
 unfold upTo
 by_cases hz : climb (stopF cs[i] M) M.length = 0
 · rw [if_pos hz]
   simp only [hz, if_true]
   by_cases hk : i < k.length
   · simp [hk]
   · simp [hk]
 · rw [if_neg hz]
   obtain ⟨D, hD⟩ : ∃ D, climb (stopF cs[i] M) M.length = D + 1 := ⟨climb (stopF cs[i] M) M.length - 1, by omega⟩
   rw [hD]
   simp
theorem place_in {c : Int} : ∀ {a b : List Int}, place c a < a.length → place c (a ++ b) = place c a
 | [], _, h => by simp at h
 | x :: r, b, h => by
   simp only [place, List.cons_append, List.length_cons] at h ⊢
   split
   · rename_i hx
     rw [if_pos hx] at h
     rw [place_in (by omega)]
   · rfl
theorem place_ahead {c : Int} {a : List Int} (hs : a.Pairwise (· < ·)) (h : ¬ place c a < a.length) : ∀ x ∈ a, x < c := by
 intro x hx
 obtain ⟨i, hi, rfl⟩ := List.getElem_of_mem hx
 have hle := place_le c a
 have := place_lt (c := c) (k := a) (i := i) (by omega)
 simpa [List.getD_eq_getElem?_getD, hi] using this
theorem seek_key (c : Int) : ∀ (n : Nat) (t : Tr), t.weight ≤ n → Well t →
   (place c t.keys < t.keys.length → ∃ P A k cs, upF t (sink c t) = (P, ((A : Nat) : Int), true) ∧ nodeTo P t = some (.mk k cs) ∧ A < k.length ∧ k.getD A 0 = t.keys.getD (place c t.keys) 0) ∧
   (¬ place c t.keys < t.keys.length → upF t (sink c t) = ([], 0, false))
 | n, .mk k cs, hn, hw => by
   have hp := place_le c k
   by_cases h0 : cs.length = 0
   · rw [sink_leaf h0, keys_leaf h0]
     constructor
     · intro h
       refine ⟨[], place c k, k, cs, ?_, rfl, h, rfl⟩
       have := upF_stop (t := .mk k cs) (L := []) (x := (place c k : Int)) (by unfold lenAt; simp only [nodeTo, Tr.ks]; omega)
       simpa using this
     · intro h
       have := upF_skip (t := .mk k cs) (L := []) (M := [(place c k : Int)]) (fun i hi => by
         have : i = 0 := by simpa using hi
         subst this
         unfold stopF lenAt
         simp [nodeTo, Tr.ks]; omega)
       simpa [upF, upTo, climb] using this
   · have hcl := Well.inner hw h0
     have hi : place c k < cs.length := by omega
     have hwt := weight_get_le cs _ hi
     simp only [weight] at hn
     cases n with
     | zero => have := length_le_weights cs; omega
     | succ n =>
       obtain ⟨ih1, ih2⟩ := seek_key c n cs[place c k] (by omega) (hw.kid _ hi)
       obtain ⟨R, hkeys, hahead, hR⟩ := hw.split h0 c hi
       obtain ⟨U, hU⟩ : ∃ U, U = upto (keyss cs) k (place c k) := ⟨_, rfl⟩
       rw [← hU] at hkeys hahead
       rw [sink_inner hi, upF_cons hi, hkeys, place_append_lt hahead]
       by_cases hin : place c cs[place c k].keys < cs[place c k].keys.length
       · obtain ⟨P, A, k', cs', h1, h2, h3, h4⟩ := ih1 hin
         rw [h1, if_pos rfl, place_in hin]
         constructor
         · intro _
           refine ⟨(place c k : Int) :: P, A, k', cs', rfl, ?_, h3, ?_⟩
           · rw [nodeTo, if_pos ⟨by omega, by omega⟩, Int.toNat_natCast, List.getD_eq_getElem?_getD, List.getElem?_eq_getElem hi]; exact h2
           · rw [h4, getD_right (by omega), show U.length + place c cs[place c k].keys - U.length = place c cs[place c k].keys by omega, getD_left hin]
         · intro h
           exfalso
           simp only [List.length_append] at h
           omega
       · rw [ih2 hin]
         have hall := place_ahead (hw.kid _ hi).2 hin
         have hz : place c ((k[place c k]?).toList ++ R) = 0 := by
           have hb := behind_ge hR
           cases hl : (k[place c k]?).toList ++ R with
           | nil => rfl
           | cons x r => have := hb x r hl; simp only [place]; rw [if_neg (by omega)]
         rw [place_append_lt hall, hz, Nat.add_zero, if_neg (by simp)]
         by_cases hk : place c k < k.length
         · have e : (k[place c k]?).toList = [k.getD (place c k) 0] := by simp [hk, List.getD_eq_getElem?_getD]
           rw [if_pos hk, e]
           constructor
           · intro _
             refine ⟨[], place c k, k, cs, rfl, rfl, hk, ?_⟩
             rw [getD_right (by omega), show U.length + cs[place c k].keys.length - U.length = cs[place c k].keys.length by omega, getD_right (by omega), Nat.sub_self]; rfl
           · intro h
             exfalso
             simp only [List.length_append, List.length_singleton] at h
             omega
         · have e : (k[place c k]?).toList = [] := by rw [List.getElem?_eq_none (by omega)]; rfl
           rw [if_neg hk, e, hR (by omega)]
           constructor
           · intro h
             exfalso
             simp only [List.length_append, List.length_nil] at h
             omega
           · intro _; rfl
theorem nodeTo_sub : ∀ (p : List Int) {t u : Tr}, nodeTo p t = some u → u.keys.Sublist t.keys
 | [], t, u, hn => by simp only [nodeTo, Option.some.injEq] at hn; rw [hn]; exact List.Sublist.refl _
 | x :: p, .mk k c, u, hn => by
   simp only [nodeTo] at hn
   split at hn
   · rename_i hx
     have hN : x.toNat < c.length := by omega
     rw [List.getD_eq_getElem?_getD, List.getElem?_eq_getElem hN] at hn
     exact (nodeTo_sub p hn).trans (kid_sub _ hN)
   · cases hn
theorem sink_pass {K c : Int} (hc : c = K ∨ c = K + 1) : ∀ (p : List Int) {t u : Tr}, Well t → nodeTo p t = some u → K ∈ u.keys → sink c t = p ++ sink c u
 | [], t, u, hw, hn, hk => by simp only [nodeTo, Option.some.injEq] at hn; rw [hn]; rfl
 | x :: p, .mk k cs, u, hw, hn, hk => by
   simp only [nodeTo] at hn
   split at hn
   · rename_i hx
     obtain ⟨N, rfl⟩ : ∃ N : Nat, x = N := ⟨x.toNat, by omega⟩
     rw [Int.toNat_natCast] at hn
     have hN : N < cs.length := by omega
     rw [List.getD_eq_getElem?_getD, List.getElem?_eq_getElem hN] at hn
     have hcl := Well.inner hw (by omega)
     have hmem : K ∈ cs[N].keys := (nodeTo_sub p hn).subset hk
     obtain ⟨s1, s2⟩ := kid_sides hw N hN hmem
     have hpl : place c k = N := by
       refine place_eq (by omega) (fun j hj => ?_) (fun hj => ?_)
       · have := s1 j hj; omega
       · have := s2 hj; omega
     have hi : place c k < cs.length := by omega
     rw [sink_inner hi]
     have e : cs[place c k] = cs[N] := by simp only [hpl]
     rw [e, hpl, sink_pass hc p (hw.kid _ hN) hn hk]; rfl
   · cases hn
theorem own_mem {k : List Int} {cs : List Tr} {N : Nat} (hN : N < k.length) : k.getD N 0 ∈ (Tr.mk k cs).keys :=
 (own_sub k cs).subset (by rw [List.getD_eq_getElem?_getD, List.getElem?_eq_getElem hN]; exact List.getElem_mem hN)
theorem goF_pass {t : Tr} {ks : List Int} (hs : someB t = true) {k : List Int} {cs : List Tr} (hn : nodeTo ks t = some (.mk k cs)) {N : Nat} (hN : N < k.length) {c : Int} (hc : c = k.getD N 0 ∨ c = k.getD N 0 + 1) : goF c t ks = goF c t [] := by
 rw [goF_at hn, goF_at rfl, List.nil_append, sink_pass hc ks (Well.of_some hs) hn (own_mem hN)]
theorem goF_self {t : Tr} {ks : List Int} (hs : someB t = true) {k : List Int} {cs : List Tr} (hn : nodeTo ks t = some (.mk k cs)) {N : Nat} (hN : N < k.length) : goF (k.getD N 0) t [] = (ks, (N : Int), true) := by
 have hw := nodeTo_well ks (Well.of_some hs) hn
 obtain ⟨hp, -⟩ := place_of hw.keys hN
 rw [← goF_pass hs hn hN (.inl rfl), goF_at hn]
 by_cases h0 : cs.length = 0
 · rw [sink_leaf h0, hp]
   exact upF_stop (by rw [lenAt_of hn]; simp only [Tr.ks]; omega)
 · have hcl := Well.inner hw h0
   have hi : N < cs.length := by omega
   have hi' : place (k.getD N 0) k < cs.length := by omega
   rw [sink_inner hi']
   simp only [hp]
   rw [List.append_cons, upF_full (nodeTo_snoc hn hi) (hw.kid _ hi) (fun x hx => (kid_sides hw N hi hx).2 hN)]
   exact upF_stop (by rw [lenAt_of hn]; simp only [Tr.ks]; omega)
end Tr
end Go.Proofs.YticfkfjijnfcbaaDoor
