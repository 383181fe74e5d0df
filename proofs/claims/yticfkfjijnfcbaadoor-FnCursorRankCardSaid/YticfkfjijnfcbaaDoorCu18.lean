/- append to an empty slice that has no room: the old blocks are as they were. -/
import Derived.Test.YticfkfjijnfcbaaDoorCuS11
import Derived.Test.YticfkfjijnfcbaaDoorCuS22
import Derived.Deep.AppendSrc
/- The model's SeekCursor. -/
namespace Go.Proofs.YticfkfjijnfcbaaDoor
open Go.RowKit
def Tr.seekB (t : Tr) (key : Int) : List Int × Int × Bool := if t.someB = true then Tr.seekCur t key else ([], 0, false)
set_option maxHeartbeats 2000000 in
set_option maxRecDepth 100000 in
theorem specSeek_c {w : World} {B : Nat} {kv cv : Value} {t : Tr} (ht : TreeIn w B kv cv t) (hw : t.weight ≤ 1048576) (key : Int) (w' : World) (hbw : Below B w w') (hB : B ≤ w'.heap.size) :
   Calls Tryd.prog 26 #[.agg #[kv, cv], .int .i64 key] w' (Told w' (Tr.seekB t key)) := by
 obtain ⟨r, hr⟩ : ∃ r, r = Tr.seekB t key := ⟨_, rfl⟩
 rw [← hr]
 have HR := Lib.hid hr
 clear hr
 have HT := Lib.hid ht
 obtain ⟨g1, g2, g3, g4, g5, g6, rfl, rfl⟩ := ht.slices
 obtain ⟨W2, hW2⟩ : ∃ W2, W2 = (w'.alloc (.cells #[.slice g1 g2 g3, .slice g4 g5 g6] 33)).alloc (.cells #[.slice none 0 0, .int .i64 0] 28) := ⟨_, rfl⟩
 have hb2 : Below w'.heap.size w' W2 := by rw [hW2]; exact ((Below.refl _ _).alloc (Nat.le_refl _) _).alloc (by simp) _
 have hs2 : W2.heap.size = w'.heap.size + 2 := by rw [hW2]; simp
 have k0 : W2.heap[w'.heap.size]? = some (.cells #[.slice g1 g2 g3, .slice g4 g5 g6] 33 (0, 0)) := by rw [hW2, old_blk _ _ _ (by simp), new_blk]
 have k1 : W2.heap[w'.heap.size + 1]? = some (.cells #[.slice none 0 0, .int .i64 0] 28 (0, 0)) := by
   rw [hW2, show w'.heap.size + 1 = (w'.alloc (.cells #[.slice g1 g2 g3, .slice g4 g5 g6] 33)).heap.size by simp, new_blk]
 have k0x := k0
 rw [hW2] at k0x
 obtain ⟨x1, x2, x3, x4⟩ := box2 k0x
 have hlt2 : w'.heap.size + 1 < W2.heap.size := by omega
 have HB2 := Lib.hid (And.intro hb2 (And.intro k0 k1))
 -- the boxes, whatever comes
 have BOX : Hid (∀ wx : World, Below W2.heap.size W2 wx → wx.heap[w'.heap.size]? = some (.cells #[.slice g1 g2 g3, .slice g4 g5 g6] 33 (0, 0)) ∧ wx.heap[w'.heap.size + 1]? = some (.cells #[.slice none 0 0, .int .i64 0] 28 (0, 0)) ∧ Below B w wx ∧ Below w'.heap.size w' wx) :=
   Lib.hid (fun wx hx => ⟨(hx.block _ (by omega)).trans k0, (hx.block _ hlt2).trans k1, hbw.trans ((hb2.trans (hx.mono (by omega))).mono hB), hb2.trans (hx.mono (by omega))⟩)
 have hBle : B ≤ W2.heap.size := by omega
 have HW2 := Lib.hid hW2
 clear ht hbw hW2 hb2 hs2 k0 k1 k0x
 go_enter Tryd.func26, Tryd.ntmps26
 go_wp2_with fail
 rw [← HW2.out]
 refine (l2Valid_c HT.out hw W2 (BOX.out _ (Below.refl _ _)).2.2.1 hBle).mono ?_
 rintro e w3 ⟨rfl, hb3⟩
 have hs3 := hb3.size
 clear x1 x2 x3 x4
 obtain ⟨x1, x2, x3, x4⟩ := box2 (BOX.out w3 hb3).1
 obtain ⟨y1, y2, y3, y4⟩ := box2 (BOX.out w3 hb3).2.1
 have H3 := Lib.hid hb3
 clear hb3
 cases hv : t.someB with
 | false =>
   have hr : r = ([], 0, false) := by rw [HR.out, Tr.seekB, if_neg (by rw [hv]; simp)]
   have HN := Lib.hid hr
   clear hr hv
   go_wp2_with fail
   have d := set_blk (o := 1) (.int .i64 0) (set_blk (o := 0) (.slice none 0 0) (BOX.out w3 H3.out).2.1)
   obtain ⟨t1, t2, -, -⟩ := box2 d
   refine bodyPost_ret (v := .tuple #[.agg #[.slice none 0 0, .int .i64 0], .bool false]) (by simp [results, Tryd.results26, go_sem, t1, t2]) rfl ?_
   rw [HN.out]
   exact Told.none (((BOX.out w3 H3.out).2.2.2.setCell (by show w'.heap.size ≤ w'.heap.size + 1; omega) _).setCell (by show w'.heap.size ≤ w'.heap.size + 1; omega) _)
 | true =>
   have hpb := (someB_path key t).1 hv
   obtain ⟨uk, uc, M, hn, -⟩ := Tr.path_sink key t.weight t (Nat.le_refl _) (Tr.Well.of_some hv)
   have hr : r = if place key uk < uk.length then ((t.path key).1, (place key uk : Int), true) else Tr.upF t (t.path key).1 := by
     rw [HR.out, Tr.seekB, if_pos hv, Tr.seekCur, hn]
   have hfew := Tr.nodeTo_few hv hn
   obtain ⟨P, hP⟩ : ∃ P, P = (t.path key).1 := ⟨_, rfl⟩
   rw [← hP] at hr hn hfew
   have HN := Lib.hid (And.intro hr (And.intro hn hfew))
   have HPB := Lib.hid (show (t.pathB key).1 = P by rw [hpb, hP])
   clear hr hn hfew hv hpb hP
   go_wp2_with fail
   refine (specPathOf_c HT.out hw key w3 (BOX.out w3 H3.out).2.2.1 (by omega)).mono ?_
   rintro e w4 ⟨v4, rfl, hown4, hb4⟩
   rw [HPB.out] at hown4
   obtain ⟨a4, c4, rfl⟩ := IntsOwn.shown hown4
   have hs4 := hb4.size
   have h24 : Below W2.heap.size W2 w4 := H3.out.trans (hb4.mono hs3)
   have H4 := Lib.hid (And.intro h24 hown4)
   clear x1 x2 x3 x4 y1 y2 y3 y4
   obtain ⟨x1, x2, x3, x4⟩ := box2 (BOX.out w4 h24).1
   clear hb4 h24 hown4
   go_wp2_with fail
   refine (l8Node_c ((HT.out.later (BOX.out w4 H4.out.1).2.2.1 (Nat.le_refl _)).wider (by omega : B ≤ w4.heap.size)) H4.out.2.in w4 (Below.refl _ _) (Nat.le_refl _)).mono ?_
   rintro e w5 ⟨hno, hb5⟩
   rcases hno with ⟨u1, ku, cu, hnd, rfl, hu⟩ | ⟨hnone, rfl⟩
   case inr => rw [HN.out.2.1] at hnone; cases hnone
   obtain rfl : u1 = .mk uk uc := by rw [HN.out.2.1] at hnd; exact (Option.some.inj hnd).symm
   have hs5 := hb5.size
   obtain ⟨ca, ccap, kvs, cvs, rfl, hik, -, -, -, -⟩ := hu.parts
   have HIK := Lib.hid hik
   obtain ⟨ka, kcap, rfl, hk1, hk2, -⟩ := hik
   unfold maxLen at hk2
   have h25 : Below W2.heap.size W2 w5 := H4.out.1.trans (hb5.mono (by omega))
   have hown5 : IntsOwn w5 w3.heap.size (.slice a4 P.length c4) P := H4.out.2.later hb5 (Nat.le_refl _)
   obtain ⟨W6, hW6⟩ : ∃ W6, W6 = w5.alloc (.cells #[.slice ka uk.length kcap, .slice ca uc.length ccap] 33) := ⟨_, rfl⟩
   have hs6 : W6.heap.size = w5.heap.size + 1 := by rw [hW6]; simp
   have hb6 : Below w5.heap.size w5 W6 := by rw [hW6]; exact (Below.refl _ _).alloc (Nat.le_refl _) _
   have d2 : W6.heap[w5.heap.size]? = some (.cells #[.slice ka uk.length kcap, .slice ca uc.length ccap] 33 (0, 0)) := by rw [hW6, new_blk]
   have h26 : Below W2.heap.size W2 W6 := h25.trans (hb6.mono (by omega))
   have hown6 := hown5.later hb6 (Nat.le_refl _)
   have HPL := Lib.hid (l2Place_c W6 w4.heap.size (HIK.out.later (hb5.trans (hb6.mono hs5)) (Nat.le_refl _)) key)
   obtain ⟨q1, q2, q3, q4⟩ := box2 d2
   rw [hW6] at q1 q2 q3 q4
   have H6 := Lib.hid (And.intro h26 (And.intro hown6 (And.intro d2 hs6)))
   have HW6 := Lib.hid hW6
   clear hnd hu hb5 h25 hown5 hW6 hb6 d2 h26 hown6 x1 x2 x3 x4 hs6
   go_wp2_with fail
   rw [← HW6.out]
   refine HPL.out.mono ?_
   rintro e w7 ⟨rfl, hb7⟩
   have hs7 := hb7.size
   have hz6 := H6.out.2.2.2
   have hz6x : w5.heap.size ≤ W6.heap.size := by omega
   have h27 : Below W2.heap.size W2 w7 := H6.out.1.trans (hb7.mono (by omega))
   have hown7 := H6.out.2.1.later hb7 (Nat.le_refl _)
   have d7 := (hb7.block w5.heap.size (by omega)).trans H6.out.2.2.1
   clear q1 q2 q3 q4
   obtain ⟨q1, q2, q3, q4⟩ := box2 d7
   obtain ⟨x1, x2, x3, x4⟩ := box2 (BOX.out w7 h27).1
   obtain ⟨y1, y2, y3, y4⟩ := box2 (BOX.out w7 h27).2.1
   have hpl := place_le key uk
   obtain ⟨i, hi⟩ : ∃ i, i = place key uk := ⟨_, rfl⟩
   rw [← hi] at hpl ⊢
   have HI := Lib.hid hi
   have H7 := Lib.hid (And.intro h27 hown7)
   clear hb7 h27 hown7 d7 hz6 hi
   by_cases hlt : i < uk.length
   · have hr : r = (P, (i : Int), true) := by rw [HN.out.1, ← HI.out, if_pos hlt]
     have HRR := Lib.hid hr
     have hlti : (i : Int) < (uk.length : Int) := by omega
     clear hr
     go_wp2_with fail
     have d := set_blk (o := 1) (.int .i64 (i : Int)) (set_blk (o := 0) (.slice a4 P.length c4) (BOX.out w7 H7.out.1).2.1)
     obtain ⟨t1, t2, -, -⟩ := box2 d
     refine bodyPost_ret (v := .tuple #[.agg #[.slice a4 P.length c4, .int .i64 (i : Int)], .bool true]) (by simp [results, Tryd.results26, go_sem, t1, t2]) rfl ⟨.slice a4 P.length c4, by rw [HRR.out], ?_, ?_⟩
     · rw [HRR.out]
       exact (H7.out.2.only (w' := (w7.setCell ⟨w'.heap.size + 1, 0, none⟩ (.slice a4 P.length c4)).setCell ⟨w'.heap.size + 1, 1, none⟩ (.int .i64 (i : Int))) (C := w7.heap.size) (r := w'.heap.size + 1) ⟨rfl, rfl, rfl, by simp, fun k _ hne => by rw [set_other _ _ _ _ _ hne, set_other _ _ _ _ _ hne]⟩ (Nat.le_refl _) (by omega)).lower (by omega)
     · exact ((BOX.out w7 H7.out.1).2.2.2.setCell (by show w'.heap.size ≤ w'.heap.size + 1; omega) _).setCell (by show w'.heap.size ≤ w'.heap.size + 1; omega) _
   · have hr : r = Tr.upF t P := by rw [HN.out.1, ← HI.out, if_neg hlt]
     have HUP := Lib.hid (show Calls Tryd.prog 71 #[.agg #[.slice g1 g2 g3, .slice g4 g5 g6], .slice a4 P.length c4, .bool false] w7 (Told w7 r) by
       rw [hr]
       exact l8UpF_c ((HT.out.later (BOX.out w7 H7.out.1).2.2.1 (Nat.le_refl _)).wider (by omega : B ≤ w7.heap.size)) H7.out.2.in HN.out.2.1 hw (by have := HN.out.2.2; omega) w7 (Below.refl _ _) (Nat.le_refl _))
     have hlti : ¬ (i : Int) < (uk.length : Int) := by omega
     clear hr
     go_wp2_with fail
     refine HUP.out.mono ?_
     rintro e w8 ⟨v8, rfl, hown8, hb8⟩
     obtain ⟨a8, c8, rfl⟩ := IntsOwn.shown hown8
     have hs8 := hb8.size
     have h28 : Below W2.heap.size W2 w8 := H7.out.1.trans (hb8.mono (by omega))
     clear x1 x2 x3 x4 y1 y2 y3 y4 q1 q2 q3 q4
     obtain ⟨y1, y2, y3, y4⟩ := box2 (BOX.out w8 h28).2.1
     obtain ⟨P8, A8, ok8⟩ := r
     have H8 := Lib.hid (And.intro h28 hown8)
     clear hb8 h28 hown8
     go_wp2_with fail
     have d := set_blk (o := 1) (.int .i64 A8) (set_blk (o := 0) (.slice a8 P8.length c8) (BOX.out w8 H8.out.1).2.1)
     obtain ⟨t1, t2, -, -⟩ := box2 d
     refine bodyPost_ret (v := .tuple #[.agg #[.slice a8 P8.length c8, .int .i64 A8], .bool ok8]) (by simp [results, Tryd.results26, go_sem, t1, t2]) rfl ⟨.slice a8 P8.length c8, rfl, ?_, ?_⟩
     · exact (H8.out.2.only (w' := (w8.setCell ⟨w'.heap.size + 1, 0, none⟩ (.slice a8 P8.length c8)).setCell ⟨w'.heap.size + 1, 1, none⟩ (.int .i64 A8)) (C := w8.heap.size) (r := w'.heap.size + 1) ⟨rfl, rfl, rfl, by simp, fun k _ hne => by rw [set_other _ _ _ _ _ hne, set_other _ _ _ _ _ hne]⟩ (Nat.le_refl _) (by omega)).lower (by omega)
     · exact ((BOX.out w8 H8.out.1).2.2.2.setCell (by show w'.heap.size ≤ w'.heap.size + 1; omega) _).setCell (by show w'.heap.size ≤ w'.heap.size + 1; omega) _
end Go.Proofs.YticfkfjijnfcbaaDoor
/- append to an empty slice that has no room: the old blocks are as they were. -/
namespace Go.Proofs.YticfkfjijnfcbaaDoor
open Go.RowKit
theorem wp_append_new {W : World} {o : Oper} {a : Act} {K : Act → World → Prop} {Q : Exit → Act → World → Prop} (s x : Operand)
   (ho : o.op = .call { callee := .builtin .append, args := #[s, x], argTypes := #[22, 22] })
   (lo g g2 : Nat) (y : Int) (hs : a.eval s = .slice (some ⟨g, 0, none⟩) 0 0) (hx : a.eval x = .slice (some ⟨g2, 0, none⟩) 1 1) (hown : IntsOwn W lo (.slice (some ⟨g, 0, none⟩) 0 0) []) (hlo : lo ≤ W.heap.size)
   (hc : W.cell? ⟨g2, 0, none⟩ = some (.int .i64 y))
   (h : ∀ v' w', IntsOwn w' lo v' [y] → Below W.heap.size W w' → K (a.put o.dst v') w') : o.wp Tryd.prog a W K Q := by
 obtain ⟨i0, hi, hz0, hz1, hz2⟩ := info_parts Tryd.appInfo
 have hcell : ∀ (j : Nat) (u : Value), ([.int .i64 y] : List Value)[j]? = some u → W.cell? ((⟨g2, 0, none⟩ : Addr).add j) = some u := fun j u hj => by
   have hj0 : j = 0 := by
     have := (List.getElem?_eq_some_iff.1 hj).1
     simpa using this
   subst hj0
   rw [Addr.add_lit]
   have hu : Value.int .i64 y = u := by simpa using hj
   rw [← hu]
   exact hc
 obtain ⟨g', cap', w', hr1, hown', -, -, -⟩ := run_append_lies (P := Tryd.prog) W 22 o.type lo 3 i0 (.int .i64 0) 1 8 Tryd.underlying22 hi hz0 hz1 hz2 rfl (by decide) _ 0 [] hown ⟨g2, 0, none⟩ 1 1 [.int .i64 y] (by simp) hcell (ints_oneCell .i64 [y]) (by decide) (by unfold maxLen; omega) (by omega) hlo _ rfl
 have hr2 := run_append_grow_src (P := Tryd.prog) W 22 22 o.type 3 i0 (.int .i64 0) Tryd.underlying22 hi hz0 (some ⟨g, 0, none⟩) 0 0 [] (run_firstCells_some W.drew i0.size 0 ⟨g, 0, none⟩ 0 0 [] (by simp) (fun j u hj => by simp at hj)) (.slice (some ⟨g2, 0, none⟩) 1 1) 1 [.int .i64 y]
   (Src.ofSlice W Tryd.underlying22 ⟨g2, 0, none⟩ 1 1 [.int .i64 y] (by rw [hz1]; rfl) hcell (ints_oneCell .i64 [y])) (by omega) (by decide) (by rw [hz2]; decide)
 have he := hr1.symm.trans hr2
 injection he with hv hw
 have hb : Below W.heap.size W w' := by rw [hw]; exact (Below.refl _ _).drew.alloc (by simp) _
 unfold Oper.wp execOp
 simp only [ho, resolve, invoke, builtin, Sem.run_bind, Sem.run_pure, Result.andThen_ok, List.map_toArray, List.map_cons, List.map_nil, hs, hx, hr1]
 exact h _ w' hown' hb
end Go.Proofs.YticfkfjijnfcbaaDoor
