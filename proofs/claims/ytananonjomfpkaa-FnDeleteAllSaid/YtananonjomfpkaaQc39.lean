/- For every slice of bytes, the law on deleting a list of keys returns true and leaves its arguments as they were; no conditions. -/
import Derived.Test.YtananonjomfpkaaQc10
import Derived.Test.YtananonjomfpkaaQc38
import Derived.Test.YtananonjomfpkaaRows
import Derived.Test.YtananonjomfpkaaQcS0
/- The law on deleting a list of keys: the walk over the contracts. -/
namespace Go.Proofs.Ytananonjomfpkaa
open Go.RowKit
theorem none_rows2 {w : World} {B : Nat} {b1 b4 : Option Addr} {b2 b3 b5 b6 : Nat} (h : TreeIn w B (.slice b1 b2 b3) (.slice b4 b5 b6) (.mk [] [])) : b2 = 0 ∧ b5 = 0 := by
 obtain ⟨_, _, _, _, hc, ⟨_, _, hv, _⟩, _⟩ := h.parts
 injection hc with _ e1 _
 injection hv with _ e2 _
 exact ⟨e2, e1⟩
def leftOf' (ks K : List Int) : List Int := K.filter (fun x => !decide (x ∈ ks))
theorem leftOf_snoc (ks K : List Int) {j : Nat} (h : j < K.length) : leftOf' ks (K.take (j + 1)) = if K.getD j 0 ∈ ks then leftOf' ks (K.take j) else leftOf' ks (K.take j) ++ [K.getD j 0] := by
 have e : K.take (j + 1) = K.take j ++ [K.getD j 0] := by
   rw [List.take_add_one, List.getElem?_eq_getElem h, List.getD_eq_getElem?_getD, List.getElem?_eq_getElem h]
   rfl
 unfold leftOf'
 rw [e, List.filter_append]
 generalize K.getD j 0 = k
 by_cases hm : k ∈ ks
 · rw [if_pos hm]; simp [hm]
 · rw [if_neg hm]; simp [hm]
theorem own_cells {w : World} {lo : Nat} {a : Option Addr} {n c : Nat} {K : List Int} (h : IntsOwn w lo (.slice a n c) K) (h0 : K.length ≠ 0) : ∃ g, a = some ⟨g, 0, none⟩ ∧ lo ≤ g ∧ g < w.heap.size ∧ ∀ i, i < K.length → w.cell? ⟨g, i, none⟩ = some (.int .i64 (K.getD i 0)) := by
 have hh := h
 obtain ⟨h1, ⟨h2, h3⟩ | ⟨g, cap, cur, hv, hb, hg, hn, hm, hs, ht⟩⟩ := h
 · exact absurd h3 h0
 · injection hv with e1 e2 e3
   subst e1 e2 e3
   refine ⟨g, rfl, hb, (Array.getElem?_eq_some_iff.1 hg).1, fun i hi => ?_⟩
   have := World.ownsRow.cellAt hh i (by omega)
   rw [this]
   simp [hi, List.getD_eq_getElem?_getD]
theorem rowF_intsIn {w : World} {F : Cells} {v : Value} {l : List Int} (h : RowF w F v (l.map (Value.int .i64))) : IntsIn w w.heap.size v l := by
 obtain ⟨h0, a, cap, hv, h1, h2, h3, h4⟩ := h
 simp only [List.length_map] at hv h1
 refine ⟨a, cap, hv, h1, h2, h3, ?_⟩
 rcases h4 with h4 | ⟨b, o, h5, h6, h7⟩
 · left; exact List.eq_nil_of_length_eq_zero (by omega)
 · by_cases hl : l = []
   · exact .inl hl
   · have hl0 : 0 < l.length := List.length_pos_iff.2 hl
     refine .inr ⟨b, o, h5, h0 b _ (h6 0 (by omega)).1, fun i hi => ?_⟩
     rw [h7 i (by simpa using hi)]
     simp [hi]
theorem Tr.gone_left {wide : Int} {t : Tr} {ks : List Int} (h : Tr.askAll wide t ks = true) : (Tr.goneT wide t ks).keys = leftOf' ks t.keys := by
 obtain ⟨v, m⟩ := Tr.gone_facts h
 have hv : Tr.validB wide t = true := by simp only [Tr.askAll, Bool.and_eq_true] at h; exact h.1
 refine sorted_ext _ _ (pairwise_of_sorted (Tr.valid_keys v)) ((pairwise_of_sorted (Tr.valid_keys hv)).filter _) (fun x => ?_)
 rw [m x]
 unfold leftOf'
 simp
set_option maxHeartbeats 4000000 in
set_option maxRecDepth 100000 in
theorem fnDeleteAll_c {w : World} {v1 : Value} {bs1 : List Nat} (h1 : BytesIn w w.heap.size v1 bs1) :
   Calls Try.prog 10 #[v1] w fun e w' => e = .returned (.bool true) ∧ Below w.heap.size w w' := by
 have H1 := Lib.hid h1
 obtain ⟨a1, c1, rfl, -⟩ := h1
 by_cases hc1 : bs1.length ≤ 1048576
 case neg =>
   have hc1' : ((bs1.length : Int) > 1048576) := by omega
   go_enter Try.func10, Try.ntmps10
   go_wp2_with fail
   go_ret
   exact ⟨rfl, Below.refl _ _⟩
 have hc1' : ¬ ((bs1.length : Int) > 1048576) := by omega
 have HD1 := Lib.hid (drawDelAll_c H1.out w (Below.refl _ _) (Nat.le_refl _))
 go_enter Try.func10, Try.ntmps10
 go_wp2_with fail
 refine HD1.out.mono ?_
 rintro e w2 ⟨k2, d2, v2, t, wide, ks, rfl, ⟨hwd1, hwd2⟩, ht2, hw2, hi2, hkl, hb2⟩
 obtain ⟨b1, b2, b3, b4, b5, b6, rfl, rfl⟩ := ht2.slices
 obtain ⟨oa, oc, rfl⟩ := IntsOwn.shown hi2
 have hs2 := hb2.size
 obtain ⟨W3, hW3⟩ : ∃ W3, W3 = w2.alloc (.cells #[.slice b1 b2 b3, .slice b4 b5 b6] 26) := ⟨_, rfl⟩
 have hs3 : w2.heap.size < W3.heap.size := by rw [hW3]; simp
 have hb3 : Below w2.heap.size w2 W3 := by rw [hW3]; exact (Below.refl _ _).alloc (Nat.le_refl _) _
 have hx3 : W3.heap[w2.heap.size]? = some (.cells #[.slice b1 b2 b3, .slice b4 b5 b6] 26 (0, 0)) := by rw [hW3, new_blk]
 have hta3 : TreeA W3 (.slice b1 b2 b3) (.slice b4 b5 b6) t := (ht2.a (fun k hk => hk.2)).later hb3 (Nat.le_refl _)
 have hin3 : IntsIn W3 W3.heap.size (.slice oa ks.length oc) ks := (IntsOwn.inB (IntsOwn.later hi2 hb3 (Nat.le_refl _)) (Nat.le_refl _))
 have hwt : t.weight ≤ 1048576 := by omega
 have HTA := Lib.hid hta3
 have HIN := Lib.hid hin3
 have HBX := Lib.hid (And.intro (hb2.trans (hb3.mono (by omega))) hx3)
 have HI3 := Lib.hid (impl_deleteAll hta3.tree hwt hin3 wide (by omega) (by omega) W3 (Below.refl _ _) (Nat.le_refl _) (Nat.le_refl _))
 obtain ⟨A, hA⟩ : ∃ A, A = Tr.askAll wide t ks := ⟨_, rfl⟩
 rw [← hA] at HI3
 have HA := Lib.hid hA
 have hx3x := hx3
 rw [hW3] at hx3x
 obtain ⟨x1, x2, x3, x4⟩ := box2 hx3x
 have HW3 := Lib.hid hW3
 clear ht2 hb2 hW3 hb3 hx3 hx3x hta3 hin3 hi2 hA
 go_wp2_with fail
 rw [← HW3.out]
 refine HI3.out.mono ?_
 rintro e w4 ⟨k4, c4, P4, rfl, ho4, hb4⟩
 obtain ⟨p1, p2, p3, p4, p5, p6, rfl, rfl⟩ := ho4.tree.slices
 have hs4 := hb4.size
 obtain ⟨W5, hW5⟩ : ∃ W5, W5 = w4.alloc (.cells #[.slice p1 p2 p3, .slice p4 p5 p6] 26) := ⟨_, rfl⟩
 have hs5 : w4.heap.size < W5.heap.size := by rw [hW5]; simp
 have hb45 : Below w4.heap.size w4 W5 := by rw [hW5]; exact (Below.refl _ _).alloc (Nat.le_refl _) _
 have hb5 : Below W3.heap.size W3 W5 := hb4.trans (hb45.mono (by omega))
 have hk5 : W5.heap[w4.heap.size]? = some (.cells #[.slice p1 p2 p3, .slice p4 p5 p6] 26 (0, 0)) := by rw [hW5, new_blk]
 have htx5 : TreeA W5 (.slice p1 p2 p3) (.slice p4 p5 p6) (Tr.goneT wide t ks) := (ho4.later hb45 (Nat.le_refl _)).a
 have HTX5 := Lib.hid htx5
 have HS5 := Lib.hid (specDeleteAll_c HTA.out.tree hwt HIN.out wide W5 hb5 (by omega) (Nat.le_refl _))
 rw [← HA.out] at HS5
 have hq5 := (hb5.block _ hs3).trans HBX.out.2
 have HB5 := Lib.hid (And.intro hb5 (And.intro hq5 hk5))
 have hq5x := hq5
 rw [hW5] at hq5x
 clear x1 x2 x3 x4
 obtain ⟨x1, x2, x3, x4⟩ := box2 hq5x
 have HW5 := Lib.hid hW5
 clear ho4 hb4 hW5 hb45 hb5 hk5 htx5 hq5 hq5x
 go_wp2_with fail
 rw [← HW5.out]
 refine HS5.out.mono ?_
 rintro e w6 ⟨k6, c6, rfl, ho6, hb6⟩
 obtain ⟨q1, q2, q3, q4, q5, q6, rfl, rfl⟩ := ho6.slices
 have hs6 := hb6.size
 obtain ⟨W7, hW7⟩ : ∃ W7, W7 = w6.alloc (.cells #[.slice q1 q2 q3, .slice q4 q5 q6] 26) := ⟨_, rfl⟩
 have hs7 : w6.heap.size < W7.heap.size := by rw [hW7]; simp
 have hb67 : Below w6.heap.size w6 W7 := by rw [hW7]; exact (Below.refl _ _).alloc (Nat.le_refl _) _
 have hb57 : Below W5.heap.size W5 W7 := hb6.trans (hb67.mono hs6)
 have hk7 : W7.heap[w6.heap.size]? = some (.cells #[.slice q1 q2 q3, .slice q4 q5 q6] 26 (0, 0)) := by rw [hW7, new_blk]
 have hb37 : Below W3.heap.size W3 W7 := HB5.out.1.trans (hb57.mono (by omega))
 have htw7 : TreeA W7 (.slice b1 b2 b3) (.slice b4 b5 b6) t := HTA.out.later hb37 (Nat.le_refl _)
 have htx7 : TreeA W7 (.slice p1 p2 p3) (.slice p4 p5 p6) (Tr.goneT wide t ks) := HTX5.out.later hb57 (Nat.le_refl _)
 have htq7 : TreeIn W7 W7.heap.size (.slice q1 q2 q3) (.slice q4 q5 q6) (Tr.goneT wide t ks) := TreeIn.wider (TreeIn.later ho6 hb67 (Nat.le_refl _)) (by omega)
 have HTW7 := Lib.hid htw7
 have HTX7 := Lib.hid htx7
 have HIN7 := Lib.hid (show IntsIn W7 W7.heap.size (.slice oa ks.length oc) ks from IntsIn.wider (HIN.out.later hb37 (Nat.le_refl _)) (by omega))
 have BOX7 : Hid (∀ wx : World, Below W7.heap.size W7 wx → wx.heap[w2.heap.size]? = some (.cells #[.slice b1 b2 b3, .slice b4 b5 b6] 26 (0, 0)) ∧ wx.heap[w4.heap.size]? = some (.cells #[.slice p1 p2 p3, .slice p4 p5 p6] 26 (0, 0)) ∧ wx.heap[w6.heap.size]? = some (.cells #[.slice q1 q2 q3, .slice q4 q5 q6] 26 (0, 0))) :=
   Lib.hid (fun wx hx => ⟨(hx.block _ (by omega)).trans ((hb57.block _ (by omega)).trans HB5.out.2.1), (hx.block _ (by omega)).trans ((hb57.block _ (by omega)).trans HB5.out.2.2), (hx.block _ hs7).trans hk7⟩)
 have HF7 := Lib.hid (HBX.out.1.trans (hb37.mono (by have := HBX.out.1.size; omega)))
 have hwx := Tr.goneT_weight wide t ks
 have hsame := fun (wx : World) (hx : Below W7.heap.size W7 wx) => impl_same_a wx (htx7.later hx (Nat.le_refl _)) hwx (TreeIn.wider (TreeIn.later htq7 hx (Nat.le_refl _)) hx.size)
 rw [Tr.sameB_refl] at hsame
 have HSM := Lib.hid hsame
 have HT0 : Hid (A = false → p2 = 0) := Lib.hid (fun h => by
   have e : Tr.goneT wide t ks = .mk [] [] := by simp [Tr.goneT, ← HA.out, h]
   have h5 := htx7.tree
   rw [e] at h5
   exact (none_rows2 h5).1)
 have hneb : (A != A) = false := by simp
 have heqb : (A == A) = true := by simp
 have HW7 := Lib.hid hW7
 clear ho6 hb6 hW7 hb67 hb57 hb37 hk7 htw7 htx7 htq7 hsame x1 x2 x3 x4
 go_upto_region 6 with (fail)
 rw [← HW7.out]
 obtain ⟨x1, x2, -⟩ := box2 (BOX7.out W7 (Below.refl _ _)).2.1
 obtain ⟨y1, y2, -⟩ := box2 (BOX7.out W7 (Below.refl _ _)).2.2
 go_wp2_with fail
 refine (HSM.out W7 (Below.refl _ _)).mono ?_
 rintro e w8 ⟨rfl, hb8⟩
 have hs8 := hb8.size
 have H8 := Lib.hid hb8
 clear hb8 x1 x2 y1 y2
 cases A with
 | false =>
   have hp0 : p2 = 0 := HT0.out rfl
   subst hp0
   obtain ⟨x1, x2, -⟩ := box2 (BOX7.out w8 H8.out).2.1
   obtain ⟨y1, y2, -⟩ := box2 (BOX7.out w8 H8.out).2.2
   go_wp2_with fail
   refine (HSM.out w8 H8.out).mono ?_
   rintro e w9 ⟨rfl, hb9⟩
   have H9 := Lib.hid (H8.out.trans (hb9.mono (by omega)))
   clear hb9 x1 x2 y1 y2
   obtain ⟨x1, x2, -⟩ := box2 (BOX7.out w9 H9.out).2.1
   go_wp2_with fail
   go_ret
   exact ⟨rfl, HF7.out.trans (H9.out.mono (by have := HF7.out.size; omega))⟩
 | true =>
   have hask := HA.out.symm
   have hv : Tr.validB wide t = true := by simp only [Tr.askAll, Bool.and_eq_true] at hask; exact hask.1
   obtain ⟨hvx, -⟩ := Tr.gone_facts hask
   have hleft := Tr.gone_left hask
   have hall : Tr.goneT wide t t.keys = .mk [] [] := Tr.gone_all hv (fun _ h => h) (Tr.all_ask hv)
   have haall := Tr.all_ask hv
   have hKT := fun (wx : World) (hx : Below W7.heap.size W7 wx) => impl_keys_a (HTW7.out.later hx (Nat.le_refl _)) hwt
   have hKX := fun (wx : World) (hx : Below W7.heap.size W7 wx) => impl_keys_a (HTX7.out.later hx (Nat.le_refl _)) hwx
   have hVX := fun (wx : World) (hx : Below W7.heap.size W7 wx) => impl_valid _ _ _ _ _ wide HTX7.out.tree hwx (by omega) (by omega) wx hx hx.size
   rw [hvx] at hVX
   rw [hleft] at hKX
   have hKl : t.keys.length ≤ 100 := sorted_len (Tr.valid_keys hv)
   obtain ⟨K, hK⟩ : ∃ K, K = t.keys := ⟨_, rfl⟩
   rw [← hK] at hKT hKX hKl hall haall
   have HKT := Lib.hid hKT
   have HKX := Lib.hid hKX
   have HVX := Lib.hid hVX
   have HALL := Lib.hid (And.intro hall haall)
   obtain ⟨x1, x2, -⟩ := box2 (BOX7.out w8 H8.out).2.1
   clear hask hv hvx hleft hall haall hKT hKX hVX hK hneb heqb HT0
   have hal : Below w8.heap.size w8 (w8.alloc (.cells #[] 3)) := (Below.refl _ _).alloc (Nat.le_refl _) _
   obtain ⟨W9, hW9⟩ : ∃ W9, W9 = w8.alloc (.cells #[] 3) := ⟨_, rfl⟩
   have h9own : IntsOwn W9 w8.heap.size (.slice (some ⟨w8.heap.size, 0, none⟩) 0 0) [] := by rw [hW9]; exact World.ownsRow_made w8 #[] 0 (Nat.le_refl _) (by unfold maxLen; omega) rfl
   have hs9 : w8.heap.size < W9.heap.size := by rw [hW9]; simp
   have h9b : Below W7.heap.size W7 W9 := H8.out.trans (by rw [hW9]; exact hal.mono (by omega))
   have H9 := Lib.hid (And.intro h9own h9b)
   have HW9 := Lib.hid hW9
   clear hal hW9 h9own h9b
   go_upto_region 9 with (fail)
   rw [← HW9.out]
   clear x1 x2
   obtain ⟨x1, x2, -⟩ := box2 (BOX7.out W9 H9.out.2).1
   go_wp2_with fail
   refine (HKT.out W9 H9.out.2).mono ?_
   rintro e w10 ⟨v10, rfl, ho10, hb10⟩
   obtain ⟨ka, kc, rfl⟩ := IntsOwn.shown ho10
   have hs10 := hb10.size
   have H10 := Lib.hid (H9.out.2.trans (hb10.mono H9.out.2.size))
   have hcl := fun (h0 : K.length ≠ 0) => own_cells ho10 h0
   have hown0 := IntsOwn.later H9.out.1 hb10 (Nat.le_refl _)
   have hrow0 := (RowF.of_owns hown0).n
   have hst : HeldR w10 (fun q _ => q = w8.heap.size) w10 [intsD (fun x _ => Value.ownBlock (.slice (some ⟨w8.heap.size, 0, none⟩) 0 0) = some x) (.slice (some ⟨w8.heap.size, 0, none⟩) 0 0) []] := by
     refine HeldR.start (fun r hr2 => ?_) (fun r hr2 q o e => ?_) (by simp)
     · simp only [List.mem_cons, List.not_mem_nil, or_false] at hr2
       subst hr2
       exact hrow0
     · simp only [List.mem_cons, List.not_mem_nil, or_false] at hr2
       subst hr2
       have e' : some w8.heap.size = some q := e
       injection e' with e'
       exact e'.symm
   have HST := Lib.hid hst
   have HCL := Lib.hid hcl
   have hs7w : W7.heap.size ≤ w8.heap.size := hs8
   clear ho10 hb10 x1 x2 hcl hown0 hrow0 hst
   go_wp2_with fail
   go_loopw [10, 69] (fun s10 i wr => ∃ (j : Nat) (F : Cells), j ≤ K.length ∧ i = .int .i64 j ∧ HeldR w10 (fun q _ => q = w8.heap.size) wr [intsD F s10 (leftOf' ks (K.take j))]) (fun _ i _ => K.length - (intOf i).toNat)
   case atStart => exact ⟨0, _, Nat.zero_le _, rfl, HST.out⟩
   case round =>
     obtain ⟨j, F, hj, rfl, hR⟩ := hrel
     obtain ⟨oa3, oc3, rfl⟩ := (hR.ints 0 rfl).shown
     have hk := hR.kept
     have hsz := hk.size
     have hbw : Below W7.heap.size W7 wr := H10.out.trans (hk.below (by omega) (fun q o e => by omega))
     have HBW := Lib.hid hbw
     have HR := Lib.hid hR
     clear hR hk hbw
     by_cases hlt : j < K.length
     · obtain ⟨g, rfl, hg1, hg2, hat⟩ := HCL.out (by omega)
       have ha := hat j hlt
       rw [← HR.out.kept.cell g j hg2 (by omega)] at ha
       have hsn := leftOf_snoc ks K hlt
       obtain ⟨k, hkk⟩ : ∃ k, k = K.getD j 0 := ⟨_, rfl⟩
       rw [← hkk] at ha hsn
       have hjl : (j : Int) < (K.length : Int) := by omega
       have hll : (leftOf' ks (K.take j)).length ≤ j := Nat.le_trans (List.length_filter_le _ _) (by rw [List.length_take]; omega)
       obtain ⟨L, hL⟩ : ∃ L, L = leftOf' ks (K.take j) := ⟨_, rfl⟩
       rw [← hL] at hsn hll
       have HL := Lib.hid hL
       have HSN := Lib.hid hsn
       have HFT := Lib.hid (ftHas_c ks k _ wr wr.heap.size (Nat.le_refl _) (IntsIn.wider (IntsIn.later HIN7.out HBW.out (Nat.le_refl _)) HBW.out.size))
       have hlen : (List.map (Value.int .i64) (leftOf' ks (K.take j))).length = L.length := by rw [List.length_map, hL]
       rw [hlen]
       clear hat hkk hsn hL hlen
       go_wp2_with fail
       refine HFT.out.mono ?_
       rintro e w11 ⟨rfl, hb11⟩
       have hs11 := hb11.size
       have HR11 := Lib.hid (HR.out.still (KeptF.of_below hb11 (Nat.le_refl _)))
       clear hb11
       by_cases hm : k ∈ ks
       · have hdt : decide (k ∈ ks) = true := by simp [hm]
         rw [hdt]
         have hsn2 := HSN.out
         rw [if_pos hm] at hsn2
         have HSN2 := Lib.hid hsn2
         clear hsn2 hdt hm
         go_wp2_with fail
         go_roundw
         case rel =>
           refine ⟨j + 1, F, by omega, by go_num, ?_⟩
           have h := HR11.out
           rw [← HL.out] at h
           have hlen : (List.map (Value.int .i64) L).length = L.length := List.length_map _
           rw [hlen] at h
           rw [HSN2.out]
           exact h
         case measure => simp [intOf]; omega
       · have hdt : decide (k ∈ ks) = false := by simp [hm]
         rw [hdt]
         have hsn2 := HSN.out
         rw [if_neg hm] at hsn2
         have HSN2 := Lib.hid hsn2
         have hR12 : HeldR w10 (fun q _ => q = w8.heap.size) (w11.alloc (.cells #[.int .i64 k] 3)) [intsD F (.slice oa3 L.length oc3) L] := by
           have h := HR11.out.still (KeptF.of_below ((Below.refl w11.heap.size w11).alloc (Nat.le_refl _) (.cells #[.int .i64 k] 3)) (Nat.le_refl _))
           rw [← HL.out] at h
           have hlen : (List.map (Value.int .i64) L).length = L.length := List.length_map _
           rw [hlen] at h
           exact h
         have HR12 := Lib.hid hR12
         have HSRC := Lib.hid (IntsAt.one w11 k)
         have HLN : Hid (L.length + [k].length ≤ 100000000) := Lib.hid (by simp; omega)
         clear hsn2 hdt hm hR12
         go_wp2_with (at_builtin; refine wpList_held_ints rfl _ _ rfl 0 F _ L HR12.out rfl rfl _ [k] rfl HSRC.out HLN.out ?_; intro a1' c1' F1 w1 h1; generalize hn1 : L.length + [k].length = n1 at h1 ⊢; have H1 := Lib.hid h1; clear h1 hn1)
         go_roundw
         case rel =>
           refine ⟨j + 1, F1, by omega, by go_num, ?_⟩
           rw [HSN2.out]
           exact H1.out
         case measure => simp [intOf]; omega
     · have hje : j = K.length := by omega
       have hjl : ¬ (j : Int) < (K.length : Int) := by omega
       have hin := rowF_intsIn (HR.out.ints 0 rfl)
       rw [hje, List.take_length] at hin
       obtain ⟨L, hL⟩ : ∃ L, L = leftOf' ks K := ⟨_, rfl⟩
       have hlen : (List.map (Value.int .i64) (leftOf' ks (K.take j))).length = L.length := by rw [List.length_map, hje, List.take_length, hL]
       rw [hlen]
       rw [← hL] at hin
       rw [List.length_map] at hin
       have HINL := Lib.hid hin
       have hb1 := (BOX7.out wr HBW.out).1
       obtain ⟨x1, x2, x3, x4⟩ := box2 hb1
       have hKX := HKX.out
       rw [← hL] at hKX
       have HKX2 := Lib.hid hKX
       have hsw : W7.heap.size ≤ wr.heap.size := HBW.out.size
       clear hb1 hin hKX hL hlen hje
       clear HKX
       have hnw : wr.heap.size ≠ w2.heap.size := by omega
       have hnw' : w2.heap.size ≠ wr.heap.size := by omega
       have HRT := Lib.hid (And.intro (BOX7.out wr HBW.out).1 (hsw))
       go_upto_region 15 with (fail)
       go_cut [13, 14] from 82 to 89 (fun s13 s14 wc => ∃ (q : Nat) (g1 g4 : Option Addr) (g3 g6 : Nat), s13 = .pointer (some ⟨q, 0, none⟩) ∧ s14 = .bool true ∧ q < wc.heap.size ∧ wc.heap[q]? = some (.cells #[.slice g1 0 g3, .slice g4 0 g6] 26 (0, 0)) ∧ Below wr.heap.size wr wc)
       case first =>
         go_region_held3 (fun x => x.cell? ⟨w2.heap.size, 0, none⟩ = some (.slice b1 b2 b3) ∧ x.cell? ⟨w2.heap.size, 1, none⟩ = some (.slice b4 b5 b6))
           (first | exact ⟨x1, x2⟩ | exact ⟨z1, z2⟩ | exact ⟨q1', q2'⟩ | go_keep)
           (first
             | (go_at_call 21; refine (HKT.out wr.drew HBW.out.drew).mono ?_; rintro e w13 ⟨v13, rfl, ho13, hb13⟩; have hbw13 : Below wr.heap.size wr w13 := (Below.refl wr.heap.size wr).drew.trans hb13; obtain ⟨ka3, kc3, rfl⟩ := IntsOwn.shown ho13; have hB13 : Below W7.heap.size W7 w13 := HBW.out.trans (hbw13.mono hsw); obtain ⟨z1, z2, -⟩ := box2 (BOX7.out w13 hB13).1; have HB13 := Lib.hid (And.intro hB13 hbw13); have HO13 := Lib.hid (IntsOwn.inB ho13 (Nat.le_refl _)); have hz13 : wr.heap.size ≤ w13.heap.size := hbw13.size; have hn13 : w13.heap.size ≠ w2.heap.size := (by omega); have hn13' : w2.heap.size ≠ w13.heap.size := (by omega); clear hb13 ho13 hB13 hbw13)
             | (go_at_call 21; refine (HKT.out (wr.alloc (.cells #[.slice none 0 0, .slice none 0 0] 26)).drew (HBW.out.alloc hsw _).drew).mono ?_; rintro e w13 ⟨v13, rfl, ho13, hb13⟩; have hbw13 : Below wr.heap.size wr w13 := ((Below.refl wr.heap.size wr).alloc (Nat.le_refl _) _).drew.trans (hb13.mono (by simp)); obtain ⟨ka3, kc3, rfl⟩ := IntsOwn.shown ho13; have hB13 : Below W7.heap.size W7 w13 := HBW.out.trans (hbw13.mono hsw); obtain ⟨z1, z2, -⟩ := box2 (BOX7.out w13 hB13).1; have HB13 := Lib.hid (And.intro hB13 hbw13); have HO13 := Lib.hid (IntsOwn.inB ho13 (Nat.le_refl _)); have hz13 : wr.heap.size ≤ w13.heap.size := hbw13.size; have hn13 : w13.heap.size ≠ w2.heap.size := (by omega); have hn13' : w2.heap.size ≠ w13.heap.size := (by omega); have hbx13 : w13.heap[wr.heap.size]? = some (.cells #[.slice none 0 0, .slice none 0 0] 26 (0, 0)) := (hb13.block wr.heap.size (by simp)).trans (new_blk wr _); have HX13 := Lib.hid hbx13; obtain ⟨m1, m2, m3, m4⟩ := box2 hbx13; clear hb13 ho13 hB13 hbw13 hbx13)
             | (go_at_call 34; have hxx13 := HX13.out; refine (impl_deleteAll (w := w13) ((HTW7.out.later HB13.out.1 (Nat.le_refl _)).tree) hwt HO13.out wide (by omega) (by omega) w13 (Below.refl _ _) (Nat.le_refl _) (Nat.le_refl _)).mono ?_; rintro e w14 ⟨k14, c14, P14, rfl, ho14, hb14⟩; have hbw14 : Below wr.heap.size wr w14 := HB13.out.2.trans (hb14.mono hz13); have hz1314 := hb14.size; have hbx14 : w14.heap[wr.heap.size]? = some (.cells #[.slice none 0 0, .slice none 0 0] 26 (0, 0)) := (hb14.block wr.heap.size (Array.getElem?_eq_some_iff.1 hxx13).1).trans hxx13; have HX14 := Lib.hid hbx14; clear m1 m2 m3 m4 hxx13; obtain ⟨m1, m2, m3, m4⟩ := box2 hbx14; clear hbx14; obtain ⟨g1, g2, g3, g4, g5, g6, rfl, rfl⟩ := ho14.tree.slices; have hgg := none_rows2 (show TreeIn w14 _ (.slice g1 g2 g3) (.slice g4 g5 g6) (.mk [] []) from by have h := ho14.tree; rw [HALL.out.1] at h; exact h); obtain ⟨rfl, rfl⟩ := hgg; rw [HALL.out.2]; have hB14 : Below W7.heap.size W7 w14 := HBW.out.trans (hbw14.mono hsw); obtain ⟨q1', q2', -⟩ := box2 (BOX7.out w14 hB14).1; have HB14 := Lib.hid hbw14; have hz14 : w13.heap.size ≤ w14.heap.size := hz1314; have hn14 : w14.heap.size ≠ w2.heap.size := (by omega); have hn14' : w2.heap.size ≠ w14.heap.size := (by omega); clear ho14 hB14 hbw14; clear hb14 hz1314)
             | (go_at_call 34; refine (impl_deleteAll (w := w13) ((HTW7.out.later HB13.out.1 (Nat.le_refl _)).tree) hwt HO13.out wide (by omega) (by omega) w13 (Below.refl _ _) (Nat.le_refl _) (Nat.le_refl _)).mono ?_; rintro e w14 ⟨k14, c14, P14, rfl, ho14, hb14⟩; have hbw14 : Below wr.heap.size wr w14 := HB13.out.2.trans (hb14.mono hz13); have hz1314 := hb14.size; obtain ⟨g1, g2, g3, g4, g5, g6, rfl, rfl⟩ := ho14.tree.slices; have hgg := none_rows2 (show TreeIn w14 _ (.slice g1 g2 g3) (.slice g4 g5 g6) (.mk [] []) from by have h := ho14.tree; rw [HALL.out.1] at h; exact h); obtain ⟨rfl, rfl⟩ := hgg; rw [HALL.out.2]; have hB14 : Below W7.heap.size W7 w14 := HBW.out.trans (hbw14.mono hsw); obtain ⟨q1', q2', -⟩ := box2 (BOX7.out w14 hB14).1; have HB14 := Lib.hid hbw14; have hz14 : w13.heap.size ≤ w14.heap.size := hz1314; have hn14 : w14.heap.size ≠ w2.heap.size := (by omega); have hn14' : w2.heap.size ≠ w14.heap.size := (by omega); clear ho14 hB14 hbw14; clear hb14 hz1314)
             | (go_at_call 34; refine (impl_deleteAll (w := w13) ((HTW7.out.later HB13.out.1 (Nat.le_refl _)).tree) hwt HO13.out wide (by omega) (by omega) (w13.alloc (.cells #[.slice none 0 0, .slice none 0 0] 26)) ((Below.refl _ _).alloc (Nat.le_refl _) _) (by simp) (Nat.le_refl _)).mono ?_; rintro e w14 ⟨k14, c14, P14, rfl, ho14, hb14⟩; have hbw14 : Below wr.heap.size wr w14 := HB13.out.2.trans (((Below.refl _ _).alloc hz13 _).trans (hb14.mono (by simp; omega))); have hz1314 : w13.heap.size ≤ w14.heap.size := Nat.le_trans (by simp) hb14.size; have hbx14 : w14.heap[w13.heap.size]? = some (.cells #[.slice none 0 0, .slice none 0 0] 26 (0, 0)) := (hb14.block w13.heap.size (by simp)).trans (new_blk w13 _); have HX14 := Lib.hid hbx14; obtain ⟨m1, m2, m3, m4⟩ := box2 hbx14; obtain ⟨g1, g2, g3, g4, g5, g6, rfl, rfl⟩ := ho14.tree.slices; have hgg := none_rows2 (show TreeIn w14 _ (.slice g1 g2 g3) (.slice g4 g5 g6) (.mk [] []) from by have h := ho14.tree; rw [HALL.out.1] at h; exact h); obtain ⟨rfl, rfl⟩ := hgg; rw [HALL.out.2]; have hB14 : Below W7.heap.size W7 w14 := HBW.out.trans (hbw14.mono hsw); obtain ⟨q1', q2', -⟩ := box2 (BOX7.out w14 hB14).1; have HB14 := Lib.hid hbw14; have hz14 : w13.heap.size ≤ w14.heap.size := hz1314; have hn14 : w14.heap.size ≠ w2.heap.size := (by omega); have hn14' : w2.heap.size ≠ w14.heap.size := (by omega); clear ho14 hB14 hbw14; clear hb14 hz1314 hbx14))
         all_goals (
           go_wp2_with fail
           go_meet)
         all_goals first
           | exact ⟨w14.heap.size, g1, g4, g3, g6, rfl, rfl, by simp, new_blk _ _, HB14.out.alloc (by omega) _⟩
           | exact ⟨w13.heap.size, g1, g4, g3, g6, rfl, rfl, (by have := (Array.getElem?_eq_some_iff.1 HX14.out).1; simp; omega), set_blk (o := 1) _ (set_blk (o := 0) _ HX14.out), (HB14.out.setCell (p := ⟨w13.heap.size, 0, none⟩) hz13 _).setCell (p := ⟨w13.heap.size, 1, none⟩) hz13 _⟩
           | exact ⟨wr.heap.size, g1, g4, g3, g6, rfl, rfl, (by have := (Array.getElem?_eq_some_iff.1 HX14.out).1; simp; omega), set_blk (o := 1) _ (set_blk (o := 0) _ HX14.out), (HB14.out.setCell (p := ⟨wr.heap.size, 0, none⟩) (Nat.le_refl _) _).setCell (p := ⟨wr.heap.size, 1, none⟩) (Nat.le_refl _) _⟩
       case rest =>
         obtain ⟨q, g1, g4, g3, g6, rfl, rfl, hq, hkq, hbc⟩ := hcut
         have hzc := hbc.size
         have HBC := Lib.hid (HBW.out.trans (hbc.mono hsw))
         have HLc := Lib.hid (IntsIn.wider (IntsIn.later HINL.out hbc (Nat.le_refl _)) hzc)
         have HKQ := Lib.hid hkq
         clear x1 x2 x3 x4 hkq hbc
         obtain ⟨x1, x2, -⟩ := box2 (BOX7.out wc HBC.out).2.1
         go_wp2_with fail
         refine (HVX.out wc HBC.out).mono ?_
         rintro e w15 ⟨rfl, hb15⟩
         have hz15 := hb15.size
         have HB15 := Lib.hid (And.intro (HBC.out.trans (hb15.mono HBC.out.size)) hb15)
         clear hb15 x1 x2
         obtain ⟨x1, x2, -⟩ := box2 (BOX7.out w15 HB15.out.1).2.1
         go_wp2_with fail
         refine (HKX2.out w15 HB15.out.1).mono ?_
         rintro e w16 ⟨v16, rfl, ho16, hb16⟩
         obtain ⟨ka6, kc6, rfl⟩ := IntsOwn.shown ho16
         have hz16 := hb16.size
         have HB16 := Lib.hid (And.intro (HB15.out.1.trans (hb16.mono HB15.out.1.size)) (HB15.out.2.trans (hb16.mono hz15)))
         have HO16 := Lib.hid (IntsOwn.inB ho16 (Nat.le_refl _))
         clear hb16 ho16 x1 x2
         go_wp2_with fail
         refine (ftSame_c L _ _ w16 w16.heap.size (Nat.le_refl _) HO16.out (IntsIn.wider (IntsIn.later HLc.out HB16.out.2 (Nat.le_refl _)) HB16.out.2.size)).mono ?_
         rintro e w17 ⟨rfl, hb17⟩
         have HB17 := Lib.hid (HB16.out.1.trans (hb17.mono HB16.out.1.size))
         have hq17 := ((HB16.out.2.trans (hb17.mono HB16.out.2.size)).block q hq).trans HKQ.out
         obtain ⟨x1, x2, -⟩ := box2 hq17
         clear hb17 hq17
         go_wp2_with fail
         go_ret
         exact ⟨rfl, HF7.out.trans (HB17.out.mono (by have := HF7.out.size; omega))⟩
end Go.Proofs.Ytananonjomfpkaa
/- The statement on deleting a list of keys, from the walk of its law. -/
namespace Go.Proofs.Ytananonjomfpkaa.fnDeleteAllRowP
open Go.ChangeShapes Go.WideShapes Go.ChangeAt Go.RowKit
set_option linter.unusedVariables false
theorem own : ownKnob Try.prog.godebug = none := by kernel_rfl
theorem laidOut : laidOutB Try.prog = true := by kernel_rfl
set_option maxRecDepth 100000 in
set_option maxHeartbeats 1000000 in
theorem lifted (os : Os) (started : os.Started) (H : Type) (enc : TypeId × Value → H) :
   ReturnsInHanded {} Try.checked os 10 .any (Rows.fnDeleteAllSpec.pre6 enc Try.prog Try.f10 Rows.fnDeleteAllRow.domain false) (Rows.fnDeleteAllSpec.post enc Try.prog Try.f10 false true false false) := by
 refine returnsInHanded_of_change (C := Try.checked) own started (by kernel_rfl) Try.func10
   (ChangeSpec.witness6 (enc := enc) (C := Try.checked) false ⟨#[], #[.slice none 0 0], []⟩ 8 (by kernel_rfl) (by kernel_rfl) (by kernel_rfl) (by kernel_rfl)) ?_
 intro W base args ds gs before hval0 hW hcnd _
 have hval : ∀ (j : Nat) t v, Try.f10.params[j]? = some t → args[j]? = some v → Value.okWide Try.prog W .any base t v := hval0
 have hW' := hW
 obtain ⟨p, q, hA0, hV, rfl, hfz, hnd⟩ := hW
 have hA : DataW.TrodAll enc Try.prog W 0 (fun _ => true) true Try.f10.params.toList args.toList ds p := hA0
 rw [Try.params10] at hA hval
 obtain ⟨v0, vs0, d0, ds0, p0, q0, hargs, rfl, rfl, h0, r0⟩ := trodAll_cons hA
 obtain ⟨rfl, rfl, rfl⟩ := trodAll_nil r0
 obtain rfl : args = #[v0] := by cases args; simp_all
 obtain ⟨rfl, rfl⟩ := trodVars_none hV
 obtain ⟨a0, len0, cap0, rfl⟩ := okWide_slice Try.underlying22 (hval 0 22 v0 rfl rfl)
 have k0 := h0
 have lt0 : ∀ x ∈ p0, x.block < W.heap.size := by obtain ⟨m, hm⟩ := k0; exact DataW.trod_lt m _ _ _ hm
 obtain ⟨bs0, hb0⟩ : ∃ bs, BytesIn W W.heap.size (.slice a0 len0 cap0) bs := by
   obtain ⟨fuel, hf⟩ := h0
   exact bytes_of_trod fuel (fun _ => rfl) hf
 clear hA0 hval0
 refine (fnDeleteAll_c hb0).mono fun e W' ⟨he, bel⟩ => ?_
 subst he
 exact ⟨_, rfl, _, _, _, [], _, [], hW', trodAll_mk1 (shut_bool Try.underlying4 _), (trodAll_cons_mk (Below.trod laidOut (by kernel_rfl) (of_decide_eq_true (by kernel_rfl)) k0 bel lt0) trodAll_mk0), rfl, bel.frame _, fun h => by cases h⟩
theorem closed : joinedFacts Try.prog 10 Try.f10 Rows.fnDeleteAllSpec Rows.fnDeleteAllRow = true := by
 unfold joinedFacts
 exact band (band (band (band (band (band (band (by kernel_rfl) fact_enter) fact_lifts) fact_make) (by kernel_rfl)) (by kernel_rfl)) (by kernel_rfl)) (by kernel_rfl)
theorem over : Rows.fnDeleteAllRow.holds Try.pinned (OpenSpec.ofChange Rows.fnDeleteAllSpec) :=
 OpenClaim.holds_of_wide 10 Try.f10 rfl rfl rfl rfl rfl rfl rfl ⟨rfl, rfl, rfl, rfl, rfl⟩ rfl rfl rfl rfl rfl (by kernel_rfl) Try.func10 closed
   (of_decide_eq_true (by kernel_rfl)) (by unfold Func.isWrapper; first | (rw [if_pos (by decide +kernel)]; kernel_rfl) | (rw [if_neg (by decide +kernel)]; exact ⟨rfl, rfl⟩))
   (fun os started H enc _ => lifted os started H enc)
end Go.Proofs.Ytananonjomfpkaa.fnDeleteAllRowP
/- For every slice of bytes, the law on deleting a list of keys returns true and leaves its arguments as they were; no conditions. -/
namespace Go.Proofs.Ytananonjomfpkaa
theorem deleteall_said : Rows.FnDeleteAllSaid := fnDeleteAllRowP.over
end Go.Proofs.Ytananonjomfpkaa
