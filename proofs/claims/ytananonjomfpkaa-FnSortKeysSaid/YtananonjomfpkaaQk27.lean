/- For every slice of bytes, the law on sorted keys returns true and leaves its arguments as they were; no conditions. -/
import Derived.Test.YtananonjomfpkaaQk2
import Derived.Test.YtananonjomfpkaaQk26
import Derived.Test.YtananonjomfpkaaRows
import Derived.Test.YtananonjomfpkaaQkS0
/- The law on sorted keys: the walk over the contracts. -/
namespace Go.Proofs.Ytananonjomfpkaa
open Go.RowKit
set_option maxHeartbeats 4000000 in
set_option maxRecDepth 100000 in
theorem fnSortKeys_c {w : World} {v1 : Value} {bs1 : List Nat} (h1 : BytesIn w w.heap.size v1 bs1) :
   Calls Try.prog 14 #[v1] w fun e w' => e = .returned (.bool true) ∧ Below w.heap.size w w' := by
 have H1 := Lib.hid h1
 obtain ⟨a1, c1, rfl, -⟩ := h1
 by_cases hc1 : bs1.length ≤ 1048576
 case neg =>
   have hc1' : ((bs1.length : Int) > 1048576) := by omega
   go_enter Try.func14, Try.ntmps14
   go_wp2_with fail
   go_ret
   exact ⟨rfl, Below.refl _ _⟩
 have hc1' : ¬ ((bs1.length : Int) > 1048576) := by omega
 have HD1 := Lib.hid (drawSort_c H1.out w (Below.refl _ _) (Nat.le_refl _))
 go_enter Try.func14, Try.ntmps14
 go_wp2_with fail
 refine HD1.out.mono ?_
 rintro e w2 ⟨v2, ks, rfl, hi2, hkl, hb2⟩
 obtain ⟨oa, oc, rfl⟩ := IntsOwn.shown hi2
 have hs2 := hb2.size
 have hin2 := IntsOwn.inB hi2 (Nat.le_refl _)
 have HI2 := Lib.hid (impl_sortKeys w2 w2.heap.size hin2)
 have HIN := Lib.hid hin2
 have HB2 := Lib.hid hb2
 clear hi2 hin2 hb2
 go_wp2_with fail
 refine HI2.out.mono ?_
 rintro e w3 ⟨v3, rfl, ho3, hb3⟩
 obtain ⟨a3, c3, rfl⟩ := IntsOwn.shown ho3
 have hs3 := hb3.size
 have HS3 := Lib.hid (specSortKeys_c w3 w2.heap.size (HIN.out.later hb3 (Nat.le_refl _)) hs3)
 have H3 := Lib.hid (And.intro ho3 hb3)
 clear ho3 hb3
 cases hko : keysOk ks with
 | false =>
   have hR := sort_none_of hko
   have HKO := Lib.hid hko
   rw [hR] at H3
   rw [hR, hko] at HS3
   rw [hR]
   clear hR hko
   go_wp2_with fail
   refine HS3.out.mono ?_
   rintro e w4 ⟨v4, rfl, ho4, hb4⟩
   obtain ⟨a4, c4, rfl⟩ := IntsOwn.shown ho4
   have hs4 := hb4.size
   have h34 := IntsOwn.inB (IntsOwn.later H3.out.1 hb4 (Nat.le_refl _)) (Nat.le_refl _)
   have h44 := IntsOwn.inB ho4 (Nat.le_refl _)
   have HF1 := Lib.hid (ftSame_c [] _ _ w4 w4.heap.size (Nat.le_refl _) h34 h44)
   have HIN4 := Lib.hid (And.intro h34 h44)
   have H4 := Lib.hid (H3.out.2.trans (hb4.mono (by omega)))
   clear ho4 hb4 h34 h44
   go_wp2_with fail
   refine HF1.out.mono ?_
   rintro e w5 ⟨rfl, hb5⟩
   have hs5 := hb5.size
   have HF2 := Lib.hid (ftSame_c [] _ _ w5 w4.heap.size hs5 (HIN4.out.1.later hb5 (Nat.le_refl _)) (HIN4.out.2.later hb5 (Nat.le_refl _)))
   have H5 := Lib.hid (H4.out.trans (hb5.mono (by omega)))
   clear hb5
   go_wp2_with fail
   refine HF2.out.mono ?_
   rintro e w6 ⟨rfl, hb6⟩
   have H6 := Lib.hid (HB2.out.trans ((H5.out.trans (hb6.mono (by omega))).mono hs2))
   clear hb6
   go_wp2_with fail
   go_ret
   exact ⟨rfl, H6.out⟩
 | true =>
   obtain ⟨hmem, hok2, hR2, hpw⟩ := sort_facts hko
   have hrl := sortL_few ks
   obtain ⟨R, hR⟩ : ∃ R, R = sortL ks := ⟨_, rfl⟩
   rw [← hR] at hmem hok2 hR2 hpw H3 hrl
   rw [← hR, hko] at HS3
   rw [← hR]
   have HKO := Lib.hid hko
   have HM := Lib.hid hmem
   have HR2 := Lib.hid (And.intro hok2 (And.intro hR2 hpw))
   clear hR hko hmem hok2 hR2 hpw
   go_wp2_with fail
   refine HS3.out.mono ?_
   rintro e w4 ⟨v4, rfl, ho4, hb4⟩
   obtain ⟨a4, c4, rfl⟩ := IntsOwn.shown ho4
   have hs4 := hb4.size
   have h34 := IntsOwn.inB (IntsOwn.later H3.out.1 hb4 (Nat.le_refl _)) (Nat.le_refl _)
   have h44 := IntsOwn.inB ho4 (Nat.le_refl _)
   have HF1 := Lib.hid (ftSame_c R _ _ w4 w4.heap.size (Nat.le_refl _) h34 h44)
   have HIN4 := Lib.hid (And.intro h34 (HIN.out.later (H3.out.2.trans (hb4.mono (by omega))) (Nat.le_refl _)))
   have H4 := Lib.hid (H3.out.2.trans (hb4.mono (by omega)))
   clear ho4 hb4 h34 h44
   go_wp2_with fail
   refine HF1.out.mono ?_
   rintro e w5 ⟨rfl, hb5⟩
   have hs5 := hb5.size
   have hr5 := HIN4.out.1.later hb5 (Nat.le_refl _)
   have hk5 := HIN4.out.2.later (hb5.mono (show w2.heap.size ≤ w4.heap.size by omega)) (Nat.le_refl _)
   have HIN5 := Lib.hid (And.intro hr5 hk5)
   have H5 := Lib.hid (HB2.out.trans ((H4.out.trans (hb5.mono (by omega))).mono hs2))
   clear hb5 hr5 hk5
   go_wp2_with fail
   go_loopw [9, 57] (fun _ i wr => ∃ (j : Nat), j ≤ ks.length ∧ i = .int .i64 j ∧ Below w5.heap.size w5 wr) (fun _ i _ => ks.length - (intOf i).toNat)
   case atStart => exact ⟨0, Nat.zero_le _, rfl, Below.refl _ _⟩
   case round =>
     obtain ⟨j, hj, rfl, hbel⟩ := hrel
     have hsz := hbel.size
     have HBL := Lib.hid hbel
     by_cases hlt : j < ks.length
     · have hin := HIN5.out.2
       obtain ⟨_, _, hve, -, -, -, h3⟩ := hin
       simp only [Value.slice.injEq] at hve
       obtain ⟨rfl, -, -⟩ := hve
       rcases h3 with h | ⟨b, off, rfl, hb, hat⟩
       · simp [h] at hlt
       have ha := hat j hlt
       rw [← below_cell hbel (by omega)] at ha
       have hxm : ks.getD j 0 ∈ R := (HM.out _).2 (by rw [List.getD_eq_getElem?_getD, List.getElem?_eq_getElem hlt]; exact List.getElem_mem hlt)
       generalize ks.getD j 0 = x at ha hxm
       have hjl : (j : Int) < (ks.length : Int) := by omega
       have hd : decide (x ∈ R) = true := decide_eq_true hxm
       have hft := ftHas_c R x _ wr w4.heap.size (by omega) (HIN5.out.1.later (hbel.mono hs5) (Nat.le_refl _))
       rw [hd] at hft
       have HFT := Lib.hid hft
       clear hat hb hbel hft hd hxm
       go_wp2_with fail
       refine HFT.out.mono ?_
       rintro e w6 ⟨rfl, hb6⟩
       have H6 := Lib.hid (HBL.out.trans (hb6.mono hsz))
       clear hb6
       go_wp2_with fail
       go_roundw
       case rel => exact ⟨j + 1, by omega, by go_num, H6.out⟩
       case measure => simp [intOf]; omega
     · have hjl : ¬ (j : Int) < (ks.length : Int) := by omega
       clear hbel
       go_wp2_with fail
       go_loopw [11, 68] (fun _ i wx => ∃ (j : Nat), j ≤ R.length ∧ i = .int .i64 j ∧ Below w5.heap.size w5 wx) (fun _ i _ => R.length - (intOf i).toNat)
       case atStart => exact ⟨0, Nat.zero_le _, rfl, HBL.out⟩
       case round =>
         obtain ⟨j2, hj2, rfl, hbel2⟩ := hrel
         have hsz2 := hbel2.size
         have HBL2 := Lib.hid hbel2
         by_cases hlt2 : j2 < R.length
         · have hin := HIN5.out.1
           obtain ⟨_, _, hve, -, -, -, h3⟩ := hin
           simp only [Value.slice.injEq] at hve
           obtain ⟨rfl, -, -⟩ := hve
           rcases h3 with h | ⟨b, off, rfl, hb, hat⟩
           · simp [h] at hlt2
           have ha := hat j2 hlt2
           rw [← below_cell hbel2 (by omega)] at ha
           have hxm : R.getD j2 0 ∈ ks := (HM.out _).1 (by rw [List.getD_eq_getElem?_getD, List.getElem?_eq_getElem hlt2]; exact List.getElem_mem hlt2)
           generalize R.getD j2 0 = x at ha hxm
           have hjl2 : (j2 : Int) < (R.length : Int) := by omega
           have hd : decide (x ∈ ks) = true := decide_eq_true hxm
           have hft := ftHas_c ks x _ wr w2.heap.size (by omega) (HIN5.out.2.later (hbel2.mono (by omega)) (Nat.le_refl _))
           rw [hd] at hft
           have HFT := Lib.hid hft
           clear hat hb hbel2 hft hd hxm
           go_wp2_with fail
           refine HFT.out.mono ?_
           rintro e w6 ⟨rfl, hb6⟩
           have H6 := Lib.hid (HBL2.out.trans (hb6.mono hsz2))
           clear hb6
           go_wp2_with fail
           go_roundw
           case rel => exact ⟨j2 + 1, by omega, by go_num, H6.out⟩
           case measure => simp [intOf]; omega
         · have hjl2 : ¬ (j2 : Int) < (R.length : Int) := by omega
           have hin7 := HIN5.out.1.later (hbel2.mono hs5) (Nat.le_refl _)
           have his := impl_sortKeys wr w4.heap.size hin7
           rw [HR2.out.1, HR2.out.2.1] at his
           have HIS := Lib.hid his
           have HIN7 := Lib.hid hin7
           clear hbel2 hin7 his
           go_wp2_with fail
           refine HIS.out.mono ?_
           rintro e w8 ⟨v8, rfl, ho8, hb8⟩
           obtain ⟨a8, c8, rfl⟩ := IntsOwn.shown ho8
           have hs8 := hb8.size
           have hin8 := HIN7.out.later (hb8.mono (show w4.heap.size ≤ wr.heap.size by omega)) (Nat.le_refl _)
           have HSO := Lib.hid (ftSorted_c R HR2.out.2.2 _ w8 w4.heap.size (by omega) hin8)
           have H8 := Lib.hid (And.intro (IntsOwn.inB ho8 (Nat.le_refl _)) (And.intro hin8 (HBL2.out.trans (hb8.mono hsz2))))
           clear ho8 hb8 hin8
           go_wp2_with fail
           refine HSO.out.mono ?_
           rintro e w9 ⟨rfl, hb9⟩
           have hs9 := hb9.size
           have HSA := Lib.hid (ftSame_c R _ _ w9 w8.heap.size hs9 (H8.out.1.later hb9 (Nat.le_refl _)) (IntsIn.wider (H8.out.2.1.later (hb9.mono (by omega)) (Nat.le_refl _)) (by omega)))
           have H9 := Lib.hid (H8.out.2.2.trans (hb9.mono (by omega)))
           clear hb9
           go_wp2_with fail
           refine HSA.out.mono ?_
           rintro e w10 ⟨rfl, hb10⟩
           have H10 := Lib.hid (H5.out.trans ((H9.out.trans (hb10.mono (by omega))).mono (by omega)))
           clear hb10
           go_wp2_with fail
           go_ret
           exact ⟨rfl, H10.out⟩
end Go.Proofs.Ytananonjomfpkaa
/- The statement on sorted keys, from the walk of its law. -/
namespace Go.Proofs.Ytananonjomfpkaa.fnSortKeysRowP
open Go.ChangeShapes Go.WideShapes Go.ChangeAt Go.RowKit
set_option linter.unusedVariables false
theorem own : ownKnob Try.prog.godebug = none := by kernel_rfl
theorem laidOut : laidOutB Try.prog = true := by kernel_rfl
set_option maxRecDepth 100000 in
set_option maxHeartbeats 1000000 in
theorem lifted (os : Os) (started : os.Started) (H : Type) (enc : TypeId × Value → H) :
   ReturnsInHanded {} Try.checked os 14 .any (Rows.fnSortKeysSpec.pre6 enc Try.prog Try.f14 Rows.fnSortKeysRow.domain false) (Rows.fnSortKeysSpec.post enc Try.prog Try.f14 false true false false) := by
 refine returnsInHanded_of_change (C := Try.checked) own started (by kernel_rfl) Try.func14
   (ChangeSpec.witness6 (enc := enc) (C := Try.checked) false ⟨#[], #[.slice none 0 0], []⟩ 8 (by kernel_rfl) (by kernel_rfl) (by kernel_rfl) (by kernel_rfl)) ?_
 intro W base args ds gs before hval0 hW hcnd _
 have hval : ∀ (j : Nat) t v, Try.f14.params[j]? = some t → args[j]? = some v → Value.okWide Try.prog W .any base t v := hval0
 have hW' := hW
 obtain ⟨p, q, hA0, hV, rfl, hfz, hnd⟩ := hW
 have hA : DataW.TrodAll enc Try.prog W 0 (fun _ => true) true Try.f14.params.toList args.toList ds p := hA0
 rw [Try.params14] at hA hval
 obtain ⟨v0, vs0, d0, ds0, p0, q0, hargs, rfl, rfl, h0, r0⟩ := trodAll_cons hA
 obtain ⟨rfl, rfl, rfl⟩ := trodAll_nil r0
 obtain rfl : args = #[v0] := by cases args; simp_all
 obtain ⟨rfl, rfl⟩ := trodVars_none hV
 obtain ⟨a0, len0, cap0, rfl⟩ := okWide_slice Try.underlying22 (hval 0 22 v0 rfl rfl)
 have k0 := h0
 have lt0 : ∀ x ∈ p0, x.block < W.heap.size := by obtain ⟨m, hm⟩ := k0; exact DataW.trod_lt m _ _ _ hm
 obtain ⟨bs0, hb0⟩ : ∃ bs, BytesIn W W.heap.size (.slice a0 len0 cap0) bs := by
   obtain ⟨fuel, hf⟩ := h0
   exact bytes_of_trod fuel (fun _ => rfl) hf
 clear hA0 hval0
 refine (fnSortKeys_c hb0).mono fun e W' ⟨he, bel⟩ => ?_
 subst he
 exact ⟨_, rfl, _, _, _, [], _, [], hW', trodAll_mk1 (shut_bool Try.underlying4 _), (trodAll_cons_mk (Below.trod laidOut (by kernel_rfl) (of_decide_eq_true (by kernel_rfl)) k0 bel lt0) trodAll_mk0), rfl, bel.frame _, fun h => by cases h⟩
theorem closed : joinedFacts Try.prog 14 Try.f14 Rows.fnSortKeysSpec Rows.fnSortKeysRow = true := by
 unfold joinedFacts
 exact band (band (band (band (band (band (band (by kernel_rfl) fact_enter) fact_lifts) fact_make) (by kernel_rfl)) (by kernel_rfl)) (by kernel_rfl)) (by kernel_rfl)
theorem over : Rows.fnSortKeysRow.holds Try.pinned (OpenSpec.ofChange Rows.fnSortKeysSpec) :=
 OpenClaim.holds_of_wide 14 Try.f14 rfl rfl rfl rfl rfl rfl rfl ⟨rfl, rfl, rfl, rfl, rfl⟩ rfl rfl rfl rfl rfl (by kernel_rfl) Try.func14 closed
   (of_decide_eq_true (by kernel_rfl)) (by unfold Func.isWrapper; first | (rw [if_pos (by decide +kernel)]; kernel_rfl) | (rw [if_neg (by decide +kernel)]; exact ⟨rfl, rfl⟩))
   (fun os started H enc _ => lifted os started H enc)
end Go.Proofs.Ytananonjomfpkaa.fnSortKeysRowP
/- For every slice of bytes, the law on sorted keys returns true and leaves its arguments as they were; no conditions. -/
namespace Go.Proofs.Ytananonjomfpkaa
theorem sortLaw_said : Rows.FnSortKeysSaid := fnSortKeysRowP.over
end Go.Proofs.Ytananonjomfpkaa
