/- The contract of the program's PrevKey. -/
import Derived.Test.YticfkfjijnfcbaaDoorCx19
import Derived.Test.YticfkfjijnfcbaaDoorCxS19
import Derived.Sort.CutIn
/- The contract of the program's NextKey. -/
namespace Go.Proofs.YticfkfjijnfcbaaDoor
open Go.RowKit
attribute [local go_sem] Oper.semAt_some
attribute [local go_sem] wide_fn
set_option maxRecDepth 100000 in
set_option maxHeartbeats 4000000 in
theorem impl_next {w : World} {B : Nat} {kv cv : Value} {t : Tr} (ht : TreeIn w B kv cv t) (hw : t.weight ≤ 1048576) (key : Int) (w' : World) (hbw : Below B w w') (hB : B ≤ w'.heap.size) :
   Calls Tryd.prog 47 #[.agg #[kv, cv], .int .i64 key] w' fun e w'' => e = .returned (.tuple #[.int .i64 (t.nextB key).1, .bool (t.nextB key).2]) ∧ Below w'.heap.size w' w'' := by
 obtain ⟨a5, n5, m5, a6, n6, m6, rfl, rfl⟩ := ht.slices
 obtain ⟨W1, hW1⟩ : ∃ W1, W1 = w'.alloc (.cells #[.slice a5 n5 m5, .slice a6 n6 m6] 33) := ⟨_, rfl⟩
 have hs1 : W1.heap.size = w'.heap.size + 1 := by rw [hW1]; simp
 have hb1 : Below w'.heap.size w' W1 := by rw [hW1]; exact (Below.refl _ _).alloc (Nat.le_refl _) _
 have k0 : W1.heap[w'.heap.size]? = some (.cells #[.slice a5 n5 m5, .slice a6 n6 m6] 33 (0, 0)) := by rw [hW1, new_blk]
 obtain ⟨x1, x2, x3, x4⟩ := box2 k0
 have hsome := Tr.nextB_is key t
 have HT := Lib.hid ht
 have HBW := Lib.hid hbw
 have HW1 := Lib.hid hW1
 have H1 := Lib.hid (And.intro hb1 k0)
 have HSOME := Lib.hid hsome
 clear ht hbw hW1 hb1 k0 hsome
 refine (callsIn_wide (n := 9)).1 (callsIn_of_wp_marks Tryd.func47 rfl trivial ?_ rfl)
 simp only [Tryd.ntmps47, List.size_toArray, List.length_cons, List.length_nil, Nat.reduceAdd, Nat.reduceSub, Array.replicate_succ, Array.replicate_zero, List.push_toArray, List.append_toArray, List.nil_append, List.cons_append]
 gi_wp2_with fail
 rw [← HW1.out]
 refine ((callsIn_wide (n := _)).2 (validForSome_c HT.out hw W1 (HBW.out.trans (H1.out.1.mono hB)) (by omega))).mono ?_
 rintro e w2 ⟨rfl, hb2⟩
 have hs2 := hb2.size
 clear x1 x2 x3 x4
 have j0 := (hb2.block _ (by omega)).trans H1.out.2
 obtain ⟨x1, x2, x3, x4⟩ := box2 j0
 have hb2' := H1.out.1.trans (hb2.mono (by omega))
 have H2 := Lib.hid (And.intro hb2' j0)
 clear hb2 hb2' j0
 cases hv : t.someB with
 | false =>
   have hp := HSOME.out.2 hv
   have HP := Lib.hid hp
   have HV := Lib.hid hv
   clear hp hv
   gi_wp2_with fail
   exact ⟨.tuple #[.int .i64 0, .bool false], by simp [results, Tryd.results47, go_sem], ret_ib (by rw [HP.out]) (by rw [HP.out]), H2.out.1⟩
 | true =>
   have hp := HSOME.out.1 hv
   have hwell := Tr.Well.of_some hv
   have HP := Lib.hid hp
   have HV := Lib.hid hv
   have HWELL := Lib.hid hwell
   clear hp hv hwell
   obtain ⟨W3, hW3⟩ : ∃ W3, W3 = (w2.alloc (.cells #[.int .i64 0] 3)).alloc (.cells #[.bool false] 4) := ⟨_, rfl⟩
   have hs3 : W3.heap.size = w2.heap.size + 2 := by rw [hW3]; simp
   have hb3 : Below w2.heap.size w2 W3 := by rw [hW3]; exact ((Below.refl _ _).alloc (Nat.le_refl _) _).alloc (by simp) _
   have k6 : W3.heap[w2.heap.size]? = some (.cells #[.int .i64 0] 3 (0, 0)) := by
     rw [hW3]; exact (old_blk _ _ _ (by simp)).trans (new_blk _ _)
   have k7 : W3.heap[w2.heap.size + 1]? = some (.cells #[.bool false] 4 (0, 0)) := by
     rw [hW3]
     have h := new_blk (w2.alloc (.cells #[.int .i64 0] 3)) (.cells #[.bool false] 4)
     rw [World.size_alloc] at h; exact h
   have j0 := (hb3.block _ (by omega)).trans H2.out.2
   clear x1 x2 x3 x4
   obtain ⟨x1, x2, x3, x4⟩ := box2 (H2.out.2)
   obtain ⟨y1, y2, y3, y4⟩ := box2 j0
   have hb3' := H2.out.1.trans (hb3.mono (by omega))
   have hB3 : Below B w W3 := HBW.out.trans (hb3'.mono hB)
   have H3 := Lib.hid (And.intro hb3' (And.intro k6 k7))
   have HB3 := Lib.hid hB3
   have HW3 := Lib.hid hW3
   clear hb3 hb3' j0 k6 k7 hB3 hW3
   gi_upto_region 4 with (fail)
   rw [← HW3.out]
   clear x1 x2 x3 x4
   gi_wp2_with fail
   refine CallsIn.mono ((callsIn_wide (n := _)).2 (plant_c HT.out hw _ HB3.out (by omega))) ?_
   rintro e w8 ⟨nb, rfl, hnd, hb8⟩
   have hs8 := hb8.size
   have HND := Lib.hid (And.intro hnd hb8)
   clear hnd hb8 y1 y2 y3 y4
   gi_wp2_with fail
   refine CallsIn.mono ((callsIn_wide (n := _)).2 (upTo_c key _)) ?_
   rintro e w9 ⟨rfl, rfl⟩
   gi_wp2_with fail
   refine CallsIn.mono ((callsIn_wide (n := _)).2 (wayDown_c _ _ _ _)) ?_
   rintro e w10 ⟨rfl, rfl⟩
   have hdn := downAt_mk (B := W3.heap.size) (gf := 121) (n := key) (wp := W3) (Nat.le_refl _) HND.out.1 (wl := w8) rfl HND.out.2.size
   have hkc : Keep (fun k => k < W3.heap.size) W3 (((w8.alloc (.cells #[.int .i64 key] 3)).alloc (.cells #[.pointer (some ⟨nb, 0, none⟩)] 99)).alloc (.cells #[.func (.func 121) #[] #[.pointer (some ⟨w8.heap.size, 0, none⟩)]] 86)) :=
     (Keep.of_below HND.out.2 (fun k _ h => h)).trans ((Keep.alloc _ _ _).trans ((Keep.alloc _ _ _).trans (Keep.alloc _ _ _)))
   generalize (((w8.alloc (.cells #[.int .i64 key] 3)).alloc (.cells #[.pointer (some ⟨nb, 0, none⟩)] 99)).alloc (.cells #[.func (.func 121) #[] #[.pointer (some ⟨w8.heap.size, 0, none⟩)]] 86)) = wc at hdn hkc ⊢
   obtain ⟨lo, hi, b, q, bn, bf, hfv, hnd, hlo, hhi, hq0, hbn0, hbf0, hbn, hbf, hq⟩ := hdn
   rw [hfv]
   clear hfv
   obtain ⟨xs, hxs, hway⟩ := way_in (key + 1) hnd HWELL.out hw
   have hit := way_upTo_iter key (key + 1) (Lib.hid rfl) hway hhi bn bf q hbn hbf hq
   have hst := hway.stops
   have hnr := hnd.range
   have hwp := Tr.next_way (key + 1) t HWELL.out (0, false)
   rw [← hxs] at hwp
   have l1 := (Array.getElem?_eq_some_iff.1 hbn).1
   have l2 := (Array.getElem?_eq_some_iff.1 hbf).1
   have l3 := (Array.getElem?_eq_some_iff.1 hq).1
   have e6 := (hkc.block _ (by omega) (by omega)).trans H3.out.2.1
   have e7 := (hkc.block _ (by omega) (by omega)).trans H3.out.2.2
   have hsc := hkc.size
   have HIT := Lib.hid hit
   have HST := Lib.hid hst
   have HWP := Lib.hid hwp
   have HKC := Lib.hid hkc
   have HE := Lib.hid (And.intro e6 e7)
   clear hit hst hwp hkc e6 e7 hxs hway hnd hbn hbf hq
   gi_wp2_with fail
   refine wp_loop (fb := #[]) (lb := #[.pointer (some ⟨bn, 0, none⟩), .pointer (some ⟨bf, 0, none⟩)]) rfl (enters_of Tryd.func118 (by kernel_rfl) rfl) HIT.out (Keep.refl _ _) (fun x => rfl)
     (fun k => k < wc.heap.size ∧ k ≠ w2.heap.size ∧ k ≠ w2.heap.size + 1) (fun k h => by omega) (fun k h => h.1)
     (fun pre Pv W => ¬ Pv w2.heap.size ∧ ¬ Pv (w2.heap.size + 1) ∧ W.heap[w2.heap.size]? = some (.cells #[.int .i64 ((pre.map Prod.snd).foldl (Tr.nextStep (key + 1)) (0, false)).1] 3 (0, 0)) ∧ W.heap[w2.heap.size + 1]? = some (.cells #[.bool ((pre.map Prod.snd).foldl (Tr.nextStep (key + 1)) (0, false)).2] 4 (0, 0)))
     (fun c pre Pv W => False)
     (fun pre Pv A Pv' B h hk hp => by
       obtain ⟨h1, h2, h3, h4⟩ := h
       have q3 := (Array.getElem?_eq_some_iff.1 h3).1
       have q4 := (Array.getElem?_eq_some_iff.1 h4).1
       refine ⟨fun h => ?_, fun h => ?_, (hk.block _ q3 h1).trans h3, (hk.block _ q4 h2).trans h4⟩
       · exact (hp _ h).elim h1 (fun h => by omega)
       · exact (hp _ h).elim h2 (fun h => by omega))
     (fun c pre Pv A Pv' B h hk hp => h)
     ⟨by omega, by omega, HE.out.1, HE.out.2⟩
     (fun x => { tmps := #[.agg #[.slice a5 n5 m5, .slice a6 n6 m6], .int .i64 key, .pointer (some ⟨w'.heap.size, 0, none⟩), undef, .int .i64 0, .bool false, .pointer (some ⟨w2.heap.size, 0, none⟩), .pointer (some ⟨w2.heap.size + 1, 0, none⟩),
       .pointer (some ⟨x.1, 0, none⟩), .int .i64 (place (key + 1) x.2.ks), .agg #[.slice a5 n5 m5, .slice a6 n6 m6], .bool true, .bool false, .agg #[.slice a5 n5 m5, .slice a6 n6 m6], .pointer (some ⟨nb, 0, none⟩), .int .i64 key, .func (.func 121) #[] #[.pointer (some ⟨w8.heap.size, 0, none⟩)],
       .func (.func 118) #[] #[.pointer (some ⟨bn, 0, none⟩), .pointer (some ⟨bf, 0, none⟩)], .pointer (some ⟨x.1, 0, none⟩), .int .i64 (place (key + 1) x.2.ks), undef, undef, undef, undef, undef, undef, undef, undef, undef, undef, undef, undef, undef, undef, undef, undef, undef, undef], defers := [] })
     ?assign ?body ?done ?stop
   case assign =>
     intro l' m x W' K hK
     dsimp only [wayEnc]
     gi_wp2
     exact hK
   case body =>
     intro l' m pre x Pv W' hI hkW hsub hbnd hp
     obtain ⟨xb, ⟨ks, cs⟩⟩ := x
     obtain ⟨h1, h2, h3, h4⟩ := hI
     obtain ⟨kvx, ax, capx, hs⟩ := HST.out _ (hp.subset (by simp : (xb, Tr.mk ks cs) ∈ pre ++ [(xb, Tr.mk ks cs)]))
     have hxl := hs.low
     have hxh := hs.high
     have hks : IntsR W' lo hi kvx ks := hs.keys.same (fun k g1 g2 => hkW.block k (by omega) ⟨by omega, by omega, by omega⟩)
     have hbx : W'.heap[xb]? = some (.cells #[kvx, .slice ax cs.length capx] 110 (0, 0)) := (hkW.block xb (by omega) ⟨by omega, by omega, by omega⟩).trans hs.box
     have hpl := place_le (key + 1) ks
     have hsn : ((pre ++ [(xb, Tr.mk ks cs)]).map Prod.snd).foldl (Tr.nextStep (key + 1)) (0, false) = Tr.nextStep (key + 1) ((pre.map Prod.snd).foldl (Tr.nextStep (key + 1)) (0, false)) (.mk ks cs) := by simp
     rw [Tr.nextStep_mk] at hsn
     obtain ⟨ka, kcap, rfl, k1, k2, k3, k4⟩ := hks
     unfold maxLen at k2
     obtain ⟨x1, x2, x3, x4⟩ := box2 hbx
     obtain ⟨c6, f6⟩ := box1 h3
     obtain ⟨c7, f7⟩ := box1 h4
     dsimp only [Tr.ks]
     obtain ⟨i, hi⟩ : ∃ i, i = place (key + 1) ks := ⟨_, rfl⟩
     rw [← hi] at hpl hsn ⊢
     have HH := Lib.hid (And.intro h3 h4)
     have HSN := Lib.hid hsn
     have HK4 := Lib.hid k4
     clear h3 h4 hi hsn k4 hbx hs hp hkW hsub hbnd
     by_cases f1 : i < ks.length
     · rcases HK4.out with h0 | ⟨kb, ko, rfl, g1, g2, g3⟩
       · exfalso; have h9 : ks.length = 0 := by rw [h0]; rfl
         omega
       have hb9 := Lib.hid (HSN.out.trans (if_pos f1))
       have f1' : (i : Int) < (ks.length : Int) := by omega
       have z1 := g3 i f1
       obtain ⟨kk, hkk⟩ : ∃ kk, kk = ks.getD i 0 := ⟨_, rfl⟩
       rw [← hkk] at z1
       have HKK := Lib.hid hkk
       clear g3 g1 g2 hkk
       gi_wp2
       refine ⟨(Keep.setCell _ _ _ _ h1).trans (Keep.setCell _ _ _ _ h2), h1, h2, ?_, ?_⟩
       · rw [set_other _ _ _ _ _ (by omega), hb9.out, ← HKK.out]; exact set_blk (o := 0) _ HH.out.1
       · rw [hb9.out]; exact set_blk (o := 0) (.bool true) ((set_other _ _ _ _ _ (by omega)).trans HH.out.2)
     · have hb9 := Lib.hid (HSN.out.trans (if_neg f1))
       have f1' : ¬ (i : Int) < (ks.length : Int) := by omega
       clear f1
       gi_wp2
       refine ⟨Keep.refl _ _, h1, h2, ?_, ?_⟩
       · rw [hb9.out]; exact HH.out.1
       · rw [hb9.out]; exact HH.out.2
   case done =>
     intro W3' hk3 hI hlt hD
     obtain ⟨h1, h2, h3, h4⟩ := hI
     rw [HWP.out, ← HP.out] at h3 h4
     obtain ⟨c6, f6⟩ := box1 h3
     obtain ⟨c7, f7⟩ := box1 h4
     have HH := Lib.hid (And.intro h3 (And.intro h4 hk3))
     have HD := Lib.hid hD
     clear h1 h2 h3 h4 hk3 hD
     gi_wp2
     gi_quiet (fail)
     gi_wp2
     refine ⟨by simp, .inl ⟨_, _, rfl, run_takeDeferred (w := W3'.drewN nq) HD.out, ?_⟩⟩
     refine ⟨.tuple #[.int .i64 (t.nextB key).1, .bool (t.nextB key).2], by simp [results, Tryd.results47, go_sem], rfl, ?_⟩
     exact H3.out.1.trans (((((HKC.out.mono (fun k _ h => by omega)).trans (HH.out.2.2.mono (fun k hlt h => by omega))).trans (Keep.drewN _ _ _)).trans (Keep.putObj _ _ wc.heap.size (.deferred none) (show ¬ wc.heap.size < w'.heap.size by omega))).below (B := w'.heap.size) (by omega) (fun k h => h))
   case stop =>
     rintro c pre' W3' hk3 hp hI hlt hD
     exact hI.elim
end Go.Proofs.YticfkfjijnfcbaaDoor
/- The contract of the program's PrevKey. -/
namespace Go.Proofs.YticfkfjijnfcbaaDoor
open Go.RowKit
attribute [local go_sem] Oper.semAt_some
attribute [local go_sem] wide_fn
set_option maxRecDepth 100000 in
set_option maxHeartbeats 4000000 in
theorem impl_prev {w : World} {B : Nat} {kv cv : Value} {t : Tr} (ht : TreeIn w B kv cv t) (hw : t.weight ≤ 1048576) (key : Int) (w' : World) (hbw : Below B w w') (hB : B ≤ w'.heap.size) :
   Calls Tryd.prog 48 #[.agg #[kv, cv], .int .i64 key] w' fun e w'' => e = .returned (.tuple #[.int .i64 (t.prevB key).1, .bool (t.prevB key).2]) ∧ Below w'.heap.size w' w'' := by
 obtain ⟨a5, n5, m5, a6, n6, m6, rfl, rfl⟩ := ht.slices
 obtain ⟨W1, hW1⟩ : ∃ W1, W1 = w'.alloc (.cells #[.slice a5 n5 m5, .slice a6 n6 m6] 33) := ⟨_, rfl⟩
 have hs1 : W1.heap.size = w'.heap.size + 1 := by rw [hW1]; simp
 have hb1 : Below w'.heap.size w' W1 := by rw [hW1]; exact (Below.refl _ _).alloc (Nat.le_refl _) _
 have k0 : W1.heap[w'.heap.size]? = some (.cells #[.slice a5 n5 m5, .slice a6 n6 m6] 33 (0, 0)) := by rw [hW1, new_blk]
 obtain ⟨x1, x2, x3, x4⟩ := box2 k0
 have hsome := Tr.prevB_is key t
 have HT := Lib.hid ht
 have HBW := Lib.hid hbw
 have HW1 := Lib.hid hW1
 have H1 := Lib.hid (And.intro hb1 k0)
 have HSOME := Lib.hid hsome
 clear ht hbw hW1 hb1 k0 hsome
 refine (callsIn_wide (n := 9)).1 (callsIn_of_wp_marks Tryd.func48 rfl trivial ?_ rfl)
 simp only [Tryd.ntmps48, List.size_toArray, List.length_cons, List.length_nil, Nat.reduceAdd, Nat.reduceSub, Array.replicate_succ, Array.replicate_zero, List.push_toArray, List.append_toArray, List.nil_append, List.cons_append]
 gi_wp2_with fail
 rw [← HW1.out]
 refine ((callsIn_wide (n := _)).2 (validForSome_c HT.out hw W1 (HBW.out.trans (H1.out.1.mono hB)) (by omega))).mono ?_
 rintro e w2 ⟨rfl, hb2⟩
 have hs2 := hb2.size
 clear x1 x2 x3 x4
 have j0 := (hb2.block _ (by omega)).trans H1.out.2
 obtain ⟨x1, x2, x3, x4⟩ := box2 j0
 have hb2' := H1.out.1.trans (hb2.mono (by omega))
 have H2 := Lib.hid (And.intro hb2' j0)
 clear hb2 hb2' j0
 cases hv : t.someB with
 | false =>
   have hp := HSOME.out.2 hv
   have HP := Lib.hid hp
   have HV := Lib.hid hv
   clear hp hv
   gi_wp2_with fail
   exact ⟨.tuple #[.int .i64 0, .bool false], by simp [results, Tryd.results48, go_sem], ret_ib (by rw [HP.out]) (by rw [HP.out]), H2.out.1⟩
 | true =>
   have hp := HSOME.out.1 hv
   have hwell := Tr.Well.of_some hv
   have HP := Lib.hid hp
   have HV := Lib.hid hv
   have HWELL := Lib.hid hwell
   clear hp hv hwell
   obtain ⟨W3, hW3⟩ : ∃ W3, W3 = (w2.alloc (.cells #[.int .i64 0] 3)).alloc (.cells #[.bool false] 4) := ⟨_, rfl⟩
   have hs3 : W3.heap.size = w2.heap.size + 2 := by rw [hW3]; simp
   have hb3 : Below w2.heap.size w2 W3 := by rw [hW3]; exact ((Below.refl _ _).alloc (Nat.le_refl _) _).alloc (by simp) _
   have k6 : W3.heap[w2.heap.size]? = some (.cells #[.int .i64 0] 3 (0, 0)) := by
     rw [hW3]; exact (old_blk _ _ _ (by simp)).trans (new_blk _ _)
   have k7 : W3.heap[w2.heap.size + 1]? = some (.cells #[.bool false] 4 (0, 0)) := by
     rw [hW3]
     have h := new_blk (w2.alloc (.cells #[.int .i64 0] 3)) (.cells #[.bool false] 4)
     rw [World.size_alloc] at h; exact h
   have j0 := (hb3.block _ (by omega)).trans H2.out.2
   clear x1 x2 x3 x4
   obtain ⟨x1, x2, x3, x4⟩ := box2 (H2.out.2)
   obtain ⟨y1, y2, y3, y4⟩ := box2 j0
   have hb3' := H2.out.1.trans (hb3.mono (by omega))
   have hB3 : Below B w W3 := HBW.out.trans (hb3'.mono hB)
   have H3 := Lib.hid (And.intro hb3' (And.intro k6 k7))
   have HB3 := Lib.hid hB3
   have HW3 := Lib.hid hW3
   clear hb3 hb3' j0 k6 k7 hB3 hW3
   gi_upto_region 4 with (fail)
   rw [← HW3.out]
   clear x1 x2 x3 x4
   gi_wp2_with fail
   refine CallsIn.mono ((callsIn_wide (n := _)).2 (plant_c HT.out hw _ HB3.out (by omega))) ?_
   rintro e w8 ⟨nb, rfl, hnd, hb8⟩
   have hs8 := hb8.size
   have HND := Lib.hid (And.intro hnd hb8)
   clear hnd hb8 y1 y2 y3 y4
   gi_wp2_with fail
   refine CallsIn.mono ((callsIn_wide (n := _)).2 (less_c key _)) ?_
   rintro e w9 ⟨rfl, rfl⟩
   gi_wp2_with fail
   refine CallsIn.mono ((callsIn_wide (n := _)).2 (wayDown_c _ _ _ _)) ?_
   rintro e w10 ⟨rfl, rfl⟩
   have hdn := downAt_mk (B := W3.heap.size) (gf := 109) (n := key) (wp := W3) (Nat.le_refl _) HND.out.1 (wl := w8) rfl HND.out.2.size
   have hkc : Keep (fun k => k < W3.heap.size) W3 (((w8.alloc (.cells #[.int .i64 key] 3)).alloc (.cells #[.pointer (some ⟨nb, 0, none⟩)] 99)).alloc (.cells #[.func (.func 109) #[] #[.pointer (some ⟨w8.heap.size, 0, none⟩)]] 86)) :=
     (Keep.of_below HND.out.2 (fun k _ h => h)).trans ((Keep.alloc _ _ _).trans ((Keep.alloc _ _ _).trans (Keep.alloc _ _ _)))
   generalize (((w8.alloc (.cells #[.int .i64 key] 3)).alloc (.cells #[.pointer (some ⟨nb, 0, none⟩)] 99)).alloc (.cells #[.func (.func 109) #[] #[.pointer (some ⟨w8.heap.size, 0, none⟩)]] 86)) = wc at hdn hkc ⊢
   obtain ⟨lo, hi, b, q, bn, bf, hfv, hnd, hlo, hhi, hq0, hbn0, hbf0, hbn, hbf, hq⟩ := hdn
   rw [hfv]
   clear hfv
   obtain ⟨xs, hxs, hway⟩ := way_in (key) hnd HWELL.out hw
   have hit := way_less_iter key (key) (Lib.hid rfl) hway hhi bn bf q hbn hbf hq
   have hst := hway.stops
   have hnr := hnd.range
   have hwp := Tr.prev_way (key) t HWELL.out (0, false)
   rw [← hxs] at hwp
   have l1 := (Array.getElem?_eq_some_iff.1 hbn).1
   have l2 := (Array.getElem?_eq_some_iff.1 hbf).1
   have l3 := (Array.getElem?_eq_some_iff.1 hq).1
   have e6 := (hkc.block _ (by omega) (by omega)).trans H3.out.2.1
   have e7 := (hkc.block _ (by omega) (by omega)).trans H3.out.2.2
   have hsc := hkc.size
   have HIT := Lib.hid hit
   have HST := Lib.hid hst
   have HWP := Lib.hid hwp
   have HKC := Lib.hid hkc
   have HE := Lib.hid (And.intro e6 e7)
   clear hit hst hwp hkc e6 e7 hxs hway hnd hbn hbf hq
   gi_wp2_with fail
   refine wp_loop (fb := #[]) (lb := #[.pointer (some ⟨bn, 0, none⟩), .pointer (some ⟨bf, 0, none⟩)]) rfl (enters_of Tryd.func118 (by kernel_rfl) rfl) HIT.out (Keep.refl _ _) (fun x => rfl)
     (fun k => k < wc.heap.size ∧ k ≠ w2.heap.size ∧ k ≠ w2.heap.size + 1) (fun k h => by omega) (fun k h => h.1)
     (fun pre Pv W => ¬ Pv w2.heap.size ∧ ¬ Pv (w2.heap.size + 1) ∧ W.heap[w2.heap.size]? = some (.cells #[.int .i64 ((pre.map Prod.snd).foldl (Tr.prevStep (key)) (0, false)).1] 3 (0, 0)) ∧ W.heap[w2.heap.size + 1]? = some (.cells #[.bool ((pre.map Prod.snd).foldl (Tr.prevStep (key)) (0, false)).2] 4 (0, 0)))
     (fun c pre Pv W => False)
     (fun pre Pv A Pv' B h hk hp => by
       obtain ⟨h1, h2, h3, h4⟩ := h
       have q3 := (Array.getElem?_eq_some_iff.1 h3).1
       have q4 := (Array.getElem?_eq_some_iff.1 h4).1
       refine ⟨fun h => ?_, fun h => ?_, (hk.block _ q3 h1).trans h3, (hk.block _ q4 h2).trans h4⟩
       · exact (hp _ h).elim h1 (fun h => by omega)
       · exact (hp _ h).elim h2 (fun h => by omega))
     (fun c pre Pv A Pv' B h hk hp => h)
     ⟨by omega, by omega, HE.out.1, HE.out.2⟩
     (fun x => { tmps := #[.agg #[.slice a5 n5 m5, .slice a6 n6 m6], .int .i64 key, .pointer (some ⟨w'.heap.size, 0, none⟩), undef, .int .i64 0, .bool false, .pointer (some ⟨w2.heap.size, 0, none⟩), .pointer (some ⟨w2.heap.size + 1, 0, none⟩),
       .pointer (some ⟨x.1, 0, none⟩), .int .i64 (place (key) x.2.ks), .agg #[.slice a5 n5 m5, .slice a6 n6 m6], .bool true, .bool false, .agg #[.slice a5 n5 m5, .slice a6 n6 m6], .pointer (some ⟨nb, 0, none⟩), .int .i64 key, .func (.func 109) #[] #[.pointer (some ⟨w8.heap.size, 0, none⟩)],
       .func (.func 118) #[] #[.pointer (some ⟨bn, 0, none⟩), .pointer (some ⟨bf, 0, none⟩)], .pointer (some ⟨x.1, 0, none⟩), .int .i64 (place (key) x.2.ks), undef, undef, undef, undef, undef, undef, undef, undef, undef, undef, undef, undef, undef], defers := [] })
     ?assign ?body ?done ?stop
   case assign =>
     intro l' m x W' K hK
     dsimp only [wayEnc]
     gi_wp2
     exact hK
   case body =>
     intro l' m pre x Pv W' hI hkW hsub hbnd hp
     obtain ⟨xb, ⟨ks, cs⟩⟩ := x
     obtain ⟨h1, h2, h3, h4⟩ := hI
     obtain ⟨kvx, ax, capx, hs⟩ := HST.out _ (hp.subset (by simp : (xb, Tr.mk ks cs) ∈ pre ++ [(xb, Tr.mk ks cs)]))
     have hxl := hs.low
     have hxh := hs.high
     have hks : IntsR W' lo hi kvx ks := hs.keys.same (fun k g1 g2 => hkW.block k (by omega) ⟨by omega, by omega, by omega⟩)
     have hbx : W'.heap[xb]? = some (.cells #[kvx, .slice ax cs.length capx] 110 (0, 0)) := (hkW.block xb (by omega) ⟨by omega, by omega, by omega⟩).trans hs.box
     have hpl := place_le (key) ks
     have hsn : ((pre ++ [(xb, Tr.mk ks cs)]).map Prod.snd).foldl (Tr.prevStep (key)) (0, false) = Tr.prevStep (key) ((pre.map Prod.snd).foldl (Tr.prevStep (key)) (0, false)) (.mk ks cs) := by simp
     rw [Tr.prevStep_mk] at hsn
     obtain ⟨ka, kcap, rfl, k1, k2, k3, k4⟩ := hks
     unfold maxLen at k2
     obtain ⟨x1, x2, x3, x4⟩ := box2 hbx
     obtain ⟨c6, f6⟩ := box1 h3
     obtain ⟨c7, f7⟩ := box1 h4
     dsimp only [Tr.ks]
     obtain ⟨i, hi⟩ : ∃ i, i = place (key) ks := ⟨_, rfl⟩
     rw [← hi] at hpl hsn ⊢
     have HH := Lib.hid (And.intro h3 h4)
     have HSN := Lib.hid hsn
     have HK4 := Lib.hid k4
     clear h3 h4 hi hsn k4 hbx hs hp hkW hsub hbnd
     by_cases f1 : 0 < i
     · rcases HK4.out with h0 | ⟨kb, ko, rfl, g1, g2, g3⟩
       · exfalso; have h9 : ks.length = 0 := by rw [h0]; rfl
         omega
       have hb9 := Lib.hid (HSN.out.trans (if_pos f1))
       have f1' : (0 : Int) < (i : Int) := by omega
       obtain ⟨j, rfl⟩ : ∃ j, i = j + 1 := ⟨i - 1, by omega⟩
       have z1 := g3 j (by omega)
       have hjj : ((j + 1 : Nat) : Int) - 1 = (j : Int) := by omega
       have hjl : (j : Int) < (ks.length : Int) := by omega
       obtain ⟨kk, hkk⟩ : ∃ kk, kk = ks.getD j 0 := ⟨_, rfl⟩
       rw [← hkk] at z1
       have HKK := Lib.hid hkk
       clear g3 g1 g2 hkk f1
       gi_wp2
       refine ⟨(Keep.setCell _ _ _ _ h1).trans (Keep.setCell _ _ _ _ h2), h1, h2, ?_, ?_⟩
       · rw [set_other _ _ _ _ _ (by omega), hb9.out, Nat.add_sub_cancel, ← HKK.out]; exact set_blk (o := 0) _ HH.out.1
       · rw [hb9.out]; exact set_blk (o := 0) (.bool true) ((set_other _ _ _ _ _ (by omega)).trans HH.out.2)
     · have hb9 := Lib.hid (HSN.out.trans (if_neg f1))
       have f1' : ¬ (0 : Int) < (i : Int) := by omega
       clear f1
       gi_wp2
       refine ⟨Keep.refl _ _, h1, h2, ?_, ?_⟩
       · rw [hb9.out]; exact HH.out.1
       · rw [hb9.out]; exact HH.out.2
   case done =>
     intro W3' hk3 hI hlt hD
     obtain ⟨h1, h2, h3, h4⟩ := hI
     rw [HWP.out, ← HP.out] at h3 h4
     obtain ⟨c6, f6⟩ := box1 h3
     obtain ⟨c7, f7⟩ := box1 h4
     have HH := Lib.hid (And.intro h3 (And.intro h4 hk3))
     have HD := Lib.hid hD
     clear h1 h2 h3 h4 hk3 hD
     gi_wp2
     gi_quiet (fail)
     gi_wp2
     refine ⟨by simp, .inl ⟨_, _, rfl, run_takeDeferred (w := W3'.drewN nq) HD.out, ?_⟩⟩
     refine ⟨.tuple #[.int .i64 (t.prevB key).1, .bool (t.prevB key).2], by simp [results, Tryd.results48, go_sem], rfl, ?_⟩
     exact H3.out.1.trans (((((HKC.out.mono (fun k _ h => by omega)).trans (HH.out.2.2.mono (fun k hlt h => by omega))).trans (Keep.drewN _ _ _)).trans (Keep.putObj _ _ wc.heap.size (.deferred none) (show ¬ wc.heap.size < w'.heap.size by omega))).below (B := w'.heap.size) (by omega) (fun k h => h))
   case stop =>
     rintro c pre' W3' hk3 hp hI hlt hD
     exact hI.elim
end Go.Proofs.YticfkfjijnfcbaaDoor
