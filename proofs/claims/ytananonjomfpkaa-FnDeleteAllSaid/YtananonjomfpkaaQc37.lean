/- A list of keys inserted, and the same list backwards: plain data. -/
import Derived.Test.YtananonjomfpkaaQc36
/- The model's DeleteAll. -/
namespace Go.Proofs.Ytananonjomfpkaa
open Go.RowKit
set_option maxRecDepth 100000 in
set_option maxHeartbeats 4000000 in
theorem specDeleteAll_c {w : World} {B : Nat} {kv cv v : Value} {t : Tr} {ks : List Int} (ht : TreeIn w B kv cv t) (hw : t.weight ≤ 1048576) (hk : IntsIn w B v ks) (wide : Int) (w' : World) (hbw : Below B w w') (hB : B ≤ w'.heap.size) (hwB : w.heap.size ≤ B) :
   Calls Try.prog 32 #[.agg #[kv, cv], .int .i64 wide, v] w' fun e w'' => ∃ kv' cv', e = .returned (.tuple #[.agg #[kv', cv'], .bool (Tr.askAll wide t ks)]) ∧ TreeIn w'' w''.heap.size kv' cv' (Tr.goneT wide t ks) ∧ Below w'.heap.size w' w'' := by
 obtain ⟨a5, n5, m5, a6, n6, m6, rfl, rfl⟩ := ht.slices
 have hk' := hk
 obtain ⟨ka, kc, rfl, -⟩ := hk'
 obtain ⟨W1, hW1⟩ : ∃ W1, W1 = (w'.alloc (.cells #[.slice a5 n5 m5, .slice a6 n6 m6] 26)).alloc (.cells #[.slice none 0 0, .slice none 0 0] 26) := ⟨_, rfl⟩
 have hs1 : W1.heap.size = w'.heap.size + 2 := by rw [hW1]; simp
 have hb1 : Below w'.heap.size w' W1 := by rw [hW1]; exact ((Below.refl _ _).alloc (Nat.le_refl _) _).alloc (by simp) _
 have k0 : W1.heap[w'.heap.size]? = some (.cells #[.slice a5 n5 m5, .slice a6 n6 m6] 26 (0, 0)) := by rw [hW1, old_blk _ _ _ (by simp), new_blk]
 have kb : W1.heap[w'.heap.size + 1]? = some (.cells #[.slice none 0 0, .slice none 0 0] 26 (0, 0)) := by
   rw [hW1, show w'.heap.size + 1 = (w'.alloc (.cells #[.slice a5 n5 m5, .slice a6 n6 m6] 26)).heap.size by simp, new_blk]
 have k0x := k0
 rw [hW1] at k0x
 obtain ⟨x1, x2, x3, x4⟩ := box2 k0x
 have HT := Lib.hid ht
 have HK := Lib.hid hk
 have HBW := Lib.hid hbw
 have HW1 := Lib.hid hW1
 have H1 := Lib.hid (And.intro hb1 (And.intro kb k0))
 clear ht hbw hW1 hb1 k0 kb k0x hk
 go_enter Try.func32, Try.ntmps32
 go_wp2_with fail
 rw [← HW1.out]
 refine (specTreeValid_c HT.out hw wide W1 (HBW.out.trans (H1.out.1.mono hB)) (by omega)).mono ?_
 rintro e w2 ⟨rfl, hb2⟩
 have hs2 := hb2.size
 clear x1 x2 x3 x4
 have j0 := (hb2.block _ (by omega)).trans H1.out.2.2
 have hrb := (hb2.block (w'.heap.size + 1) (by omega)).trans H1.out.2.1
 obtain ⟨x1, x2, x3, x4⟩ := box2 j0
 obtain ⟨r1, r2, r3, r4⟩ := box2 hrb
 have hb2' := H1.out.1.trans (hb2.mono (by omega))
 have HIN := Lib.hid (HK.out.later (HBW.out.trans (hb2'.mono hB)) (Nat.le_refl _))
 have H2 := Lib.hid (And.intro hb2' hrb)
 clear hb2 j0 hrb hb2'
 cases hv : Tr.validB wide t with
 | false =>
   have ha : Tr.askAll wide t ks = false := by simp [Tr.askAll, hv]
   have HA := Lib.hid (show Tr.goneT wide t ks = .mk [] [] by simp [Tr.goneT, ha])
   have HAB := Lib.hid ha
   clear ha hv
   go_wp2_with fail
   obtain ⟨wf, hwf⟩ : ∃ wf, wf = (w2.setCell ⟨w'.heap.size + 1, 0, none⟩ (.slice none 0 0)).setCell ⟨w'.heap.size + 1, 1, none⟩ (.slice none 0 0) := ⟨_, rfl⟩
   have hfb : wf.heap[w'.heap.size + 1]? = some (.cells #[.slice none 0 0, .slice none 0 0] 26 (0, 0)) := by
     rw [hwf]; exact set_blk (o := 1) _ (set_blk (o := 0) _ H2.out.2)
   obtain ⟨d1, d2, d3, d4⟩ := box2 hfb
   rw [← hwf]
   refine bodyPost_ret (v := .tuple #[.agg #[.slice none 0 0, .slice none 0 0], .bool false]) (by simp [results, Try.results32, go_sem, d1, d2]) rfl ⟨_, _, by rw [HAB.out], by rw [HA.out]; exact (TreeO.nil _ 0).tree, ?_⟩
   rw [hwf]; exact (H2.out.1.setCell (by show w'.heap.size ≤ w'.heap.size + 1; omega) _).setCell (by show w'.heap.size ≤ w'.heap.size + 1; omega) _
 | true =>
   have HV := Lib.hid hv
   clear hv
   go_wp2_with fail
   refine (l3Keys_c w2 B HIN.out).mono ?_
   rintro e w3 ⟨rfl, rfl⟩
   cases hko : keysOk ks with
   | false =>
     have ha : Tr.askAll wide t ks = false := by simp [Tr.askAll, hko]
     have HA := Lib.hid (show Tr.goneT wide t ks = .mk [] [] by simp [Tr.goneT, ha])
     have HAB := Lib.hid ha
     clear ha hko
     go_wp2_with fail
     obtain ⟨wf, hwf⟩ : ∃ wf, wf = (w3.setCell ⟨w'.heap.size + 1, 0, none⟩ (.slice none 0 0)).setCell ⟨w'.heap.size + 1, 1, none⟩ (.slice none 0 0) := ⟨_, rfl⟩
     have hfb : wf.heap[w'.heap.size + 1]? = some (.cells #[.slice none 0 0, .slice none 0 0] 26 (0, 0)) := by
       rw [hwf]; exact set_blk (o := 1) _ (set_blk (o := 0) _ H2.out.2)
     obtain ⟨d1, d2, d3, d4⟩ := box2 hfb
     rw [← hwf]
     refine bodyPost_ret (v := .tuple #[.agg #[.slice none 0 0, .slice none 0 0], .bool false]) (by simp [results, Try.results32, go_sem, d1, d2]) rfl ⟨_, _, by rw [HAB.out], by rw [HA.out]; exact (TreeO.nil _ 0).tree, ?_⟩
     rw [hwf]; exact (H2.out.1.setCell (by show w'.heap.size ≤ w'.heap.size + 1; omega) _).setCell (by show w'.heap.size ≤ w'.heap.size + 1; omega) _
   | true =>
     have ha : Tr.askAll wide t ks = true := by simp [Tr.askAll, hko, HV.out]
     have HA := Lib.hid (show Tr.goneT wide t ks = (Tr.gone wide t ks).t by simp [Tr.goneT, ha])
     have HAB := Lib.hid ha
     have hall := l4All_c HT.out wide HV.out HK.out (keysOk_few hko) w3 (HBW.out.trans (H2.out.1.mono hB)) (by omega) hwB
     have HALL := Lib.hid hall
     clear ha hko hall
     go_wp2_with fail
     refine HALL.out.mono ?_
     rintro e w4 ⟨k4, c4, rfl, ht4, hb4⟩
     obtain ⟨q1, q2, q3, q4, q5, q6, rfl, rfl⟩ := ht4.slices
     have hs4 := hb4.size
     have hrb := (hb4.block (w'.heap.size + 1) (by omega)).trans H2.out.2
     clear r1 r2 r3 r4 x1 x2 x3 x4
     obtain ⟨W5, hW5⟩ : ∃ W5, W5 = (w4.alloc (.cells #[.slice q1 q2 q3, .slice q4 q5 q6] 26)).alloc (.cells #[.int .i64 ((Tr.gone wide t ks).b : Int), .int .i64 ((Tr.gone wide t ks).j : Int), .bool (Tr.gone wide t ks).sh] 52) := ⟨_, rfl⟩
     have hs5 : W5.heap.size = w4.heap.size + 2 := by rw [hW5]; simp
     have hb5 : Below w4.heap.size w4 W5 := by rw [hW5]; exact ((Below.refl _ _).alloc (Nat.le_refl _) _).alloc (by simp) _
     have b8 : W5.heap[w4.heap.size]? = some (.cells #[.slice q1 q2 q3, .slice q4 q5 q6] 26 (0, 0)) := by rw [hW5, old_blk _ _ _ (by simp), new_blk]
     have b6 := (hb5.block _ (by omega)).trans hrb
     have hbl : Below w'.heap.size w' W5 := H2.out.1.trans ((hb4.mono (by omega)).trans (hb5.mono (by omega)))
     have ht5 : TreeQ W5 (fun k => w3.heap.size ≤ k ∧ k < W5.heap.size) (.slice q1 q2 q3) (.slice q4 q5 q6) (Tr.gone wide t ks).t := ht4.same (fun k hk => hb5.block k hk.2) (fun k hk => ⟨hk.1, by have := hk.2; omega⟩)
     have HZ := Lib.hid (And.intro ht5 (And.intro hbl b6))
     have HW5 := Lib.hid hW5
     have hs4' : w'.heap.size + 2 ≤ w4.heap.size := by omega
     obtain ⟨x1, x2, x3, x4⟩ := box2 b8
     obtain ⟨r1, r2, r3, r4⟩ := box2 b6
     clear ht4 hb4 hrb hW5 hb5 b8 b6 hbl ht5
     go_upto_region 4 with (fail)
     rw [← HW5.out]
     go_wp2_with fail
     obtain ⟨wf, hwf⟩ : ∃ wf, wf = (W5.setCell ⟨w'.heap.size + 1, 0, none⟩ (.slice q1 q2 q3)).setCell ⟨w'.heap.size + 1, 1, none⟩ (.slice q4 q5 q6) := ⟨_, rfl⟩
     have hfb : wf.heap[w'.heap.size + 1]? = some (.cells #[.slice q1 q2 q3, .slice q4 q5 q6] 26 (0, 0)) := by
       rw [hwf]; exact set_blk (o := 1) _ (set_blk (o := 0) _ HZ.out.2.2)
     obtain ⟨d1, d2, d3, d4⟩ := box2 hfb
     rw [← hwf]
     refine bodyPost_ret (v := .tuple #[.agg #[.slice q1 q2 q3, .slice q4 q5 q6], .bool true]) (by simp [results, Try.results32, go_sem, d1, d2]) rfl ⟨_, _, by rw [HAB.out], ?_, ?_⟩
     · rw [HA.out]
       have h := HZ.out.1.same (w' := wf) (Q := fun k => k < wf.heap.size) (fun q e => by rw [hwf, set_other _ _ _ _ _ (by omega), set_other _ _ _ _ _ (by omega)]) (fun k hk => by rw [hwf]; simp only [World.size_setCell]; exact hk.2)
       exact TreeQ.tree h (fun _ e => e)
     · rw [hwf]; exact (HZ.out.2.1.setCell (by show w'.heap.size ≤ w'.heap.size + 1; omega) _).setCell (by show w'.heap.size ≤ w'.heap.size + 1; omega) _
end Go.Proofs.Ytananonjomfpkaa
/- The program's shrunkByAll. -/
namespace Go.Proofs.Ytananonjomfpkaa
open Go.RowKit
def ShrunkAll (w : World) (wide : Int) (t : Tr) (ks : List Int) (e : Ending) (w' : World) : Prop :=
 (Tr.askAll wide t ks = false ∧ e = .returned (.tuple #[.pointer none, .bool false]) ∧ Below w.heap.size w w') ∨
 (Tr.askAll wide t ks = true ∧ ∃ (gb b : Nat) (F : Cells), e = .returned (.tuple #[.pointer (some ⟨gb, 0, none⟩), .bool true]) ∧
   Shrink w' gb wide (Tr.gone wide t ks).b (Tr.gone wide t ks).j (Tr.gone wide t ks).sh F b (Tr.gone wide t ks).t ∧
   (∀ x o, F x o → w.heap.size ≤ x) ∧ w.heap.size ≤ gb ∧ Below w.heap.size w w')
set_option maxRecDepth 100000 in
set_option maxHeartbeats 4000000 in
theorem shrunkByAll_c {w : World} {B : Nat} {kv cv v : Value} {t : Tr} {ks : List Int} (ht : TreeIn w B kv cv t) (hw : t.weight ≤ 1048576) (hk : IntsIn w B v ks) (wide : Int) (hn1 : -9223372036854775808 ≤ wide) (hn2 : wide ≤ 9223372036854775807) (w' : World) (hbw : Below B w w') (hB : B ≤ w'.heap.size) (hwB : w.heap.size ≤ B) :
   Calls Try.prog 84 #[.agg #[kv, cv], .int .i64 wide, v] w' (ShrunkAll w' wide t ks) := by
 obtain ⟨a5, n5, m5, a6, n6, m6, rfl, rfl⟩ := ht.slices
 obtain ⟨W1, hW1⟩ : ∃ W1, W1 = w'.alloc (.cells #[.slice a5 n5 m5, .slice a6 n6 m6] 26) := ⟨_, rfl⟩
 have hs1 : W1.heap.size = w'.heap.size + 1 := by rw [hW1]; simp
 have hb1 : Below w'.heap.size w' W1 := by rw [hW1]; exact (Below.refl _ _).alloc (Nat.le_refl _) _
 have k0 : W1.heap[w'.heap.size]? = some (.cells #[.slice a5 n5 m5, .slice a6 n6 m6] 26 (0, 0)) := by rw [hW1, new_blk]
 obtain ⟨x1, x2, x3, x4⟩ := box2 k0
 have hk' := hk
 obtain ⟨ka, kc, rfl, hk1, hk2, hk3, hk4⟩ := hk'
 unfold maxLen at hk2
 have HKI : Hid (∀ wx : World, Below w'.heap.size w' wx → IntsIn wx B (.slice ka ks.length kc) ks) := Lib.hid (fun wx hx => hk.later (hbw.trans (hx.mono hB)) (by omega))
 have HT := Lib.hid ht
 have HBW := Lib.hid hbw
 have HW1 := Lib.hid hW1
 have H1 := Lib.hid (And.intro hb1 k0)
 clear ht hbw hW1 hb1 k0 hk hk4
 go_enter Try.func84, Try.ntmps84
 go_wp2_with fail
 rw [← HW1.out]
 refine (impl_valid _ _ _ _ _ wide HT.out hw hn1 hn2 W1 (HBW.out.trans (H1.out.1.mono hB)) (by omega)).mono ?_
 rintro e w2 ⟨rfl, hb2⟩
 have hs2 := hb2.size
 clear x1 x2 x3 x4
 have j0 := (hb2.block _ (by omega)).trans H1.out.2
 obtain ⟨x1, x2, x3, x4⟩ := box2 j0
 have hb2' := H1.out.1.trans (hb2.mono (by omega))
 have H2 := Lib.hid (And.intro hb2' j0)
 have HB2 := Lib.hid (HBW.out.trans (hb2'.mono hB))
 clear hb2 hb2' j0
 cases hv : Tr.validB wide t with
 | false =>
   have HA := Lib.hid (show Tr.askAll wide t ks = false by simp [Tr.askAll, hv])
   clear hv
   go_wp2_with fail
   refine bodyPost_ret (v := .tuple #[.pointer none, .bool false]) (by simp [results, Try.results84, go_sem]) rfl (.inl ⟨HA.out, rfl, H2.out.1⟩)
 | true =>
 have hsmall := Tr.valid_small hv
 have HV := Lib.hid hv
 clear hv
 go_wp2_with fail
 refine (areKeys_c w2 B (HKI.out w2 H2.out.1)).mono ?_
 rintro e w3 ⟨rfl, rfl⟩
 cases hko : keysOk ks with
 | false =>
   have HA := Lib.hid (show Tr.askAll wide t ks = false by simp [Tr.askAll, hko])
   clear hko
   go_wp2_with fail
   refine bodyPost_ret (v := .tuple #[.pointer none, .bool false]) (by simp [results, Try.results84, go_sem]) rfl (.inl ⟨HA.out, rfl, H2.out.1⟩)
 | true =>
 have hfew := keysOk_few hko
 have HA := Lib.hid (show Tr.askAll wide t ks = true by simp [Tr.askAll, hko, HV.out])
 clear hko
 go_wp2_with fail
 refine (plant_nd HT.out hw w3 HB2.out (by omega)).mono ?_
 rintro e w5 ⟨b, rfl, hnd, hb5⟩
 have hs5 := hb5.size
 obtain ⟨W6, hW6⟩ : ∃ W6, W6 = w5.alloc (.cells #[.pointer (some ⟨b, 0, none⟩), .int .i64 0, .int .i64 0, .bool false, .int .i64 wide] 72) := ⟨_, rfl⟩
 have hs6 : W6.heap.size = w5.heap.size + 1 := by rw [hW6]; simp
 have hb6 : Below w5.heap.size w5 W6 := by rw [hW6]; exact (Below.refl _ _).alloc (Nat.le_refl _) _
 have hk6 : KeptF (fun _ _ => False) w5 W6 := KeptF.of_below hb6 (Nat.le_refl _)
 have hg6 : SBox W6 w5.heap.size (.pointer (some ⟨b, 0, none⟩)) 0 0 (.bool false) wide := by unfold SBox; rw [hW6, new_blk]; rfl
 have hsh : Shrink W6 w5.heap.size wide 0 0 false (span w3.heap.size w5.heap.size) b t := ⟨hg6, hnd.keep hk6 (fun _ _ _ h => h), fun o h => by have := h.2; omega⟩
 have HS := Lib.hid hsh
 have HW6 := Lib.hid hW6
 have H6 := Lib.hid (H2.out.1.trans ((hb5.mono (by omega)).trans (hb6.mono (by omega))))
 have hz2 := H2.out.1.size
 clear hsh hg6 hk6 hb6 hW6 hnd hb5 x1 x2 x3 x4
 go_upto_region 4 with (fail)
 rw [← HW6.out]
 go_wp2_with fail
 go_loopw [27] (fun s27 wr => ∃ (j b' : Nat) (F : Cells), j ≤ ks.length ∧ s27 = .int .i64 j ∧ Shrink wr w5.heap.size wide (Tr.gone wide t (ks.take j)).b (Tr.gone wide t (ks.take j)).j (Tr.gone wide t (ks.take j)).sh F b' (Tr.gone wide t (ks.take j)).t ∧ (∀ x o, F x o → w'.heap.size ≤ x) ∧ Below w'.heap.size w' wr ∧ W6.heap.size ≤ wr.heap.size) (fun s27 _ => ks.length - (intOf s27).toNat)
 case atStart => exact ⟨0, b, _, Nat.zero_le _, rfl, HS.out, fun x o h => by (have := h.1; omega), H6.out, Nat.le_refl _⟩
 case round =>
   obtain ⟨j, b', F, hj, rfl, hS, hF, hbel, hz⟩ := hrel
   obtain ⟨g1, g2, g3⟩ := Tr.gone_valid HV.out ks j hj
   have hsnoc := fun h => Tr.gone_snoc wide t (ks := ks) (j := j) h
   obtain ⟨S, hSe⟩ : ∃ S, S = Tr.gone wide t (ks.take j) := ⟨_, rfl⟩
   rw [← hSe] at hS g1 g2 g3 hsnoc
   have HR := Lib.hid (And.intro hS (And.intro hF (And.intro hbel (And.intro g1 (And.intro hsnoc hSe)))))
   have gw := Tr.valid_small g1
   clear hS hF g1 hsnoc hSe
   by_cases hlt : j < ks.length
   · obtain ⟨_, _, hvk, -, -, -, hat⟩ := HKI.out wr hbel
     injection hvk with ev1 _ ev3
     subst ev1 ev3
     rcases hat with h0 | ⟨kb, ko, rfl, hkb, hat⟩
     · rw [h0] at hlt; simp at hlt
     have hcell := hat j hlt
     obtain ⟨k, hk⟩ : ∃ k, k = ks.getD j 0 := ⟨_, rfl⟩
     rw [← hk] at hcell
     have hjk : (j : Int) < (ks.length : Int) := by omega
     have HKk := Lib.hid hk
     clear hat hbel hk
     cases hp : (S.t.path k).2 with
     | false =>
       have hcall := remove_none_c wide k wr w5.heap.size S.b S.j S.sh F b' S.t HR.out.1 (Tr.valid_well HR.out.2.2.2.1) (by omega) hp
       have HC := Lib.hid hcall
       have HE := Lib.hid (show Tr.gone wide t (ks.take (j + 1)) = S by rw [HR.out.2.2.2.2.1 hlt, ← HKk.out, Tr.takeKey, if_neg (by rw [hp]; simp)])
       clear hcall hp
       go_wp2_with fail
       refine HC.out.mono ?_
       rintro e w7 ⟨F', b2', rfl, hgr, hF', hk7⟩
       have H7 := Lib.hid (And.intro hgr (And.intro hF' hk7))
       have hs7 := hk7.size
       clear hgr hF' hk7
       go_wp2_with fail
       go_roundw
       case rel =>
         refine ⟨j + 1, b2', F', by omega, by go_num, by rw [HE.out]; exact H7.out.1, fun x o h => ?_, HR.out.2.2.1.trans (H7.out.2.2.below (by omega) (fun x o h => ?_)), by omega⟩
         · rcases H7.out.2.1 x o h with h | h
           · exact HR.out.2.1 x o h
           · omega
         · rcases h with h | h
           · exact HR.out.2.1 x o h
           · omega
       case measure => simp [intOf]; omega
     | true =>
       have hcall := remove_c wide k (Tr.valid_wide HV.out) wr w5.heap.size S.b S.j S.sh F b' S.t HR.out.1 (Tr.Lacks.of_tops (Tr.valid_well HR.out.2.2.2.1) (Tr.Tops.of_valid HR.out.2.2.2.1 (Tr.valid_wide HV.out).1) hp) (by omega) (by omega) (by omega)
       have HC := Lib.hid hcall
       have HE := Lib.hid (show Tr.gone wide t (ks.take (j + 1)) = ⟨Tr.delT wide k S.t, S.b + (Tr.del (wide / 2) (S.t.weight + 1) k S.t).b, S.j + (Tr.del (wide / 2) (S.t.weight + 1) k S.t).j, S.sh || Tr.delShrinks wide k S.t⟩ by rw [HR.out.2.2.2.2.1 hlt, ← HKk.out, Tr.takeKey, if_pos hp])
       clear hcall hp
       go_wp2_with fail
       refine HC.out.mono ?_
       rintro e w7 ⟨F', b2', rfl, hgr, hF', hk7⟩
       have H7 := Lib.hid (And.intro hgr (And.intro hF' hk7))
       have hs7 := hk7.size
       clear hgr hF' hk7
       go_wp2_with fail
       go_roundw
       case rel =>
         refine ⟨j + 1, b2', F', by omega, by go_num, by rw [HE.out]; exact H7.out.1, fun x o h => ?_, HR.out.2.2.1.trans (H7.out.2.2.below (by omega) (fun x o h => ?_)), by omega⟩
         · rcases H7.out.2.1 x o h with h | h
           · exact HR.out.2.1 x o h
           · omega
         · rcases h with h | h
           · exact HR.out.2.1 x o h
           · omega
       case measure => simp [intOf]; omega
   · have hjk : ¬ (j : Int) < (ks.length : Int) := by omega
     have HE := Lib.hid (show Tr.gone wide t ks = S by rw [HR.out.2.2.2.2.2, show j = ks.length by omega, List.take_length])
     go_wp2_with fail
     refine bodyPost_ret (v := .tuple #[.pointer (some ⟨w5.heap.size, 0, none⟩), .bool true]) (by simp [results, Try.results84, go_sem]) rfl (.inr ⟨HA.out, _, b', F, rfl, by rw [HE.out]; exact HR.out.1, HR.out.2.1, by omega, HR.out.2.2.1⟩)
end Go.Proofs.Ytananonjomfpkaa
/- The contract of the program's DeleteAll. -/
namespace Go.Proofs.Ytananonjomfpkaa
open Go.RowKit
set_option maxRecDepth 100000 in
set_option maxHeartbeats 2000000 in
theorem impl_deleteAll {w : World} {B : Nat} {kv cv v : Value} {t : Tr} {ks : List Int} (ht : TreeIn w B kv cv t) (hw : t.weight ≤ 1048576) (hk : IntsIn w B v ks) (wide : Int) (hn1 : -9223372036854775808 ≤ wide) (hn2 : wide ≤ 9223372036854775807) (w' : World) (hbw : Below B w w') (hB : B ≤ w'.heap.size) (hwB : w.heap.size ≤ B) :
   Calls Try.prog 34 #[.agg #[kv, cv], .int .i64 wide, v] w' fun e w'' => ∃ kv' cv' P, e = .returned (.tuple #[.agg #[kv', cv'], .bool (Tr.askAll wide t ks)]) ∧ TreeO w'' w'.heap.size P kv' cv' (Tr.goneT wide t ks) ∧ Below w'.heap.size w' w'' := by
 obtain ⟨a5, n5, m5, a6, n6, m6, rfl, rfl⟩ := ht.slices
 have hk0 := hk
 obtain ⟨ka, kc, rfl, -⟩ := hk0
 obtain ⟨W1, hW1⟩ : ∃ W1, W1 = (w'.alloc (.cells #[.slice a5 n5 m5, .slice a6 n6 m6] 26)).alloc (.cells #[.slice none 0 0, .slice none 0 0] 26) := ⟨_, rfl⟩
 have hs1 : W1.heap.size = w'.heap.size + 2 := by rw [hW1]; simp
 have hb1 : Below w'.heap.size w' W1 := by rw [hW1]; exact ((Below.refl _ _).alloc (Nat.le_refl _) _).alloc (by simp) _
 have k0 : W1.heap[w'.heap.size]? = some (.cells #[.slice a5 n5 m5, .slice a6 n6 m6] 26 (0, 0)) := by rw [hW1, old_blk _ _ _ (by simp), new_blk]
 have kb : W1.heap[w'.heap.size + 1]? = some (.cells #[.slice none 0 0, .slice none 0 0] 26 (0, 0)) := by
   rw [hW1, show w'.heap.size + 1 = (w'.alloc (.cells #[.slice a5 n5 m5, .slice a6 n6 m6] 26)).heap.size by simp, new_blk]
 have k0x := k0
 rw [hW1] at k0x
 obtain ⟨x1, x2, x3, x4⟩ := box2 k0x
 have HT := Lib.hid ht
 have HBW := Lib.hid hbw
 have HW1 := Lib.hid hW1
 have H1 := Lib.hid (And.intro hb1 kb)
 clear ht hbw hW1 hb1 k0 kb k0x
 go_enter Try.func34, Try.ntmps34
 go_wp2_with fail
 rw [← HW1.out]
 refine (shrunkByAll_c HT.out hw hk wide hn1 hn2 W1 (HBW.out.trans (H1.out.1.mono hB)) (by omega) hwB).mono ?_
 intro e w2 hgo
 rcases hgo with ⟨ha, rfl, hb2⟩ | ⟨ha, gb, b, F, rfl, hgr, hF, -, hb2⟩
 · have HA := Lib.hid (show Tr.goneT wide t ks = .mk [] [] by simp [Tr.goneT, ha])
   have HAB := Lib.hid ha
   have hs2 := hb2.size
   have hrb := (hb2.block (w'.heap.size + 1) (by omega)).trans H1.out.2
   obtain ⟨r1, r2, r3, r4⟩ := box2 hrb
   have H2 := Lib.hid (And.intro (H1.out.1.trans (hb2.mono (by omega))) hrb)
   clear ha hb2 hrb x1 x2 x3 x4
   go_wp2_with fail
   obtain ⟨wf, hwf⟩ : ∃ wf, wf = (w2.setCell ⟨w'.heap.size + 1, 0, none⟩ (.slice none 0 0)).setCell ⟨w'.heap.size + 1, 1, none⟩ (.slice none 0 0) := ⟨_, rfl⟩
   have hfb : wf.heap[w'.heap.size + 1]? = some (.cells #[.slice none 0 0, .slice none 0 0] 26 (0, 0)) := by
     rw [hwf]; exact set_blk (o := 1) _ (set_blk (o := 0) _ H2.out.2)
   obtain ⟨d1, d2, d3, d4⟩ := box2 hfb
   rw [← hwf]
   refine bodyPost_ret (v := .tuple #[.agg #[.slice none 0 0, .slice none 0 0], .bool false]) (by simp [results, Try.results34, go_sem, d1, d2]) rfl ⟨_, _, _, by rw [HAB.out], by rw [HA.out]; exact TreeO.nil _ _, ?_⟩
   rw [hwf]; exact (H2.out.1.setCell (by show w'.heap.size ≤ w'.heap.size + 1; omega) _).setCell (by show w'.heap.size ≤ w'.heap.size + 1; omega) _
 · have HA := Lib.hid (show Tr.goneT wide t ks = (Tr.gone wide t ks).t by simp [Tr.goneT, ha])
   have HAB := Lib.hid ha
   have hs2 := hb2.size
   have hiw := Tr.goneT_weight wide t ks
   rw [HA.out] at hiw
   have htc := tree_c hgr.node hiw w2 (Below.refl _ _)
   have HTC := Lib.hid htc
   have HB2 := Lib.hid hb2
   obtain ⟨y1, y2, y3, y4, y5, y6, y7, y8, y9⟩ := hgr.box.cells
   clear ha hb2 x1 x2 x3 x4 hgr hF htc hiw
   go_wp2_with fail
   refine HTC.out.mono ?_
   rintro e w4 ⟨k4, c4, P, rfl, ht4, hb4⟩
   obtain ⟨q1, q2, q3, q4, q5, q6, rfl, rfl⟩ := ht4.tree.slices
   have hs4 := hb4.size
   have hbr : Below W1.heap.size W1 w4 := HB2.out.trans (hb4.mono (by omega))
   have hrb := (hbr.block (w'.heap.size + 1) (by omega)).trans H1.out.2
   obtain ⟨r1, r2, r3, r4⟩ := box2 hrb
   have HZ := Lib.hid (And.intro ht4 (And.intro hbr hrb))
   clear ht4 hb4 hrb hbr y1 y2 y3 y4 y5 y6 y7 y8 y9
   go_wp2_with fail
   obtain ⟨wf, hwf⟩ : ∃ wf, wf = (w4.setCell ⟨w'.heap.size + 1, 0, none⟩ (.slice q1 q2 q3)).setCell ⟨w'.heap.size + 1, 1, none⟩ (.slice q4 q5 q6) := ⟨_, rfl⟩
   have hfb : wf.heap[w'.heap.size + 1]? = some (.cells #[.slice q1 q2 q3, .slice q4 q5 q6] 26 (0, 0)) := by
     rw [hwf]; exact set_blk (o := 1) _ (set_blk (o := 0) _ HZ.out.2.2)
   obtain ⟨d1, d2, d3, d4⟩ := box2 hfb
   rw [← hwf]
   refine bodyPost_ret (v := .tuple #[.agg #[.slice q1 q2 q3, .slice q4 q5 q6], .bool true]) (by simp [results, Try.results34, go_sem, d1, d2]) rfl ⟨_, _, P, by rw [HAB.out], ?_, ?_⟩
   · rw [HA.out]
     exact (HZ.out.1.same (w' := wf) (by rw [hwf]; simp) (fun q e => by have := (HZ.out.1.lt q e).1; rw [hwf, set_other _ _ _ _ _ (by omega), set_other _ _ _ _ _ (by omega)])).lower (by omega)
   · rw [hwf]; exact ((H1.out.1.trans (HZ.out.2.1.mono (by omega))).setCell (by show w'.heap.size ≤ w'.heap.size + 1; omega) _).setCell (by show w'.heap.size ≤ w'.heap.size + 1; omega) _
end Go.Proofs.Ytananonjomfpkaa
/- Inserting: a key comes to its place among the keys of a tree. -/
namespace Go.Proofs.Ytananonjomfpkaa
open Go.RowKit
namespace Tr
end Tr
end Go.Proofs.Ytananonjomfpkaa
/- Two keys inserted in either order: plain data. -/
namespace Go.Proofs.Ytananonjomfpkaa
open Go.RowKit
theorem sorted_ext : ∀ (l m : List Int), l.Pairwise (· < ·) → m.Pairwise (· < ·) → (∀ x, x ∈ l ↔ x ∈ m) → l = m
 | [], [], _, _, _ => rfl
 | [], b :: m, _, _, h => by have := (h b).2 (by simp); cases this
 | a :: l, [], _, _, h => by have := (h a).1 (by simp); cases this
 | a :: l, b :: m, hl, hm, h => by
   obtain ⟨l1, l2⟩ := List.pairwise_cons.1 hl
   obtain ⟨m1, m2⟩ := List.pairwise_cons.1 hm
   have hab : a = b := by
     have h1 := (h a).1 (by simp)
     have h2 := (h b).2 (by simp)
     rcases List.mem_cons.1 h1 with h1 | h1
     · exact h1
     · rcases List.mem_cons.1 h2 with h2 | h2
       · exact h2.symm
       · have := m1 a h1; have := l1 b h2; omega
   subst hab
   rw [sorted_ext l m l2 m2 (fun x => ?_)]
   constructor
   · intro hx
     rcases List.mem_cons.1 ((h x).1 (by simp [hx])) with h3 | h3
     · have := l1 x hx; omega
     · exact h3
   · intro hx
     rcases List.mem_cons.1 ((h x).2 (by simp [hx])) with h3 | h3
     · have := m1 x hx; omega
     · exact h3
namespace Tr
end Tr
end Go.Proofs.Ytananonjomfpkaa
/- Whether two trees are the same, as plain data; the contracts of the functions that compare lists, and of the model's SameTree. -/
namespace Go.Proofs.Ytananonjomfpkaa
open Go.RowKit
namespace Tr
mutual
def sameB : Tr → Tr → Bool
 | .mk k c, .mk k' c' => decide (k = k') && (decide (c.length = c'.length) && samesB c c')
def samesB : List Tr → List Tr → Bool
 | [], _ => true
 | _ :: _, [] => true
 | a :: r, b :: s => sameB a b && samesB r s
end
end Tr
theorem ints_eq_of {ks ks' : List Int} (hl : ks.length = ks'.length) (h : ∀ i, i < ks.length → ks.getD i 0 = ks'.getD i 0) : ks = ks' := by
 apply List.ext_getElem hl
 intro i h1 h2
 have := h i h1
 simpa [List.getD_eq_getElem?_getD, h1, h2] using this
set_option maxHeartbeats 1000000 in
theorem equal_c (ks ks' : List Int) (v v' : Value) (w : World) (B : Nat) (hk : IntsIn w B v ks) (hk' : IntsIn w B v' ks') (n0 : Nat) (r : Bool) (hr : decide (ks = ks') = r) :
   Calls Try.prog 60 #[v, v'] (w.drewN n0) fun e w' => e = .returned (.bool r) ∧ ∃ m, w' = w.drewN m := by
 subst hr
 obtain ⟨a, cap, rfl, h1, h2, _, h3⟩ := hk
 obtain ⟨a', cap', rfl, h1', h2', _, h3'⟩ := hk'
 unfold maxLen at h2 h2'
 have HK := Lib.hid h3
 have HK' := Lib.hid h3'
 clear h3 h3'
 by_cases hl : ks.length = ks'.length
 · have hne : ((ks.length : Int) != ks'.length) = false := by simp [hl]
   have HL := Lib.hid hl
   clear hl
   go_enter Try.func60, Try.ntmps60
   go_wp2_with fail
   go_loopw [13] (fun i wr => ∃ (j m : Nat), j ≤ ks.length ∧ i = .int .i64 j ∧ Hid (∀ i, i < j → ks.getD i 0 = ks'.getD i 0) ∧ wr = w.drewN m) (fun i _ => ks.length - (intOf i).toNat)
   case atStart => exact ⟨0, n0, Nat.zero_le _, rfl, Lib.hid (fun i h => by omega), rfl⟩
   case round =>
     obtain ⟨j, m, hj, rfl, HE, rfl⟩ := hrel
     by_cases hl1 : j < ks.length
     · have hl2 : j < ks'.length := by rw [← HL.out]; exact hl1
       rcases HK.out with h | ⟨b, off, rfl, hb, hat⟩
       · simp [h] at hl1
       rcases HK'.out with h | ⟨b', off', rfl, hb', hat'⟩
       · simp [h] at hl2
       have ha1 : w.cell? ⟨b, off + j, none⟩ = some (.int .i64 (ks.getD j 0)) := hat j hl1
       have ha2 : w.cell? ⟨b', off' + j, none⟩ = some (.int .i64 (ks'.getD j 0)) := hat' j hl2
       obtain ⟨x, hx⟩ : ∃ x, x = ks.getD j 0 := ⟨_, rfl⟩
       obtain ⟨y, hy⟩ : ∃ y, y = ks'.getD j 0 := ⟨_, rfl⟩
       rw [← hx] at ha1
       rw [← hy] at ha2
       have HX := Lib.hid hx
       have HY := Lib.hid hy
       clear hat hat' hx hy
       by_cases hxy : x = y
       · have hne2 : (x != y) = false := by simp [hxy]
         have HXY := Lib.hid hxy
         clear hxy
         go_wp2_with fail
         go_quiet (fail)
         go_wp2_with fail
         go_roundw
         case rel =>
           refine ⟨j + 1, _, by omega, by go_num, Lib.hid (fun i hi => ?_), rfl⟩
           by_cases hij : i = j
           · rw [hij, ← HX.out, ← HY.out]; exact HXY.out
           · exact HE.out i (by omega)
         case measure => simp [intOf]; omega
       · have hne2 : (x != y) = true := by simp [hxy]
         have HXY := Lib.hid hxy
         clear hxy
         go_wp2_with fail
         go_quiet (fail)
         go_wp2_with fail
         go_ret
         refine ⟨ret_bool (Eq.symm (decide_eq_false ?_)), _, World.drewN_drewN ..⟩
         intro e
         exact HXY.out (by rw [HX.out, HY.out, e])
     · go_wp2_with fail
       go_ret
       refine ⟨ret_bool ?_, _, rfl⟩
       rw [decide_eq_true (ints_eq_of HL.out (fun i hi => HE.out i (by omega)))]
 · have hne : ((ks.length : Int) != ks'.length) = true := by simp; omega
   have HL := Lib.hid hl
   clear hl
   go_enter Try.func60, Try.ntmps60
   go_wp2_with fail
   go_ret
   exact ⟨ret_bool (Eq.symm (decide_eq_false (fun e => HL.out (by rw [e])))), _, rfl⟩
end Go.Proofs.Ytananonjomfpkaa
/- A tree is the same as itself: plain data. -/
namespace Go.Proofs.Ytananonjomfpkaa
open Go.RowKit
namespace Tr
mutual
theorem sameB_refl : ∀ t : Tr, sameB t t = true
 | .mk k c => by simp [sameB, samesB_refl c]
theorem samesB_refl : ∀ c : List Tr, samesB c c = true
 | [] => by simp [samesB]
 | a :: r => by simp [samesB, sameB_refl a, samesB_refl r]
end
end Tr
end Go.Proofs.Ytananonjomfpkaa
/- A list of keys inserted one behind the other: plain data. -/
namespace Go.Proofs.Ytananonjomfpkaa
open Go.RowKit
namespace Tr
def putKey (wide : Int) (s : Tr × Nat) (k : Int) : Tr × Nat := if (s.1.path k).2 then s else (insT wide k s.1, s.2 + insN wide k s.1)
def allIn (wide : Int) (ks : List Int) : Tr × Nat := ks.foldl (putKey wide) (.mk [] [], 0)
def allOk (wide : Int) (ks : List Int) : Bool := inB wide 2 6 && keysOk ks
def insAllT (wide : Int) (ks : List Int) : Tr := if allOk wide ks then (allIn wide ks).1 else .mk [] []
def splitsOfB (wide : Int) (ks : List Int) : Int := if allOk wide ks then ((allIn wide ks).2 : Int) else -1
end Tr
end Go.Proofs.Ytananonjomfpkaa
/- A list of keys inserted, and the same list backwards: plain data. -/
namespace Go.Proofs.Ytananonjomfpkaa
open Go.RowKit
namespace Tr
theorem take_mem {ks : List Int} {j : Nat} (h : j < ks.length) (x : Int) : x ∈ ks.take (j + 1) ↔ x = ks.getD j 0 ∨ x ∈ ks.take j := by
 have e : ks.take (j + 1) = ks.take j ++ [ks.getD j 0] := by
   rw [List.take_add_one, List.getElem?_eq_getElem h, List.getD_eq_getElem?_getD, List.getElem?_eq_getElem h]
   rfl
 rw [e, List.mem_append, List.mem_singleton]
 exact Or.comm
end Tr
end Go.Proofs.Ytananonjomfpkaa
