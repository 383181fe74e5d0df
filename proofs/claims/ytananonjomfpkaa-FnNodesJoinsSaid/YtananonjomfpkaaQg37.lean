/- The way down: a slice of nodes and of how many of their parts lie behind. -/
import Derived.Test.YtananonjomfpkaaQg36
/- The model's DeleteAll. -/
namespace Go.Proofs.Ytananonjomfpkaa
open Go.RowKit
end Go.Proofs.Ytananonjomfpkaa
/- RepairsOf: the program's and the model's. -/
namespace Go.Proofs.Ytananonjomfpkaa
open Go.RowKit
def Tr.repOf (wide : Int) (t : Tr) (ks : List Int) : Nat × Nat × Bool :=
 if Tr.askAll wide t ks = true then ((Tr.gone wide t ks).b, (Tr.gone wide t ks).j, (Tr.gone wide t ks).sh) else (0, 0, false)
set_option maxRecDepth 100000 in
set_option maxHeartbeats 2000000 in
theorem specRepairsOf_c {w : World} {B : Nat} {kv cv v : Value} {t : Tr} {ks : List Int} (ht : TreeIn w B kv cv t) (hw : t.weight ≤ 1048576) (hk : IntsIn w B v ks) (wide : Int) (w' : World) (hbw : Below B w w') (hB : B ≤ w'.heap.size) (hwB : w.heap.size ≤ B) :
   Calls Try.prog 37 #[.agg #[kv, cv], .int .i64 wide, v] w' fun e w'' => e = .returned (.tuple #[repV (Tr.repOf wide t ks), .bool (Tr.askAll wide t ks)]) ∧ Below w'.heap.size w' w'' := by
 obtain ⟨a5, n5, m5, a6, n6, m6, rfl, rfl⟩ := ht.slices
 have hk' := hk
 obtain ⟨ka, kc, rfl, -⟩ := hk'
 obtain ⟨W1, hW1⟩ : ∃ W1, W1 = (w'.alloc (.cells #[.slice a5 n5 m5, .slice a6 n6 m6] 26)).alloc (.cells #[.int .i64 0, .int .i64 0, .bool false] 52) := ⟨_, rfl⟩
 have hs1 : W1.heap.size = w'.heap.size + 2 := by rw [hW1]; simp
 have hb1 : Below w'.heap.size w' W1 := by rw [hW1]; exact ((Below.refl _ _).alloc (Nat.le_refl _) _).alloc (by simp) _
 have k0 : W1.heap[w'.heap.size]? = some (.cells #[.slice a5 n5 m5, .slice a6 n6 m6] 26 (0, 0)) := by rw [hW1, old_blk _ _ _ (by simp), new_blk]
 have kb : W1.heap[w'.heap.size + 1]? = some (.cells #[.int .i64 0, .int .i64 0, .bool false] 52 (0, 0)) := by
   rw [hW1, show w'.heap.size + 1 = (w'.alloc (.cells #[.slice a5 n5 m5, .slice a6 n6 m6] 26)).heap.size by simp, new_blk]
 have k0x := k0
 rw [hW1] at k0x
 obtain ⟨x1, x2, x3, x4⟩ := box2 k0x
 have HT := Lib.hid ht
 have HK := Lib.hid hk
 have HBW := Lib.hid hbw
 have HW1 := Lib.hid hW1
 have H1 := Lib.hid (And.intro hb1 (And.intro kb k0))
 clear ht hbw hW1 hb1 k0 kb k0x hk
 go_enter Try.func37, Try.ntmps37
 go_wp2_with fail
 rw [← HW1.out]
 refine (specTreeValid_c HT.out hw wide W1 (HBW.out.trans (H1.out.1.mono hB)) (by omega)).mono ?_
 rintro e w2 ⟨rfl, hb2⟩
 have hs2 := hb2.size
 clear x1 x2 x3 x4
 have j0 := (hb2.block _ (by omega)).trans H1.out.2.2
 have hrb := (hb2.block (w'.heap.size + 1) (by omega)).trans H1.out.2.1
 obtain ⟨x1, x2, x3, x4⟩ := box2 j0
 obtain ⟨r1, r2, r3, r4, r5, r6⟩ := box3 hrb
 have H2 := Lib.hid (And.intro (H1.out.1.trans (hb2.mono (by omega))) hrb)
 have HIN := Lib.hid (HK.out.later (HBW.out.trans (H2.out.1.mono hB)) (Nat.le_refl _))
 clear hb2 j0 hrb
 cases hv : Tr.validB wide t with
 | false =>
   have ha : Tr.askAll wide t ks = false := by simp [Tr.askAll, hv]
   have HA := Lib.hid (show Tr.repOf wide t ks = (0, 0, false) by simp [Tr.repOf, ha])
   have HAB := Lib.hid ha
   clear ha hv
   go_wp2_with fail
   obtain ⟨wf, hwf, hfb, hbf⟩ := three_end (b := 0) (j := 0) (sh := false) H2.out.2
   obtain ⟨d1, d2, d3, -⟩ := box3 hfb
   rw [← hwf]
   refine bodyPost_ret (v := .tuple #[.agg #[.int .i64 0, .int .i64 0, .bool false], .bool false]) (by simp [results, Try.results37, go_sem, d1, d2, d3]) rfl ⟨by rw [HAB.out, HA.out]; rfl, hbf _ (by omega) _ H2.out.1⟩
 | true =>
   have HV := Lib.hid hv
   clear hv
   go_wp2_with fail
   refine (l3Keys_c w2 B HIN.out).mono ?_
   rintro e w3 ⟨rfl, rfl⟩
   cases hko : keysOk ks with
   | false =>
     have ha : Tr.askAll wide t ks = false := by simp [Tr.askAll, hko]
     have HA := Lib.hid (show Tr.repOf wide t ks = (0, 0, false) by simp [Tr.repOf, ha])
     have HAB := Lib.hid ha
     clear ha hko
     go_wp2_with fail
     obtain ⟨wf, hwf, hfb, hbf⟩ := three_end (b := 0) (j := 0) (sh := false) H2.out.2
     obtain ⟨d1, d2, d3, -⟩ := box3 hfb
     rw [← hwf]
     refine bodyPost_ret (v := .tuple #[.agg #[.int .i64 0, .int .i64 0, .bool false], .bool false]) (by simp [results, Try.results37, go_sem, d1, d2, d3]) rfl ⟨by rw [HAB.out, HA.out]; rfl, hbf _ (by omega) _ H2.out.1⟩
   | true =>
     have ha : Tr.askAll wide t ks = true := by simp [Tr.askAll, hko, HV.out]
     have HA := Lib.hid (show Tr.repOf wide t ks = ((Tr.gone wide t ks).b, (Tr.gone wide t ks).j, (Tr.gone wide t ks).sh) by simp [Tr.repOf, ha])
     have HAB := Lib.hid ha
     have hall := l4All_c HT.out wide HV.out HK.out (keysOk_few hko) w3 (HBW.out.trans (H2.out.1.mono hB)) (by omega) hwB
     have HALL := Lib.hid hall
     clear ha hko hall
     go_wp2_with fail
     refine HALL.out.mono ?_
     rintro e w4 ⟨k4, c4, rfl, ht4, hb4⟩
     obtain ⟨q1, q2, q3, q4, q5, q6, rfl, rfl⟩ := ht4.slices
     obtain ⟨rb, hrb0⟩ : ∃ rb, rb = (Tr.gone wide t ks).b := ⟨_, rfl⟩
     obtain ⟨rj, hrj0⟩ : ∃ rj, rj = (Tr.gone wide t ks).j := ⟨_, rfl⟩
     obtain ⟨rs, hrs0⟩ : ∃ rs, rs = (Tr.gone wide t ks).sh := ⟨_, rfl⟩
     rw [← hrb0, ← hrj0, ← hrs0]
     have HRR := Lib.hid (And.intro hrb0 (And.intro hrj0 hrs0))
     clear hrb0 hrj0 hrs0
     have hs4 := hb4.size
     have hrb := (hb4.block (w'.heap.size + 1) (by omega)).trans H2.out.2
     clear r1 r2 r3 r4 x1 x2 x3 x4 r5 r6
     obtain ⟨W5, hW5⟩ : ∃ W5, W5 = (w4.alloc (.cells #[.slice q1 q2 q3, .slice q4 q5 q6] 26)).alloc (.cells #[.int .i64 (rb : Int), .int .i64 (rj : Int), .bool rs] 52) := ⟨_, rfl⟩
     have hs5 : W5.heap.size = w4.heap.size + 2 := by rw [hW5]; simp
     have hb5 : Below w4.heap.size w4 W5 := by rw [hW5]; exact ((Below.refl _ _).alloc (Nat.le_refl _) _).alloc (by simp) _
     have b8 : W5.heap[w4.heap.size + 1]? = some (.cells #[.int .i64 (rb : Int), .int .i64 (rj : Int), .bool rs] 52 (0, 0)) := by
       rw [hW5, show w4.heap.size + 1 = (w4.alloc (.cells #[.slice q1 q2 q3, .slice q4 q5 q6] 26)).heap.size by simp, new_blk]
     have b6 := (hb5.block _ (by omega)).trans hrb
     have hbl : Below w'.heap.size w' W5 := H2.out.1.trans ((hb4.mono (by omega)).trans (hb5.mono (by omega)))
     have HZ := Lib.hid (And.intro hbl b6)
     have HW5 := Lib.hid hW5
     have hs4' : w'.heap.size + 2 ≤ w4.heap.size := by omega
     obtain ⟨x1, x2, x3, x4, x5, x6⟩ := box3 b8
     obtain ⟨r1, r2, r3, r4, r5, r6⟩ := box3 b6
     clear ht4 hb4 hrb hW5 hb5 b8 b6 hbl
     go_upto_region 4 with (fail)
     rw [← HW5.out]
     go_wp2_with fail
     obtain ⟨wf, hwf, hfb, hbf⟩ := three_end (b := (rb : Int)) (j := (rj : Int)) (sh := rs) HZ.out.2
     obtain ⟨d1, d2, d3, -⟩ := box3 hfb
     rw [← hwf]
     refine bodyPost_ret (v := .tuple #[.agg #[.int .i64 (rb : Int), .int .i64 (rj : Int), .bool rs], .bool true]) (by simp [results, Try.results37, go_sem, d1, d2, d3]) rfl ⟨by rw [HAB.out, HA.out, ← HRR.out.1, ← HRR.out.2.1, ← HRR.out.2.2]; rfl, hbf _ (by omega) _ HZ.out.1⟩
set_option maxRecDepth 100000 in
set_option maxHeartbeats 2000000 in
theorem impl_repairsOf {w : World} {B : Nat} {kv cv v : Value} {t : Tr} {ks : List Int} (ht : TreeIn w B kv cv t) (hw : t.weight ≤ 1048576) (hk : IntsIn w B v ks) (wide : Int) (hn1 : -9223372036854775808 ≤ wide) (hn2 : wide ≤ 9223372036854775807) (w' : World) (hbw : Below B w w') (hB : B ≤ w'.heap.size) (hwB : w.heap.size ≤ B) :
   Calls Try.prog 38 #[.agg #[kv, cv], .int .i64 wide, v] w' fun e w'' => e = .returned (.tuple #[repV (Tr.repOf wide t ks), .bool (Tr.askAll wide t ks)]) ∧ Below w'.heap.size w' w'' := by
 obtain ⟨a5, n5, m5, a6, n6, m6, rfl, rfl⟩ := ht.slices
 have hk0 := hk
 obtain ⟨ka, kc, rfl, -⟩ := hk0
 obtain ⟨W1, hW1⟩ : ∃ W1, W1 = (w'.alloc (.cells #[.slice a5 n5 m5, .slice a6 n6 m6] 26)).alloc (.cells #[.int .i64 0, .int .i64 0, .bool false] 52) := ⟨_, rfl⟩
 have hs1 : W1.heap.size = w'.heap.size + 2 := by rw [hW1]; simp
 have hb1 : Below w'.heap.size w' W1 := by rw [hW1]; exact ((Below.refl _ _).alloc (Nat.le_refl _) _).alloc (by simp) _
 have k0 : W1.heap[w'.heap.size]? = some (.cells #[.slice a5 n5 m5, .slice a6 n6 m6] 26 (0, 0)) := by rw [hW1, old_blk _ _ _ (by simp), new_blk]
 have kb : W1.heap[w'.heap.size + 1]? = some (.cells #[.int .i64 0, .int .i64 0, .bool false] 52 (0, 0)) := by
   rw [hW1, show w'.heap.size + 1 = (w'.alloc (.cells #[.slice a5 n5 m5, .slice a6 n6 m6] 26)).heap.size by simp, new_blk]
 have k0x := k0
 rw [hW1] at k0x
 obtain ⟨x1, x2, x3, x4⟩ := box2 k0x
 have HT := Lib.hid ht
 have HBW := Lib.hid hbw
 have HW1 := Lib.hid hW1
 have H1 := Lib.hid (And.intro hb1 (And.intro kb k0))
 clear ht hbw hW1 hb1 k0 kb k0x
 go_enter Try.func38, Try.ntmps38
 go_wp2_with fail
 rw [← HW1.out]
 refine (shrunkByAll_c HT.out hw hk wide hn1 hn2 W1 (HBW.out.trans (H1.out.1.mono hB)) (by omega) hwB).mono ?_
 intro e w2 hgo
 rcases hgo with ⟨ha, rfl, hb2⟩ | ⟨ha, gb, b, F, rfl, hgr, hF, -, hb2⟩
 · have HA := Lib.hid (show Tr.repOf wide t ks = (0, 0, false) by simp [Tr.repOf, ha])
   have HAB := Lib.hid ha
   have hs2 := hb2.size
   have hrb := (hb2.block (w'.heap.size + 1) (by omega)).trans H1.out.2.1
   obtain ⟨r1, r2, r3, r4, r5, r6⟩ := box3 hrb
   have H2 := Lib.hid (And.intro (H1.out.1.trans (hb2.mono (by omega))) hrb)
   clear ha hb2 hrb x1 x2 x3 x4
   go_wp2_with fail
   obtain ⟨wf, hwf, hfb, hbf⟩ := three_end (b := 0) (j := 0) (sh := false) H2.out.2
   obtain ⟨d1, d2, d3, -⟩ := box3 hfb
   rw [← hwf]
   refine bodyPost_ret (v := .tuple #[.agg #[.int .i64 0, .int .i64 0, .bool false], .bool false]) (by simp [results, Try.results38, go_sem, d1, d2, d3]) rfl ⟨by rw [HAB.out, HA.out]; rfl, hbf _ (by omega) _ H2.out.1⟩
 · have HA := Lib.hid (show Tr.repOf wide t ks = ((Tr.gone wide t ks).b, (Tr.gone wide t ks).j, (Tr.gone wide t ks).sh) by simp [Tr.repOf, ha])
   have HAB := Lib.hid ha
   obtain ⟨rb, hrb0⟩ : ∃ rb, rb = (Tr.gone wide t ks).b := ⟨_, rfl⟩
   obtain ⟨rj, hrj0⟩ : ∃ rj, rj = (Tr.gone wide t ks).j := ⟨_, rfl⟩
   obtain ⟨rs, hrs0⟩ : ∃ rs, rs = (Tr.gone wide t ks).sh := ⟨_, rfl⟩
   rw [← hrb0, ← hrj0, ← hrs0] at hgr
   have HRR := Lib.hid (And.intro hrb0 (And.intro hrj0 hrs0))
   obtain ⟨g0, g1, g2, g3, g4, -⟩ := hgr.box.cells
   have hs2 := hb2.size
   have hrb := (hb2.block (w'.heap.size + 1) (by omega)).trans H1.out.2.1
   obtain ⟨r1, r2, r3, r4, r5, r6⟩ := box3 hrb
   have H2 := Lib.hid (And.intro (H1.out.1.trans (hb2.mono (by omega))) hrb)
   clear ha hb2 hrb x1 x2 x3 x4 hrb0 hrj0 hrs0 hgr hF
   go_wp2_with fail
   obtain ⟨wf, hwf, hfb, hbf⟩ := three_end (b := (rb : Int)) (j := (rj : Int)) (sh := rs) H2.out.2
   obtain ⟨d1, d2, d3, -⟩ := box3 hfb
   rw [← hwf]
   refine bodyPost_ret (v := .tuple #[.agg #[.int .i64 (rb : Int), .int .i64 (rj : Int), .bool rs], .bool true]) (by simp [results, Try.results38, go_sem, d1, d2, d3]) rfl ⟨by rw [HAB.out, HA.out, ← HRR.out.1, ← HRR.out.2.1, ← HRR.out.2.2]; rfl, hbf _ (by omega) _ H2.out.1⟩
end Go.Proofs.Ytananonjomfpkaa
/- The contract of the program's DeleteAll. -/
namespace Go.Proofs.Ytananonjomfpkaa
open Go.RowKit
set_option maxRecDepth 100000 in
set_option maxHeartbeats 2000000 in
theorem impl_deleteAll {w : World} {B : Nat} {kv cv v : Value} {t : Tr} {ks : List Int} (ht : TreeIn w B kv cv t) (hw : t.weight ≤ 1048576) (hk : IntsIn w B v ks) (wide : Int) (hn1 : -9223372036854775808 ≤ wide) (hn2 : wide ≤ 9223372036854775807) (w' : World) (hbw : Below B w w') (hB : B ≤ w'.heap.size) (hwB : w.heap.size ≤ B) :
   Calls Try.prog 34 #[.agg #[kv, cv], .int .i64 wide, v] w' fun e w'' => ∃ kv' cv' P, e = .returned (.tuple #[.agg #[kv', cv'], .bool (Tr.askAll wide t ks)]) ∧ TreeO w'' w'.heap.size P kv' cv' (Tr.goneT wide t ks) ∧ Below w'.heap.size w' w'' := by
 obtain ⟨a5, n5, m5, a6, n6, m6, rfl, rfl⟩ := ht.slices
 have hk0 := hk
 obtain ⟨ka, kc, rfl, -⟩ := hk0
 obtain ⟨W1, hW1⟩ : ∃ W1, W1 = (w'.alloc (.cells #[.slice a5 n5 m5, .slice a6 n6 m6] 26)).alloc (.cells #[.slice none 0 0, .slice none 0 0] 26) := ⟨_, rfl⟩
 have hs1 : W1.heap.size = w'.heap.size + 2 := by rw [hW1]; simp
 have hb1 : Below w'.heap.size w' W1 := by rw [hW1]; exact ((Below.refl _ _).alloc (Nat.le_refl _) _).alloc (by simp) _
 have k0 : W1.heap[w'.heap.size]? = some (.cells #[.slice a5 n5 m5, .slice a6 n6 m6] 26 (0, 0)) := by rw [hW1, old_blk _ _ _ (by simp), new_blk]
 have kb : W1.heap[w'.heap.size + 1]? = some (.cells #[.slice none 0 0, .slice none 0 0] 26 (0, 0)) := by
   rw [hW1, show w'.heap.size + 1 = (w'.alloc (.cells #[.slice a5 n5 m5, .slice a6 n6 m6] 26)).heap.size by simp, new_blk]
 have k0x := k0
 rw [hW1] at k0x
 obtain ⟨x1, x2, x3, x4⟩ := box2 k0x
 have HT := Lib.hid ht
 have HBW := Lib.hid hbw
 have HW1 := Lib.hid hW1
 have H1 := Lib.hid (And.intro hb1 kb)
 clear ht hbw hW1 hb1 k0 kb k0x
 go_enter Try.func34, Try.ntmps34
 go_wp2_with fail
 rw [← HW1.out]
 refine (shrunkByAll_c HT.out hw hk wide hn1 hn2 W1 (HBW.out.trans (H1.out.1.mono hB)) (by omega) hwB).mono ?_
 intro e w2 hgo
 rcases hgo with ⟨ha, rfl, hb2⟩ | ⟨ha, gb, b, F, rfl, hgr, hF, -, hb2⟩
 · have HA := Lib.hid (show Tr.goneT wide t ks = .mk [] [] by simp [Tr.goneT, ha])
   have HAB := Lib.hid ha
   have hs2 := hb2.size
   have hrb := (hb2.block (w'.heap.size + 1) (by omega)).trans H1.out.2
   obtain ⟨r1, r2, r3, r4⟩ := box2 hrb
   have H2 := Lib.hid (And.intro (H1.out.1.trans (hb2.mono (by omega))) hrb)
   clear ha hb2 hrb x1 x2 x3 x4
   go_wp2_with fail
   obtain ⟨wf, hwf⟩ : ∃ wf, wf = (w2.setCell ⟨w'.heap.size + 1, 0, none⟩ (.slice none 0 0)).setCell ⟨w'.heap.size + 1, 1, none⟩ (.slice none 0 0) := ⟨_, rfl⟩
   have hfb : wf.heap[w'.heap.size + 1]? = some (.cells #[.slice none 0 0, .slice none 0 0] 26 (0, 0)) := by
     rw [hwf]; exact set_blk (o := 1) _ (set_blk (o := 0) _ H2.out.2)
   obtain ⟨d1, d2, d3, d4⟩ := box2 hfb
   rw [← hwf]
   refine bodyPost_ret (v := .tuple #[.agg #[.slice none 0 0, .slice none 0 0], .bool false]) (by simp [results, Try.results34, go_sem, d1, d2]) rfl ⟨_, _, _, by rw [HAB.out], by rw [HA.out]; exact TreeO.nil _ _, ?_⟩
   rw [hwf]; exact (H2.out.1.setCell (by show w'.heap.size ≤ w'.heap.size + 1; omega) _).setCell (by show w'.heap.size ≤ w'.heap.size + 1; omega) _
 · have HA := Lib.hid (show Tr.goneT wide t ks = (Tr.gone wide t ks).t by simp [Tr.goneT, ha])
   have HAB := Lib.hid ha
   have hs2 := hb2.size
   have hiw := Tr.goneT_weight wide t ks
   rw [HA.out] at hiw
   have htc := tree_c hgr.node hiw w2 (Below.refl _ _)
   have HTC := Lib.hid htc
   have HB2 := Lib.hid hb2
   obtain ⟨y1, y2, y3, y4, y5, y6, y7, y8, y9⟩ := hgr.box.cells
   clear ha hb2 x1 x2 x3 x4 hgr hF htc hiw
   go_wp2_with fail
   refine HTC.out.mono ?_
   rintro e w4 ⟨k4, c4, P, rfl, ht4, hb4⟩
   obtain ⟨q1, q2, q3, q4, q5, q6, rfl, rfl⟩ := ht4.tree.slices
   have hs4 := hb4.size
   have hbr : Below W1.heap.size W1 w4 := HB2.out.trans (hb4.mono (by omega))
   have hrb := (hbr.block (w'.heap.size + 1) (by omega)).trans H1.out.2
   obtain ⟨r1, r2, r3, r4⟩ := box2 hrb
   have HZ := Lib.hid (And.intro ht4 (And.intro hbr hrb))
   clear ht4 hb4 hrb hbr y1 y2 y3 y4 y5 y6 y7 y8 y9
   go_wp2_with fail
   obtain ⟨wf, hwf⟩ : ∃ wf, wf = (w4.setCell ⟨w'.heap.size + 1, 0, none⟩ (.slice q1 q2 q3)).setCell ⟨w'.heap.size + 1, 1, none⟩ (.slice q4 q5 q6) := ⟨_, rfl⟩
   have hfb : wf.heap[w'.heap.size + 1]? = some (.cells #[.slice q1 q2 q3, .slice q4 q5 q6] 26 (0, 0)) := by
     rw [hwf]; exact set_blk (o := 1) _ (set_blk (o := 0) _ HZ.out.2.2)
   obtain ⟨d1, d2, d3, d4⟩ := box2 hfb
   rw [← hwf]
   refine bodyPost_ret (v := .tuple #[.agg #[.slice q1 q2 q3, .slice q4 q5 q6], .bool true]) (by simp [results, Try.results34, go_sem, d1, d2]) rfl ⟨_, _, P, by rw [HAB.out], ?_, ?_⟩
   · rw [HA.out]
     exact (HZ.out.1.same (w' := wf) (by rw [hwf]; simp) (fun q e => by have := (HZ.out.1.lt q e).1; rw [hwf, set_other _ _ _ _ _ (by omega), set_other _ _ _ _ _ (by omega)])).lower (by omega)
   · rw [hwf]; exact ((H1.out.1.trans (HZ.out.2.1.mono (by omega))).setCell (by show w'.heap.size ≤ w'.heap.size + 1; omega) _).setCell (by show w'.heap.size ≤ w'.heap.size + 1; omega) _
end Go.Proofs.Ytananonjomfpkaa
/- The way down: a slice of nodes and of how many of their parts lie behind. -/
namespace Go.Proofs.Ytananonjomfpkaa
open Go.RowKit
def wcells : List (ATr × Nat) → List Value
 | [] => []
 | f :: r => .pointer (some f.1.addr) :: .int .i64 f.2 :: wcells r
theorem wcells_append (a b : List (ATr × Nat)) : wcells (a ++ b) = wcells a ++ wcells b := by
 induction a with
 | nil => rfl
 | cons f r ih => simp [wcells, ih]
theorem wcells_length (a : List (ATr × Nat)) : (wcells a).length = a.length * 2 := by
 induction a with
 | nil => rfl
 | cons f r ih => simp [wcells, ih]; omega
abbrev Way (W : World) (lo g cap : Nat) (fr : List (ATr × Nat)) : Prop := W.ownsRow lo 129 2 (.slice (some ⟨g, 0, none⟩) fr.length cap) fr.length (wcells fr)
theorem Way.blk {W : World} {lo g cap : Nat} {fr : List (ATr × Nat)} (h : Way W lo g cap fr) : lo ≤ g ∧ ∃ cur, W.heap[g]? = some (.cells cur 129 (0, 0)) ∧ fr.length ≤ cap ∧ cap ≤ maxLen ∧ cur.size = cap * 2 ∧ cur.toList.take (fr.length * 2) = wcells fr := by
 obtain ⟨h1, ⟨h2, _⟩ | ⟨g', cap', cur, hv, hb, hg, hn, hm, hs, ht⟩⟩ := h
 · simp at h2
 · simp only [Value.slice.injEq, Option.some.injEq, Addr.mk.injEq, and_true, true_and] at hv
   obtain ⟨rfl, rfl⟩ := hv
   exact ⟨hb, cur, hg, hn, hm, hs, ht⟩
theorem Way.of {W : World} {lo g cap : Nat} {fr : List (ATr × Nat)} {cur : Array Value} (hb : lo ≤ g) (hg : W.heap[g]? = some (.cells cur 129 (0, 0))) (hn : fr.length ≤ cap) (hm : cap ≤ maxLen) (hs : cur.size = cap * 2) (ht : cur.toList.take (fr.length * 2) = wcells fr) : Way W lo g cap fr :=
 ⟨wcells_length fr, .inr ⟨g, cap, cur, rfl, hb, hg, hn, hm, hs, ht⟩⟩
theorem Way.lt {W : World} {lo g cap : Nat} {fr : List (ATr × Nat)} (h : Way W lo g cap fr) : g < W.heap.size := by
 obtain ⟨_, cur, hg, _⟩ := h.blk
 exact (Array.getElem?_eq_some_iff.1 hg).1
theorem Way.kept {W W' : World} {lo g cap : Nat} {fr : List (ATr × Nat)} (h : Way W lo g cap fr) (hb : W'.heap[g]? = W.heap[g]?) : Way W' lo g cap fr := by
 obtain ⟨h1, cur, hg, hn, hm, hs, ht⟩ := h.blk
 exact Way.of h1 (hb.trans hg) hn hm hs ht
theorem Way.last {W : World} {lo g cap : Nat} {fr : List (ATr × Nat)} {a : ATr} {p : Nat} (h : Way W lo g cap (fr ++ [(a, p)])) :
   W.cell? ⟨g, fr.length * 2, none⟩ = some (.pointer (some a.addr)) ∧ W.cell? ⟨g, fr.length * 2 + 1, none⟩ = some (.int .i64 p) ∧ W.frozen? ⟨g, fr.length * 2 + 1, none⟩ = false := by
 have h1 := World.ownsRow.cellAt h (fr.length * 2) (by simp)
 have h2 := World.ownsRow.cellAt h (fr.length * 2 + 1) (by simp; omega)
 rw [wcells_append] at h1 h2
 obtain ⟨_, cur, hg, _⟩ := h.blk
 refine ⟨?_, ?_, ?_⟩
 · rw [h1]; simp [List.getElem?_append, wcells_length, wcells]
 · rw [h2]; simp [List.getElem?_append, wcells_length, wcells]
 · simp [World.frozen?, hg]
theorem Way.pass {W : World} {lo g cap : Nat} {fr : List (ATr × Nat)} {a : ATr} {p : Nat} (h : Way W lo g cap (fr ++ [(a, p)])) (q : Nat) :
   Way (W.setCell ⟨g, fr.length * 2 + 1, none⟩ (.int .i64 q)) lo g cap (fr ++ [(a, q)]) := by
 obtain ⟨h1, cur, hg, hn, hm, hs, ht⟩ := h.blk
 refine Way.of h1 (cur := cur.setIfInBounds (fr.length * 2 + 1) (.int .i64 q)) ?_ (by simpa using hn) hm (by simpa using hs) ?_
 · simp [World.setCell, Array.getElem?_modify, hg]
 · have hl : (fr ++ [(a, q)]).length = (fr ++ [(a, p)]).length := by simp
   rw [hl]
   simp only [Array.toList_setIfInBounds]
   rw [List.take_set, ht, wcells_append, wcells_append]
   rw [List.set_append_right _ _ (by rw [wcells_length]; omega), wcells_length]
   congr 1
   rw [show fr.length * 2 + 1 - fr.length * 2 = 1 by omega]
   rfl
theorem Way.pop {W : World} {lo g cap : Nat} {fr : List (ATr × Nat)} {f : ATr × Nat} (h : Way W lo g cap (fr ++ [f])) : Way W lo g cap fr := by
 obtain ⟨h1, cur, hg, hn, hm, hs, ht⟩ := h.blk
 refine Way.of h1 hg (by simp at hn; omega) hm hs ?_
 have h2 : cur.toList.take (fr.length * 2) = (cur.toList.take ((fr ++ [f]).length * 2)).take (fr.length * 2) := by rw [List.take_take]; congr 1; simp
 rw [h2, ht, wcells_append, List.take_left' (wcells_length fr)]
theorem Try.infoSpot : (Try.prog.info? 129).map (fun i => (i.zero, i.size, i.bytes)) = some (some (.agg #[.pointer none, .int .i64 0]), 2, 16) := by kernel_rfl
theorem Try.infoTreePtr : (Try.prog.info? 26).map (fun i => (i.zero, i.size, i.bytes)) = some (some (.agg #[.slice none 0 0, .slice none 0 0]), 2, 48) := by kernel_rfl
theorem Try.infoBool : (Try.prog.info? 4).map (fun i => (i.zero, i.size, i.bytes)) = some (some (.bool false), 1, 1) := by kernel_rfl
end Go.Proofs.Ytananonjomfpkaa
