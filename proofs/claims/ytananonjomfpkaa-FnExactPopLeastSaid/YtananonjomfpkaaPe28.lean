/- The contract of the model's StandIn. -/
import Derived.Test.YtananonjomfpkaaProg
import Derived.Test.YtananonjomfpkaaPe0
import Derived.Test.YtananonjomfpkaaPe20
import Derived.Test.YtananonjomfpkaaTreeC
import Derived.Deep.Cut
import Derived.Test.YtananonjomfpkaaPe3
import Derived.Test.YtananonjomfpkaaPe6
import Derived.Test.YtananonjomfpkaaPe16
import Derived.Test.YtananonjomfpkaaPe18
import Derived.Test.YtananonjomfpkaaPe10
import Derived.Test.YtananonjomfpkaaPe27
import Derived.Deep.LoopGhost
import Derived.Deep.RegionWith
import Derived.Deep.RegionHeld3
import Derived.Deep.QuietTactic
import Derived.BigQuiet
import Derived.WalkSmall

/- The contract of the program's DeleteKey. -/
namespace Go.Proofs.Ytananonjomfpkaa
open Go.RowKit

/-- What DeleteKey answers: the tree. -/
def Tr.delKeyT (wide key : Int) (t : Tr) : Tr := if Tr.lacksB wide key t = true then Tr.delT wide key t else .mk [] []

set_option maxRecDepth 100000 in
set_option maxHeartbeats 2000000 in
theorem impl_delete {w : World} {B : Nat} {kv cv : Value} {t : Tr} (ht : TreeIn w B kv cv t) (hw : t.weight ≤ 1048576) (wide key : Int) (hn1 : -9223372036854775808 ≤ wide) (hn2 : wide ≤ 9223372036854775807) (w' : World) (hbw : Below B w w') (hB : B ≤ w'.heap.size) :
    Calls Try.prog 16 #[.agg #[kv, cv], .int .i64 wide, .int .i64 key] w' fun e w'' => ∃ kv' cv' P, e = .returned (.tuple #[.agg #[kv', cv'], .bool (Tr.lacksB wide key t)]) ∧ TreeO w'' w'.heap.size P kv' cv' (Tr.delKeyT wide key t) ∧ Below w'.heap.size w' w'' := by
  obtain ⟨a5, n5, m5, a6, n6, m6, rfl, rfl⟩ := ht.slices
  obtain ⟨W1, hW1⟩ : ∃ W1, W1 = (w'.alloc (.cells #[.slice a5 n5 m5, .slice a6 n6 m6] 26)).alloc (.cells #[.slice none 0 0, .slice none 0 0] 26) := ⟨_, rfl⟩
  have hs1 : W1.heap.size = w'.heap.size + 2 := by rw [hW1]; simp
  have hb1 : Below w'.heap.size w' W1 := by rw [hW1]; exact ((Below.refl _ _).alloc (Nat.le_refl _) _).alloc (by simp) _
  have k0 : W1.heap[w'.heap.size]? = some (.cells #[.slice a5 n5 m5, .slice a6 n6 m6] 26 (0, 0)) := by rw [hW1, old_blk _ _ _ (by simp), new_blk]
  have kb : W1.heap[w'.heap.size + 1]? = some (.cells #[.slice none 0 0, .slice none 0 0] 26 (0, 0)) := by
    rw [hW1, show w'.heap.size + 1 = (w'.alloc (.cells #[.slice a5 n5 m5, .slice a6 n6 m6] 26)).heap.size by simp, new_blk]
  have k0x := k0
  rw [hW1] at k0x
  obtain ⟨x1, x2, x3, x4⟩ := box2 k0x
  have HT := Lib.hid ht
  have HBW := Lib.hid hbw
  have HW1 := Lib.hid hW1
  have H1 := Lib.hid (And.intro hb1 kb)
  clear ht hbw hW1 hb1 k0 kb k0x
  go_enter Try.func16, Try.ntmps16
  go_wp2_with fail
  rw [← HW1.out]
  refine (shrunkBy_c HT.out hw wide key hn1 hn2 W1 (HBW.out.trans (H1.out.1.mono hB)) (by omega)).mono ?_
  intro e w2 hgo
  rcases hgo with ⟨ha, rfl, hb2⟩ | ⟨ha, gb, b, F, rfl, hgr, hF, -, hb2⟩
  · have HA := Lib.hid (show Tr.delKeyT wide key t = .mk [] [] by simp [Tr.delKeyT, ha])
    have HAB := Lib.hid ha
    have hs2 := hb2.size
    have hrb := (hb2.block (w'.heap.size + 1) (by omega)).trans H1.out.2
    obtain ⟨r1, r2, r3, r4⟩ := box2 hrb
    have H2 := Lib.hid (And.intro (H1.out.1.trans (hb2.mono (by omega))) hrb)
    clear ha hb2 hrb x1 x2 x3 x4
    go_wp2_with fail
    obtain ⟨wf, hwf⟩ : ∃ wf, wf = (w2.setCell ⟨w'.heap.size + 1, 0, none⟩ (.slice none 0 0)).setCell ⟨w'.heap.size + 1, 1, none⟩ (.slice none 0 0) := ⟨_, rfl⟩
    have hfb : wf.heap[w'.heap.size + 1]? = some (.cells #[.slice none 0 0, .slice none 0 0] 26 (0, 0)) := by
      rw [hwf]; exact set_blk (o := 1) _ (set_blk (o := 0) _ H2.out.2)
    obtain ⟨d1, d2, d3, d4⟩ := box2 hfb
    rw [← hwf]
    refine bodyPost_ret (v := .tuple #[.agg #[.slice none 0 0, .slice none 0 0], .bool false]) (by simp [results, Try.results16, go_sem, d1, d2]) rfl ⟨_, _, _, by rw [HAB.out], by rw [HA.out]; exact TreeO.nil _ _, ?_⟩
    rw [hwf]; exact (H2.out.1.setCell (by show w'.heap.size ≤ w'.heap.size + 1; omega) _).setCell (by show w'.heap.size ≤ w'.heap.size + 1; omega) _
  · have HA := Lib.hid (show Tr.delKeyT wide key t = Tr.delT wide key t by simp [Tr.delKeyT, ha])
    have HAB := Lib.hid ha
    have hs2 := hb2.size
    have hiw := Tr.delT_weight wide key t
    have hsm := Tr.valid_small (by simp only [Tr.lacksB, Bool.and_eq_true] at ha; exact ha.1)
    have htc := tree_c hgr.node (by omega) w2 (Below.refl _ _)
    have HTC := Lib.hid htc
    have HB2 := Lib.hid hb2
    obtain ⟨y1, y2, y3, y4, y5, y6, y7, y8, y9⟩ := hgr.box.cells
    clear ha hb2 x1 x2 x3 x4 hgr hF htc hiw
    go_wp2_with fail
    refine HTC.out.mono ?_
    rintro e w4 ⟨k4, c4, P, rfl, ht4, hb4⟩
    obtain ⟨q1, q2, q3, q4, q5, q6, rfl, rfl⟩ := ht4.tree.slices
    have hs4 := hb4.size
    have hbr : Below W1.heap.size W1 w4 := HB2.out.trans (hb4.mono (by omega))
    have hrb := (hbr.block (w'.heap.size + 1) (by omega)).trans H1.out.2
    obtain ⟨r1, r2, r3, r4⟩ := box2 hrb
    have HZ := Lib.hid (And.intro ht4 (And.intro hbr hrb))
    clear ht4 hb4 hrb hbr y1 y2 y3 y4 y5 y6 y7 y8 y9
    go_wp2_with fail
    obtain ⟨wf, hwf⟩ : ∃ wf, wf = (w4.setCell ⟨w'.heap.size + 1, 0, none⟩ (.slice q1 q2 q3)).setCell ⟨w'.heap.size + 1, 1, none⟩ (.slice q4 q5 q6) := ⟨_, rfl⟩
    have hfb : wf.heap[w'.heap.size + 1]? = some (.cells #[.slice q1 q2 q3, .slice q4 q5 q6] 26 (0, 0)) := by
      rw [hwf]; exact set_blk (o := 1) _ (set_blk (o := 0) _ HZ.out.2.2)
    obtain ⟨d1, d2, d3, d4⟩ := box2 hfb
    rw [← hwf]
    refine bodyPost_ret (v := .tuple #[.agg #[.slice q1 q2 q3, .slice q4 q5 q6], .bool true]) (by simp [results, Try.results16, go_sem, d1, d2]) rfl ⟨_, _, P, by rw [HAB.out], ?_, ?_⟩
    · rw [HA.out]
      exact (HZ.out.1.same (w' := wf) (by rw [hwf]; simp) (fun q e => by have := (HZ.out.1.lt q e).1; rw [hwf, set_other _ _ _ _ _ (by omega), set_other _ _ _ _ _ (by omega)])).lower (by omega)
    · rw [hwf]; exact ((H1.out.1.trans (HZ.out.2.1.mono (by omega))).setCell (by show w'.heap.size ≤ w'.heap.size + 1; omega) _).setCell (by show w'.heap.size ≤ w'.heap.size + 1; omega) _
end Go.Proofs.Ytananonjomfpkaa

/- The contract of the model's StandIn. -/
namespace Go.Proofs.Ytananonjomfpkaa
open Go.RowKit

set_option maxRecDepth 100000 in
set_option maxHeartbeats 1000000 in
theorem l4Asked_c {w : World} {B : Nat} {kv cv : Value} {t : Tr} (ht : TreeIn w B kv cv t) (hw : t.weight ≤ 1048576) (wide key : Int) (w' : World) (hbw : Below B w w') (hB : B ≤ w'.heap.size) :
    Calls Try.prog 57 #[.agg #[kv, cv], .int .i64 wide, .int .i64 key] w' fun e w'' => e = .returned (.bool (t.validB wide && (t.pathB key).2)) ∧ Below w'.heap.size w' w'' := by
  have HBW := Lib.hid hbw
  obtain ⟨a1, n1, c1, a2, n2, c2, rfl, rfl⟩ := ht.slices
  obtain ⟨W1, hW1⟩ : ∃ W1, W1 = w'.alloc (.cells #[.slice a1 n1 c1, .slice a2 n2 c2] 26) := ⟨_, rfl⟩
  have hs1 : W1.heap.size = w'.heap.size + 1 := by rw [hW1]; simp
  have hb1 : Below w'.heap.size w' W1 := by rw [hW1]; exact (Below.refl _ _).alloc (Nat.le_refl _) _
  have kb : W1.heap[w'.heap.size]? = some (.cells #[.slice a1 n1 c1, .slice a2 n2 c2] 26 (0, 0)) := by rw [hW1, new_blk]
  have HW1 := Lib.hid hW1
  have H1 := Lib.hid (And.intro hb1 kb)
  obtain ⟨x1, x2, x3, x4⟩ := box2 kb
  clear hW1 hb1 kb hbw
  go_enter Try.func57, Try.ntmps57
  go_wp2_with fail
  rw [← HW1.out]
  refine (specTreeValid_c ht hw wide W1 (HBW.out.trans (H1.out.1.mono hB)) (by omega)).mono ?_
  rintro e w2 ⟨rfl, hb2⟩
  have hs2 := hb2.size
  clear x1 x2 x3 x4
  have j0 := (hb2.block _ (by omega)).trans H1.out.2
  obtain ⟨x1, x2, x3, x4⟩ := box2 j0
  have H2 := Lib.hid (H1.out.1.trans (hb2.mono (by omega)))
  clear hb2 j0
  cases hv : t.validB wide with
  | false =>
    have HV := Lib.hid hv
    clear hv
    go_wp2_with fail
    go_ret
    exact ⟨ret_bool (by rw [HV.out]; rfl), H2.out⟩
  | true =>
    have HV := Lib.hid hv
    clear hv
    go_wp2_with fail
    refine (specHasKey_c ht hw key w2 (HBW.out.trans (H2.out.mono hB)) (by omega)).mono ?_
    rintro e w3 ⟨rfl, hb3⟩
    have H3 := Lib.hid (H2.out.trans (hb3.mono (by omega)))
    clear hb3
    go_wp2_with fail
    go_ret
    exact ⟨ret_bool (by rw [HV.out, Bool.true_and]), H3.out⟩

theorem ret_sb {a a' : Int} {b b' : Bool} (h : a = a') (h2 : b = b') : Ending.returned (.tuple #[.int .i64 a, .bool b]) = .returned (.tuple #[.int .i64 a', .bool b']) := by rw [h, h2]


end Go.Proofs.Ytananonjomfpkaa
