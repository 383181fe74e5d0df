/- Marking a tree: the number that comes is no more than the tree weighs; a list that is marked behind the tree. -/
import Derived.Test.YtananonjomfpkaaProg
import Derived.Test.YtananonjomfpkaaPe0
import Derived.Test.YtananonjomfpkaaPe33
import Derived.Test.YtananonjomfpkaaPe20
import Derived.Test.YtananonjomfpkaaTreeC
import Derived.Deep.Cut
import Derived.Test.YtananonjomfpkaaPe22
import Derived.Test.YtananonjomfpkaaExS

/- The contract of the program's DeleteAll. -/
namespace Go.Proofs.Ytananonjomfpkaa
open Go.RowKit

set_option maxRecDepth 100000 in
set_option maxHeartbeats 2000000 in
theorem impl_deleteAll {w : World} {B : Nat} {kv cv v : Value} {t : Tr} {ks : List Int} (ht : TreeIn w B kv cv t) (hw : t.weight ≤ 1048576) (hk : IntsIn w B v ks) (wide : Int) (hn1 : -9223372036854775808 ≤ wide) (hn2 : wide ≤ 9223372036854775807) (w' : World) (hbw : Below B w w') (hB : B ≤ w'.heap.size) (hwB : w.heap.size ≤ B) :
    Calls Try.prog 34 #[.agg #[kv, cv], .int .i64 wide, v] w' fun e w'' => ∃ kv' cv' P, e = .returned (.tuple #[.agg #[kv', cv'], .bool (Tr.askAll wide t ks)]) ∧ TreeO w'' w'.heap.size P kv' cv' (Tr.goneT wide t ks) ∧ Below w'.heap.size w' w'' := by
  obtain ⟨a5, n5, m5, a6, n6, m6, rfl, rfl⟩ := ht.slices
  have hk0 := hk
  obtain ⟨ka, kc, rfl, -⟩ := hk0
  obtain ⟨W1, hW1⟩ : ∃ W1, W1 = (w'.alloc (.cells #[.slice a5 n5 m5, .slice a6 n6 m6] 26)).alloc (.cells #[.slice none 0 0, .slice none 0 0] 26) := ⟨_, rfl⟩
  have hs1 : W1.heap.size = w'.heap.size + 2 := by rw [hW1]; simp
  have hb1 : Below w'.heap.size w' W1 := by rw [hW1]; exact ((Below.refl _ _).alloc (Nat.le_refl _) _).alloc (by simp) _
  have k0 : W1.heap[w'.heap.size]? = some (.cells #[.slice a5 n5 m5, .slice a6 n6 m6] 26 (0, 0)) := by rw [hW1, old_blk _ _ _ (by simp), new_blk]
  have kb : W1.heap[w'.heap.size + 1]? = some (.cells #[.slice none 0 0, .slice none 0 0] 26 (0, 0)) := by
    rw [hW1, show w'.heap.size + 1 = (w'.alloc (.cells #[.slice a5 n5 m5, .slice a6 n6 m6] 26)).heap.size by simp, new_blk]
  have k0x := k0
  rw [hW1] at k0x
  obtain ⟨x1, x2, x3, x4⟩ := box2 k0x
  have HT := Lib.hid ht
  have HBW := Lib.hid hbw
  have HW1 := Lib.hid hW1
  have H1 := Lib.hid (And.intro hb1 kb)
  clear ht hbw hW1 hb1 k0 kb k0x
  go_enter Try.func34, Try.ntmps34
  go_wp2_with fail
  rw [← HW1.out]
  refine (shrunkByAll_c HT.out hw hk wide hn1 hn2 W1 (HBW.out.trans (H1.out.1.mono hB)) (by omega) hwB).mono ?_
  intro e w2 hgo
  rcases hgo with ⟨ha, rfl, hb2⟩ | ⟨ha, gb, b, F, rfl, hgr, hF, -, hb2⟩
  · have HA := Lib.hid (show Tr.goneT wide t ks = .mk [] [] by simp [Tr.goneT, ha])
    have HAB := Lib.hid ha
    have hs2 := hb2.size
    have hrb := (hb2.block (w'.heap.size + 1) (by omega)).trans H1.out.2
    obtain ⟨r1, r2, r3, r4⟩ := box2 hrb
    have H2 := Lib.hid (And.intro (H1.out.1.trans (hb2.mono (by omega))) hrb)
    clear ha hb2 hrb x1 x2 x3 x4
    go_wp2_with fail
    obtain ⟨wf, hwf⟩ : ∃ wf, wf = (w2.setCell ⟨w'.heap.size + 1, 0, none⟩ (.slice none 0 0)).setCell ⟨w'.heap.size + 1, 1, none⟩ (.slice none 0 0) := ⟨_, rfl⟩
    have hfb : wf.heap[w'.heap.size + 1]? = some (.cells #[.slice none 0 0, .slice none 0 0] 26 (0, 0)) := by
      rw [hwf]; exact set_blk (o := 1) _ (set_blk (o := 0) _ H2.out.2)
    obtain ⟨d1, d2, d3, d4⟩ := box2 hfb
    rw [← hwf]
    refine bodyPost_ret (v := .tuple #[.agg #[.slice none 0 0, .slice none 0 0], .bool false]) (by simp [results, Try.results34, go_sem, d1, d2]) rfl ⟨_, _, _, by rw [HAB.out], by rw [HA.out]; exact TreeO.nil _ _, ?_⟩
    rw [hwf]; exact (H2.out.1.setCell (by show w'.heap.size ≤ w'.heap.size + 1; omega) _).setCell (by show w'.heap.size ≤ w'.heap.size + 1; omega) _
  · have HA := Lib.hid (show Tr.goneT wide t ks = (Tr.gone wide t ks).t by simp [Tr.goneT, ha])
    have HAB := Lib.hid ha
    have hs2 := hb2.size
    have hiw := Tr.goneT_weight wide t ks
    rw [HA.out] at hiw
    have htc := tree_c hgr.node hiw w2 (Below.refl _ _)
    have HTC := Lib.hid htc
    have HB2 := Lib.hid hb2
    obtain ⟨y1, y2, y3, y4, y5, y6, y7, y8, y9⟩ := hgr.box.cells
    clear ha hb2 x1 x2 x3 x4 hgr hF htc hiw
    go_wp2_with fail
    refine HTC.out.mono ?_
    rintro e w4 ⟨k4, c4, P, rfl, ht4, hb4⟩
    obtain ⟨q1, q2, q3, q4, q5, q6, rfl, rfl⟩ := ht4.tree.slices
    have hs4 := hb4.size
    have hbr : Below W1.heap.size W1 w4 := HB2.out.trans (hb4.mono (by omega))
    have hrb := (hbr.block (w'.heap.size + 1) (by omega)).trans H1.out.2
    obtain ⟨r1, r2, r3, r4⟩ := box2 hrb
    have HZ := Lib.hid (And.intro ht4 (And.intro hbr hrb))
    clear ht4 hb4 hrb hbr y1 y2 y3 y4 y5 y6 y7 y8 y9
    go_wp2_with fail
    obtain ⟨wf, hwf⟩ : ∃ wf, wf = (w4.setCell ⟨w'.heap.size + 1, 0, none⟩ (.slice q1 q2 q3)).setCell ⟨w'.heap.size + 1, 1, none⟩ (.slice q4 q5 q6) := ⟨_, rfl⟩
    have hfb : wf.heap[w'.heap.size + 1]? = some (.cells #[.slice q1 q2 q3, .slice q4 q5 q6] 26 (0, 0)) := by
      rw [hwf]; exact set_blk (o := 1) _ (set_blk (o := 0) _ HZ.out.2.2)
    obtain ⟨d1, d2, d3, d4⟩ := box2 hfb
    rw [← hwf]
    refine bodyPost_ret (v := .tuple #[.agg #[.slice q1 q2 q3, .slice q4 q5 q6], .bool true]) (by simp [results, Try.results34, go_sem, d1, d2]) rfl ⟨_, _, P, by rw [HAB.out], ?_, ?_⟩
    · rw [HA.out]
      exact (HZ.out.1.same (w' := wf) (by rw [hwf]; simp) (fun q e => by have := (HZ.out.1.lt q e).1; rw [hwf, set_other _ _ _ _ _ (by omega), set_other _ _ _ _ _ (by omega)])).lower (by omega)
    · rw [hwf]; exact ((H1.out.1.trans (HZ.out.2.1.mono (by omega))).setCell (by show w'.heap.size ≤ w'.heap.size + 1; omega) _).setCell (by show w'.heap.size ≤ w'.heap.size + 1; omega) _
end Go.Proofs.Ytananonjomfpkaa

/- Marking a tree: the number that comes is no more than the tree weighs; a list that is marked behind the tree. -/
namespace Go.Proofs.Ytananonjomfpkaa
open Go.RowKit

set_option maxHeartbeats 1000000 in
theorem markTree_up {w : World} {lo hi : Nat} {kv cv : Value} {t : Tr} (ht : TreeMem w lo hi kv cv t) (hw : t.weight ≤ 1048576) (hhi : hi ≤ w.heap.size) (k : Int) (h0 : 0 ≤ k) (h1 : k ≤ 1048576) :
    Calls Try.prog 30 #[.agg #[kv, cv], .int .i64 k] w fun e w' => ∃ m : Int, e = .returned (.int .i64 m) ∧ k ≤ m ∧ m ≤ k + (t.weight : Int) ∧ Span lo hi w w' := by
  obtain ⟨ks, cs, g, h, f, rfl, rfl, rfl, hg, hgh, hr⟩ := ht.slices
  simp only [Tr.weight] at hw
  obtain ⟨W1, hW1⟩ : ∃ W1, W1 = w.alloc (.cells #[.slice (some ⟨g, 0, none⟩) ks.length ks.length, .slice (some ⟨h, 0, none⟩) cs.length cs.length] 26) := ⟨_, rfl⟩
  have hs1 : W1.heap.size = w.heap.size + 1 := by rw [hW1]; simp
  have hb1 : Below w.heap.size w W1 := by rw [hW1]; exact (Below.refl _ _).alloc (Nat.le_refl _) _
  have kb : W1.heap[w.heap.size]? = some (.cells #[.slice (some ⟨g, 0, none⟩) ks.length ks.length, .slice (some ⟨h, 0, none⟩) cs.length cs.length] 26 (0, 0)) := by rw [hW1, new_blk]
  have ht1 : Touch w W1 := Touch.of_below hb1 (Nat.le_refl _)
  have hr1 : W1.rowIs g 3 ks.length (fun i => .int .i64 (f i)) := hr.of_block (hb1.block g hr.lt)
  have HW1 := Lib.hid hW1
  have HX := Lib.hid (And.intro hs1 (And.intro hb1 (And.intro kb (And.intro ht1 hr1))))
  have HT := Lib.hid ht
  clear hW1 hs1 hb1 kb ht1 hr1 hr ht
  go_enter Try.func30, Try.ntmps30
  go_wp2_with fail
  rw [← HW1.out]
  have hs1 := HX.out.1
  refine (markKeys_c HX.out.2.2.2.2 hg hgh (by omega) k h0 (by omega)).mono ?_
  rintro e w1 ⟨rfl, ht1, hbb1⟩
  have hblk := (ht1.other w.heap.size _ _ HX.out.2.2.1 (by decide)).trans HX.out.2.2.1
  obtain ⟨x1, x2, x3, x4⟩ := box2 hblk
  have hsz := hbb1.size
  have HY := Lib.hid (And.intro ht1 (And.intro hbb1 hblk))
  clear hs1 ht1 hbb1 hblk
  go_wp2_with fail
  have hs1 := HX.out.1
  refine (markTreeS_c HT.out (by simp only [Tr.weight]; omega) w1 (k + ks.length) (HX.out.2.2.2.1.trans HY.out.1) (by omega) (by simp only [Tr.kidsW]; omega)).mono ?_
  rintro e w2 ⟨m, rfl, q1, q2, ht2, hbb2⟩
  have HZ := Lib.hid hbb2
  clear hbb2 ht2 hs1
  go_wp2_with fail
  go_ret
  exact ⟨m, rfl, by omega, by simp only [Tr.kidsW] at q2; simp only [Tr.weight]; omega, (Span.of_below HX.out.2.1 (Nat.le_refl _)).trans (HY.out.2.1.trans HZ.out)⟩

variable {w0 w w' : World} {b3 b8 b10 b11 B8 lo : Nat} {kv cv k4 c4 k5 c5 k7 c7 : Value} {P : Blocks} {r u : Tr}

/-- An argument that lies behind the first one's box is marked. -/
theorem ExS.span2 {l h' : Nat} (h : ExS w0 b3 b8 b10 b11 B8 lo kv cv k4 c4 k5 c5 k7 c7 P r u w) (hs : Span l h' w w') (h1 : b8 < l) (h2 : b10 < l) (h3 : h' ≤ lo) : ExS w0 b3 b8 b10 b11 B8 lo kv cv k4 c4 k5 c5 k7 c7 P r u w' := by
  have e3 := heap_lt h.x3
  have e8 := heap_lt h.x8
  have l3 := h.l3
  have l8 := h.l8
  have hb : Below B8 w w' := ⟨hs.os, hs.tape, hs.output, hs.size, fun k hk => hs.block k (by have := h.lw; omega) (.inl (by omega))⟩
  refine ⟨h.bel.trans (hb.mono (by have := h.l0; omega)), (hs.block _ e3 (.inl (by omega))).trans h.x3, (hs.block _ e8 (.inl (by omega))).trans h.x8, (hs.block _ (heap_lt h.x10) (.inl h2)).trans h.x10,
    (hs.block _ (heap_lt h.x11) (.inr (by have := h.n11.1; omega))).trans h.x11, h.tr4.later hb (Nat.le_refl _), h.tr7.same hs.size (fun b e => hs.block b (h.tr7.lt b e).2 (.inr (by have := (h.tr7.lt b e).1; omega))), h.l3, h.l8, h.l10, h.l0, h.n11, Nat.le_trans h.lw hs.size⟩
end Go.Proofs.Ytananonjomfpkaa
