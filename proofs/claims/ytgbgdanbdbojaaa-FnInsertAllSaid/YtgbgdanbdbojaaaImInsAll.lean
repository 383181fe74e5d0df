/- The program's InsertAll and SplitsOf. -/
import Derived.Test.YtgbgdanbdbojaaaProg
import Derived.Test.YtgbgdanbdbojaaaSh0
import Derived.Test.YtgbgdanbdbojaaaSh28
import Derived.Test.YtgbgdanbdbojaaaSpecInsAll
import Derived.Test.YtgbgdanbdbojaaaSh18
import Derived.Deep.Cut
namespace Go.Proofs.Ytgbgdanbdbojaaa
open Go.RowKit

set_option maxRecDepth 100000 in
set_option maxHeartbeats 2000000 in
theorem impl_insertAll {v : Value} {ks : List Int} (w : World) (B : Nat) (hB : B ≤ w.heap.size) (hk : IntsIn w B v ks) (wide : Int) :
    Calls Try.prog 25 #[.int .i64 wide, v] w (AllGrown w wide ks) := by
  obtain ⟨W1, hW1⟩ : ∃ W1, W1 = w.alloc (.cells #[.slice none 0 0, .slice none 0 0] 26) := ⟨_, rfl⟩
  have hs1 : W1.heap.size = w.heap.size + 1 := by rw [hW1]; simp
  have hb1 : Below w.heap.size w W1 := by rw [hW1]; exact (Below.refl _ _).alloc (Nat.le_refl _) _
  have k1 : W1.heap[w.heap.size]? = some (.cells #[.slice none 0 0, .slice none 0 0] 26 (0, 0)) := by rw [hW1, new_blk]
  have HG := Lib.hid (grownFrom_c W1 B (by omega) (hk.later hb1 hB) wide)
  have HW1 := Lib.hid hW1
  have H1 := Lib.hid (And.intro hb1 k1)
  clear hk hW1 hb1 k1
  go_enter Try.func25, Try.ntmps25
  go_wp2_with fail
  rw [← HW1.out]
  refine HG.out.mono ?_
  intro e w2 hgo
  rcases hgo with ⟨ha, rfl, hb2⟩ | ⟨ha, gb, b, F, gr, rfl, hgr, hF, hb2⟩
  · have hs2 := hb2.size
    have hrb := (hb2.block w.heap.size (by omega)).trans H1.out.2
    obtain ⟨r1, r2, r3, r4⟩ := box2 hrb
    have H2 := Lib.hid (And.intro ha (And.intro (H1.out.1.trans (hb2.mono (by omega))) hrb))
    clear ha hb2 hrb
    go_wp2_with fail
    obtain ⟨wf, hwf⟩ : ∃ wf, wf = (w2.setCell ⟨w.heap.size, 0, none⟩ (.slice none 0 0)).setCell ⟨w.heap.size, 1, none⟩ (.slice none 0 0) := ⟨_, rfl⟩
    have hfb : wf.heap[w.heap.size]? = some (.cells #[.slice none 0 0, .slice none 0 0] 26 (0, 0)) := by
      rw [hwf]; exact set_blk (o := 1) _ (set_blk (o := 0) _ H2.out.2.2)
    obtain ⟨d1, d2, d3, d4⟩ := box2 hfb
    rw [← hwf]
    refine bodyPost_ret (v := .tuple #[.agg #[.slice none 0 0, .slice none 0 0], .bool false]) (by simp [results, Try.results25, go_sem, d1, d2]) rfl ⟨_, _, _, by rw [H2.out.1], by rw [show Tr.insAllT wide ks = .mk [] [] by simp [Tr.insAllT, H2.out.1]]; exact TreeO.nil _ _, ?_⟩
    rw [hwf]; exact (H2.out.2.1.setCell (by show w.heap.size ≤ w.heap.size; omega) _).setCell (by show w.heap.size ≤ w.heap.size; omega) _
  · have hs2 := hb2.size
    have hsm : (Tr.allIn wide ks).1.weight ≤ 1048576 := by
      have := Tr.insAll_weight wide ks
      simpa [Tr.insAllT, ha] using this
    have HTC := Lib.hid (tree_c hgr.node hsm w2 (Below.refl _ _))
    have HB2 := Lib.hid (And.intro ha hb2)
    obtain ⟨y1, y2, y3, y4, y5, y6, y7⟩ := hgr.box.cells
    clear ha hb2 hgr hF
    go_wp2_with fail
    refine HTC.out.mono ?_
    rintro e w4 ⟨k4, c4, P, rfl, ht4, hb4⟩
    obtain ⟨q1, q2, q3, q4, q5, q6, rfl, rfl⟩ := ht4.tree.slices
    have hs4 := hb4.size
    have hbr : Below W1.heap.size W1 w4 := HB2.out.2.trans (hb4.mono (by omega))
    have hrb := (hbr.block w.heap.size (by omega)).trans H1.out.2
    obtain ⟨r1, r2, r3, r4⟩ := box2 hrb
    have HZ := Lib.hid (And.intro ht4 (And.intro hbr hrb))
    clear ht4 hb4 hrb hbr y1 y2 y3 y4 y5 y6 y7
    go_wp2_with fail
    obtain ⟨wf, hwf⟩ : ∃ wf, wf = (w4.setCell ⟨w.heap.size, 0, none⟩ (.slice q1 q2 q3)).setCell ⟨w.heap.size, 1, none⟩ (.slice q4 q5 q6) := ⟨_, rfl⟩
    have hfb : wf.heap[w.heap.size]? = some (.cells #[.slice q1 q2 q3, .slice q4 q5 q6] 26 (0, 0)) := by
      rw [hwf]; exact set_blk (o := 1) _ (set_blk (o := 0) _ HZ.out.2.2)
    obtain ⟨d1, d2, d3, d4⟩ := box2 hfb
    rw [← hwf]
    refine bodyPost_ret (v := .tuple #[.agg #[.slice q1 q2 q3, .slice q4 q5 q6], .bool true]) (by simp [results, Try.results25, go_sem, d1, d2]) rfl ⟨_, _, P, by rw [HB2.out.1], ?_, ?_⟩
    · rw [show Tr.insAllT wide ks = (Tr.allIn wide ks).1 by simp [Tr.insAllT, HB2.out.1]]
      exact (HZ.out.1.same (w' := wf) (by rw [hwf]; simp) (fun q e => by have := (HZ.out.1.lt q e).1; rw [hwf, set_other _ _ _ _ _ (by omega), set_other _ _ _ _ _ (by omega)])).lower (by omega)
    · rw [hwf]; exact ((H1.out.1.trans (HZ.out.2.1.mono (by omega))).setCell (by show w.heap.size ≤ w.heap.size; omega) _).setCell (by show w.heap.size ≤ w.heap.size; omega) _
end Go.Proofs.Ytgbgdanbdbojaaa
