/- The laws' own comparing of cursors. -/
import Derived.Test.YticfkfjijnfcbaaDoorProg
import Derived.Test.YticfkfjijnfcbaaDoorSh0
import Derived.Test.YticfkfjijnfcbaaDoorFtSame
namespace Go.Proofs.YticfkfjijnfcbaaDoor
open Go.RowKit

set_option maxHeartbeats 1000000 in
set_option maxRecDepth 100000 in
theorem ftCursor_c (ks : List Int) (v v' : Value) (at' : Int) (w : World) (B : Nat) (hB : B ≤ w.heap.size) (hk : IntsIn w B v ks) (hk' : IntsIn w B v' ks) :
    Calls Tryd.prog 35 #[.agg #[v, .int .i64 at'], .agg #[v', .int .i64 at']] w fun e w' => e = .returned (.bool true) ∧ Below w.heap.size w w' := by
  have HK := Lib.hid hk
  have HK' := Lib.hid hk'
  obtain ⟨va, vcap, rfl, -⟩ := hk
  obtain ⟨vb, vcap', rfl, -⟩ := hk'
  obtain ⟨W2, hW2⟩ : ∃ W2, W2 = ((w.alloc (.cells #[.slice va ks.length vcap, .int .i64 at'] 28)).alloc (.cells #[.slice vb ks.length vcap', .int .i64 at'] 28)) := ⟨_, rfl⟩
  have hb2 : Below w.heap.size w W2 := by rw [hW2]; exact ((Below.refl _ _).alloc (Nat.le_refl _) _).alloc (by simp) _
  have hs2 : W2.heap.size = w.heap.size + 2 := by rw [hW2]; simp
  have k0 : W2.heap[w.heap.size]? = some (.cells #[.slice va ks.length vcap, .int .i64 at'] 28 (0, 0)) := by rw [hW2, old_blk _ _ _ (by simp), new_blk]
  have k1 : W2.heap[w.heap.size + 1]? = some (.cells #[.slice vb ks.length vcap', .int .i64 at'] 28 (0, 0)) := by
    rw [hW2, show w.heap.size + 1 = (w.alloc (.cells #[.slice va ks.length vcap, .int .i64 at'] 28)).heap.size by simp, new_blk]
  have k0x := k0
  have k1x := k1
  rw [hW2] at k0x k1x
  obtain ⟨x1, x2, x3, x4⟩ := box2 k0x
  obtain ⟨y1, y2, y3, y4⟩ := box2 k1x
  have HX := Lib.hid (And.intro hb2 (And.intro hs2 (And.intro k0 k1)))
  have HW2 := Lib.hid hW2
  clear hb2 hs2 k0 k1 k0x k1x hW2
  go_enter Tryd.func35, Tryd.ntmps35
  go_wp2_with fail
  rw [← HW2.out]
  refine (ftSame_c ks _ _ W2 B (by have := HX.out.2.1; omega) (HK.out.later HX.out.1 hB) (HK'.out.later HX.out.1 hB)).mono ?_
  rintro e w3 ⟨rfl, hb3⟩
  have hs2 := HX.out.2.1
  have j0 := (hb3.block w.heap.size (by omega)).trans HX.out.2.2.1
  have j1 := (hb3.block (w.heap.size + 1) (by omega)).trans HX.out.2.2.2
  clear x1 x2 x3 x4 y1 y2 y3 y4
  obtain ⟨x1, x2, x3, x4⟩ := box2 j0
  obtain ⟨y1, y2, y3, y4⟩ := box2 j1
  have heq : (at' == at') = true := by simp
  have H3 := Lib.hid (HX.out.1.trans (hb3.mono (by omega)))
  clear hb3 j0 j1 hs2
  go_wp2_with fail
  go_ret
  exact ⟨rfl, H3.out⟩
end Go.Proofs.YticfkfjijnfcbaaDoor
