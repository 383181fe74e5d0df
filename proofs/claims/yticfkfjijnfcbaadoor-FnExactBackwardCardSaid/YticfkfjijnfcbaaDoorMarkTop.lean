/- Marking a tree: the number that comes is no more than the tree weighs; a list that is marked behind the tree. -/
import Derived.Test.YticfkfjijnfcbaaDoorProg
import Derived.Test.YticfkfjijnfcbaaDoorSh0
import Derived.Test.YticfkfjijnfcbaaDoorSh17
namespace Go.Proofs.YticfkfjijnfcbaaDoor
open Go.RowKit

set_option maxHeartbeats 1000000 in
theorem markTree_up {w : World} {lo hi : Nat} {kv cv : Value} {t : Tr} (ht : TreeMem w lo hi kv cv t) (hw : t.weight ≤ 1048576) (hhi : hi ≤ w.heap.size) (k : Int) (h0 : 0 ≤ k) (h1 : k ≤ 1048576) :
    Calls Tryd.prog 21 #[.agg #[kv, cv], .int .i64 k] w fun e w' => ∃ m : Int, e = .returned (.int .i64 m) ∧ k ≤ m ∧ m ≤ k + (t.weight : Int) ∧ Span lo hi w w' := by
  obtain ⟨ks, cs, g, h, f, rfl, rfl, rfl, hg, hgh, hr⟩ := ht.slices
  simp only [Tr.weight] at hw
  obtain ⟨W1, hW1⟩ : ∃ W1, W1 = w.alloc (.cells #[.slice (some ⟨g, 0, none⟩) ks.length ks.length, .slice (some ⟨h, 0, none⟩) cs.length cs.length] 33) := ⟨_, rfl⟩
  have hs1 : W1.heap.size = w.heap.size + 1 := by rw [hW1]; simp
  have hb1 : Below w.heap.size w W1 := by rw [hW1]; exact (Below.refl _ _).alloc (Nat.le_refl _) _
  have kb : W1.heap[w.heap.size]? = some (.cells #[.slice (some ⟨g, 0, none⟩) ks.length ks.length, .slice (some ⟨h, 0, none⟩) cs.length cs.length] 33 (0, 0)) := by rw [hW1, new_blk]
  have ht1 : Touch w W1 := Touch.of_below hb1 (Nat.le_refl _)
  have hr1 : W1.rowIs g 3 ks.length (fun i => .int .i64 (f i)) := hr.of_block (hb1.block g hr.lt)
  have HW1 := Lib.hid hW1
  have HX := Lib.hid (And.intro hs1 (And.intro hb1 (And.intro kb (And.intro ht1 hr1))))
  have HT := Lib.hid ht
  clear hW1 hs1 hb1 kb ht1 hr1 hr ht
  go_enter Tryd.func21, Tryd.ntmps21
  go_wp2_with fail
  rw [← HW1.out]
  have hs1 := HX.out.1
  refine (markKeys_c HX.out.2.2.2.2 hg hgh (by omega) k h0 (by omega)).mono ?_
  rintro e w1 ⟨rfl, ht1, hbb1⟩
  have hblk := (ht1.other w.heap.size _ _ HX.out.2.2.1 (by decide)).trans HX.out.2.2.1
  obtain ⟨x1, x2, x3, x4⟩ := box2 hblk
  have hsz := hbb1.size
  have HY := Lib.hid (And.intro ht1 (And.intro hbb1 hblk))
  clear hs1 ht1 hbb1 hblk
  go_wp2_with fail
  have hs1 := HX.out.1
  refine (markTreeS_c HT.out (by simp only [Tr.weight]; omega) w1 (k + ks.length) (HX.out.2.2.2.1.trans HY.out.1) (by omega) (by simp only [Tr.kidsW]; omega)).mono ?_
  rintro e w2 ⟨m, rfl, q1, q2, ht2, hbb2⟩
  have HZ := Lib.hid hbb2
  clear hbb2 ht2 hs1
  go_wp2_with fail
  go_ret
  exact ⟨m, rfl, by omega, by simp only [Tr.kidsW] at q2; simp only [Tr.weight]; omega, (Span.of_below HX.out.2.1 (Nat.le_refl _)).trans (HY.out.2.1.trans HZ.out)⟩

end Go.Proofs.YticfkfjijnfcbaaDoor
