/- The contract of the model's StandIn. -/
import Derived.Test.YtepkigcbjepbpaaProg
import Derived.Test.YtepkigcbjepbpaaDk0
import Derived.Test.YtepkigcbjepbpaaDk3
import Derived.Test.YtepkigcbjepbpaaDk7
import Derived.Test.YtepkigcbjepbpaaDk8
import Derived.Test.YtepkigcbjepbpaaDk11
import Derived.Test.YtepkigcbjepbpaaDk13
import Derived.Test.YtepkigcbjepbpaaDk15
import Derived.Test.YtepkigcbjepbpaaDk30
import Derived.Deep.LoopGhost
import Derived.Deep.RegionWith
import Derived.Deep.RegionHeld3
import Derived.Deep.QuietTactic
import Derived.BigQuiet
import Derived.WalkSmall
namespace Go.Proofs.Ytepkigcbjepbpaa
open Go.RowKit

set_option maxRecDepth 100000 in
set_option maxHeartbeats 1000000 in
theorem l4Asked_c {w : World} {B : Nat} {kv cv : Value} {t : Tr} (ht : TreeIn w B kv cv t) (hw : t.weight ≤ 1048576) (wide key : Int) (w' : World) (hbw : Below B w w') (hB : B ≤ w'.heap.size) :
    Calls Try.prog 48 #[.agg #[kv, cv], .int .i64 wide, .int .i64 key] w' fun e w'' => e = .returned (.bool (t.validB wide && (t.pathB key).2)) ∧ Below w'.heap.size w' w'' := by
  have HBW := Lib.hid hbw
  obtain ⟨a1, n1, c1, a2, n2, c2, rfl, rfl⟩ := ht.slices
  obtain ⟨W1, hW1⟩ : ∃ W1, W1 = w'.alloc (.cells #[.slice a1 n1 c1, .slice a2 n2 c2] 29) := ⟨_, rfl⟩
  have hs1 : W1.heap.size = w'.heap.size + 1 := by rw [hW1]; simp
  have hb1 : Below w'.heap.size w' W1 := by rw [hW1]; exact (Below.refl _ _).alloc (Nat.le_refl _) _
  have kb : W1.heap[w'.heap.size]? = some (.cells #[.slice a1 n1 c1, .slice a2 n2 c2] 29 (0, 0)) := by rw [hW1, new_blk]
  have HW1 := Lib.hid hW1
  have H1 := Lib.hid (And.intro hb1 kb)
  obtain ⟨x1, x2, x3, x4⟩ := box2 kb
  clear hW1 hb1 kb hbw
  go_enter Try.func48, Try.ntmps48
  go_wp2_with fail
  rw [← HW1.out]
  refine (specTreeValid_c ht hw wide W1 (HBW.out.trans (H1.out.1.mono hB)) (by omega)).mono ?_
  rintro e w2 ⟨rfl, hb2⟩
  have hs2 := hb2.size
  clear x1 x2 x3 x4
  have j0 := (hb2.block _ (by omega)).trans H1.out.2
  obtain ⟨x1, x2, x3, x4⟩ := box2 j0
  have H2 := Lib.hid (H1.out.1.trans (hb2.mono (by omega)))
  clear hb2 j0
  cases hv : t.validB wide with
  | false =>
    have HV := Lib.hid hv
    clear hv
    go_wp2_with fail
    go_ret
    exact ⟨ret_bool (by rw [HV.out]; rfl), H2.out⟩
  | true =>
    have HV := Lib.hid hv
    clear hv
    go_wp2_with fail
    refine (specHasKey_c ht hw key w2 (HBW.out.trans (H2.out.mono hB)) (by omega)).mono ?_
    rintro e w3 ⟨rfl, hb3⟩
    have H3 := Lib.hid (H2.out.trans (hb3.mono (by omega)))
    clear hb3
    go_wp2_with fail
    go_ret
    exact ⟨ret_bool (by rw [HV.out, Bool.true_and]), H3.out⟩

theorem ret_sb {a a' : Int} {b b' : Bool} (h : a = a') (h2 : b = b') : Ending.returned (.tuple #[.int .i64 a, .bool b]) = .returned (.tuple #[.int .i64 a', .bool b']) := by rw [h, h2]


end Go.Proofs.Ytepkigcbjepbpaa
