/- RepairsBy: the program's and the model's. -/
import Derived.Test.YtananonjomfpkaaProg
import Derived.Test.YtananonjomfpkaaPe0
import Derived.Test.YtananonjomfpkaaPe27
import Derived.Test.YtananonjomfpkaaDelKeyS
import Derived.Test.YtananonjomfpkaaPe20
import Derived.Deep.Cut
namespace Go.Proofs.Ytananonjomfpkaa
open Go.RowKit

/-- What RepairsBy tells. -/
def Tr.repBy (wide key : Int) (t : Tr) : Nat × Nat × Bool :=
  if Tr.lacksB wide key t = true then ((Tr.del (wide / 2) (t.weight + 1) key t).b, (Tr.del (wide / 2) (t.weight + 1) key t).j, Tr.delShrinks wide key t) else (0, 0, false)
def repV (r : Nat × Nat × Bool) : Value := .agg #[.int .i64 (r.1 : Int), .int .i64 (r.2.1 : Int), .bool r.2.2]

set_option maxRecDepth 100000 in
theorem eqRepair_c (w : World) (b j : Nat) (s : Bool) :
    Calls Try.prog 39 #[.agg #[.int .i64 (b : Int), .int .i64 (j : Int), .bool s], .agg #[.int .i64 (b : Int), .int .i64 (j : Int), .bool s]] w fun e w' => e = .returned (.bool true) ∧ Below w.heap.size w w' := by
  have h1 : ((b : Int) != (b : Int)) = false := by simp
  have h2 : ((j : Int) != (j : Int)) = false := by simp
  have h3 : (s != s) = false := by simp
  obtain ⟨B, hB⟩ : ∃ B : Int, B = b := ⟨_, rfl⟩
  obtain ⟨J, hJ⟩ : ∃ J : Int, J = j := ⟨_, rfl⟩
  rw [← hB, ← hJ]
  rw [← hB] at h1
  rw [← hJ] at h2
  clear hB hJ
  obtain ⟨W1, hW1⟩ : ∃ W1, W1 = (w.alloc (.cells #[.int .i64 B, .int .i64 J, .bool s] 52)).alloc (.cells #[.int .i64 B, .int .i64 J, .bool s] 52) := ⟨_, rfl⟩
  have hb1 : Below w.heap.size w W1 := by rw [hW1]; exact ((Below.refl _ _).alloc (Nat.le_refl _) _).alloc (by simp) _
  have k0 : W1.heap[w.heap.size]? = some (.cells #[.int .i64 B, .int .i64 J, .bool s] 52 (0, 0)) := by rw [hW1, old_blk _ _ _ (by simp), new_blk]
  have k1 : W1.heap[w.heap.size + 1]? = some (.cells #[.int .i64 B, .int .i64 J, .bool s] 52 (0, 0)) := by
    rw [hW1, show w.heap.size + 1 = (w.alloc (.cells #[.int .i64 B, .int .i64 J, .bool s] 52)).heap.size by simp, new_blk]
  have HW1 := Lib.hid hW1
  have HB1 := Lib.hid hb1
  obtain ⟨x1, x2, x3, -⟩ := box3 k0
  obtain ⟨y1, y2, y3, -⟩ := box3 k1
  clear hW1 hb1 k0 k1
  go_enter Try.func39, Try.ntmps39
  go_upto_region 1 with (fail)
  rw [← HW1.out]
  go_wp2_with fail
  go_ret
  exact ⟨rfl, HB1.out⟩

theorem three_end {w6 : World} {q : Nat} {b j : Int} {sh : Bool} {o0 o1 o2 : Value} (h : w6.heap[q]? = some (.cells #[o0, o1, o2] 52 (0, 0))) :
    ∃ W, W = ((w6.setCell ⟨q, 0, none⟩ (.int .i64 b)).setCell ⟨q, 1, none⟩ (.int .i64 j)).setCell ⟨q, 2, none⟩ (.bool sh) ∧ W.heap[q]? = some (.cells #[.int .i64 b, .int .i64 j, .bool sh] 52 (0, 0)) ∧ ∀ B, B ≤ q → ∀ w, Below B w w6 → Below B w W :=
  ⟨_, rfl, three_blk h _ _ _, fun B hB w hb => ((hb.setCell (p := ⟨q, 0, none⟩) hB _).setCell (p := ⟨q, 1, none⟩) hB _).setCell (p := ⟨q, 2, none⟩) hB _⟩


set_option maxRecDepth 100000 in
set_option maxHeartbeats 2000000 in
theorem impl_repairsBy {w : World} {B : Nat} {kv cv : Value} {t : Tr} (ht : TreeIn w B kv cv t) (hw : t.weight ≤ 1048576) (wide key : Int) (hn1 : -9223372036854775808 ≤ wide) (hn2 : wide ≤ 9223372036854775807) (w' : World) (hbw : Below B w w') (hB : B ≤ w'.heap.size) :
    Calls Try.prog 46 #[.agg #[kv, cv], .int .i64 wide, .int .i64 key] w' fun e w'' => e = .returned (.tuple #[repV (Tr.repBy wide key t), .bool (Tr.lacksB wide key t)]) ∧ Below w'.heap.size w' w'' := by
  obtain ⟨a5, n5, m5, a6, n6, m6, rfl, rfl⟩ := ht.slices
  obtain ⟨W1, hW1⟩ : ∃ W1, W1 = (w'.alloc (.cells #[.slice a5 n5 m5, .slice a6 n6 m6] 26)).alloc (.cells #[.int .i64 0, .int .i64 0, .bool false] 52) := ⟨_, rfl⟩
  have hs1 : W1.heap.size = w'.heap.size + 2 := by rw [hW1]; simp
  have hb1 : Below w'.heap.size w' W1 := by rw [hW1]; exact ((Below.refl _ _).alloc (Nat.le_refl _) _).alloc (by simp) _
  have k0 : W1.heap[w'.heap.size]? = some (.cells #[.slice a5 n5 m5, .slice a6 n6 m6] 26 (0, 0)) := by rw [hW1, old_blk _ _ _ (by simp), new_blk]
  have kb : W1.heap[w'.heap.size + 1]? = some (.cells #[.int .i64 0, .int .i64 0, .bool false] 52 (0, 0)) := by
    rw [hW1, show w'.heap.size + 1 = (w'.alloc (.cells #[.slice a5 n5 m5, .slice a6 n6 m6] 26)).heap.size by simp, new_blk]
  have k0x := k0
  rw [hW1] at k0x
  obtain ⟨x1, x2, x3, x4⟩ := box2 k0x
  have HT := Lib.hid ht
  have HBW := Lib.hid hbw
  have HW1 := Lib.hid hW1
  have H1 := Lib.hid (And.intro hb1 (And.intro kb k0))
  clear ht hbw hW1 hb1 k0 kb k0x
  go_enter Try.func46, Try.ntmps46
  go_wp2_with fail
  rw [← HW1.out]
  refine (shrunkBy_c HT.out hw wide key hn1 hn2 W1 (HBW.out.trans (H1.out.1.mono hB)) (by omega)).mono ?_
  intro e w2 hgo
  rcases hgo with ⟨ha, rfl, hb2⟩ | ⟨ha, gb, b, F, rfl, hgr, hF, hgb, hb2⟩
  · have HA := Lib.hid (show Tr.repBy wide key t = (0, 0, false) by simp [Tr.repBy, ha])
    have HAB := Lib.hid ha
    have hs2 := hb2.size
    have hrb := (hb2.block (w'.heap.size + 1) (by omega)).trans H1.out.2.1
    obtain ⟨r1, r2, r3, r4, r5, r6⟩ := box3 hrb
    have H2 := Lib.hid (And.intro (H1.out.1.trans (hb2.mono (by omega))) hrb)
    clear ha hb2 hrb x1 x2 x3 x4
    go_wp2_with fail
    obtain ⟨wf, hwf, hfb, hbf⟩ := three_end (b := 0) (j := 0) (sh := false) H2.out.2
    obtain ⟨d1, d2, d3, -⟩ := box3 hfb
    rw [← hwf]
    refine bodyPost_ret (v := .tuple #[.agg #[.int .i64 0, .int .i64 0, .bool false], .bool false]) (by simp [results, Try.results46, go_sem, d1, d2, d3]) rfl ⟨by rw [HAB.out, HA.out]; rfl, hbf _ (by omega) _ H2.out.1⟩
  · have HA := Lib.hid (show Tr.repBy wide key t = ((Tr.del (wide / 2) (t.weight + 1) key t).b, (Tr.del (wide / 2) (t.weight + 1) key t).j, Tr.delShrinks wide key t) by simp [Tr.repBy, ha])
    have HAB := Lib.hid ha
    obtain ⟨rb, hrb0⟩ : ∃ rb, rb = (Tr.del (wide / 2) (t.weight + 1) key t).b := ⟨_, rfl⟩
    obtain ⟨rj, hrj0⟩ : ∃ rj, rj = (Tr.del (wide / 2) (t.weight + 1) key t).j := ⟨_, rfl⟩
    obtain ⟨rs, hrs0⟩ : ∃ rs, rs = Tr.delShrinks wide key t := ⟨_, rfl⟩
    rw [← hrb0, ← hrj0, ← hrs0] at hgr
    have HRR := Lib.hid (And.intro hrb0 (And.intro hrj0 hrs0))
    obtain ⟨g0, g1, g2, g3, g4, -⟩ := hgr.box.cells
    have hs2 := hb2.size
    have hrb := (hb2.block (w'.heap.size + 1) (by omega)).trans H1.out.2.1
    obtain ⟨r1, r2, r3, r4, r5, r6⟩ := box3 hrb
    have H2 := Lib.hid (And.intro (H1.out.1.trans (hb2.mono (by omega))) hrb)
    clear ha hb2 hrb x1 x2 x3 x4 hrb0 hrj0 hrs0 hgr hF
    go_wp2_with fail
    obtain ⟨wf, hwf, hfb, hbf⟩ := three_end (b := (rb : Int)) (j := (rj : Int)) (sh := rs) H2.out.2
    obtain ⟨d1, d2, d3, -⟩ := box3 hfb
    rw [← hwf]
    refine bodyPost_ret (v := .tuple #[.agg #[.int .i64 (rb : Int), .int .i64 (rj : Int), .bool rs], .bool true]) (by simp [results, Try.results46, go_sem, d1, d2, d3]) rfl ⟨by rw [HAB.out, HA.out, ← HRR.out.1, ← HRR.out.2.1, ← HRR.out.2.2]; rfl, hbf _ (by omega) _ H2.out.1⟩
end Go.Proofs.Ytananonjomfpkaa
