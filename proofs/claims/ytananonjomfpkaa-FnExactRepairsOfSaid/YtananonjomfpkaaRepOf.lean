/- RepairsOf: the program's and the model's. -/
import Derived.Test.YtananonjomfpkaaProg
import Derived.Test.YtananonjomfpkaaPe0
import Derived.Test.YtananonjomfpkaaRepBy
import Derived.Test.YtananonjomfpkaaPe33
import Derived.Test.YtananonjomfpkaaPe35
import Derived.Deep.Cut
namespace Go.Proofs.Ytananonjomfpkaa
open Go.RowKit

/-- What RepairsOf tells. -/
def Tr.repOf (wide : Int) (t : Tr) (ks : List Int) : Nat × Nat × Bool :=
  if Tr.askAll wide t ks = true then ((Tr.gone wide t ks).b, (Tr.gone wide t ks).j, (Tr.gone wide t ks).sh) else (0, 0, false)

set_option maxRecDepth 100000 in
set_option maxHeartbeats 2000000 in
theorem specRepairsOf_c {w : World} {B : Nat} {kv cv v : Value} {t : Tr} {ks : List Int} (ht : TreeIn w B kv cv t) (hw : t.weight ≤ 1048576) (hk : IntsIn w B v ks) (wide : Int) (w' : World) (hbw : Below B w w') (hB : B ≤ w'.heap.size) (hwB : w.heap.size ≤ B) :
    Calls Try.prog 37 #[.agg #[kv, cv], .int .i64 wide, v] w' fun e w'' => e = .returned (.tuple #[repV (Tr.repOf wide t ks), .bool (Tr.askAll wide t ks)]) ∧ Below w'.heap.size w' w'' := by
  obtain ⟨a5, n5, m5, a6, n6, m6, rfl, rfl⟩ := ht.slices
  have hk' := hk
  obtain ⟨ka, kc, rfl, -⟩ := hk'
  obtain ⟨W1, hW1⟩ : ∃ W1, W1 = (w'.alloc (.cells #[.slice a5 n5 m5, .slice a6 n6 m6] 26)).alloc (.cells #[.int .i64 0, .int .i64 0, .bool false] 52) := ⟨_, rfl⟩
  have hs1 : W1.heap.size = w'.heap.size + 2 := by rw [hW1]; simp
  have hb1 : Below w'.heap.size w' W1 := by rw [hW1]; exact ((Below.refl _ _).alloc (Nat.le_refl _) _).alloc (by simp) _
  have k0 : W1.heap[w'.heap.size]? = some (.cells #[.slice a5 n5 m5, .slice a6 n6 m6] 26 (0, 0)) := by rw [hW1, old_blk _ _ _ (by simp), new_blk]
  have kb : W1.heap[w'.heap.size + 1]? = some (.cells #[.int .i64 0, .int .i64 0, .bool false] 52 (0, 0)) := by
    rw [hW1, show w'.heap.size + 1 = (w'.alloc (.cells #[.slice a5 n5 m5, .slice a6 n6 m6] 26)).heap.size by simp, new_blk]
  have k0x := k0
  rw [hW1] at k0x
  obtain ⟨x1, x2, x3, x4⟩ := box2 k0x
  have HT := Lib.hid ht
  have HK := Lib.hid hk
  have HBW := Lib.hid hbw
  have HW1 := Lib.hid hW1
  have H1 := Lib.hid (And.intro hb1 (And.intro kb k0))
  clear ht hbw hW1 hb1 k0 kb k0x hk
  go_enter Try.func37, Try.ntmps37
  go_wp2_with fail
  rw [← HW1.out]
  refine (specTreeValid_c HT.out hw wide W1 (HBW.out.trans (H1.out.1.mono hB)) (by omega)).mono ?_
  rintro e w2 ⟨rfl, hb2⟩
  have hs2 := hb2.size
  clear x1 x2 x3 x4
  have j0 := (hb2.block _ (by omega)).trans H1.out.2.2
  have hrb := (hb2.block (w'.heap.size + 1) (by omega)).trans H1.out.2.1
  obtain ⟨x1, x2, x3, x4⟩ := box2 j0
  obtain ⟨r1, r2, r3, r4, r5, r6⟩ := box3 hrb
  have H2 := Lib.hid (And.intro (H1.out.1.trans (hb2.mono (by omega))) hrb)
  have HIN := Lib.hid (HK.out.later (HBW.out.trans (H2.out.1.mono hB)) (Nat.le_refl _))
  clear hb2 j0 hrb
  cases hv : Tr.validB wide t with
  | false =>
    have ha : Tr.askAll wide t ks = false := by simp [Tr.askAll, hv]
    have HA := Lib.hid (show Tr.repOf wide t ks = (0, 0, false) by simp [Tr.repOf, ha])
    have HAB := Lib.hid ha
    clear ha hv
    go_wp2_with fail
    obtain ⟨wf, hwf, hfb, hbf⟩ := three_end (b := 0) (j := 0) (sh := false) H2.out.2
    obtain ⟨d1, d2, d3, -⟩ := box3 hfb
    rw [← hwf]
    refine bodyPost_ret (v := .tuple #[.agg #[.int .i64 0, .int .i64 0, .bool false], .bool false]) (by simp [results, Try.results37, go_sem, d1, d2, d3]) rfl ⟨by rw [HAB.out, HA.out]; rfl, hbf _ (by omega) _ H2.out.1⟩
  | true =>
    have HV := Lib.hid hv
    clear hv
    go_wp2_with fail
    refine (l3Keys_c w2 B HIN.out).mono ?_
    rintro e w3 ⟨rfl, rfl⟩
    cases hko : keysOk ks with
    | false =>
      have ha : Tr.askAll wide t ks = false := by simp [Tr.askAll, hko]
      have HA := Lib.hid (show Tr.repOf wide t ks = (0, 0, false) by simp [Tr.repOf, ha])
      have HAB := Lib.hid ha
      clear ha hko
      go_wp2_with fail
      obtain ⟨wf, hwf, hfb, hbf⟩ := three_end (b := 0) (j := 0) (sh := false) H2.out.2
      obtain ⟨d1, d2, d3, -⟩ := box3 hfb
      rw [← hwf]
      refine bodyPost_ret (v := .tuple #[.agg #[.int .i64 0, .int .i64 0, .bool false], .bool false]) (by simp [results, Try.results37, go_sem, d1, d2, d3]) rfl ⟨by rw [HAB.out, HA.out]; rfl, hbf _ (by omega) _ H2.out.1⟩
    | true =>
      have ha : Tr.askAll wide t ks = true := by simp [Tr.askAll, hko, HV.out]
      have HA := Lib.hid (show Tr.repOf wide t ks = ((Tr.gone wide t ks).b, (Tr.gone wide t ks).j, (Tr.gone wide t ks).sh) by simp [Tr.repOf, ha])
      have HAB := Lib.hid ha
      have hall := l4All_c HT.out wide HV.out HK.out (keysOk_few hko) w3 (HBW.out.trans (H2.out.1.mono hB)) (by omega) hwB
      have HALL := Lib.hid hall
      clear ha hko hall
      go_wp2_with fail
      refine HALL.out.mono ?_
      rintro e w4 ⟨k4, c4, rfl, ht4, hb4⟩
      obtain ⟨q1, q2, q3, q4, q5, q6, rfl, rfl⟩ := ht4.slices
      obtain ⟨rb, hrb0⟩ : ∃ rb, rb = (Tr.gone wide t ks).b := ⟨_, rfl⟩
      obtain ⟨rj, hrj0⟩ : ∃ rj, rj = (Tr.gone wide t ks).j := ⟨_, rfl⟩
      obtain ⟨rs, hrs0⟩ : ∃ rs, rs = (Tr.gone wide t ks).sh := ⟨_, rfl⟩
      rw [← hrb0, ← hrj0, ← hrs0]
      have HRR := Lib.hid (And.intro hrb0 (And.intro hrj0 hrs0))
      clear hrb0 hrj0 hrs0
      have hs4 := hb4.size
      have hrb := (hb4.block (w'.heap.size + 1) (by omega)).trans H2.out.2
      clear r1 r2 r3 r4 x1 x2 x3 x4 r5 r6
      obtain ⟨W5, hW5⟩ : ∃ W5, W5 = (w4.alloc (.cells #[.slice q1 q2 q3, .slice q4 q5 q6] 26)).alloc (.cells #[.int .i64 (rb : Int), .int .i64 (rj : Int), .bool rs] 52) := ⟨_, rfl⟩
      have hs5 : W5.heap.size = w4.heap.size + 2 := by rw [hW5]; simp
      have hb5 : Below w4.heap.size w4 W5 := by rw [hW5]; exact ((Below.refl _ _).alloc (Nat.le_refl _) _).alloc (by simp) _
      have b8 : W5.heap[w4.heap.size + 1]? = some (.cells #[.int .i64 (rb : Int), .int .i64 (rj : Int), .bool rs] 52 (0, 0)) := by
        rw [hW5, show w4.heap.size + 1 = (w4.alloc (.cells #[.slice q1 q2 q3, .slice q4 q5 q6] 26)).heap.size by simp, new_blk]
      have b6 := (hb5.block _ (by omega)).trans hrb
      have hbl : Below w'.heap.size w' W5 := H2.out.1.trans ((hb4.mono (by omega)).trans (hb5.mono (by omega)))
      have HZ := Lib.hid (And.intro hbl b6)
      have HW5 := Lib.hid hW5
      have hs4' : w'.heap.size + 2 ≤ w4.heap.size := by omega
      obtain ⟨x1, x2, x3, x4, x5, x6⟩ := box3 b8
      obtain ⟨r1, r2, r3, r4, r5, r6⟩ := box3 b6
      clear ht4 hb4 hrb hW5 hb5 b8 b6 hbl
      go_upto_region 4 with (fail)
      rw [← HW5.out]
      go_wp2_with fail
      obtain ⟨wf, hwf, hfb, hbf⟩ := three_end (b := (rb : Int)) (j := (rj : Int)) (sh := rs) HZ.out.2
      obtain ⟨d1, d2, d3, -⟩ := box3 hfb
      rw [← hwf]
      refine bodyPost_ret (v := .tuple #[.agg #[.int .i64 (rb : Int), .int .i64 (rj : Int), .bool rs], .bool true]) (by simp [results, Try.results37, go_sem, d1, d2, d3]) rfl ⟨by rw [HAB.out, HA.out, ← HRR.out.1, ← HRR.out.2.1, ← HRR.out.2.2]; rfl, hbf _ (by omega) _ HZ.out.1⟩

set_option maxRecDepth 100000 in
set_option maxHeartbeats 2000000 in
theorem impl_repairsOf {w : World} {B : Nat} {kv cv v : Value} {t : Tr} {ks : List Int} (ht : TreeIn w B kv cv t) (hw : t.weight ≤ 1048576) (hk : IntsIn w B v ks) (wide : Int) (hn1 : -9223372036854775808 ≤ wide) (hn2 : wide ≤ 9223372036854775807) (w' : World) (hbw : Below B w w') (hB : B ≤ w'.heap.size) (hwB : w.heap.size ≤ B) :
    Calls Try.prog 38 #[.agg #[kv, cv], .int .i64 wide, v] w' fun e w'' => e = .returned (.tuple #[repV (Tr.repOf wide t ks), .bool (Tr.askAll wide t ks)]) ∧ Below w'.heap.size w' w'' := by
  obtain ⟨a5, n5, m5, a6, n6, m6, rfl, rfl⟩ := ht.slices
  have hk0 := hk
  obtain ⟨ka, kc, rfl, -⟩ := hk0
  obtain ⟨W1, hW1⟩ : ∃ W1, W1 = (w'.alloc (.cells #[.slice a5 n5 m5, .slice a6 n6 m6] 26)).alloc (.cells #[.int .i64 0, .int .i64 0, .bool false] 52) := ⟨_, rfl⟩
  have hs1 : W1.heap.size = w'.heap.size + 2 := by rw [hW1]; simp
  have hb1 : Below w'.heap.size w' W1 := by rw [hW1]; exact ((Below.refl _ _).alloc (Nat.le_refl _) _).alloc (by simp) _
  have k0 : W1.heap[w'.heap.size]? = some (.cells #[.slice a5 n5 m5, .slice a6 n6 m6] 26 (0, 0)) := by rw [hW1, old_blk _ _ _ (by simp), new_blk]
  have kb : W1.heap[w'.heap.size + 1]? = some (.cells #[.int .i64 0, .int .i64 0, .bool false] 52 (0, 0)) := by
    rw [hW1, show w'.heap.size + 1 = (w'.alloc (.cells #[.slice a5 n5 m5, .slice a6 n6 m6] 26)).heap.size by simp, new_blk]
  have k0x := k0
  rw [hW1] at k0x
  obtain ⟨x1, x2, x3, x4⟩ := box2 k0x
  have HT := Lib.hid ht
  have HBW := Lib.hid hbw
  have HW1 := Lib.hid hW1
  have H1 := Lib.hid (And.intro hb1 (And.intro kb k0))
  clear ht hbw hW1 hb1 k0 kb k0x
  go_enter Try.func38, Try.ntmps38
  go_wp2_with fail
  rw [← HW1.out]
  refine (shrunkByAll_c HT.out hw hk wide hn1 hn2 W1 (HBW.out.trans (H1.out.1.mono hB)) (by omega) hwB).mono ?_
  intro e w2 hgo
  rcases hgo with ⟨ha, rfl, hb2⟩ | ⟨ha, gb, b, F, rfl, hgr, hF, -, hb2⟩
  · have HA := Lib.hid (show Tr.repOf wide t ks = (0, 0, false) by simp [Tr.repOf, ha])
    have HAB := Lib.hid ha
    have hs2 := hb2.size
    have hrb := (hb2.block (w'.heap.size + 1) (by omega)).trans H1.out.2.1
    obtain ⟨r1, r2, r3, r4, r5, r6⟩ := box3 hrb
    have H2 := Lib.hid (And.intro (H1.out.1.trans (hb2.mono (by omega))) hrb)
    clear ha hb2 hrb x1 x2 x3 x4
    go_wp2_with fail
    obtain ⟨wf, hwf, hfb, hbf⟩ := three_end (b := 0) (j := 0) (sh := false) H2.out.2
    obtain ⟨d1, d2, d3, -⟩ := box3 hfb
    rw [← hwf]
    refine bodyPost_ret (v := .tuple #[.agg #[.int .i64 0, .int .i64 0, .bool false], .bool false]) (by simp [results, Try.results38, go_sem, d1, d2, d3]) rfl ⟨by rw [HAB.out, HA.out]; rfl, hbf _ (by omega) _ H2.out.1⟩
  · have HA := Lib.hid (show Tr.repOf wide t ks = ((Tr.gone wide t ks).b, (Tr.gone wide t ks).j, (Tr.gone wide t ks).sh) by simp [Tr.repOf, ha])
    have HAB := Lib.hid ha
    obtain ⟨rb, hrb0⟩ : ∃ rb, rb = (Tr.gone wide t ks).b := ⟨_, rfl⟩
    obtain ⟨rj, hrj0⟩ : ∃ rj, rj = (Tr.gone wide t ks).j := ⟨_, rfl⟩
    obtain ⟨rs, hrs0⟩ : ∃ rs, rs = (Tr.gone wide t ks).sh := ⟨_, rfl⟩
    rw [← hrb0, ← hrj0, ← hrs0] at hgr
    have HRR := Lib.hid (And.intro hrb0 (And.intro hrj0 hrs0))
    obtain ⟨g0, g1, g2, g3, g4, -⟩ := hgr.box.cells
    have hs2 := hb2.size
    have hrb := (hb2.block (w'.heap.size + 1) (by omega)).trans H1.out.2.1
    obtain ⟨r1, r2, r3, r4, r5, r6⟩ := box3 hrb
    have H2 := Lib.hid (And.intro (H1.out.1.trans (hb2.mono (by omega))) hrb)
    clear ha hb2 hrb x1 x2 x3 x4 hrb0 hrj0 hrs0 hgr hF
    go_wp2_with fail
    obtain ⟨wf, hwf, hfb, hbf⟩ := three_end (b := (rb : Int)) (j := (rj : Int)) (sh := rs) H2.out.2
    obtain ⟨d1, d2, d3, -⟩ := box3 hfb
    rw [← hwf]
    refine bodyPost_ret (v := .tuple #[.agg #[.int .i64 (rb : Int), .int .i64 (rj : Int), .bool rs], .bool true]) (by simp [results, Try.results38, go_sem, d1, d2, d3]) rfl ⟨by rw [HAB.out, HA.out, ← HRR.out.1, ← HRR.out.2.1, ← HRR.out.2.2]; rfl, hbf _ (by omega) _ H2.out.1⟩
end Go.Proofs.Ytananonjomfpkaa
