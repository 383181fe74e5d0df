/- For every slice of bytes, the law on the repairs of a list of deletions returns true and leaves its arguments as they were; no conditions. -/
import Derived.Test.YtananonjomfpkaaProg
import Derived.Test.YtananonjomfpkaaQb0
import Derived.Test.YtananonjomfpkaaQb9
import Derived.Test.YtananonjomfpkaaQb32
import Derived.Test.YtananonjomfpkaaQb36
import Derived.Deep.Cut
import Derived.Test.YtananonjomfpkaaQb33
import Derived.Test.YtananonjomfpkaaQb2
import Derived.Test.YtananonjomfpkaaQb3
import Derived.Test.YtananonjomfpkaaQb4
import Derived.Test.YtananonjomfpkaaQb8
import Derived.Test.YtananonjomfpkaaQb31
import Derived.Test.YtananonjomfpkaaQb29
import Derived.Test.YtananonjomfpkaaRows
import Derived.Test.YtananonjomfpkaaQbS0
import Derived.Test.YtananonjomfpkaaQb1
import Derived.WalkKit
import Derived.ProofKit
import Derived.OpenShut
import Derived.ChangeOld
import Derived.Below

/- The model's DeleteAll. -/
namespace Go.Proofs.Ytananonjomfpkaa
open Go.RowKit

end Go.Proofs.Ytananonjomfpkaa

/- RepairsOf: the program's and the model's. -/
namespace Go.Proofs.Ytananonjomfpkaa
open Go.RowKit

def Tr.repOf (wide : Int) (t : Tr) (ks : List Int) : Nat × Nat × Bool :=
  if Tr.askAll wide t ks = true then ((Tr.gone wide t ks).b, (Tr.gone wide t ks).j, (Tr.gone wide t ks).sh) else (0, 0, false)

set_option maxRecDepth 100000 in
set_option maxHeartbeats 2000000 in
theorem specRepairsOf_c {w : World} {B : Nat} {kv cv v : Value} {t : Tr} {ks : List Int} (ht : TreeIn w B kv cv t) (hw : t.weight ≤ 1048576) (hk : IntsIn w B v ks) (wide : Int) (w' : World) (hbw : Below B w w') (hB : B ≤ w'.heap.size) (hwB : w.heap.size ≤ B) :
    Calls Try.prog 37 #[.agg #[kv, cv], .int .i64 wide, v] w' fun e w'' => e = .returned (.tuple #[repV (Tr.repOf wide t ks), .bool (Tr.askAll wide t ks)]) ∧ Below w'.heap.size w' w'' := by
  obtain ⟨a5, n5, m5, a6, n6, m6, rfl, rfl⟩ := ht.slices
  have hk' := hk
  obtain ⟨ka, kc, rfl, -⟩ := hk'
  obtain ⟨W1, hW1⟩ : ∃ W1, W1 = (w'.alloc (.cells #[.slice a5 n5 m5, .slice a6 n6 m6] 26)).alloc (.cells #[.int .i64 0, .int .i64 0, .bool false] 52) := ⟨_, rfl⟩
  have hs1 : W1.heap.size = w'.heap.size + 2 := by rw [hW1]; simp
  have hb1 : Below w'.heap.size w' W1 := by rw [hW1]; exact ((Below.refl _ _).alloc (Nat.le_refl _) _).alloc (by simp) _
  have k0 : W1.heap[w'.heap.size]? = some (.cells #[.slice a5 n5 m5, .slice a6 n6 m6] 26 (0, 0)) := by rw [hW1, old_blk _ _ _ (by simp), new_blk]
  have kb : W1.heap[w'.heap.size + 1]? = some (.cells #[.int .i64 0, .int .i64 0, .bool false] 52 (0, 0)) := by
    rw [hW1, show w'.heap.size + 1 = (w'.alloc (.cells #[.slice a5 n5 m5, .slice a6 n6 m6] 26)).heap.size by simp, new_blk]
  have k0x := k0
  rw [hW1] at k0x
  obtain ⟨x1, x2, x3, x4⟩ := box2 k0x
  have HT := Lib.hid ht
  have HK := Lib.hid hk
  have HBW := Lib.hid hbw
  have HW1 := Lib.hid hW1
  have H1 := Lib.hid (And.intro hb1 (And.intro kb k0))
  clear ht hbw hW1 hb1 k0 kb k0x hk
  go_enter Try.func37, Try.ntmps37
  go_wp2_with fail
  rw [← HW1.out]
  refine (specTreeValid_c HT.out hw wide W1 (HBW.out.trans (H1.out.1.mono hB)) (by omega)).mono ?_
  rintro e w2 ⟨rfl, hb2⟩
  have hs2 := hb2.size
  clear x1 x2 x3 x4
  have j0 := (hb2.block _ (by omega)).trans H1.out.2.2
  have hrb := (hb2.block (w'.heap.size + 1) (by omega)).trans H1.out.2.1
  obtain ⟨x1, x2, x3, x4⟩ := box2 j0
  obtain ⟨r1, r2, r3, r4, r5, r6⟩ := box3 hrb
  have H2 := Lib.hid (And.intro (H1.out.1.trans (hb2.mono (by omega))) hrb)
  have HIN := Lib.hid (HK.out.later (HBW.out.trans (H2.out.1.mono hB)) (Nat.le_refl _))
  clear hb2 j0 hrb
  cases hv : Tr.validB wide t with
  | false =>
    have ha : Tr.askAll wide t ks = false := by simp [Tr.askAll, hv]
    have HA := Lib.hid (show Tr.repOf wide t ks = (0, 0, false) by simp [Tr.repOf, ha])
    have HAB := Lib.hid ha
    clear ha hv
    go_wp2_with fail
    obtain ⟨wf, hwf, hfb, hbf⟩ := three_end (b := 0) (j := 0) (sh := false) H2.out.2
    obtain ⟨d1, d2, d3, -⟩ := box3 hfb
    rw [← hwf]
    refine bodyPost_ret (v := .tuple #[.agg #[.int .i64 0, .int .i64 0, .bool false], .bool false]) (by simp [results, Try.results37, go_sem, d1, d2, d3]) rfl ⟨by rw [HAB.out, HA.out]; rfl, hbf _ (by omega) _ H2.out.1⟩
  | true =>
    have HV := Lib.hid hv
    clear hv
    go_wp2_with fail
    refine (l3Keys_c w2 B HIN.out).mono ?_
    rintro e w3 ⟨rfl, rfl⟩
    cases hko : keysOk ks with
    | false =>
      have ha : Tr.askAll wide t ks = false := by simp [Tr.askAll, hko]
      have HA := Lib.hid (show Tr.repOf wide t ks = (0, 0, false) by simp [Tr.repOf, ha])
      have HAB := Lib.hid ha
      clear ha hko
      go_wp2_with fail
      obtain ⟨wf, hwf, hfb, hbf⟩ := three_end (b := 0) (j := 0) (sh := false) H2.out.2
      obtain ⟨d1, d2, d3, -⟩ := box3 hfb
      rw [← hwf]
      refine bodyPost_ret (v := .tuple #[.agg #[.int .i64 0, .int .i64 0, .bool false], .bool false]) (by simp [results, Try.results37, go_sem, d1, d2, d3]) rfl ⟨by rw [HAB.out, HA.out]; rfl, hbf _ (by omega) _ H2.out.1⟩
    | true =>
      have ha : Tr.askAll wide t ks = true := by simp [Tr.askAll, hko, HV.out]
      have HA := Lib.hid (show Tr.repOf wide t ks = ((Tr.gone wide t ks).b, (Tr.gone wide t ks).j, (Tr.gone wide t ks).sh) by simp [Tr.repOf, ha])
      have HAB := Lib.hid ha
      have hall := l4All_c HT.out wide HV.out HK.out (keysOk_few hko) w3 (HBW.out.trans (H2.out.1.mono hB)) (by omega) hwB
      have HALL := Lib.hid hall
      clear ha hko hall
      go_wp2_with fail
      refine HALL.out.mono ?_
      rintro e w4 ⟨k4, c4, rfl, ht4, hb4⟩
      obtain ⟨q1, q2, q3, q4, q5, q6, rfl, rfl⟩ := ht4.slices
      obtain ⟨rb, hrb0⟩ : ∃ rb, rb = (Tr.gone wide t ks).b := ⟨_, rfl⟩
      obtain ⟨rj, hrj0⟩ : ∃ rj, rj = (Tr.gone wide t ks).j := ⟨_, rfl⟩
      obtain ⟨rs, hrs0⟩ : ∃ rs, rs = (Tr.gone wide t ks).sh := ⟨_, rfl⟩
      rw [← hrb0, ← hrj0, ← hrs0]
      have HRR := Lib.hid (And.intro hrb0 (And.intro hrj0 hrs0))
      clear hrb0 hrj0 hrs0
      have hs4 := hb4.size
      have hrb := (hb4.block (w'.heap.size + 1) (by omega)).trans H2.out.2
      clear r1 r2 r3 r4 x1 x2 x3 x4 r5 r6
      obtain ⟨W5, hW5⟩ : ∃ W5, W5 = (w4.alloc (.cells #[.slice q1 q2 q3, .slice q4 q5 q6] 26)).alloc (.cells #[.int .i64 (rb : Int), .int .i64 (rj : Int), .bool rs] 52) := ⟨_, rfl⟩
      have hs5 : W5.heap.size = w4.heap.size + 2 := by rw [hW5]; simp
      have hb5 : Below w4.heap.size w4 W5 := by rw [hW5]; exact ((Below.refl _ _).alloc (Nat.le_refl _) _).alloc (by simp) _
      have b8 : W5.heap[w4.heap.size + 1]? = some (.cells #[.int .i64 (rb : Int), .int .i64 (rj : Int), .bool rs] 52 (0, 0)) := by
        rw [hW5, show w4.heap.size + 1 = (w4.alloc (.cells #[.slice q1 q2 q3, .slice q4 q5 q6] 26)).heap.size by simp, new_blk]
      have b6 := (hb5.block _ (by omega)).trans hrb
      have hbl : Below w'.heap.size w' W5 := H2.out.1.trans ((hb4.mono (by omega)).trans (hb5.mono (by omega)))
      have HZ := Lib.hid (And.intro hbl b6)
      have HW5 := Lib.hid hW5
      have hs4' : w'.heap.size + 2 ≤ w4.heap.size := by omega
      obtain ⟨x1, x2, x3, x4, x5, x6⟩ := box3 b8
      obtain ⟨r1, r2, r3, r4, r5, r6⟩ := box3 b6
      clear ht4 hb4 hrb hW5 hb5 b8 b6 hbl
      go_upto_region 4 with (fail)
      rw [← HW5.out]
      go_wp2_with fail
      obtain ⟨wf, hwf, hfb, hbf⟩ := three_end (b := (rb : Int)) (j := (rj : Int)) (sh := rs) HZ.out.2
      obtain ⟨d1, d2, d3, -⟩ := box3 hfb
      rw [← hwf]
      refine bodyPost_ret (v := .tuple #[.agg #[.int .i64 (rb : Int), .int .i64 (rj : Int), .bool rs], .bool true]) (by simp [results, Try.results37, go_sem, d1, d2, d3]) rfl ⟨by rw [HAB.out, HA.out, ← HRR.out.1, ← HRR.out.2.1, ← HRR.out.2.2]; rfl, hbf _ (by omega) _ HZ.out.1⟩

set_option maxRecDepth 100000 in
set_option maxHeartbeats 2000000 in
theorem impl_repairsOf {w : World} {B : Nat} {kv cv v : Value} {t : Tr} {ks : List Int} (ht : TreeIn w B kv cv t) (hw : t.weight ≤ 1048576) (hk : IntsIn w B v ks) (wide : Int) (hn1 : -9223372036854775808 ≤ wide) (hn2 : wide ≤ 9223372036854775807) (w' : World) (hbw : Below B w w') (hB : B ≤ w'.heap.size) (hwB : w.heap.size ≤ B) :
    Calls Try.prog 38 #[.agg #[kv, cv], .int .i64 wide, v] w' fun e w'' => e = .returned (.tuple #[repV (Tr.repOf wide t ks), .bool (Tr.askAll wide t ks)]) ∧ Below w'.heap.size w' w'' := by
  obtain ⟨a5, n5, m5, a6, n6, m6, rfl, rfl⟩ := ht.slices
  have hk0 := hk
  obtain ⟨ka, kc, rfl, -⟩ := hk0
  obtain ⟨W1, hW1⟩ : ∃ W1, W1 = (w'.alloc (.cells #[.slice a5 n5 m5, .slice a6 n6 m6] 26)).alloc (.cells #[.int .i64 0, .int .i64 0, .bool false] 52) := ⟨_, rfl⟩
  have hs1 : W1.heap.size = w'.heap.size + 2 := by rw [hW1]; simp
  have hb1 : Below w'.heap.size w' W1 := by rw [hW1]; exact ((Below.refl _ _).alloc (Nat.le_refl _) _).alloc (by simp) _
  have k0 : W1.heap[w'.heap.size]? = some (.cells #[.slice a5 n5 m5, .slice a6 n6 m6] 26 (0, 0)) := by rw [hW1, old_blk _ _ _ (by simp), new_blk]
  have kb : W1.heap[w'.heap.size + 1]? = some (.cells #[.int .i64 0, .int .i64 0, .bool false] 52 (0, 0)) := by
    rw [hW1, show w'.heap.size + 1 = (w'.alloc (.cells #[.slice a5 n5 m5, .slice a6 n6 m6] 26)).heap.size by simp, new_blk]
  have k0x := k0
  rw [hW1] at k0x
  obtain ⟨x1, x2, x3, x4⟩ := box2 k0x
  have HT := Lib.hid ht
  have HBW := Lib.hid hbw
  have HW1 := Lib.hid hW1
  have H1 := Lib.hid (And.intro hb1 (And.intro kb k0))
  clear ht hbw hW1 hb1 k0 kb k0x
  go_enter Try.func38, Try.ntmps38
  go_wp2_with fail
  rw [← HW1.out]
  refine (shrunkByAll_c HT.out hw hk wide hn1 hn2 W1 (HBW.out.trans (H1.out.1.mono hB)) (by omega) hwB).mono ?_
  intro e w2 hgo
  rcases hgo with ⟨ha, rfl, hb2⟩ | ⟨ha, gb, b, F, rfl, hgr, hF, -, hb2⟩
  · have HA := Lib.hid (show Tr.repOf wide t ks = (0, 0, false) by simp [Tr.repOf, ha])
    have HAB := Lib.hid ha
    have hs2 := hb2.size
    have hrb := (hb2.block (w'.heap.size + 1) (by omega)).trans H1.out.2.1
    obtain ⟨r1, r2, r3, r4, r5, r6⟩ := box3 hrb
    have H2 := Lib.hid (And.intro (H1.out.1.trans (hb2.mono (by omega))) hrb)
    clear ha hb2 hrb x1 x2 x3 x4
    go_wp2_with fail
    obtain ⟨wf, hwf, hfb, hbf⟩ := three_end (b := 0) (j := 0) (sh := false) H2.out.2
    obtain ⟨d1, d2, d3, -⟩ := box3 hfb
    rw [← hwf]
    refine bodyPost_ret (v := .tuple #[.agg #[.int .i64 0, .int .i64 0, .bool false], .bool false]) (by simp [results, Try.results38, go_sem, d1, d2, d3]) rfl ⟨by rw [HAB.out, HA.out]; rfl, hbf _ (by omega) _ H2.out.1⟩
  · have HA := Lib.hid (show Tr.repOf wide t ks = ((Tr.gone wide t ks).b, (Tr.gone wide t ks).j, (Tr.gone wide t ks).sh) by simp [Tr.repOf, ha])
    have HAB := Lib.hid ha
    obtain ⟨rb, hrb0⟩ : ∃ rb, rb = (Tr.gone wide t ks).b := ⟨_, rfl⟩
    obtain ⟨rj, hrj0⟩ : ∃ rj, rj = (Tr.gone wide t ks).j := ⟨_, rfl⟩
    obtain ⟨rs, hrs0⟩ : ∃ rs, rs = (Tr.gone wide t ks).sh := ⟨_, rfl⟩
    rw [← hrb0, ← hrj0, ← hrs0] at hgr
    have HRR := Lib.hid (And.intro hrb0 (And.intro hrj0 hrs0))
    obtain ⟨g0, g1, g2, g3, g4, -⟩ := hgr.box.cells
    have hs2 := hb2.size
    have hrb := (hb2.block (w'.heap.size + 1) (by omega)).trans H1.out.2.1
    obtain ⟨r1, r2, r3, r4, r5, r6⟩ := box3 hrb
    have H2 := Lib.hid (And.intro (H1.out.1.trans (hb2.mono (by omega))) hrb)
    clear ha hb2 hrb x1 x2 x3 x4 hrb0 hrj0 hrs0 hgr hF
    go_wp2_with fail
    obtain ⟨wf, hwf, hfb, hbf⟩ := three_end (b := (rb : Int)) (j := (rj : Int)) (sh := rs) H2.out.2
    obtain ⟨d1, d2, d3, -⟩ := box3 hfb
    rw [← hwf]
    refine bodyPost_ret (v := .tuple #[.agg #[.int .i64 (rb : Int), .int .i64 (rj : Int), .bool rs], .bool true]) (by simp [results, Try.results38, go_sem, d1, d2, d3]) rfl ⟨by rw [HAB.out, HA.out, ← HRR.out.1, ← HRR.out.2.1, ← HRR.out.2.2]; rfl, hbf _ (by omega) _ H2.out.1⟩
end Go.Proofs.Ytananonjomfpkaa

/- The law on the repairs of a list of deletions: the walk over the contracts. -/
namespace Go.Proofs.Ytananonjomfpkaa
open Go.RowKit

theorem Tr.repBy_step {wide k : Int} {S : Tr.Gone} (hv : Tr.validB wide S.t = true) :
    (Tr.lacksB wide k S.t = false → Tr.takeKey wide S k = S) ∧
    (Tr.lacksB wide k S.t = true → Tr.takeKey wide S k = ⟨Tr.delKeyT wide k S.t, S.b + (Tr.repBy wide k S.t).1, S.j + (Tr.repBy wide k S.t).2.1, S.sh || (Tr.repBy wide k S.t).2.2⟩) := by
  constructor
  · intro h
    unfold Tr.lacksB at h
    rw [hv, Bool.true_and] at h
    unfold Tr.takeKey
    rw [if_neg (by rw [h]; simp)]
  · intro h
    have h' := h
    unfold Tr.lacksB at h'
    rw [hv, Bool.true_and] at h'
    unfold Tr.takeKey Tr.repBy Tr.delKeyT
    rw [if_pos h', if_pos h, if_pos h]

structure RepR (W : World) (p : Nat) (kv cv : Value) (S : Tr.Gone) (wr : World) : Prop where
  bel : Below p W wr
  sz : p + 2 ≤ wr.heap.size
  sum : wr.heap[p]? = some (.cells #[.int .i64 (S.b : Int), .int .i64 (S.j : Int), .bool S.sh] 52 (0, 0))
  now : wr.heap[p + 1]? = some (.cells #[kv, cv] 26 (0, 0))
  tree : TreeQ wr (fun k => k ≠ p ∧ k ≠ p + 1 ∧ k < wr.heap.size) kv cv S.t

theorem one_cell3 {w : World} {q : Nat} {o0 o1 o2 v : Value} {ty : TypeId} (i : Nat) (h : w.heap[q]? = some (.cells #[o0, o1, o2] ty (0, 0))) :
    (w.setCell ⟨q, i, none⟩ v).heap[q]? = some (.cells (#[o0, o1, o2].setIfInBounds i v) ty (0, 0)) := set_blk (o := i) _ h

set_option maxHeartbeats 4000000 in
set_option maxRecDepth 100000 in
theorem fnRepairsOf_c {w : World} {v1 : Value} {bs1 : List Nat} (h1 : BytesIn w w.heap.size v1 bs1) :
    Calls Try.prog 11 #[v1] w fun e w' => e = .returned (.bool true) ∧ Below w.heap.size w w' := by
  have H1 := Lib.hid h1
  obtain ⟨a1, c1, rfl, -⟩ := h1
  by_cases hc1 : bs1.length ≤ 1048576
  case neg =>
    have hc1' : ((bs1.length : Int) > 1048576) := by omega
    go_enter Try.func11, Try.ntmps11
    go_wp2_with fail
    go_ret
    exact ⟨rfl, Below.refl _ _⟩
  have hc1' : ¬ ((bs1.length : Int) > 1048576) := by omega
  have HD1 := Lib.hid (drawRepOf_c H1.out w (Below.refl _ _) (Nat.le_refl _))
  go_enter Try.func11, Try.ntmps11
  go_wp2_with fail
  refine HD1.out.mono ?_
  rintro e w2 ⟨k2, d2, v2, t, wide, ks, rfl, ⟨hwd1, hwd2⟩, ht2, hw2, hi2, hkl, hb2⟩
  obtain ⟨b1, b2, b3, b4, b5, b6, rfl, rfl⟩ := ht2.slices
  obtain ⟨oa, oc, rfl⟩ := IntsOwn.shown hi2
  have hs2 := hb2.size
  obtain ⟨W3, hW3⟩ : ∃ W3, W3 = w2.alloc (.cells #[.slice b1 b2 b3, .slice b4 b5 b6] 26) := ⟨_, rfl⟩
  have hs3 : w2.heap.size < W3.heap.size := by rw [hW3]; simp
  have hb3 : Below w2.heap.size w2 W3 := by rw [hW3]; exact (Below.refl _ _).alloc (Nat.le_refl _) _
  have hx3 : W3.heap[w2.heap.size]? = some (.cells #[.slice b1 b2 b3, .slice b4 b5 b6] 26 (0, 0)) := by rw [hW3, new_blk]
  have hta3 : TreeA W3 (.slice b1 b2 b3) (.slice b4 b5 b6) t := (ht2.a (fun k hk => hk.2)).later hb3 (Nat.le_refl _)
  have hin3 : IntsIn W3 W3.heap.size (.slice oa ks.length oc) ks := (IntsOwn.inB (IntsOwn.later hi2 hb3 (Nat.le_refl _)) (Nat.le_refl _))
  have hwt : t.weight ≤ 1048576 := by omega
  have HTA := Lib.hid hta3
  have HIN := Lib.hid hin3
  have HBX := Lib.hid (And.intro (hb2.trans (hb3.mono (by omega))) hx3)
  have HI3 := Lib.hid (impl_repairsOf hta3.tree hwt hin3 wide (by omega) (by omega) W3 (Below.refl _ _) (Nat.le_refl _) (Nat.le_refl _))
  obtain ⟨A, hA⟩ : ∃ A, A = Tr.askAll wide t ks := ⟨_, rfl⟩
  obtain ⟨⟨rb, rj, rs⟩, hr⟩ : ∃ r, r = Tr.repOf wide t ks := ⟨_, rfl⟩
  rw [← hA, ← hr] at HI3
  have HA := Lib.hid (And.intro hA hr)
  have hx3x := hx3
  rw [hW3] at hx3x
  obtain ⟨x1, x2, x3, x4⟩ := box2 hx3x
  have HW3 := Lib.hid hW3
  clear ht2 hb2 hW3 hb3 hx3 hx3x hta3 hin3 hi2 hA hr
  go_wp2_with fail
  rw [← HW3.out]
  refine HI3.out.mono ?_
  rintro e w4 ⟨rfl, hb4⟩
  unfold repV
  dsimp only
  have hs4 := hb4.size
  obtain ⟨W5, hW5⟩ : ∃ W5, W5 = w4.alloc (.cells #[.int .i64 (rb : Int), .int .i64 (rj : Int), .bool rs] 52) := ⟨_, rfl⟩
  have hs5 : w4.heap.size < W5.heap.size := by rw [hW5]; simp
  have hb5 : Below W3.heap.size W3 W5 := hb4.trans (by rw [hW5]; exact (Below.refl _ _).alloc hs4 _)
  have hk5 : W5.heap[w4.heap.size]? = some (.cells #[.int .i64 (rb : Int), .int .i64 (rj : Int), .bool rs] 52 (0, 0)) := by rw [hW5, new_blk]
  have hq5 := (hb5.block _ hs3).trans HBX.out.2
  have HS5 := Lib.hid (specRepairsOf_c HTA.out.tree hwt HIN.out wide W5 hb5 (by omega) (Nat.le_refl _))
  rw [← HA.out.1, ← HA.out.2] at HS5
  have HB5 := Lib.hid (And.intro hb5 (And.intro hq5 hk5))
  have HW5 := Lib.hid hW5
  clear hb4 hW5 hb5 hk5 hq5 x1 x2 x3 x4
  go_upto_region 5 with (fail)
  rw [← HW5.out]
  obtain ⟨x1, x2, x3, x4⟩ := box2 HB5.out.2.1
  go_wp2_with fail
  refine HS5.out.mono ?_
  rintro e w6 ⟨rfl, hb6⟩
  unfold repV
  dsimp only
  have hs6 := hb6.size
  obtain ⟨W7, hW7⟩ : ∃ W7, W7 = w6.alloc (.cells #[.int .i64 (rb : Int), .int .i64 (rj : Int), .bool rs] 52) := ⟨_, rfl⟩
  have hs7 : w6.heap.size < W7.heap.size := by rw [hW7]; simp
  have hb57 : Below W5.heap.size W5 W7 := hb6.trans (by rw [hW7]; exact (Below.refl _ _).alloc hs6 _)
  have hk7 : W7.heap[w6.heap.size]? = some (.cells #[.int .i64 (rb : Int), .int .i64 (rj : Int), .bool rs] 52 (0, 0)) := by rw [hW7, new_blk]
  have hk47 := (hb57.block _ hs5).trans HB5.out.2.2
  have hq7 := (hb57.block _ (by omega)).trans HB5.out.2.1
  have hb37 : Below W3.heap.size W3 W7 := HB5.out.1.trans (hb57.mono (by omega))
  have HW7 := Lib.hid hW7
  have HB7 := Lib.hid (And.intro hb37 (And.intro hq7 (And.intro hk47 hk7)))
  have HF7 := Lib.hid (HBX.out.1.trans (hb37.mono (by have := HBX.out.1.size; omega)))
  clear hb6 hW7 hb57 hk7 hk47 hq7 hb37 x1 x2 x3 x4
  have hneb : (A != A) = false := by simp
  have heqb : (A == A) = true := by simp
  go_upto_region 6 with (fail)
  rw [← HW7.out]
  obtain ⟨x1, x2, x3, x4, x5, x6⟩ := box3 HB7.out.2.2.1
  obtain ⟨y1, y2, y3, y4, y5, y6⟩ := box3 HB7.out.2.2.2
  cases A with
  | false =>
    go_wp2_with fail
    go_ret
    exact ⟨rfl, HF7.out⟩
  | true =>
    have hask := HA.out.1.symm
    have hv : Tr.validB wide t = true := by simp only [Tr.askAll, Bool.and_eq_true] at hask; exact hask.1
    have hrep : (rb, rj, rs) = ((Tr.gone wide t ks).b, (Tr.gone wide t ks).j, (Tr.gone wide t ks).sh) := by rw [HA.out.2]; simp [Tr.repOf, hask]
    have HV := Lib.hid (And.intro hv hrep)
    obtain ⟨p, hp⟩ : ∃ p, p = W7.heap.size := ⟨_, rfl⟩
    obtain ⟨W9, hW9⟩ : ∃ W9, W9 = (W7.alloc (.cells #[.int .i64 0, .int .i64 0, .bool false] 52)).alloc (.cells #[.slice b1 b2 b3, .slice b4 b5 b6] 26) := ⟨_, rfl⟩
    have hs9 : W9.heap.size = p + 2 := by rw [hW9, hp]; simp
    have hb9 : Below p W7 W9 := by rw [hW9, hp]; exact ((Below.refl _ _).alloc (Nat.le_refl _) _).alloc (by simp) _
    have hk9 : W9.heap[p]? = some (.cells #[.int .i64 0, .int .i64 0, .bool false] 52 (0, 0)) := by rw [hW9, hp, old_blk _ _ _ (by simp), new_blk]
    have hn9 : W9.heap[p + 1]? = some (.cells #[.slice b1 b2 b3, .slice b4 b5 b6] 26 (0, 0)) := by
      rw [hW9, hp, show W7.heap.size + 1 = (W7.alloc (.cells #[.int .i64 0, .int .i64 0, .bool false] 52)).heap.size by simp, new_blk]
    have ht9 : TreeQ W9 (fun k => k ≠ p ∧ k ≠ p + 1 ∧ k < W9.heap.size) (.slice b1 b2 b3) (.slice b4 b5 b6) t := by
      have h0 : TreeQ W3 (fun k => k < W3.heap.size) (.slice b1 b2 b3) (.slice b4 b5 b6) t := HTA.out
      have hz := HB7.out.1.size
      exact h0.same (fun k hk => (hb9.block k (by omega)).trans (HB7.out.1.block k hk)) (fun k hk => ⟨by omega, by omega, by omega⟩)
    have HR0 : Hid (RepR W7 p (.slice b1 b2 b3) (.slice b4 b5 b6) (Tr.gone wide t (ks.take 0)) W9) := Lib.hid ⟨hb9, by omega, hk9, hn9, ht9⟩
    have hq7 : (W7.alloc (.cells #[.int .i64 0, .int .i64 0, .bool false] 52)).heap[w2.heap.size]? = some (.cells #[.slice b1 b2 b3, .slice b4 b5 b6] 26 (0, 0)) := by
      rw [old_blk _ _ _ (by omega)]; exact HB7.out.2.1
    obtain ⟨z1, z2, z3, z4⟩ := box2 hq7
    have HW9 := Lib.hid hW9
    have HP := Lib.hid hp
    have hp4 : w4.heap.size < p := by omega
    have hp3 : W3.heap.size ≤ p := by have := HB7.out.1.size; omega
    have HIN7 : Hid (IntsIn W7 W3.heap.size (.slice oa ks.length oc) ks) := Lib.hid (HIN.out.later HB7.out.1 (Nat.le_refl _))
    have hq4 := HB7.out.2.2.1
    have HQ4 := Lib.hid hq4
    clear hv hrep hask hW9 hb9 hk9 hn9 ht9 hq7 hq4
    go_upto_region 8 with (fail)
    clear x1 x2 x3 x4 x5 x6 y1 y2 y3 y4 y5 y6 hneb heqb
    go_upto_region 10 with (fail)
    clear z1 z2 z3 z4
    rw [← HW9.out, ← HP.out]
    clear hp
    go_wp2_with fail
    go_loopw [65] (fun i wr => ∃ (j : Nat) (kv cv : Value), j ≤ ks.length ∧ i = .int .i64 j ∧ RepR W7 p kv cv (Tr.gone wide t (ks.take j)) wr) (fun i _ => ks.length - (intOf i).toNat)
    case atStart => exact ⟨0, _, _, Nat.zero_le _, rfl, HR0.out⟩
    case round =>
      obtain ⟨j, kv, cv, hj, rfl, hR⟩ := hrel
      obtain ⟨d1, d2, d3, d4, d5, d6, rfl, rfl⟩ := hR.tree.slices
      have hsz := hR.sz
      have hvS := Tr.gone_valid HV.out.1 ks j hj
      obtain ⟨S, hS⟩ : ∃ S, S = Tr.gone wide t (ks.take j) := ⟨_, rfl⟩
      rw [← hS] at hR hvS
      have hsumS := hR.sum
      have hnowS := hR.now
      obtain ⟨hvS, hSb, hSj⟩ := hvS
      have hj16 : j ≤ 16 := by omega
      have HR := Lib.hid hR
      have HS := Lib.hid (And.intro hS hvS)
      clear hR hS
      by_cases hlt : j < ks.length
      · have hin := HIN7.out
        obtain ⟨_, _, hve, -, -, -, h3⟩ := hin
        simp only [Value.slice.injEq] at hve
        obtain ⟨rfl, -, -⟩ := hve
        rcases h3 with h | ⟨b, off, rfl, hb, hat⟩
        · simp [h] at hlt
        have ha := hat j hlt
        rw [← below_cell HR.out.bel (by omega)] at ha
        obtain ⟨k, hk⟩ : ∃ k, k = ks.getD j 0 := ⟨_, rfl⟩
        rw [← hk] at ha
        have hjl : (j : Int) < (ks.length : Int) := by omega
        have hwS : S.t.weight ≤ 1048576 := by have := Tr.valid_small HS.out.2; omega
        have hstep := Tr.repBy_step (k := k) HS.out.2
        have hnext : Tr.gone wide t (ks.take (j + 1)) = Tr.takeKey wide S k := by rw [Tr.gone_snoc wide t hlt, ← HS.out.1, hk]
        have hcall := impl_repairsBy (TreeQ.tree HR.out.tree (fun _ e => e.2.2)) hwS wide k (by omega) (by omega) wr (Below.refl _ _) (Nat.le_refl _)
        obtain ⟨L, hL⟩ : ∃ L, L = Tr.lacksB wide k S.t := ⟨_, rfl⟩
        obtain ⟨⟨xb, xj, xs⟩, hX⟩ : ∃ X, X = Tr.repBy wide k S.t := ⟨_, rfl⟩
        rw [← hL, ← hX] at hcall
        rw [← hL, ← hX] at hstep
        have hxb : xb ≤ 1000 ∧ xj ≤ 1000 := by
          have hc := Tr.del_count (half := wide / 2) (S.t.weight + 1) k S.t
          have hsm := Tr.valid_small HS.out.2
          unfold Tr.repBy at hX
          split at hX
          · injection hX with e1 e2
            injection e2 with e2 e3
            omega
          · injection hX with e1 e2
            injection e2 with e2 e3
            omega
        have HCALL := Lib.hid hcall
        have HSTEP := Lib.hid (And.intro hstep hnext)
        have hhb := hxb.1
        have hhj := hxb.2
        clear hat hb hk hL hX hcall hstep hnext hxb hvS
        obtain ⟨x1, x2, x3, x4⟩ := box2 hnowS
        clear hsumS hnowS
        go_wp2_with fail
        refine HCALL.out.mono ?_
        rintro e w8 ⟨rfl, hb8⟩
        unfold repV
        dsimp only
        have hs8 := hb8.size
        obtain ⟨W10, hW10⟩ : ∃ W10, W10 = w8.alloc (.cells #[.int .i64 (xb : Int), .int .i64 (xj : Int), .bool xs] 52) := ⟨_, rfl⟩
        have hs10 : w8.heap.size < W10.heap.size := by rw [hW10]; simp
        have hb10 : Below wr.heap.size wr W10 := hb8.trans (by rw [hW10]; exact (Below.refl _ _).alloc hs8 _)
        have hk10 : W10.heap[w8.heap.size]? = some (.cells #[.int .i64 (xb : Int), .int .i64 (xj : Int), .bool xs] 52 (0, 0)) := by rw [hW10, new_blk]
        have hsum10 := (hb10.block p (by omega)).trans HR.out.sum
        have hnow10 := (hb10.block (p + 1) (by omega)).trans HR.out.now
        have htr10 : TreeQ W10 (fun q => q ≠ p ∧ q ≠ p + 1 ∧ q < wr.heap.size) (.slice d1 d2 d3) (.slice d4 d5 d6) S.t := HR.out.tree.same (fun q hq => hb10.block q hq.2.2) (fun q hq => hq)
        have H10 := Lib.hid (And.intro hb10 (And.intro hk10 (And.intro hsum10 (And.intro hnow10 htr10))))
        have HW10 := Lib.hid hW10
        clear hb8 hW10 hb10 hk10 hsum10 hnow10 htr10 x1 x2 x3 x4
        cases L with
        | false =>
          have hsame := HSTEP.out.1.1 rfl
          have HSM := Lib.hid hsame
          clear hsame
          go_wp2_with fail
          rw [← HW10.out]
          go_roundw
          case rel =>
            refine ⟨j + 1, .slice d1 d2 d3, .slice d4 d5 d6, by omega, by go_num, ?_⟩
            rw [HSTEP.out.2, HSM.out]
            exact ⟨HR.out.bel.trans (H10.out.1.mono (by omega)), by omega, H10.out.2.2.1, H10.out.2.2.2.1, H10.out.2.2.2.2.same (fun q hq => rfl) (fun q hq => ⟨hq.1, hq.2.1, by have := hq.2.2; omega⟩)⟩
          case measure => simp [intOf]; omega
        | true =>
          have hnx := HSTEP.out.1.2 rfl
          try dsimp only at hnx
          have HNX := Lib.hid hnx
          clear hnx
          obtain ⟨SB, hSB⟩ : ∃ SB : Int, SB = S.b := ⟨_, rfl⟩
          obtain ⟨SJ, hSJ⟩ : ∃ SJ : Int, SJ = S.j := ⟨_, rfl⟩
          obtain ⟨SH, hSH⟩ : ∃ SH, SH = S.sh := ⟨_, rfl⟩
          obtain ⟨XB, hXB⟩ : ∃ XB : Int, XB = xb := ⟨_, rfl⟩
          obtain ⟨XJ, hXJ⟩ : ∃ XJ : Int, XJ = xj := ⟨_, rfl⟩
          have hwb : IntKind.i64.wrap (SB + XB) = SB + XB := by rw [IntKind.wrap_i64]; omega
          have hwj : IntKind.i64.wrap (SJ + XJ) = SJ + XJ := by rw [IntKind.wrap_i64]; omega
          have hsum := H10.out.2.2.1
          have hxx := H10.out.2.1
          rw [← hSB, ← hSJ, ← hSH] at hsum
          rw [← hXB, ← hXJ] at hxx
          have HLET := Lib.hid (And.intro hSB (And.intro hSJ (And.intro hSH (And.intro hXB hXJ))))
          have HSUM := Lib.hid (And.intro hsum hxx)
          have hpq : p ≠ w8.heap.size := by omega
          clear hSB hSJ hSH hXB hXJ hsum hxx
          go_upto_region 15 with (fail)
          rw [← HW10.out]
          obtain ⟨x1, x2, x3, x4, x5, x6⟩ := box3 HSUM.out.1
          obtain ⟨y1, y2, y3, y4, y5, y6⟩ := box3 HSUM.out.2
          go_upto_region 16 with (fail)
          clear x1 x2 x3 x4 x5 x6 y1 y2 y3 y4 y5 y6
          obtain ⟨W11, hW11⟩ : ∃ W11, W11 = W10.setCell ⟨p, 0, none⟩ (.int .i64 (SB + XB)) := ⟨_, rfl⟩
          rw [← hW11]
          have h11 : W11.heap[p]? = some (.cells #[.int .i64 (SB + XB), .int .i64 SJ, .bool SH] 52 (0, 0)) := by rw [hW11]; exact one_cell3 0 HSUM.out.1
          have h11x : W11.heap[w8.heap.size]? = some (.cells #[.int .i64 XB, .int .i64 XJ, .bool xs] 52 (0, 0)) := by rw [hW11, set_other _ _ _ _ _ (by omega)]; exact HSUM.out.2
          have H11 := Lib.hid (And.intro hW11 (And.intro h11 h11x))
          clear hW11
          obtain ⟨x1, x2, x3, x4, x5, x6⟩ := box3 h11
          obtain ⟨y1, y2, y3, y4, y5, y6⟩ := box3 h11x
          clear h11 h11x
          go_upto_region 17 with (fail)
          clear x1 x2 x3 x4 x5 x6 y1 y2 y3 y4 y5 y6
          obtain ⟨W12, hW12⟩ : ∃ W12, W12 = W11.setCell ⟨p, 1, none⟩ (.int .i64 (SJ + XJ)) := ⟨_, rfl⟩
          rw [← hW12]
          have h12 : W12.heap[p]? = some (.cells #[.int .i64 (SB + XB), .int .i64 (SJ + XJ), .bool SH] 52 (0, 0)) := by rw [hW12]; exact one_cell3 1 H11.out.2.1
          have h12x : W12.heap[w8.heap.size]? = some (.cells #[.int .i64 XB, .int .i64 XJ, .bool xs] 52 (0, 0)) := by rw [hW12, set_other _ _ _ _ _ (by omega)]; exact H11.out.2.2
          have H12 := Lib.hid (And.intro hW12 (And.intro h12 h12x))
          clear hW12
          obtain ⟨x1, x2, x3, x4, x5, x6⟩ := box3 h12
          obtain ⟨y1, y2, y3, y4, y5, y6⟩ := box3 h12x
          clear h12 h12x
          obtain ⟨SX, hSX⟩ : ∃ SX, SX = (SH || xs) := ⟨_, rfl⟩
          have HSX := Lib.hid hSX
          clear hSX
          go_cut [] from 90 to 97 (fun wc => wc = W12.setCell ⟨p, 2, none⟩ (.bool SX))
          case first =>
            cases SH with
            | false =>
              have hse : SX = xs := by rw [HSX.out]; rfl
              subst hse
              go_wp2_with fail
              go_meet
              rfl
            | true =>
              have hse : SX = true := by rw [HSX.out]; rfl
              subst hse
              go_wp2_with fail
              go_meet
              rfl
          case rest =>
            clear x1 x2 x3 x4 x5 x6 y1 y2 y3 y4 y5 y6
            have h13 : wc.heap[p]? = some (.cells #[.int .i64 (SB + XB), .int .i64 (SJ + XJ), .bool SX] 52 (0, 0)) := by rw [hcut]; exact one_cell3 2 H12.out.2.1
            have hother : ∀ q, q ≠ p → wc.heap[q]? = W10.heap[q]? := fun q hq => by
              rw [hcut, set_other _ _ _ _ _ hq, H12.out.1, set_other _ _ _ _ _ hq, H11.out.1, set_other _ _ _ _ _ hq]
            have hsize : wc.heap.size = W10.heap.size := by rw [hcut, World.size_setCell, H12.out.1, World.size_setCell, H11.out.1, World.size_setCell]
            have hbel13 : Below p W10 wc := by
              rw [hcut, H12.out.1, H11.out.1]
              exact (((Below.refl _ _).setCell (by show p ≤ p; omega) _).setCell (by show p ≤ p; omega) _).setCell (by show p ≤ p; omega) _
            have hnow13 := (hother (p + 1) (by omega)).trans H10.out.2.2.2.1
            have htr13 : TreeQ wc (fun q => q ≠ p ∧ q ≠ p + 1 ∧ q < wr.heap.size) (.slice d1 d2 d3) (.slice d4 d5 d6) S.t := H10.out.2.2.2.2.same (fun q hq => hother q hq.1) (fun q hq => hq)
            have hti13 : TreeIn wc wc.heap.size (.slice d1 d2 d3) (.slice d4 d5 d6) S.t := TreeQ.tree htr13 (fun q e => by have := e.2.2; have := H10.out.1.size; omega)
            have hcall := impl_delete hti13 hwS wide k (by omega) (by omega) wc (Below.refl _ _) (Nat.le_refl _)
            have HCALL2 := Lib.hid hcall
            have H13 := Lib.hid (And.intro h13 (And.intro hnow13 (And.intro htr13 (And.intro hbel13 hsize))))
            obtain ⟨x1, x2, x3, x4⟩ := box2 hnow13
            have hszw : wr.heap.size ≤ wc.heap.size := by have := H10.out.1.size; omega
            clear h13 hother hsize hbel13 hnow13 htr13 hti13 hcall hcut
            go_wp2_with fail
            refine HCALL2.out.mono ?_
            rintro e w14 ⟨k14, c14, P14, rfl, ho14, hb14⟩
            obtain ⟨e1, e2, e3, e4, e5, e6, rfl, rfl⟩ := ho14.tree.slices
            have hs14 := hb14.size
            obtain ⟨W15, hW15⟩ : ∃ W15, W15 = w14.alloc (.cells #[.slice e1 e2 e3, .slice e4 e5 e6] 26) := ⟨_, rfl⟩
            have hb1415 : Below w14.heap.size w14 W15 := by rw [hW15]; exact (Below.refl _ _).alloc (Nat.le_refl _) _
            have hs15 : w14.heap.size < W15.heap.size := by rw [hW15]; simp
            have hb15 : Below wc.heap.size wc W15 := hb14.trans (hb1415.mono hs14)
            have hk15 : W15.heap[w14.heap.size]? = some (.cells #[.slice e1 e2 e3, .slice e4 e5 e6] 26 (0, 0)) := by rw [hW15, new_blk]
            have hnow15 := (hb15.block (p + 1) (by omega)).trans H13.out.2.1
            have hsum15 := (hb15.block p (by omega)).trans H13.out.1
            have htr15 : TreeQ W15 (fun q => wc.heap.size ≤ q ∧ q < w14.heap.size) (.slice e1 e2 e3) (.slice e4 e5 e6) (Tr.delKeyT wide k S.t) := TreeQ.same ho14.q (fun q hq => hb1415.block q hq.2) (fun q hq => hq)
            have H15 := Lib.hid (And.intro hb15 (And.intro hnow15 (And.intro hsum15 htr15)))
            have HW15 := Lib.hid hW15
            have HK15 := Lib.hid hk15
            clear ho14 hb14 hb1415 hW15 hb15 hk15 hnow15 hsum15 htr15 x1 x2 x3 x4
            go_upto_region 19 with (fail)
            rw [← HW15.out]
            obtain ⟨x1, x2, x3, x4⟩ := box2 HK15.out
            obtain ⟨y1, y2, y3, y4⟩ := box2 H15.out.2.1
            go_wp2_with fail
            clear x1 x2 x3 x4 y1 y2 y3 y4
            obtain ⟨wf, hwf⟩ : ∃ wf, wf = (W15.setCell ⟨p + 1, 0, none⟩ (.slice e1 e2 e3)).setCell ⟨p + 1, 1, none⟩ (.slice e4 e5 e6) := ⟨_, rfl⟩
            rw [← hwf]
            have hfo : ∀ q, q ≠ p + 1 → wf.heap[q]? = W15.heap[q]? := fun q hq => by rw [hwf, set_other _ _ _ _ _ hq, set_other _ _ _ _ _ hq]
            have hfs : wf.heap.size = W15.heap.size := by rw [hwf]; simp
            have hfn : wf.heap[p + 1]? = some (.cells #[.slice e1 e2 e3, .slice e4 e5 e6] 26 (0, 0)) := by rw [hwf]; exact set_blk (o := 1) _ (set_blk (o := 0) _ H15.out.2.1)
            have hfb : Below p W15 wf := by rw [hwf]; exact ((Below.refl _ _).setCell (by show p ≤ p + 1; omega) _).setCell (by show p ≤ p + 1; omega) _
            have HFW := Lib.hid (And.intro hfo (And.intro hfs (And.intro hfn hfb)))
            clear hwf hfo hfs hfn hfb
            go_roundw
            case rel =>
              refine ⟨j + 1, .slice e1 e2 e3, .slice e4 e5 e6, by omega, by go_num, ?_⟩
              rw [HSTEP.out.2, HNX.out]
              have h1 := HLET.out.1
              have h2 := HLET.out.2.1
              have h3 := HLET.out.2.2.1
              have h4 := HLET.out.2.2.2.1
              have h5 := HLET.out.2.2.2.2
              have hs := HFW.out.2.1
              have hsum := (HFW.out.1 p (by omega)).trans H15.out.2.2.1
              refine ⟨HR.out.bel.trans ((H10.out.1.mono (by omega)).trans (H13.out.2.2.2.1.trans ((H15.out.1.mono (by omega)).trans HFW.out.2.2.2))), by have := H15.out.1.size; omega, ?_, HFW.out.2.2.1, H15.out.2.2.2.same (fun q hq => HFW.out.1 q (by have := hq.1; omega)) (fun q hq => ⟨by have := hq.1; omega, by have := hq.1; omega, by have := hq.2; omega⟩)⟩
              rw [hsum, HSX.out, h1, h2, h3, h4, h5]
              simp
            case measure => simp [intOf]; omega
      · have hje : j = ks.length := by omega
        have hjl : ¬ (j : Int) < (ks.length : Int) := by omega
        have hrep := HV.out.2
        have hSe := HS.out.1
        rw [hje, List.take_length] at hSe
        rw [← hSe] at hrep
        injection hrep with e1 e2
        injection e2 with e2 e3
        have hr4 := (HR.out.bel.block _ hp4).trans HQ4.out
        rw [← e1, ← e2, ← e3] at hsumS
        obtain ⟨x1, x2, x3, x4, x5, x6⟩ := box3 hsumS
        obtain ⟨y1, y2, y3, y4, y5, y6⟩ := box3 hr4
        have HFE := Lib.hid (HF7.out.trans (HR.out.bel.mono (by have := HF7.out.size; have := HP.out; omega)))
        clear hnowS hsumS hr4 hSe e1 e2 e3 hje hvS
        go_wp2_with fail
        go_ret
        exact ⟨rfl, HFE.out⟩
end Go.Proofs.Ytananonjomfpkaa

/- The statement on the repairs of a list of deletions, from the walk of its law. -/
namespace Go.Proofs.Ytananonjomfpkaa.fnRepairsOfRowP
open Go.ChangeShapes Go.WideShapes Go.ChangeAt Go.RowKit
set_option linter.unusedVariables false

theorem own : ownKnob Try.prog.godebug = none := by kernel_rfl
theorem laidOut : laidOutB Try.prog = true := by kernel_rfl

set_option maxRecDepth 100000 in
set_option maxHeartbeats 1000000 in
theorem lifted (os : Os) (started : os.Started) (H : Type) (enc : TypeId × Value → H) :
    ReturnsInHanded {} Try.checked os 11 .any (Rows.fnRepairsOfSpec.pre6 enc Try.prog Try.f11 Rows.fnRepairsOfRow.domain false) (Rows.fnRepairsOfSpec.post enc Try.prog Try.f11 false true false false) := by
  refine returnsInHanded_of_change (C := Try.checked) own started (by kernel_rfl) Try.func11
    (ChangeSpec.witness6 (enc := enc) (C := Try.checked) false ⟨#[], #[.slice none 0 0], []⟩ 8 (by kernel_rfl) (by kernel_rfl) (by kernel_rfl) (by kernel_rfl)) ?_
  intro W base args ds gs before hval0 hW hcnd _
  have hval : ∀ (j : Nat) t v, Try.f11.params[j]? = some t → args[j]? = some v → Value.okWide Try.prog W .any base t v := hval0
  have hW' := hW
  obtain ⟨p, q, hA0, hV, rfl, hfz, hnd⟩ := hW
  have hA : DataW.TrodAll enc Try.prog W 0 (fun _ => true) true Try.f11.params.toList args.toList ds p := hA0
  rw [Try.params11] at hA hval
  obtain ⟨v0, vs0, d0, ds0, p0, q0, hargs, rfl, rfl, h0, r0⟩ := trodAll_cons hA
  obtain ⟨rfl, rfl, rfl⟩ := trodAll_nil r0
  obtain rfl : args = #[v0] := by cases args; simp_all
  obtain ⟨rfl, rfl⟩ := trodVars_none hV
  obtain ⟨a0, len0, cap0, rfl⟩ := okWide_slice Try.underlying22 (hval 0 22 v0 rfl rfl)
  have k0 := h0
  have lt0 : ∀ x ∈ p0, x.block < W.heap.size := by obtain ⟨m, hm⟩ := k0; exact DataW.trod_lt m _ _ _ hm
  obtain ⟨bs0, hb0⟩ : ∃ bs, BytesIn W W.heap.size (.slice a0 len0 cap0) bs := by
    obtain ⟨fuel, hf⟩ := h0
    exact bytes_of_trod fuel (fun _ => rfl) hf
  clear hA0 hval0
  refine (fnRepairsOf_c hb0).mono fun e W' ⟨he, bel⟩ => ?_
  subst he
  exact ⟨_, rfl, _, _, _, [], _, [], hW', trodAll_mk1 (shut_bool Try.underlying4 _), (trodAll_cons_mk (Below.trod laidOut (by kernel_rfl) (of_decide_eq_true (by kernel_rfl)) k0 bel lt0) trodAll_mk0), rfl, bel.frame _, fun h => by cases h⟩

theorem closed : joinedFacts Try.prog 11 Try.f11 Rows.fnRepairsOfSpec Rows.fnRepairsOfRow = true := by
  unfold joinedFacts
  exact band (band (band (band (band (band (band (by kernel_rfl) fact_enter) fact_lifts) fact_make) (by kernel_rfl)) (by kernel_rfl)) (by kernel_rfl)) (by kernel_rfl)

theorem over : Rows.fnRepairsOfRow.holds Try.pinned (OpenSpec.ofChange Rows.fnRepairsOfSpec) :=
  OpenClaim.holds_of_wide 11 Try.f11 rfl rfl rfl rfl rfl rfl rfl ⟨rfl, rfl, rfl, rfl, rfl⟩ rfl rfl rfl rfl rfl (by kernel_rfl) Try.func11 closed
    (of_decide_eq_true (by kernel_rfl)) (by unfold Func.isWrapper; first | (rw [if_pos (by decide +kernel)]; kernel_rfl) | (rw [if_neg (by decide +kernel)]; exact ⟨rfl, rfl⟩))
    (fun os started H enc _ => lifted os started H enc)
end Go.Proofs.Ytananonjomfpkaa.fnRepairsOfRowP

/- For every slice of bytes, the law on the repairs of a list of deletions returns true and leaves its arguments as they were; no conditions. -/
namespace Go.Proofs.Ytananonjomfpkaa

theorem repairsof_said : Rows.FnRepairsOfSaid := fnRepairsOfRowP.over
end Go.Proofs.Ytananonjomfpkaa
