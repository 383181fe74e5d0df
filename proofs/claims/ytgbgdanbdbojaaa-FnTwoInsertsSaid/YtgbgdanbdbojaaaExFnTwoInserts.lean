/- The law on two insertions: the walk over the contracts. -/
import Derived.Test.YtgbgdanbdbojaaaProg
import Derived.Test.YtgbgdanbdbojaaaSh0
import Derived.Test.YtgbgdanbdbojaaaSh2
import Derived.Test.YtgbgdanbdbojaaaSh3
import Derived.Test.YtgbgdanbdbojaaaSh5
import Derived.Test.YtgbgdanbdbojaaaSh20
import Derived.Test.YtgbgdanbdbojaaaSh26
import Derived.Test.YtgbgdanbdbojaaaSh21
import Derived.Test.YtgbgdanbdbojaaaSh23
import Derived.Deep.RegionHeld3
namespace Go.Proofs.Ytgbgdanbdbojaaa
open Go.RowKit

set_option maxHeartbeats 2000000 in
set_option maxRecDepth 100000 in
theorem fnTwoInserts_c {w : World} {v1 v2 : Value} {bs1 bs2 : List Nat} (h1 : BytesIn w w.heap.size v1 bs1) (h2 : BytesIn w w.heap.size v2 bs2) :
    Calls Try.prog 4 #[v1, v2] w fun e w' => e = .returned (.bool true) ∧ Below w.heap.size w w' := by
  have H1 := Lib.hid h1
  have H2 := Lib.hid h2
  obtain ⟨a1, c1, rfl, -⟩ := h1
  obtain ⟨a2, c2, rfl, -⟩ := h2
  by_cases hc1 : bs1.length ≤ 1048576
  case neg =>
    have hc1' : ((bs1.length : Int) > 1048576) := by omega
    go_enter Try.func4, Try.ntmps4
    go_wp2_with fail
    go_ret
    exact ⟨rfl, Below.refl _ _⟩
  by_cases hc2 : bs2.length ≤ 1048576
  case neg =>
    have hc1' : ¬ ((bs1.length : Int) > 1048576) := by omega
    have hc2' : ((bs2.length : Int) > 1048576) := by omega
    go_enter Try.func4, Try.ntmps4
    go_wp2_with fail
    go_ret
    exact ⟨rfl, Below.refl _ _⟩
  have hc1' : ¬ ((bs1.length : Int) > 1048576) := by omega
  have hc2' : ¬ ((bs2.length : Int) > 1048576) := by omega
  have HD1 := Lib.hid (DrawGrowsBy_c H1.out w (Below.refl _ _) (Nat.le_refl _))
  go_enter Try.func4, Try.ntmps4
  go_wp2_with fail
  refine HD1.out.mono ?_
  rintro e w2 ⟨k2, d2, t, wide, key, rfl, ⟨hwd1, hwd2⟩, ht2, hw2, hkey, hb2⟩
  obtain ⟨b1, b2, b3, b4, b5, b6, rfl, rfl⟩ := ht2.slices
  have hs2 := hb2.size
  obtain ⟨W3, hW3⟩ : ∃ W3, W3 = w2.alloc (.cells #[.slice b1 b2 b3, .slice b4 b5 b6] 26) := ⟨_, rfl⟩
  have hs3 : w2.heap.size < W3.heap.size := by rw [hW3]; simp
  have hb3 : Below w2.heap.size w2 W3 := by rw [hW3]; exact (Below.refl _ _).alloc (Nat.le_refl _) _
  have hx3 : W3.heap[w2.heap.size]? = some (.cells #[.slice b1 b2 b3, .slice b4 b5 b6] 26 (0, 0)) := by rw [hW3, new_blk]
  have hta3 : TreeIn W3 W3.heap.size (.slice b1 b2 b3) (.slice b4 b5 b6) t := ((ht2.a (fun k hk => hk.2)).later hb3 (Nat.le_refl _)).tree
  have hwt : t.weight ≤ 1048576 := by omega
  have HTA := Lib.hid hta3
  have HBX := Lib.hid (And.intro (hb2.trans (hb3.mono (by omega))) hx3)
  have BOX : Hid (∀ wx : World, Below W3.heap.size W3 wx → wx.heap[w2.heap.size]? = some (.cells #[.slice b1 b2 b3, .slice b4 b5 b6] 26 (0, 0))) := Lib.hid (fun wx hx => (hx.block _ (by omega)).trans HBX.out.2)
  have HD2 := Lib.hid (drawIns_c H2.out W3 HBX.out.1 (by omega))
  have hx3x := hx3
  rw [hW3] at hx3x
  obtain ⟨x1, x2, x3, x4⟩ := box2 hx3x
  have HW3 := Lib.hid hW3
  clear ht2 hb2 hW3 hb3 hx3 hx3x hta3 hkey
  go_wp2_with fail
  rw [← HW3.out]
  refine HD2.out.mono ?_
  rintro e w4 ⟨k4, d4, t4, wide4, other, rfl, -, ht4, -, -, hb4⟩
  obtain ⟨f1, f2, f3, f4, f5, f6, rfl, rfl⟩ := ht4.slices
  have hs4 := hb4.size
  obtain ⟨W5, hW5⟩ : ∃ W5, W5 = w4.alloc (.cells #[.slice f1 f2 f3, .slice f4 f5 f6] 26) := ⟨_, rfl⟩
  have hs5 : W5.heap.size = w4.heap.size + 1 := by rw [hW5]; simp
  have hb5 : Below W3.heap.size W3 W5 := hb4.trans (by rw [hW5]; exact (Below.refl _ _).alloc (by omega) _)
  have hq5 := BOX.out W5 hb5
  have hq5x := hq5
  rw [hW5] at hq5x
  clear x1 x2 x3 x4
  obtain ⟨x1, x2, x3, x4⟩ := box2 hq5x
  have HW5 := Lib.hid hW5
  have HB5 := Lib.hid hb5
  have HI5 := Lib.hid (impl_insert HTA.out hwt wide key (by omega) (by omega) W5 hb5 (by omega))
  clear ht4 hb4 hW5 hb5 hq5 hq5x
  obtain ⟨A1, hA1⟩ : ∃ A1, A1 = Tr.askedB wide key t := ⟨_, rfl⟩
  rw [← hA1] at HI5
  have HA1 := Lib.hid hA1
  clear hA1
  go_wp2_with fail
  rw [← HW5.out]
  refine HI5.out.mono ?_
  rintro e w6 ⟨k6, c6, P6, rfl, ho6, hb6⟩
  obtain ⟨p1, p2, p3, p4, p5, p6, rfl, rfl⟩ := ho6.tree.slices
  have hs6 := hb6.size
  obtain ⟨W7, hW7⟩ : ∃ W7, W7 = w6.alloc (.cells #[.slice p1 p2 p3, .slice p4 p5 p6] 26) := ⟨_, rfl⟩
  have hs7 : W7.heap.size = w6.heap.size + 1 := by rw [hW7]; simp
  have hb67 : Below w6.heap.size w6 W7 := by rw [hW7]; exact (Below.refl _ _).alloc (Nat.le_refl _) _
  have hb7 : Below W3.heap.size W3 W7 := HB5.out.trans ((hb6.mono (by omega)).trans (hb67.mono (by omega)))
  have hk7 : W7.heap[w6.heap.size]? = some (.cells #[.slice p1 p2 p3, .slice p4 p5 p6] 26 (0, 0)) := by rw [hW7, new_blk]
  have hta7 : TreeIn W7 W7.heap.size (.slice p1 p2 p3) (.slice p4 p5 p6) (Tr.insKeyT wide key t) := (ho6.later hb67 (Nat.le_refl _)).tree
  have HTA7 := Lib.hid hta7
  have BOXA : Hid (∀ wx : World, Below W7.heap.size W7 wx → wx.heap[w6.heap.size]? = some (.cells #[.slice p1 p2 p3, .slice p4 p5 p6] 26 (0, 0))) := Lib.hid (fun wx hx => (hx.block _ (by omega)).trans hk7)
  have hq7 := BOX.out W7 hb7
  have hq7x := hq7
  rw [hW7] at hq7x
  clear x1 x2 x3 x4
  obtain ⟨x1, x2, x3, x4⟩ := box2 hq7x
  have HW7 := Lib.hid hW7
  have HB7 := Lib.hid hb7
  have HS7 := Lib.hid (specInsertKey_c HTA.out hwt wide key W7 hb7 (by omega))
  rw [← HA1.out] at HS7
  clear ho6 hb6 hW7 hb67 hb7 hk7 hta7 hq7 hq7x
  go_wp2_with fail
  rw [← HW7.out]
  refine HS7.out.mono ?_
  rintro e w8 ⟨k8, c8, P8, rfl, ho8, hb8⟩
  obtain ⟨g1, g2, g3, g4, g5, g6, rfl, rfl⟩ := ho8.tree.slices
  have hs8 := hb8.size
  obtain ⟨W9, hW9⟩ : ∃ W9, W9 = w8.alloc (.cells #[.slice g1 g2 g3, .slice g4 g5 g6] 26) := ⟨_, rfl⟩
  have hs9 : W9.heap.size = w8.heap.size + 1 := by rw [hW9]; simp
  have hb9 : Below W7.heap.size W7 W9 := hb8.trans (by rw [hW9]; exact (Below.refl _ _).alloc (by omega) _)
  have hb39 : Below W3.heap.size W3 W9 := HB7.out.trans (hb9.mono (by omega))
  have hq9 := BOX.out W9 hb39
  have ha9 := BOXA.out W9 hb9
  rw [hW9] at hq9 ha9
  clear x1 x2 x3 x4
  obtain ⟨x1, x2, x3, x4⟩ := box2 hq9
  obtain ⟨y1, y2, y3, y4⟩ := box2 ha9
  have HW9 := Lib.hid hW9
  have HB9 := Lib.hid (And.intro hb9 hb39)
  have HI9 := Lib.hid (impl_insert HTA7.out (Tr.insKey_weight wide key t) wide other (by omega) (by omega) W9 hb9 (by omega))
  obtain ⟨A2, hA2⟩ : ∃ A2, A2 = Tr.askedB wide other (Tr.insKeyT wide key t) := ⟨_, rfl⟩
  rw [← hA2] at HI9
  have HA2 := Lib.hid hA2
  have hneb : (A1 != A1) = false := by simp
  clear ho8 hb8 hW9 hb9 hb39 hq9 ha9 hA2
  go_wp2_with fail
  rw [← HW9.out]
  refine HI9.out.mono ?_
  rintro e w10 ⟨k10, c10, P10, rfl, ho10, hb10⟩
  obtain ⟨r1, r2, r3, r4, r5, r6, rfl, rfl⟩ := ho10.tree.slices
  have hs10 := hb10.size
  obtain ⟨W11, hW11⟩ : ∃ W11, W11 = w10.alloc (.cells #[.slice r1 r2 r3, .slice r4 r5 r6] 26) := ⟨_, rfl⟩
  have hs11 : W11.heap.size = w10.heap.size + 1 := by rw [hW11]; simp
  have hb1011 : Below w10.heap.size w10 W11 := by rw [hW11]; exact (Below.refl _ _).alloc (Nat.le_refl _) _
  have hb11 : Below W3.heap.size W3 W11 := HB9.out.2.trans ((hb10.mono (by omega)).trans (hb1011.mono (by omega)))
  have hk11 : W11.heap[w10.heap.size]? = some (.cells #[.slice r1 r2 r3, .slice r4 r5 r6] 26 (0, 0)) := by rw [hW11, new_blk]
  have hta11 : TreeA W11 (.slice r1 r2 r3) (.slice r4 r5 r6) (Tr.insKeyT wide other (Tr.insKeyT wide key t)) := (ho10.later hb1011 (Nat.le_refl _)).a
  have HTA11 := Lib.hid hta11
  have BOXB : Hid (∀ wx : World, Below W11.heap.size W11 wx → wx.heap[w10.heap.size]? = some (.cells #[.slice r1 r2 r3, .slice r4 r5 r6] 26 (0, 0))) := Lib.hid (fun wx hx => (hx.block _ (by omega)).trans hk11)
  have hq11 := BOX.out W11 hb11
  rw [hW11] at hq11
  clear x1 x2 x3 x4 y1 y2 y3 y4
  obtain ⟨x1, x2, x3, x4⟩ := box2 hq11
  have HW11 := Lib.hid hW11
  have HB11 := Lib.hid hb11
  have HI11 := Lib.hid (impl_insert HTA.out hwt wide other (by omega) (by omega) W11 hb11 (by omega))
  obtain ⟨A3, hA3⟩ : ∃ A3, A3 = Tr.askedB wide other t := ⟨_, rfl⟩
  rw [← hA3] at HI11
  have HA3 := Lib.hid hA3
  clear ho10 hb10 hW11 hb1011 hb11 hk11 hta11 hq11 hA3
  go_wp2_with fail
  rw [← HW11.out]
  refine HI11.out.mono ?_
  rintro e w12 ⟨k12, c12, P12, rfl, ho12, hb12⟩
  obtain ⟨s1, s2, s3, s4, s5, s6, rfl, rfl⟩ := ho12.tree.slices
  have hs12 := hb12.size
  obtain ⟨W13, hW13⟩ : ∃ W13, W13 = w12.alloc (.cells #[.slice s1 s2 s3, .slice s4 s5 s6] 26) := ⟨_, rfl⟩
  have hs13 : W13.heap.size = w12.heap.size + 1 := by rw [hW13]; simp
  have hb1213 : Below w12.heap.size w12 W13 := by rw [hW13]; exact (Below.refl _ _).alloc (Nat.le_refl _) _
  have hb13 : Below W11.heap.size W11 W13 := hb12.trans (hb1213.mono (by omega))
  have hk13 : W13.heap[w12.heap.size]? = some (.cells #[.slice s1 s2 s3, .slice s4 s5 s6] 26 (0, 0)) := by rw [hW13, new_blk]
  have hta13 : TreeIn W13 W13.heap.size (.slice s1 s2 s3) (.slice s4 s5 s6) (Tr.insKeyT wide other t) := (ho12.later hb1213 (Nat.le_refl _)).tree
  have hk13x := hk13
  rw [hW13] at hk13x
  clear x1 x2 x3 x4
  obtain ⟨x1, x2, x3, x4⟩ := box2 hk13x
  have HW13 := Lib.hid hW13
  have HB13 := Lib.hid hb13
  have HI13 := Lib.hid (impl_insert hta13 (Tr.insKey_weight wide other t) wide key (by omega) (by omega) W13 (Below.refl _ _) (Nat.le_refl _))
  obtain ⟨A4, hA4⟩ : ∃ A4, A4 = Tr.askedB wide key (Tr.insKeyT wide other t) := ⟨_, rfl⟩
  rw [← hA4] at HI13
  have HA4 := Lib.hid hA4
  clear ho12 hb12 hW13 hb1213 hb13 hk13 hk13x hta13 hA4
  go_wp2_with fail
  rw [← HW13.out]
  refine HI13.out.mono ?_
  rintro e w14 ⟨k14, c14, P14, rfl, ho14, hb14⟩
  obtain ⟨u1, u2, u3, u4, u5, u6, rfl, rfl⟩ := ho14.tree.slices
  have hs14 := hb14.size
  obtain ⟨W15, hW15⟩ : ∃ W15, W15 = w14.alloc (.cells #[.slice u1 u2 u3, .slice u4 u5 u6] 26) := ⟨_, rfl⟩
  have hs15 : W15.heap.size = w14.heap.size + 1 := by rw [hW15]; simp
  have hb1415 : Below w14.heap.size w14 W15 := by rw [hW15]; exact (Below.refl _ _).alloc (Nat.le_refl _) _
  have hb15 : Below W11.heap.size W11 W15 := HB13.out.trans ((hb14.mono (by omega)).trans (hb1415.mono (by omega)))
  have hk15 : W15.heap[w14.heap.size]? = some (.cells #[.slice u1 u2 u3, .slice u4 u5 u6] 26 (0, 0)) := by rw [hW15, new_blk]
  have hta15 : TreeA W15 (.slice u1 u2 u3) (.slice u4 u5 u6) (Tr.insKeyT wide key (Tr.insKeyT wide other t)) := (ho14.later hb1415 (Nat.le_refl _)).a
  have htb15 : TreeA W15 (.slice r1 r2 r3) (.slice r4 r5 r6) (Tr.insKeyT wide other (Tr.insKeyT wide key t)) := HTA11.out.later hb15 (Nat.le_refl _)
  have hfin : Below w.heap.size w W15 := HBX.out.1.trans ((HB11.out.mono (by omega)).trans (hb15.mono (by omega)))
  have BOXD : Hid (∀ wx : World, Below W15.heap.size W15 wx → wx.heap[w14.heap.size]? = some (.cells #[.slice u1 u2 u3, .slice u4 u5 u6] 26 (0, 0)) ∧ wx.heap[w10.heap.size]? = some (.cells #[.slice r1 r2 r3, .slice r4 r5 r6] 26 (0, 0))) :=
    Lib.hid (fun wx hx => ⟨(hx.block _ (by omega)).trans hk15, BOXB.out wx (hb15.trans (hx.mono (by omega)))⟩)
  have HW15 := Lib.hid hW15
  have HF := Lib.hid hfin
  have HK1 := Lib.hid (fun (wx : World) (hx : Below W15.heap.size W15 wx) => impl_keys_a (htb15.later hx (Nat.le_refl _)) (Tr.insKey_weight wide other (Tr.insKeyT wide key t)))
  have HK2 := Lib.hid (fun (wx : World) (hx : Below W15.heap.size W15 wx) => impl_keys_a (hta15.later hx (Nat.le_refl _)) (Tr.insKey_weight wide key (Tr.insKeyT wide other t)))
  have hall : A1 = true → A3 = true → key ≠ other → A2 = true ∧ A4 = true ∧ (Tr.insKeyT wide other (Tr.insKeyT wide key t)).keys = (Tr.insKeyT wide key (Tr.insKeyT wide other t)).keys := fun h1 h3 hne => by
    have g1 := HA1.out.symm.trans h1
    have g3 := HA3.out.symm.trans h3
    have e1 : Tr.insKeyT wide key t = Tr.insT wide key t := by simp [Tr.insKeyT, g1]
    have e3 : Tr.insKeyT wide other t = Tr.insT wide other t := by simp [Tr.insKeyT, g3]
    obtain ⟨q1, q2, q3⟩ := Tr.two_facts g1 g3 hne
    refine ⟨HA2.out.trans (by rw [e1]; exact q1), HA4.out.trans (by rw [e3]; exact q2), ?_⟩
    rw [e1, e3]
    simp only [Tr.insKeyT, q1, q2, if_true]
    exact q3
  have HALL := Lib.hid hall
  clear ho14 hb14 hW15 hb1415 hb15 hk15 hta15 htb15 hfin hall x1 x2 x3 x4
  cases A1 with
  | false =>
    go_wp2_with fail
    rw [← HW15.out]
    go_ret
    exact ⟨rfl, HF.out⟩
  | true =>
  cases A3 with
  | false =>
    go_wp2_with fail
    rw [← HW15.out]
    go_ret
    exact ⟨rfl, HF.out⟩
  | true =>
  by_cases hne : key = other
  · have hne' : (key == other) = true := by simp [hne]
    clear hne
    go_wp2_with fail
    rw [← HW15.out]
    go_ret
    exact ⟨rfl, HF.out⟩
  · obtain ⟨rfl, rfl, hkk⟩ := HALL.out rfl rfl hne
    have hne' : (key == other) = false := by simp [hne]
    have HKK := Lib.hid hkk
    clear hne hkk hneb
    go_upto_region 14 with (fail)
    rw [← HW15.out]
    obtain ⟨x1, x2, -⟩ := box2 (BOXD.out W15 (Below.refl _ _)).1
    obtain ⟨x3, x4, -⟩ := box2 (BOXD.out W15 (Below.refl _ _)).2
    go_region_held3 (fun x => x.cell? ⟨w14.heap.size, 0, none⟩ = some (.slice u1 u2 u3) ∧ x.cell? ⟨w14.heap.size, 1, none⟩ = some (.slice u4 u5 u6) ∧ x.cell? ⟨w10.heap.size, 0, none⟩ = some (.slice r1 r2 r3) ∧ x.cell? ⟨w10.heap.size, 1, none⟩ = some (.slice r4 r5 r6))
      (first | exact ⟨x1, x2, x3, x4⟩ | exact ⟨z1, z2, z3, z4⟩ | exact ⟨q1, q2, q3, q4⟩ | exact ⟨j1, j2, j3, j4⟩ | go_keep)
      (first
        | (go_at_call 21; refine (ftSame_c _ _ _ w17 w17.heap.size (Nat.le_refl _) HO17.out.1 HO17.out.2).mono ?_; rintro e w18 ⟨rfl, hb18⟩; have hB18 : Below W15.heap.size W15 w18 := HB17.out.trans (hb18.mono (by have := HB17.out.size; omega)); obtain ⟨j1, j2, -⟩ := box2 (BOXD.out w18 hB18).1; obtain ⟨j3, j4, -⟩ := box2 (BOXD.out w18 hB18).2; have HB18 := Lib.hid hB18; clear hb18 hB18)
        | (go_at_call 22; refine (HK2.out _ HB16.out).mono ?_; rintro e w17 ⟨v17, rfl, ho17, hb17⟩; have ho16' := IntsOwn.later HO16.out hb17 (Nat.le_refl _); obtain ⟨va17, vc17, rfl⟩ := IntsOwn.shown ho17; have hB17 : Below W15.heap.size W15 w17 := HB16.out.trans (hb17.mono (by have := HB16.out.size; omega)); have HO17 := Lib.hid (And.intro (IntsOwn.inB ho16' (Nat.le_refl _)) (show IntsIn w17 w17.heap.size _ (Tr.insKeyT wide other (Tr.insKeyT wide key t)).keys from by rw [HKK.out]; exact IntsOwn.inB ho17 (Nat.le_refl _))); obtain ⟨q1, q2, -⟩ := box2 (BOXD.out w17 hB17).1; obtain ⟨q3, q4, -⟩ := box2 (BOXD.out w17 hB17).2; have HB17 := Lib.hid hB17; clear hb17 hB17 ho17 ho16')
        | (go_at_call 22; refine (HK1.out _ (Below.refl _ _).drew).mono ?_; rintro e w16 ⟨v16, rfl, ho16, hb16⟩; obtain ⟨va16, vc16, rfl⟩ := IntsOwn.shown ho16; have hB16 : Below W15.heap.size W15 w16 := ((Below.refl _ _).drew).trans hb16; obtain ⟨z1, z2, -⟩ := box2 (BOXD.out w16 hB16).1; obtain ⟨z3, z4, -⟩ := box2 (BOXD.out w16 hB16).2; have HB16 := Lib.hid hB16; have HO16 := Lib.hid ho16; clear hb16 hB16 ho16))
    go_wp2_with fail
    go_ret
    exact ⟨rfl, HF.out.trans (HB18.out.mono (by have := HF.out.size; omega))⟩
end Go.Proofs.Ytgbgdanbdbojaaa
