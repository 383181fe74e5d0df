/- The law on splits: the walk over the contracts. -/
import Derived.Test.YtgbgdanbdbojaaaProg
import Derived.Test.YtgbgdanbdbojaaaSh0
import Derived.Test.YtgbgdanbdbojaaaSh2
import Derived.Test.YtgbgdanbdbojaaaSh3
import Derived.Test.YtgbgdanbdbojaaaSh5
import Derived.Test.YtgbgdanbdbojaaaCountA
import Derived.Test.YtgbgdanbdbojaaaFullA
import Derived.Test.YtgbgdanbdbojaaaDepthA
import Derived.Test.YtgbgdanbdbojaaaSh26
import Derived.Test.YtgbgdanbdbojaaaSh19
import Derived.Test.YtgbgdanbdbojaaaSh30
import Derived.Deep.RegionHeld3
namespace Go.Proofs.Ytgbgdanbdbojaaa
open Go.RowKit

set_option maxHeartbeats 4000000 in
set_option maxRecDepth 100000 in
theorem fnSplits_c {w : World} {v : Value} {bs : List Nat} (h : BytesIn w w.heap.size v bs) :
    Calls Try.prog 3 #[v] w fun e w' => e = .returned (.bool true) ∧ Below w.heap.size w w' := by
  have H := Lib.hid h
  obtain ⟨a1, c1, rfl, -⟩ := h
  by_cases hc1 : bs.length ≤ 1048576
  case neg =>
    have hc1' : ((bs.length : Int) > 1048576) := by omega
    go_enter Try.func3, Try.ntmps3
    go_wp2_with fail
    go_ret
    exact ⟨rfl, Below.refl _ _⟩
  have hc1' : ¬ ((bs.length : Int) > 1048576) := by omega
  have HD := Lib.hid (DrawSplitsBy_c H.out w (Below.refl _ _) (Nat.le_refl _))
  go_enter Try.func3, Try.ntmps3
  go_wp2_with fail
  refine HD.out.mono ?_
  rintro e w2 ⟨k2, d2, t, wide, key, rfl, ⟨hwd1, hwd2⟩, ht2, hw2, -, hb2⟩
  obtain ⟨b1, b2, b3, b4, b5, b6, rfl, rfl⟩ := ht2.slices
  have hs2 := hb2.size
  obtain ⟨W3, hW3⟩ : ∃ W3, W3 = w2.alloc (.cells #[.slice b1 b2 b3, .slice b4 b5 b6] 26) := ⟨_, rfl⟩
  have hs3 : w2.heap.size < W3.heap.size := by rw [hW3]; simp
  have hb3 : Below w2.heap.size w2 W3 := by rw [hW3]; exact (Below.refl _ _).alloc (Nat.le_refl _) _
  have hx3 : W3.heap[w2.heap.size]? = some (.cells #[.slice b1 b2 b3, .slice b4 b5 b6] 26 (0, 0)) := by rw [hW3, new_blk]
  have hta3 : TreeA W3 (.slice b1 b2 b3) (.slice b4 b5 b6) t := (ht2.a (fun k hk => hk.2)).later hb3 (Nat.le_refl _)
  have hwt : t.weight ≤ 1048576 := by omega
  have HTA := Lib.hid hta3
  have HBX := Lib.hid (And.intro (hb2.trans (hb3.mono (by omega))) hx3)
  have BOX : Hid (∀ wx : World, Below W3.heap.size W3 wx → wx.heap[w2.heap.size]? = some (.cells #[.slice b1 b2 b3, .slice b4 b5 b6] 26 (0, 0))) := Lib.hid (fun wx hx => (hx.block _ (by omega)).trans HBX.out.2)
  have I1 := impl_splits_a hta3.tree hwt wide key (by omega) (by omega) W3 (Below.refl _ _) (Nat.le_refl _)
  obtain ⟨z, hz⟩ : ∃ z, z = Tr.splitsB wide key t := ⟨_, rfl⟩
  rw [← hz] at I1
  have HI1 := Lib.hid I1
  have HZ := Lib.hid hz
  have hx3x := hx3
  rw [hW3] at hx3x
  obtain ⟨x1, x2, x3, x4⟩ := box2 hx3x
  have HW3 := Lib.hid hW3
  clear ht2 hb2 hW3 hb3 hx3 hx3x hta3 I1 hz
  go_wp2_with fail
  rw [← HW3.out]
  refine HI1.out.mono ?_
  rintro e w4 ⟨rfl, hb4⟩
  have hs4 := hb4.size
  clear x1 x2 x3 x4
  obtain ⟨x1, x2, x3, x4⟩ := box2 (BOX.out w4 hb4)
  have I2 := impl_insert HTA.out.tree hwt wide key (by omega) (by omega) w4 hb4 (by omega)
  obtain ⟨A, hA⟩ : ∃ A, A = Tr.askedB wide key t := ⟨_, rfl⟩
  rw [← hA] at I2
  have HI2 := Lib.hid I2
  have HA := Lib.hid hA
  have H4 := Lib.hid hb4
  clear hb4 I2 hA
  go_wp2_with fail
  refine HI2.out.mono ?_
  rintro e w6 ⟨k6, c6, P6, rfl, ho6, hb6⟩
  obtain ⟨p1, p2, p3, p4, p5, p6, rfl, rfl⟩ := ho6.tree.slices
  have hs6 := hb6.size
  obtain ⟨W7, hW7⟩ : ∃ W7, W7 = w6.alloc (.cells #[.slice p1 p2 p3, .slice p4 p5 p6] 26) := ⟨_, rfl⟩
  have hs7 : W7.heap.size = w6.heap.size + 1 := by rw [hW7]; simp
  have hb67 : Below w6.heap.size w6 W7 := by rw [hW7]; exact (Below.refl _ _).alloc (Nat.le_refl _) _
  have hb7 : Below W3.heap.size W3 W7 := H4.out.trans ((hb6.mono (by omega)).trans (hb67.mono (by omega)))
  have hk7 : W7.heap[w6.heap.size]? = some (.cells #[.slice p1 p2 p3, .slice p4 p5 p6] 26 (0, 0)) := by rw [hW7, new_blk]
  have htx7 : TreeA W7 (.slice p1 p2 p3) (.slice p4 p5 p6) (Tr.insKeyT wide key t) := (ho6.later hb67 (Nat.le_refl _)).a
  have hta7 : TreeA W7 (.slice b1 b2 b3) (.slice b4 b5 b6) t := HTA.out.later hb7 (Nat.le_refl _)
  have hwx := Tr.insKey_weight wide key t
  have BOX2 : Hid (∀ wx : World, Below W7.heap.size W7 wx → wx.heap[w6.heap.size]? = some (.cells #[.slice p1 p2 p3, .slice p4 p5 p6] 26 (0, 0)) ∧ wx.heap[w2.heap.size]? = some (.cells #[.slice b1 b2 b3, .slice b4 b5 b6] 26 (0, 0))) :=
    Lib.hid (fun wx hx => ⟨(hx.block _ (by omega)).trans hk7, BOX.out wx (hb7.trans (hx.mono (by omega)))⟩)
  have I3 := impl_grows_a hta7.tree hwt wide key (by omega) (by omega) W7 (Below.refl _ _) (Nat.le_refl _)
  have S1 := fun (wx : World) (hx : Below W7.heap.size W7 wx) => specSplitsBy_c hta7.tree hwt wide key wx hx hx.size
  have S2 := fun (wx : World) (hx : Below W7.heap.size W7 wx) => specGrowsBy_c hta7.tree hwt wide key wx hx hx.size
  obtain ⟨G, hG⟩ : ∃ G, G = Tr.growsB wide key t := ⟨_, rfl⟩
  rw [← hG] at I3 S2
  rw [← HZ.out] at S1
  have HI3 := Lib.hid I3
  have HS1 := Lib.hid S1
  have HS2 := Lib.hid S2
  have HG := Lib.hid hG
  have HCx := Lib.hid (fun (wx : World) (hx : Below W7.heap.size W7 wx) => impl_count_a (htx7.later hx (Nat.le_refl _)) hwx)
  have HCt := Lib.hid (fun (wx : World) (hx : Below W7.heap.size W7 wx) => impl_count_a (hta7.later hx (Nat.le_refl _)) hwt)
  have HDx := Lib.hid (fun (wx : World) (hx : Below W7.heap.size W7 wx) => impl_depth_a (htx7.later hx (Nat.le_refl _)) hwx)
  have HDt := Lib.hid (fun (wx : World) (hx : Below W7.heap.size W7 wx) => impl_depth_a (hta7.later hx (Nat.le_refl _)) hwt)
  have HFt := Lib.hid (fun (wx : World) (hx : Below W7.heap.size W7 wx) => impl_full_a (hta7.later hx (Nat.le_refl _)) hwt wide (by omega) (by omega))
  have hfin : Below w.heap.size w W7 := HBX.out.1.trans (hb7.mono (by have := HBX.out.1.size; omega))
  have HF := Lib.hid hfin
  have hq7 := hk7
  rw [hW7] at hq7
  have hq8 := BOX.out W7 hb7
  rw [hW7] at hq8
  clear x1 x2 x3 x4
  obtain ⟨x1, x2, x3, x4⟩ := box2 hq7
  obtain ⟨y1, y2, y3, y4⟩ := box2 hq8
  have HW7 := Lib.hid hW7
  have hct := Tr.count_le t
  have hcx := Tr.count_le (Tr.insKeyT wide key t)
  have hdl := Tr.depth_le t
  have hdx := Tr.depth_le (Tr.insKeyT wide key t)
  have hfl := Tr.full_le wide t
  clear ho6 hb6 hW7 hb67 hb7 hk7 htx7 hta7 I3 S1 S2 hG hfin hq7 hq8
  go_wp2_with fail
  rw [← HW7.out]
  refine HI3.out.mono ?_
  rintro e w8 ⟨rfl, hb8⟩
  have hs8 := hb8.size
  have H8 := Lib.hid hb8
  clear x1 x2 x3 x4 y1 y2 y3 y4
  obtain ⟨y1, y2, y3, y4⟩ := box2 (BOX2.out w8 hb8).2
  clear hb8
  have hneb : (z != z) = false := by simp
  have hneg : (G != G) = false := by simp
  go_wp2_with fail
  refine (HS1.out w8 H8.out).mono ?_
  rintro e w9 ⟨rfl, hb9⟩
  have H9 := Lib.hid (H8.out.trans (hb9.mono (by omega)))
  clear hb9 y1 y2 y3 y4
  have hs9 := H9.out.size
  obtain ⟨y1, y2, y3, y4⟩ := box2 (BOX2.out w9 H9.out).2
  go_wp2_with fail
  refine (HS2.out w9 H9.out).mono ?_
  rintro e w10 ⟨rfl, hb10⟩
  have H10 := Lib.hid (H9.out.trans (hb10.mono (by omega)))
  clear hb10 y1 y2 y3 y4
  have hs10 := H10.out.size
  obtain ⟨y1, y2, y3, y4⟩ := box2 (BOX2.out w10 H10.out).2
  cases A with
  | false =>
    have hz1 : z = -1 := by rw [HZ.out]; simp [Tr.splitsB, ← HA.out]
    have hg1 : G = false := by rw [HG.out]; simp [Tr.growsB, ← HA.out]
    subst hz1 hg1
    clear hneb hneg
    go_wp2_with fail
    refine (HS1.out w10 H10.out).mono ?_
    rintro e w11 ⟨rfl, hb11⟩
    have H11 := Lib.hid (H10.out.trans (hb11.mono (by omega)))
    clear hb11 y1 y2 y3 y4
    have hs11 := H11.out.size
    obtain ⟨y1, y2, y3, y4⟩ := box2 (BOX2.out w11 H11.out).2
    go_wp2_with fail
    refine (HS2.out w11 H11.out).mono ?_
    rintro e w12 ⟨rfl, hb12⟩
    have H12 := Lib.hid (H11.out.trans (hb12.mono (by omega)))
    clear hb12
    go_wp2_with fail
    go_ret
    exact ⟨rfl, HF.out.trans (H12.out.mono (by have := HF.out.size; omega))⟩
  | true =>
    have hie : Tr.insKeyT wide key t = Tr.insT wide key t := by simp [Tr.insKeyT, ← HA.out]
    have hgi : G = Tr.insG wide key t := by rw [HG.out]; simp [Tr.growsB, ← HA.out]
    obtain ⟨f1, f2, f3, f4, f5⟩ := Tr.ins_facts key (Tr.asked_path HA.out.symm).1
    obtain ⟨N, hN⟩ : ∃ N, N = Tr.insN wide key t := ⟨_, rfl⟩
    have hzN : z = (N : Int) := by rw [HZ.out, hN]; simp [Tr.splitsB, ← HA.out]
    rw [← hie, ← hgi] at f1 f2
    rw [← hgi] at f4
    rw [← hN] at f1 f3 f4 f5
    have hC1 := HCx.out
    have hC2 := HCt.out
    have hD1 := HDx.out
    have hD2 := HDt.out
    have hF1 := HFt.out
    obtain ⟨Cx, hCx⟩ : ∃ Cx, Cx = (Tr.insKeyT wide key t).count := ⟨_, rfl⟩
    obtain ⟨Ct, hCt⟩ : ∃ Ct, Ct = t.count := ⟨_, rfl⟩
    obtain ⟨Dx, hDx⟩ : ∃ Dx, Dx = (Tr.insKeyT wide key t).depth := ⟨_, rfl⟩
    obtain ⟨Dt, hDt⟩ : ∃ Dt, Dt = t.depth := ⟨_, rfl⟩
    obtain ⟨Ft, hFt⟩ : ∃ Ft, Ft = t.full wide := ⟨_, rfl⟩
    rw [← hCx] at hC1 f1 hcx hdx
    rw [← hCt] at hC2 f1 hct hdl hfl
    rw [← hDx] at hD1 f2 hdx
    rw [← hDt] at hD2 f2 f3 f4 hdl
    rw [← hFt] at hF1 f5 hfl
    have HCx' := Lib.hid hC1
    have HCt' := Lib.hid hC2
    have HDx' := Lib.hid hD1
    have HDt' := Lib.hid hD2
    have HFt' := Lib.hid hF1
    obtain ⟨CN, hCN⟩ : ∃ CN, CN = Ct + N := ⟨_, rfl⟩
    subst hzN
    clear hC1 hC2 hD1 hD2 hF1 HCx HCt HDx HDt HFt hCx hCt hDx hDt hFt hN hie hgi hneb hneg y1 y2 y3 y4
    have hwr1 : IntKind.i64.wrap ((Ct : Int) + (N : Int)) = (CN : Int) := by rw [IntKind.wrap_i64]; omega
    have hwr0 : IntKind.i64.wrap (CN : Int) = (CN : Int) := by rw [IntKind.wrap_i64]; omega
    have hwd0 : IntKind.i64.wrap (Dt : Int) = (Dt : Int) := by rw [IntKind.wrap_i64]; omega
    have hND : (N : Int) ≤ (Dt : Int) := by omega
    have hNF : (N : Int) ≤ (Ft : Int) := by omega
    have hnn : ¬ (N : Int) < 0 := by omega
    have hn0 : (0 : Int) ≤ (N : Int) := by omega
    cases G with
    | false =>
      have hx1 : Cx = CN := by simpa [hCN] using f1
      have hx2 : Dx = Dt := by simp at f2; omega
      subst hx1 hx2
      have he1 : ((Cx : Int) == (Cx : Int)) = true := by simp
      have he2 : ((Dx : Int) == (Dx : Int)) = true := by simp
      clear f1 f2 f4 hCN
      by_cases hN0 : N = 0
      · have hz0 : ((N : Int) == 0) = true := by simp [hN0]
        clear hN0
        go_upto_region 12 with (fail)
        obtain ⟨x1, x2, -⟩ := box2 (BOX2.out w10 H10.out).1
        obtain ⟨x3, x4, -⟩ := box2 (BOX2.out w10 H10.out).2
        first
          | (go_region_held3 (fun x => x.cell? ⟨w6.heap.size, 0, none⟩ = some (.slice p1 p2 p3) ∧ x.cell? ⟨w6.heap.size, 1, none⟩ = some (.slice p4 p5 p6) ∧ x.cell? ⟨w2.heap.size, 0, none⟩ = some (.slice b1 b2 b3) ∧ x.cell? ⟨w2.heap.size, 1, none⟩ = some (.slice b4 b5 b6))
               (first | exact ⟨x1, x2, x3, x4⟩ | exact ⟨z1, z2, z3, z4⟩ | go_keep)
               (first
                 | (go_at_call 15; refine (HCt'.out _ HB11.out).mono ?_; rintro e w12 ⟨rfl, hb12⟩; have hB12 : Below W7.heap.size W7 w12 := HB11.out.trans (hb12.mono (by have := HB11.out.size; omega)); obtain ⟨z1, z2, -⟩ := box2 (BOX2.out w12 hB12).1; obtain ⟨z3, z4, -⟩ := box2 (BOX2.out w12 hB12).2; have HB12 := Lib.hid hB12; have HBL := HB12; clear hb12 hB12)
                 | (go_at_call 15; refine (HCx'.out _ H10.out.drew).mono ?_; rintro e w11 ⟨rfl, hb11⟩; have hB11 : Below W7.heap.size W7 w11 := H10.out.drew.trans (hb11.mono (by have := H10.out.size; simp; omega)); obtain ⟨z1, z2, -⟩ := box2 (BOX2.out w11 hB11).1; obtain ⟨z3, z4, -⟩ := box2 (BOX2.out w11 hB11).2; have HB11 := Lib.hid hB11; clear hb11 hB11)
                 | (go_at_call 16; refine (HDt'.out _ HB15.out).mono ?_; rintro e w16 ⟨rfl, hb16⟩; have hB16 : Below W7.heap.size W7 w16 := HB15.out.trans (hb16.mono (by have := HB15.out.size; omega)); obtain ⟨z1, z2, -⟩ := box2 (BOX2.out w16 hB16).1; obtain ⟨z3, z4, -⟩ := box2 (BOX2.out w16 hB16).2; have HB16 := Lib.hid hB16; have HBL := HB16; clear hb16 hB16)
                 | (go_at_call 16; refine (HDt'.out _ HB14.out).mono ?_; rintro e w15 ⟨rfl, hb15⟩; have hB15 : Below W7.heap.size W7 w15 := HB14.out.trans (hb15.mono (by have := HB14.out.size; omega)); obtain ⟨z1, z2, -⟩ := box2 (BOX2.out w15 hB15).1; obtain ⟨z3, z4, -⟩ := box2 (BOX2.out w15 hB15).2; have HB15 := Lib.hid hB15; have HBL := HB15; clear hb15 hB15)
                 | (go_at_call 16; refine (HDt'.out _ HB13.out).mono ?_; rintro e w14 ⟨rfl, hb14⟩; have hB14 : Below W7.heap.size W7 w14 := HB13.out.trans (hb14.mono (by have := HB13.out.size; omega)); obtain ⟨z1, z2, -⟩ := box2 (BOX2.out w14 hB14).1; obtain ⟨z3, z4, -⟩ := box2 (BOX2.out w14 hB14).2; have HB14 := Lib.hid hB14; have HBL := HB14; clear hb14 hB14)
                 | (go_at_call 16; refine (HDx'.out _ HB12.out).mono ?_; rintro e w13 ⟨rfl, hb13⟩; have hB13 : Below W7.heap.size W7 w13 := HB12.out.trans (hb13.mono (by have := HB12.out.size; omega)); obtain ⟨z1, z2, -⟩ := box2 (BOX2.out w13 hB13).1; obtain ⟨z3, z4, -⟩ := box2 (BOX2.out w13 hB13).2; have HB13 := Lib.hid hB13; have HBL := HB13; clear hb13 hB13)
                 | (go_at_call 17; refine (HFt'.out _ HBL.out).mono ?_; rintro e w17 ⟨rfl, hb17⟩; have hB17 : Below W7.heap.size W7 w17 := HBL.out.trans (hb17.mono (by have := HBL.out.size; omega)); obtain ⟨z1, z2, -⟩ := box2 (BOX2.out w17 hB17).1; obtain ⟨z3, z4, -⟩ := box2 (BOX2.out w17 hB17).2; have HB17 := Lib.hid hB17; have HBL := HB17; clear hb17 hB17)))
          | fail
        all_goals
          go_wp2_with fail
          go_ret
          first
            | exact ⟨rfl, HF.out.trans (HBL.out.mono (by have := HF.out.size; omega))⟩
            | exact ⟨ret_bool (by simp [*]), HF.out.trans (HBL.out.mono (by have := HF.out.size; omega))⟩
      · have hz0 : ((N : Int) == 0) = false := by simp [hN0]
        clear hN0
        go_upto_region 12 with (fail)
        obtain ⟨x1, x2, -⟩ := box2 (BOX2.out w10 H10.out).1
        obtain ⟨x3, x4, -⟩ := box2 (BOX2.out w10 H10.out).2
        first
          | (go_region_held3 (fun x => x.cell? ⟨w6.heap.size, 0, none⟩ = some (.slice p1 p2 p3) ∧ x.cell? ⟨w6.heap.size, 1, none⟩ = some (.slice p4 p5 p6) ∧ x.cell? ⟨w2.heap.size, 0, none⟩ = some (.slice b1 b2 b3) ∧ x.cell? ⟨w2.heap.size, 1, none⟩ = some (.slice b4 b5 b6))
               (first | exact ⟨x1, x2, x3, x4⟩ | exact ⟨z1, z2, z3, z4⟩ | go_keep)
               (first
                 | (go_at_call 15; refine (HCt'.out _ HB11.out).mono ?_; rintro e w12 ⟨rfl, hb12⟩; have hB12 : Below W7.heap.size W7 w12 := HB11.out.trans (hb12.mono (by have := HB11.out.size; omega)); obtain ⟨z1, z2, -⟩ := box2 (BOX2.out w12 hB12).1; obtain ⟨z3, z4, -⟩ := box2 (BOX2.out w12 hB12).2; have HB12 := Lib.hid hB12; have HBL := HB12; clear hb12 hB12)
                 | (go_at_call 15; refine (HCx'.out _ H10.out.drew).mono ?_; rintro e w11 ⟨rfl, hb11⟩; have hB11 : Below W7.heap.size W7 w11 := H10.out.drew.trans (hb11.mono (by have := H10.out.size; simp; omega)); obtain ⟨z1, z2, -⟩ := box2 (BOX2.out w11 hB11).1; obtain ⟨z3, z4, -⟩ := box2 (BOX2.out w11 hB11).2; have HB11 := Lib.hid hB11; clear hb11 hB11)
                 | (go_at_call 16; refine (HDt'.out _ HB15.out).mono ?_; rintro e w16 ⟨rfl, hb16⟩; have hB16 : Below W7.heap.size W7 w16 := HB15.out.trans (hb16.mono (by have := HB15.out.size; omega)); obtain ⟨z1, z2, -⟩ := box2 (BOX2.out w16 hB16).1; obtain ⟨z3, z4, -⟩ := box2 (BOX2.out w16 hB16).2; have HB16 := Lib.hid hB16; have HBL := HB16; clear hb16 hB16)
                 | (go_at_call 16; refine (HDt'.out _ HB14.out).mono ?_; rintro e w15 ⟨rfl, hb15⟩; have hB15 : Below W7.heap.size W7 w15 := HB14.out.trans (hb15.mono (by have := HB14.out.size; omega)); obtain ⟨z1, z2, -⟩ := box2 (BOX2.out w15 hB15).1; obtain ⟨z3, z4, -⟩ := box2 (BOX2.out w15 hB15).2; have HB15 := Lib.hid hB15; have HBL := HB15; clear hb15 hB15)
                 | (go_at_call 16; refine (HDt'.out _ HB13.out).mono ?_; rintro e w14 ⟨rfl, hb14⟩; have hB14 : Below W7.heap.size W7 w14 := HB13.out.trans (hb14.mono (by have := HB13.out.size; omega)); obtain ⟨z1, z2, -⟩ := box2 (BOX2.out w14 hB14).1; obtain ⟨z3, z4, -⟩ := box2 (BOX2.out w14 hB14).2; have HB14 := Lib.hid hB14; have HBL := HB14; clear hb14 hB14)
                 | (go_at_call 16; refine (HDx'.out _ HB12.out).mono ?_; rintro e w13 ⟨rfl, hb13⟩; have hB13 : Below W7.heap.size W7 w13 := HB12.out.trans (hb13.mono (by have := HB12.out.size; omega)); obtain ⟨z1, z2, -⟩ := box2 (BOX2.out w13 hB13).1; obtain ⟨z3, z4, -⟩ := box2 (BOX2.out w13 hB13).2; have HB13 := Lib.hid hB13; have HBL := HB13; clear hb13 hB13)
                 | (go_at_call 17; refine (HFt'.out _ HBL.out).mono ?_; rintro e w17 ⟨rfl, hb17⟩; have hB17 : Below W7.heap.size W7 w17 := HBL.out.trans (hb17.mono (by have := HBL.out.size; omega)); obtain ⟨z1, z2, -⟩ := box2 (BOX2.out w17 hB17).1; obtain ⟨z3, z4, -⟩ := box2 (BOX2.out w17 hB17).2; have HB17 := Lib.hid hB17; have HBL := HB17; clear hb17 hB17)))
          | fail
        all_goals
          go_wp2_with fail
          go_ret
          first
            | exact ⟨rfl, HF.out.trans (HBL.out.mono (by have := HF.out.size; omega))⟩
            | exact ⟨ret_bool (by simp [*]), HF.out.trans (HBL.out.mono (by have := HF.out.size; omega))⟩
    | true =>
      have hx3 : N = Dt := f4 rfl
      have hwr2 : IntKind.i64.wrap ((CN : Int) + 1) = (Cx : Int) := by rw [IntKind.wrap_i64]; simp at f1; omega
      have hwd1' : IntKind.i64.wrap ((Dt : Int) + 1) = (Dx : Int) := by rw [IntKind.wrap_i64]; simp at f2; omega
      have he1 : ((Cx : Int) == (Cx : Int)) = true := by simp
      have he2 : ((Dx : Int) == (Dx : Int)) = true := by simp
      subst hx3
      have he3 : ((N : Int) == (N : Int)) = true := by simp
      clear f1 f2 f4 hCN
      by_cases hN0 : N = 0
      · have hz0 : ((N : Int) == 0) = true := by simp [hN0]
        clear hN0
        go_upto_region 12 with (fail)
        obtain ⟨x1, x2, -⟩ := box2 (BOX2.out w10 H10.out).1
        obtain ⟨x3, x4, -⟩ := box2 (BOX2.out w10 H10.out).2
        first
          | (go_region_held3 (fun x => x.cell? ⟨w6.heap.size, 0, none⟩ = some (.slice p1 p2 p3) ∧ x.cell? ⟨w6.heap.size, 1, none⟩ = some (.slice p4 p5 p6) ∧ x.cell? ⟨w2.heap.size, 0, none⟩ = some (.slice b1 b2 b3) ∧ x.cell? ⟨w2.heap.size, 1, none⟩ = some (.slice b4 b5 b6))
               (first | exact ⟨x1, x2, x3, x4⟩ | exact ⟨z1, z2, z3, z4⟩ | go_keep)
               (first
                 | (go_at_call 15; refine (HCt'.out _ HB11.out).mono ?_; rintro e w12 ⟨rfl, hb12⟩; have hB12 : Below W7.heap.size W7 w12 := HB11.out.trans (hb12.mono (by have := HB11.out.size; omega)); obtain ⟨z1, z2, -⟩ := box2 (BOX2.out w12 hB12).1; obtain ⟨z3, z4, -⟩ := box2 (BOX2.out w12 hB12).2; have HB12 := Lib.hid hB12; have HBL := HB12; clear hb12 hB12)
                 | (go_at_call 15; refine (HCx'.out _ H10.out.drew).mono ?_; rintro e w11 ⟨rfl, hb11⟩; have hB11 : Below W7.heap.size W7 w11 := H10.out.drew.trans (hb11.mono (by have := H10.out.size; simp; omega)); obtain ⟨z1, z2, -⟩ := box2 (BOX2.out w11 hB11).1; obtain ⟨z3, z4, -⟩ := box2 (BOX2.out w11 hB11).2; have HB11 := Lib.hid hB11; clear hb11 hB11)
                 | (go_at_call 16; refine (HDt'.out _ HB15.out).mono ?_; rintro e w16 ⟨rfl, hb16⟩; have hB16 : Below W7.heap.size W7 w16 := HB15.out.trans (hb16.mono (by have := HB15.out.size; omega)); obtain ⟨z1, z2, -⟩ := box2 (BOX2.out w16 hB16).1; obtain ⟨z3, z4, -⟩ := box2 (BOX2.out w16 hB16).2; have HB16 := Lib.hid hB16; have HBL := HB16; clear hb16 hB16)
                 | (go_at_call 16; refine (HDt'.out _ HB14.out).mono ?_; rintro e w15 ⟨rfl, hb15⟩; have hB15 : Below W7.heap.size W7 w15 := HB14.out.trans (hb15.mono (by have := HB14.out.size; omega)); obtain ⟨z1, z2, -⟩ := box2 (BOX2.out w15 hB15).1; obtain ⟨z3, z4, -⟩ := box2 (BOX2.out w15 hB15).2; have HB15 := Lib.hid hB15; have HBL := HB15; clear hb15 hB15)
                 | (go_at_call 16; refine (HDt'.out _ HB13.out).mono ?_; rintro e w14 ⟨rfl, hb14⟩; have hB14 : Below W7.heap.size W7 w14 := HB13.out.trans (hb14.mono (by have := HB13.out.size; omega)); obtain ⟨z1, z2, -⟩ := box2 (BOX2.out w14 hB14).1; obtain ⟨z3, z4, -⟩ := box2 (BOX2.out w14 hB14).2; have HB14 := Lib.hid hB14; have HBL := HB14; clear hb14 hB14)
                 | (go_at_call 16; refine (HDx'.out _ HB12.out).mono ?_; rintro e w13 ⟨rfl, hb13⟩; have hB13 : Below W7.heap.size W7 w13 := HB12.out.trans (hb13.mono (by have := HB12.out.size; omega)); obtain ⟨z1, z2, -⟩ := box2 (BOX2.out w13 hB13).1; obtain ⟨z3, z4, -⟩ := box2 (BOX2.out w13 hB13).2; have HB13 := Lib.hid hB13; have HBL := HB13; clear hb13 hB13)
                 | (go_at_call 17; refine (HFt'.out _ HBL.out).mono ?_; rintro e w17 ⟨rfl, hb17⟩; have hB17 : Below W7.heap.size W7 w17 := HBL.out.trans (hb17.mono (by have := HBL.out.size; omega)); obtain ⟨z1, z2, -⟩ := box2 (BOX2.out w17 hB17).1; obtain ⟨z3, z4, -⟩ := box2 (BOX2.out w17 hB17).2; have HB17 := Lib.hid hB17; have HBL := HB17; clear hb17 hB17)))
          | fail
        all_goals
          go_wp2_with fail
          go_ret
          first
            | exact ⟨rfl, HF.out.trans (HBL.out.mono (by have := HF.out.size; omega))⟩
            | exact ⟨ret_bool (by simp [*]), HF.out.trans (HBL.out.mono (by have := HF.out.size; omega))⟩
      · have hz0 : ((N : Int) == 0) = false := by simp [hN0]
        clear hN0
        go_upto_region 12 with (fail)
        obtain ⟨x1, x2, -⟩ := box2 (BOX2.out w10 H10.out).1
        obtain ⟨x3, x4, -⟩ := box2 (BOX2.out w10 H10.out).2
        first
          | (go_region_held3 (fun x => x.cell? ⟨w6.heap.size, 0, none⟩ = some (.slice p1 p2 p3) ∧ x.cell? ⟨w6.heap.size, 1, none⟩ = some (.slice p4 p5 p6) ∧ x.cell? ⟨w2.heap.size, 0, none⟩ = some (.slice b1 b2 b3) ∧ x.cell? ⟨w2.heap.size, 1, none⟩ = some (.slice b4 b5 b6))
               (first | exact ⟨x1, x2, x3, x4⟩ | exact ⟨z1, z2, z3, z4⟩ | go_keep)
               (first
                 | (go_at_call 15; refine (HCt'.out _ HB11.out).mono ?_; rintro e w12 ⟨rfl, hb12⟩; have hB12 : Below W7.heap.size W7 w12 := HB11.out.trans (hb12.mono (by have := HB11.out.size; omega)); obtain ⟨z1, z2, -⟩ := box2 (BOX2.out w12 hB12).1; obtain ⟨z3, z4, -⟩ := box2 (BOX2.out w12 hB12).2; have HB12 := Lib.hid hB12; have HBL := HB12; clear hb12 hB12)
                 | (go_at_call 15; refine (HCx'.out _ H10.out.drew).mono ?_; rintro e w11 ⟨rfl, hb11⟩; have hB11 : Below W7.heap.size W7 w11 := H10.out.drew.trans (hb11.mono (by have := H10.out.size; simp; omega)); obtain ⟨z1, z2, -⟩ := box2 (BOX2.out w11 hB11).1; obtain ⟨z3, z4, -⟩ := box2 (BOX2.out w11 hB11).2; have HB11 := Lib.hid hB11; clear hb11 hB11)
                 | (go_at_call 16; refine (HDt'.out _ HB15.out).mono ?_; rintro e w16 ⟨rfl, hb16⟩; have hB16 : Below W7.heap.size W7 w16 := HB15.out.trans (hb16.mono (by have := HB15.out.size; omega)); obtain ⟨z1, z2, -⟩ := box2 (BOX2.out w16 hB16).1; obtain ⟨z3, z4, -⟩ := box2 (BOX2.out w16 hB16).2; have HB16 := Lib.hid hB16; have HBL := HB16; clear hb16 hB16)
                 | (go_at_call 16; refine (HDt'.out _ HB14.out).mono ?_; rintro e w15 ⟨rfl, hb15⟩; have hB15 : Below W7.heap.size W7 w15 := HB14.out.trans (hb15.mono (by have := HB14.out.size; omega)); obtain ⟨z1, z2, -⟩ := box2 (BOX2.out w15 hB15).1; obtain ⟨z3, z4, -⟩ := box2 (BOX2.out w15 hB15).2; have HB15 := Lib.hid hB15; have HBL := HB15; clear hb15 hB15)
                 | (go_at_call 16; refine (HDt'.out _ HB13.out).mono ?_; rintro e w14 ⟨rfl, hb14⟩; have hB14 : Below W7.heap.size W7 w14 := HB13.out.trans (hb14.mono (by have := HB13.out.size; omega)); obtain ⟨z1, z2, -⟩ := box2 (BOX2.out w14 hB14).1; obtain ⟨z3, z4, -⟩ := box2 (BOX2.out w14 hB14).2; have HB14 := Lib.hid hB14; have HBL := HB14; clear hb14 hB14)
                 | (go_at_call 16; refine (HDx'.out _ HB12.out).mono ?_; rintro e w13 ⟨rfl, hb13⟩; have hB13 : Below W7.heap.size W7 w13 := HB12.out.trans (hb13.mono (by have := HB12.out.size; omega)); obtain ⟨z1, z2, -⟩ := box2 (BOX2.out w13 hB13).1; obtain ⟨z3, z4, -⟩ := box2 (BOX2.out w13 hB13).2; have HB13 := Lib.hid hB13; have HBL := HB13; clear hb13 hB13)
                 | (go_at_call 17; refine (HFt'.out _ HBL.out).mono ?_; rintro e w17 ⟨rfl, hb17⟩; have hB17 : Below W7.heap.size W7 w17 := HBL.out.trans (hb17.mono (by have := HBL.out.size; omega)); obtain ⟨z1, z2, -⟩ := box2 (BOX2.out w17 hB17).1; obtain ⟨z3, z4, -⟩ := box2 (BOX2.out w17 hB17).2; have HB17 := Lib.hid hB17; have HBL := HB17; clear hb17 hB17)))
          | fail
        all_goals
          go_wp2_with fail
          go_ret
          first
            | exact ⟨rfl, HF.out.trans (HBL.out.mono (by have := HF.out.size; omega))⟩
            | exact ⟨ret_bool (by simp [*]), HF.out.trans (HBL.out.mono (by have := HF.out.size; omega))⟩
end Go.Proofs.Ytgbgdanbdbojaaa
