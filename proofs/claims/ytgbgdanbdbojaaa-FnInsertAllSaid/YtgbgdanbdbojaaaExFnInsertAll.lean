/- The law on inserting a list of keys: the walk over the contracts. -/
import Derived.Test.YtgbgdanbdbojaaaProg
import Derived.Test.YtgbgdanbdbojaaaSh0
import Derived.Test.YtgbgdanbdbojaaaSh2
import Derived.Test.YtgbgdanbdbojaaaSh5
import Derived.Test.YtgbgdanbdbojaaaSh20
import Derived.Test.YtgbgdanbdbojaaaSh27
import Derived.Test.YtgbgdanbdbojaaaImInsAll
import Derived.Test.YtgbgdanbdbojaaaImSame
import Derived.Test.YtgbgdanbdbojaaaSh12
import Derived.Test.YtgbgdanbdbojaaaSh15
import Derived.Test.YtgbgdanbdbojaaaSh23
import Derived.Test.YtgbgdanbdbojaaaAllData
import Derived.Deep.RegionHeld3
namespace Go.Proofs.Ytgbgdanbdbojaaa
open Go.RowKit

set_option maxHeartbeats 2000000 in
set_option maxRecDepth 100000 in
theorem fnInsertAll_c {w : World} {v : Value} {bs : List Nat} (h : BytesIn w w.heap.size v bs) :
    Calls Try.prog 7 #[v] w fun e w' => e = .returned (.bool true) ∧ Below w.heap.size w w' := by
  have H := Lib.hid h
  obtain ⟨a1, c1, rfl, -⟩ := h
  by_cases hc1 : bs.length ≤ 1048576
  case neg =>
    have hc1' : ((bs.length : Int) > 1048576) := by omega
    go_enter Try.func7, Try.ntmps7
    go_wp2_with fail
    go_ret
    exact ⟨rfl, Below.refl _ _⟩
  have hc1' : ¬ ((bs.length : Int) > 1048576) := by omega
  have HD := Lib.hid (DrawInsertAll_c H.out w (Below.refl _ _) (Nat.le_refl _))
  go_enter Try.func7, Try.ntmps7
  go_wp2_with fail
  refine HD.out.mono ?_
  rintro e w2 ⟨⟨wide, v2, ks, rfl, hwd, hown, hkl⟩, hb2⟩
  obtain ⟨oa, oc, rfl⟩ := IntsOwn.shown hown
  have hs2 := hb2.size
  have hin2 : IntsIn w2 w2.heap.size (.slice oa ks.length oc) ks := IntsOwn.inB hown (Nat.le_refl _)
  have HIN := Lib.hid hin2
  have HI2 := Lib.hid (impl_insertAll w2 w2.heap.size (Nat.le_refl _) hin2 wide)
  have H2 := Lib.hid hb2
  clear hown hin2 hb2
  obtain ⟨A, hA⟩ : ∃ A, A = Tr.allOk wide ks := ⟨_, rfl⟩
  have HA := Lib.hid hA
  clear hA
  go_wp2_with fail
  refine HI2.out.mono ?_
  rintro e w4 ⟨k4, c4, P4, rfl, ho4, hb4⟩
  rw [← HA.out]
  obtain ⟨p1, p2, p3, p4, p5, p6, rfl, rfl⟩ := ho4.tree.slices
  have hs4 := hb4.size
  obtain ⟨W5, hW5⟩ : ∃ W5, W5 = w4.alloc (.cells #[.slice p1 p2 p3, .slice p4 p5 p6] 26) := ⟨_, rfl⟩
  have hs5 : W5.heap.size = w4.heap.size + 1 := by rw [hW5]; simp
  have hb45 : Below w4.heap.size w4 W5 := by rw [hW5]; exact (Below.refl _ _).alloc (Nat.le_refl _) _
  have hb5 : Below w2.heap.size w2 W5 := hb4.trans (hb45.mono (by omega))
  have hk5 : W5.heap[w4.heap.size]? = some (.cells #[.slice p1 p2 p3, .slice p4 p5 p6] 26 (0, 0)) := by rw [hW5, new_blk]
  have hta5 : TreeA W5 (.slice p1 p2 p3) (.slice p4 p5 p6) (Tr.insAllT wide ks) := (ho4.later hb45 (Nat.le_refl _)).a
  have hwt := Tr.insAll_weight wide ks
  have HTA := Lib.hid hta5
  have BOX : Hid (∀ wx : World, Below W5.heap.size W5 wx → wx.heap[w4.heap.size]? = some (.cells #[.slice p1 p2 p3, .slice p4 p5 p6] 26 (0, 0))) := Lib.hid (fun wx hx => (hx.block _ (by omega)).trans hk5)
  have HB5 := Lib.hid hb5
  have HIN5 : Hid (IntsIn W5 w2.heap.size (.slice oa ks.length oc) ks) := Lib.hid (HIN.out.later hb5 (Nat.le_refl _))
  have HS5 := Lib.hid (specInsertAll_c W5 w2.heap.size (by omega) HIN5.out wide)
  have hk5x := hk5
  rw [hW5] at hk5x
  obtain ⟨x1, x2, x3, x4⟩ := box2 hk5x
  have HW5 := Lib.hid hW5
  clear ho4 hb4 hW5 hb45 hb5 hk5 hk5x hta5
  go_wp2_with fail
  rw [← HW5.out]
  refine HS5.out.mono ?_
  rintro e w6 ⟨k6, c6, P6, rfl, ho6, hb6⟩
  rw [← HA.out]
  obtain ⟨r1, r2, r3, r4, r5, r6, rfl, rfl⟩ := ho6.tree.slices
  have hs6 := hb6.size
  obtain ⟨W7, hW7⟩ : ∃ W7, W7 = w6.alloc (.cells #[.slice r1 r2 r3, .slice r4 r5 r6] 26) := ⟨_, rfl⟩
  have hs7 : W7.heap.size = w6.heap.size + 1 := by rw [hW7]; simp
  have hb67 : Below w6.heap.size w6 W7 := by rw [hW7]; exact (Below.refl _ _).alloc (Nat.le_refl _) _
  have hb7 : Below W5.heap.size W5 W7 := hb6.trans (hb67.mono (by omega))
  have hk7 : W7.heap[w6.heap.size]? = some (.cells #[.slice r1 r2 r3, .slice r4 r5 r6] 26 (0, 0)) := by rw [hW7, new_blk]
  have htb7 : TreeA W7 (.slice r1 r2 r3) (.slice r4 r5 r6) (Tr.insAllT wide ks) := (ho6.later hb67 (Nat.le_refl _)).a
  have BOX7 : Hid (∀ wx : World, Below W7.heap.size W7 wx → wx.heap[w4.heap.size]? = some (.cells #[.slice p1 p2 p3, .slice p4 p5 p6] 26 (0, 0)) ∧ wx.heap[w6.heap.size]? = some (.cells #[.slice r1 r2 r3, .slice r4 r5 r6] 26 (0, 0))) :=
    Lib.hid (fun wx hx => ⟨BOX.out wx (hb7.trans (hx.mono (by omega))), (hx.block _ (by omega)).trans hk7⟩)
  have hsame := fun (wx : World) (hx : Below W7.heap.size W7 wx) => impl_same_a wx (HTA.out.later (hb7.trans (hx.mono (by omega))) (Nat.le_refl _)) hwt (htb7.later hx (Nat.le_refl _)).tree
  rw [Tr.sameB_refl] at hsame
  have HSM := Lib.hid hsame
  have HB7 := Lib.hid hb7
  have HW7 := Lib.hid hW7
  have hneb : (A != A) = false := by simp
  have HT0 : Hid (A = false → p2 = 0) := Lib.hid (fun h => by
    have e : Tr.insAllT wide ks = .mk [] [] := by
      have : Tr.allOk wide ks = false := HA.out.symm.trans h
      simp [Tr.insAllT, this]
    have h5 := HTA.out
    rw [e] at h5
    obtain ⟨_, _, _, _, _, hik, _⟩ := h5.parts
    obtain ⟨_, _, hv, _⟩ := hik
    simp only [Value.slice.injEq] at hv
    exact hv.2.1)
  have hq7 := BOX7.out W7 (Below.refl _ _)
  rw [hW7] at hq7
  clear x1 x2 x3 x4
  obtain ⟨x1, x2, x3, x4⟩ := box2 hq7.1
  obtain ⟨y1, y2, y3, y4⟩ := box2 hq7.2
  clear ho6 hb6 hW7 hb67 hb7 hk7 htb7 hsame hq7
  go_wp2_with fail
  rw [← HW7.out]
  refine (HSM.out W7 (Below.refl _ _)).mono ?_
  rintro e w8 ⟨rfl, hb8⟩
  have hs8 := hb8.size
  have H8 := Lib.hid hb8
  clear hb8 x1 x2 x3 x4 y1 y2 y3 y4
  obtain ⟨x1, x2, -⟩ := box2 (BOX7.out w8 H8.out).1
  obtain ⟨y1, y2, -⟩ := box2 (BOX7.out w8 H8.out).2
  have HF8 := Lib.hid (H2.out.trans ((HB5.out.trans ((HB7.out.trans (H8.out.mono (by omega))).mono (by omega))).mono (by omega)))
  cases A with
  | false =>
    have hp0 : p2 = 0 := HT0.out rfl
    subst hp0
    go_wp2_with fail
    refine (HSM.out w8 H8.out).mono ?_
    rintro e w9 ⟨rfl, hb9⟩
    have H9 := Lib.hid (And.intro (H8.out.trans (hb9.mono (by omega))) (HF8.out.trans (hb9.mono (by omega))))
    clear hb9 x1 x2 y1 y2
    obtain ⟨x1, x2, -⟩ := box2 (BOX7.out w9 H9.out.1).1
    go_wp2_with fail
    go_ret
    exact ⟨rfl, H9.out.2⟩
  | true =>
  clear hneb HT0 y1 y2
  obtain ⟨hbk, hv1, hv2, hkk, hkle, hpb⟩ := Tr.back_facts HA.out.symm
  obtain ⟨R, hR⟩ : ∃ R, R = ks.reverse := ⟨_, rfl⟩
  have hRl : R.length = ks.length := by rw [hR]; simp
  have hsn := fun (j : Nat) (hj : j < ks.length) => Tr.back_snoc hj
  rw [← hR] at hbk hv2 hkk hpb hsn
  have HSN := Lib.hid hsn
  have HBK := Lib.hid hbk
  have HV := Lib.hid (And.intro hv1 (And.intro hv2 (And.intro hkk hpb)))
  have HR := Lib.hid hR
  have hs58 : W5.heap.size ≤ w8.heap.size := by have := HB7.out.size; omega
  have HIN8 : Hid (IntsIn w8 w2.heap.size (.slice oa ks.length oc) ks) := Lib.hid (HIN5.out.later (HB7.out.trans (H8.out.mono (by omega))) (by omega))
  have hal : Below w8.heap.size w8 (w8.alloc (.cells #[] 3)) := (Below.refl _ _).alloc (Nat.le_refl _) _
  have HL0 := Lib.hid (And.intro (World.ownsRow_made w8 #[] 0 (Nat.le_refl _) (by unfold maxLen; omega) rfl : IntsOwn (w8.alloc (.cells #[] 3)) w8.heap.size (.slice (some ⟨w8.heap.size, 0, none⟩) 0 0) []) hal)
  clear hsn hbk hv1 hv2 hkk hpb hR hal x1 x2
  go_wp2_with fail
  go_loopw [9, 10] (fun s9 i wr => ∃ (j : Nat), j ≤ ks.length ∧ i = .int .i64 ((ks.length : Int) - 1 - (j : Int)) ∧ IntsOwn wr w8.heap.size s9 (R.take j) ∧ Below w8.heap.size w8 wr) (fun _ i _ => (intOf i + 1).toNat)
  case atStart => exact ⟨0, Nat.zero_le _, by simp, HL0.out.1, HL0.out.2⟩
  case round =>
    obtain ⟨j, hj, rfl, hown, hbel⟩ := hrel
    obtain ⟨oa2, oc2, rfl⟩ := IntsOwn.shown hown
    have hsz := hbel.size
    have HR9 := Lib.hid (And.intro hown hbel)
    clear hown hbel
    by_cases hlt : j < ks.length
    · obtain ⟨q, hq⟩ : ∃ q : Nat, (ks.length : Int) - 1 - (j : Int) = (q : Int) := ⟨ks.length - 1 - j, by omega⟩
      have hqe : q = ks.length - 1 - j := by omega
      have hin := HIN8.out
      obtain ⟨_, _, hve, -, -, -, h3⟩ := hin
      simp only [Value.slice.injEq] at hve
      obtain ⟨rfl, -, -⟩ := hve
      rcases h3 with h | ⟨b, off, rfl, hb, hat⟩
      · simp [h] at hlt
      have ha := hat q (by omega)
      rw [← below_cell HR9.out.2 (by omega)] at ha
      obtain ⟨k, hk⟩ : ∃ k, k = ks.getD q 0 := ⟨_, rfl⟩
      rw [← hk] at ha
      have hql : (q : Int) < (ks.length : Int) := by omega
      have hq0 : (0 : Int) ≤ (q : Int) := by omega
      have hwr : IntKind.i64.wrap ((q : Int) - 1) = (q : Int) - 1 := by rw [IntKind.wrap_i64]; omega
      have hge : (q : Int) ≥ 0 := hq0
      have HO1 := Lib.hid (IntsOwn.alloc' HR9.out.1 (.cells #[.int .i64 k] 3))
      have HS := Lib.hid (IntsAt.one wr k)
      have hlo : w8.heap.size ≤ (wr.alloc (.cells #[.int .i64 k] 3)).heap.size := by simp; omega
      have htl : (R.take j).length = j := by rw [List.length_take]; omega
      obtain ⟨L, hL⟩ : ∃ L, L = R.take j := ⟨_, rfl⟩
      rw [← hL] at HO1 htl
      have HLN : Hid (L.length + [k].length ≤ 17592186044416) := Lib.hid (by simp; omega)
      have HE : Hid (L ++ [k] = R.take (j + 1)) := Lib.hid (by rw [hL, HSN.out j hlt, hk, hqe])
      rw [hq, ← hL]
      have HQ := Lib.hid (And.intro hq hqe)
      clear hat hk hL hq hqe
      go_wp2_with (at_builtin; refine wpList_append_ints rfl _ _ rfl w8.heap.size _ _ L [k] rfl HO1.out rfl HS.out HLN.out hlo ?_; intro v4 w9 hown9 hbel9 _ hsh9; obtain ⟨a9, c9, rfl⟩ := hsh9; generalize hL9 : L ++ [k] = L9 at hown9 ⊢; have HL9 := Lib.hid hL9; have HN := Lib.hid (And.intro hown9 hbel9); clear hown9 hbel9 hL9)
      go_roundw
      case rel =>
        have := HQ.out.1
        refine ⟨j + 1, by omega, by congr 1; omega, ?_, HR9.out.2.trans (((Below.refl _ _).alloc hsz _).trans HN.out.2)⟩
        rw [← HE.out, HL9.out]
        exact HN.out.1
      case measure =>
        have := HQ.out.1
        simp [intOf]
    · have hje : j = ks.length := by omega
      have htk : R.take j = R := by rw [hje, ← hRl, List.take_length]
      have ho9 := HR9.out.1
      rw [htk] at ho9
      rw [htk, hRl]
      rw [hRl] at ho9
      have hng : ¬ ((ks.length : Int) - 1 - (j : Int) ≥ 0) := by omega
      have hjm : (ks.length : Int) - 1 - (j : Int) = -1 := by omega
      rw [hjm]
      have HO9 := Lib.hid ho9
      have HI9 := Lib.hid (impl_insertAll wr wr.heap.size (Nat.le_refl _) (by rw [← hRl] at ho9; exact IntsOwn.inB ho9 (Nat.le_refl _)) wide)
      rw [hRl] at HI9
      clear ho9 htk hje hng hjm hj hlt
      go_wp2_with fail
      refine HI9.out.mono ?_
      rintro e w10 ⟨k10, c10, P10, rfl, ho10, hb10⟩
      rw [HBK.out]
      obtain ⟨g1, g2, g3, g4, g5, g6, rfl, rfl⟩ := ho10.tree.slices
      have hs10 := hb10.size
      obtain ⟨W11, hW11⟩ : ∃ W11, W11 = w10.alloc (.cells #[.slice g1 g2 g3, .slice g4 g5 g6] 26) := ⟨_, rfl⟩
      have hs11 : W11.heap.size = w10.heap.size + 1 := by rw [hW11]; simp
      have hb1011 : Below w10.heap.size w10 W11 := by rw [hW11]; exact (Below.refl _ _).alloc (Nat.le_refl _) _
      have hbr11 : Below wr.heap.size wr W11 := hb10.trans (hb1011.mono (by omega))
      have hb811 : Below w8.heap.size w8 W11 := HR9.out.2.trans (hbr11.mono hsz)
      have hb711 : Below W7.heap.size W7 W11 := H8.out.trans (hb811.mono (by omega))
      have hk11 : W11.heap[w10.heap.size]? = some (.cells #[.slice g1 g2 g3, .slice g4 g5 g6] 26 (0, 0)) := by rw [hW11, new_blk]
      have htu : TreeA W11 (.slice g1 g2 g3) (.slice g4 g5 g6) (Tr.insAllT wide R) := (ho10.later hb1011 (Nat.le_refl _)).a
      have htt : TreeA W11 (.slice p1 p2 p3) (.slice p4 p5 p6) (Tr.insAllT wide ks) := HTA.out.later (HB7.out.trans (hb711.mono (by omega))) (Nat.le_refl _)
      have HTU := Lib.hid htu
      have HTT := Lib.hid htt
      have hwu := Tr.insAll_weight wide R
      have BOX11 : Hid (∀ wx : World, Below W11.heap.size W11 wx → wx.heap[w4.heap.size]? = some (.cells #[.slice p1 p2 p3, .slice p4 p5 p6] 26 (0, 0)) ∧ wx.heap[w10.heap.size]? = some (.cells #[.slice g1 g2 g3, .slice g4 g5 g6] 26 (0, 0))) :=
        Lib.hid (fun wx hx => ⟨(BOX7.out wx (hb711.trans (hx.mono (by omega)))).1, (hx.block _ (by omega)).trans hk11⟩)
      have HIN11 : Hid (IntsIn W11 w2.heap.size (.slice oa ks.length oc) ks) := Lib.hid (HIN8.out.later hb811 (by omega))
      have HF11 := Lib.hid (HF8.out.trans (hb811.mono (by have := HF8.out.size; omega)))
      have HW11 := Lib.hid hW11
      have hq11 := BOX11.out W11 (Below.refl _ _)
      rw [hW11] at hq11
      obtain ⟨x1, x2, x3, x4⟩ := box2 hq11.1
      obtain ⟨y1, y2, y3, y4⟩ := box2 hq11.2
      clear ho10 hb10 hW11 hb1011 hbr11 hb811 hb711 hk11 htu htt hq11
      go_wp2_with fail
      rw [← HW11.out]
      clear x1 x2 x3 x4 y1 y2 y3 y4
      go_loopw [14, 85] (fun s14 i wr => ∃ j : Nat, j ≤ ks.length ∧ i = .int .i64 j ∧ Below W11.heap.size W11 wr) (fun _ i _ => ks.length - (intOf i).toNat)
      case atStart => exact ⟨0, Nat.zero_le _, rfl, Below.refl _ _⟩
      case round =>
        obtain ⟨j, hj, rfl, hbel⟩ := hrel
        have HB := Lib.hid hbel
        have hz := hbel.size
        by_cases hlt : j < ks.length
        · have hin := HIN11.out
          obtain ⟨_, _, hve, -, -, -, h3⟩ := hin
          simp only [Value.slice.injEq] at hve
          obtain ⟨rfl, -, -⟩ := hve
          rcases h3 with h | ⟨b, off, rfl, hb, hat⟩
          · simp [h] at hlt
          have ha := hat j hlt
          rw [← below_cell hbel (by omega)] at ha
          have hp := HV.out.2.2.2 j hlt
          generalize ks.getD j 0 = k at ha hp
          have K1 := fun (wx : World) (hx : Below W11.heap.size W11 wx) => impl_has HTT.out.tree hwt k wx hx hx.size
          have K2 := fun (wx : World) (hx : Below W11.heap.size W11 wx) => impl_has HTU.out.tree hwu k wx hx hx.size
          rw [hp.1] at K1
          rw [hp.2] at K2
          have HK1 := Lib.hid K1
          have HK2 := Lib.hid K2
          have hjl : (j : Int) < (ks.length : Int) := by omega
          clear hat hb K1 K2 hp hbel
          obtain ⟨x1, x2, -⟩ := box2 (BOX11.out wr HB.out).1
          obtain ⟨x3, x4, -⟩ := box2 (BOX11.out wr HB.out).2
          go_wp2_with fail
          refine (HK1.out wr HB.out).mono ?_
          rintro e w12 ⟨rfl, hb12⟩
          have hB12 : Below W11.heap.size W11 w12 := HB.out.trans (hb12.mono (by omega))
          clear x1 x2 x3 x4
          obtain ⟨x1, x2, -⟩ := box2 (BOX11.out w12 hB12).1
          obtain ⟨x3, x4, -⟩ := box2 (BOX11.out w12 hB12).2
          have hz12 := hB12.size
          have HB12 := Lib.hid hB12
          clear hb12 hB12
          go_wp2_with fail
          refine (HK2.out w12 HB12.out).mono ?_
          rintro e w13 ⟨rfl, hb13⟩
          have HB13 := Lib.hid (HB12.out.trans (hb13.mono (by omega)))
          clear hb13 x1 x2 x3 x4
          go_wp2_with fail
          go_roundw
          case rel => exact ⟨j + 1, by omega, by go_num, HB13.out⟩
          case measure => simp [intOf]; omega
        · obtain ⟨x1, x2, -⟩ := box2 (BOX11.out wr HB.out).1
          obtain ⟨x3, x4, -⟩ := box2 (BOX11.out wr HB.out).2
          have hjl : ¬ (j : Int) < (ks.length : Int) := by omega
          have V1 := fun (wx : World) (hx : Below W11.heap.size W11 wx) => impl_valid _ _ _ _ _ wide HTT.out.tree hwt (by omega) (by omega) wx hx hx.size
          have V2 := fun (wx : World) (hx : Below W11.heap.size W11 wx) => impl_valid _ _ _ _ _ wide HTU.out.tree hwu (by omega) (by omega) wx hx hx.size
          rw [HV.out.1] at V1
          rw [HV.out.2.1] at V2
          have K1 := fun (wx : World) (hx : Below W11.heap.size W11 wx) => impl_keys_a (HTT.out.later hx (Nat.le_refl _)) hwt
          have K2 := fun (wx : World) (hx : Below W11.heap.size W11 wx) => impl_keys_a (HTU.out.later hx (Nat.le_refl _)) hwu
          rw [HV.out.2.2.1] at K2
          generalize (Tr.insAllT wide ks).keys = TK at K1 K2 hkle
          have hkle' : (TK.length : Int) ≤ (ks.length : Int) := by omega
          have TV1 := Lib.hid V1
          have TV2 := Lib.hid V2
          have KT := Lib.hid K1
          have KU := Lib.hid K2
          clear V1 V2 K1 K2 hbel hkle
          go_upto_region 20 with (fail)
          go_region_held3 (fun x => x.cell? ⟨w4.heap.size, 0, none⟩ = some (.slice p1 p2 p3) ∧ x.cell? ⟨w4.heap.size, 1, none⟩ = some (.slice p4 p5 p6) ∧ x.cell? ⟨w10.heap.size, 0, none⟩ = some (.slice g1 g2 g3) ∧ x.cell? ⟨w10.heap.size, 1, none⟩ = some (.slice g4 g5 g6))
            (first | exact ⟨x1, x2, x3, x4⟩ | exact ⟨z1, z2, z3, z4⟩ | exact ⟨q1, q2, q3, q4⟩ | exact ⟨t1, t2, t3, t4⟩ | exact ⟨l1, l2, l3, l4⟩ | exact ⟨m1, m2, m3, m4⟩ | exact ⟨n1, n2, n3, n4⟩ | go_keep)
            (first
              | (go_at_call 21; refine (ftSame_c TK _ _ w24 w24.heap.size (Nat.le_refl _) HO24.out.1 HO24.out.2).mono ?_; rintro e w25 ⟨rfl, hb25⟩; have hB25 : Below W11.heap.size W11 w25 := HB24.out.trans (hb25.mono (by have := HB24.out.size; omega)); obtain ⟨m1, m2, -⟩ := box2 (BOX11.out w25 hB25).1; obtain ⟨m3, m4, -⟩ := box2 (BOX11.out w25 hB25).2; have HB25 := Lib.hid hB25; clear hb25 hB25)
              | (go_at_call 22; refine (KT.out _ HB25.out).mono ?_; rintro e w26 ⟨v26, rfl, ho26, hb26⟩; have hB26 : Below W11.heap.size W11 w26 := HB25.out.trans (hb26.mono (by have := HB25.out.size; omega)); obtain ⟨n1, n2, -⟩ := box2 (BOX11.out w26 hB26).1; obtain ⟨n3, n4, -⟩ := box2 (BOX11.out w26 hB26).2; obtain ⟨va26, vc26, rfl⟩ := IntsOwn.shown ho26; clear ho26; have HB26 := Lib.hid hB26; clear hb26 hB26)
              | (go_at_call 22; refine (KU.out _ HB23.out).mono ?_; rintro e w24 ⟨v24, rfl, ho24, hb24⟩; have hB24 : Below W11.heap.size W11 w24 := HB23.out.trans (hb24.mono (by have := HB23.out.size; omega)); obtain ⟨l1, l2, -⟩ := box2 (BOX11.out w24 hB24).1; obtain ⟨l3, l4, -⟩ := box2 (BOX11.out w24 hB24).2; have ho23 := IntsOwn.later HO23.out hb24 (Nat.le_refl _); obtain ⟨va24, vc24, rfl⟩ := IntsOwn.shown ho24; have HO24 := Lib.hid (And.intro (IntsOwn.inB ho23 (Nat.le_refl _)) (IntsOwn.inB ho24 (Nat.le_refl _))); clear ho23 ho24; have HB24 := Lib.hid hB24; clear hb24 hB24)
              | (go_at_call 22; refine (KT.out _ HB22.out).mono ?_; rintro e w23 ⟨v23, rfl, ho23, hb23⟩; have hB23 : Below W11.heap.size W11 w23 := HB22.out.trans (hb23.mono (by have := HB22.out.size; omega)); obtain ⟨t1, t2, -⟩ := box2 (BOX11.out w23 hB23).1; obtain ⟨t3, t4, -⟩ := box2 (BOX11.out w23 hB23).2; obtain ⟨va23, vc23, rfl⟩ := IntsOwn.shown ho23; have HO23 := Lib.hid ho23; clear ho23; have HB23 := Lib.hid hB23; clear hb23 hB23)
              | (go_at_call 31; refine (TV2.out _ HB21.out).mono ?_; rintro e w22 ⟨rfl, hb22⟩; have hB22 : Below W11.heap.size W11 w22 := HB21.out.trans (hb22.mono (by have := HB21.out.size; omega)); obtain ⟨q1, q2, -⟩ := box2 (BOX11.out w22 hB22).1; obtain ⟨q3, q4, -⟩ := box2 (BOX11.out w22 hB22).2; have HB22 := Lib.hid hB22; clear hb22 hB22)
              | (go_at_call 31; refine (TV1.out _ HB.out.drew).mono ?_; rintro e w21 ⟨rfl, hb21⟩; have hB21 : Below W11.heap.size W11 w21 := HB.out.drew.trans (hb21.mono (by have := HB.out.size; simp; omega)); obtain ⟨z1, z2, -⟩ := box2 (BOX11.out w21 hB21).1; obtain ⟨z3, z4, -⟩ := box2 (BOX11.out w21 hB21).2; have HB21 := Lib.hid hB21; clear hb21 hB21))
          go_wp2_with fail
          go_ret
          first
            | exact ⟨rfl, HF11.out.trans (HB26.out.mono (by have := HF11.out.size; omega))⟩
            | exact ⟨ret_bool (by simp [hkle']), HF11.out.trans (HB26.out.mono (by have := HF11.out.size; omega))⟩
end Go.Proofs.Ytgbgdanbdbojaaa
