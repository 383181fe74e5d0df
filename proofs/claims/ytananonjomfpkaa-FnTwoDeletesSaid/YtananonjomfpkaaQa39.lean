/- For every slice of bytes, the law on two orders of deletions returns true and leaves its arguments as they were; no conditions. -/
import Derived.Test.YtananonjomfpkaaProg
import Derived.Test.YtananonjomfpkaaQa0
import Derived.Test.YtananonjomfpkaaQa2
import Derived.Test.YtananonjomfpkaaQa4
import Derived.Test.YtananonjomfpkaaQa6
import Derived.Test.YtananonjomfpkaaQa10
import Derived.Test.YtananonjomfpkaaQa37
import Derived.Test.YtananonjomfpkaaQa38
import Derived.Deep.RegionHeld3
import Derived.Test.YtananonjomfpkaaRows
import Derived.Test.YtananonjomfpkaaQaS0
import Derived.Test.YtananonjomfpkaaQa1
import Derived.WalkKit
import Derived.ProofKit
import Derived.OpenShut
import Derived.ChangeOld
import Derived.Below

/- The law on two lists of deletions: the walk over the contracts. -/
namespace Go.Proofs.Ytananonjomfpkaa
open Go.RowKit

theorem none_rows {w : World} {B : Nat} {b1 b4 : Option Addr} {b2 b3 b5 b6 : Nat} (h : TreeIn w B (.slice b1 b2 b3) (.slice b4 b5 b6) (.mk [] [])) : b2 = 0 ∧ b5 = 0 := by
  obtain ⟨_, _, _, _, hc, ⟨_, _, hv, _⟩, _⟩ := h.parts
  injection hc with _ e1 _
  injection hv with _ e2 _
  exact ⟨e2, e1⟩

set_option maxHeartbeats 4000000 in
set_option maxRecDepth 100000 in
theorem fnTwoDeletes_c {w : World} {v1 : Value} {bs1 : List Nat} (h1 : BytesIn w w.heap.size v1 bs1) :
    Calls Try.prog 8 #[v1] w fun e w' => e = .returned (.bool true) ∧ Below w.heap.size w w' := by
  have H1 := Lib.hid h1
  obtain ⟨a1, c1, rfl, -⟩ := h1
  by_cases hc1 : bs1.length ≤ 1048576
  case neg =>
    have hc1' : ((bs1.length : Int) > 1048576) := by omega
    go_enter Try.func8, Try.ntmps8
    go_wp2_with fail
    go_ret
    exact ⟨rfl, Below.refl _ _⟩
  have hc1' : ¬ ((bs1.length : Int) > 1048576) := by omega
  have HD1 := Lib.hid (drawDelAll_c H1.out w (Below.refl _ _) (Nat.le_refl _))
  go_enter Try.func8, Try.ntmps8
  go_wp2_with fail
  refine HD1.out.mono ?_
  rintro e w2 ⟨k2, d2, v2, t, wide, ks, rfl, ⟨hwd1, hwd2⟩, ht2, hw2, hi2, hkl, hb2⟩
  obtain ⟨b1, b2, b3, b4, b5, b6, rfl, rfl⟩ := ht2.slices
  obtain ⟨oa, oc, rfl⟩ := IntsOwn.shown hi2
  have hs2 := hb2.size
  obtain ⟨W3, hW3⟩ : ∃ W3, W3 = w2.alloc (.cells #[.slice b1 b2 b3, .slice b4 b5 b6] 26) := ⟨_, rfl⟩
  have hs3 : w2.heap.size < W3.heap.size := by rw [hW3]; simp
  have hb3 : Below w2.heap.size w2 W3 := by rw [hW3]; exact (Below.refl _ _).alloc (Nat.le_refl _) _
  have hx3 : W3.heap[w2.heap.size]? = some (.cells #[.slice b1 b2 b3, .slice b4 b5 b6] 26 (0, 0)) := by rw [hW3, new_blk]
  have hta3 : TreeA W3 (.slice b1 b2 b3) (.slice b4 b5 b6) t := (ht2.a (fun k hk => hk.2)).later hb3 (Nat.le_refl _)
  have hin3 : IntsIn W3 W3.heap.size (.slice oa ks.length oc) ks := (IntsOwn.inB (IntsOwn.later hi2 hb3 (Nat.le_refl _)) (Nat.le_refl _))
  have hwt : t.weight ≤ 1048576 := by omega
  have HTA := Lib.hid hta3
  have HIN := Lib.hid hin3
  have HBX := Lib.hid (And.intro (hb2.trans (hb3.mono (by omega))) hx3)
  have HI3 := Lib.hid (impl_deleteAll hta3.tree hwt hin3 wide (by omega) (by omega) W3 (Below.refl _ _) (Nat.le_refl _) (Nat.le_refl _))
  obtain ⟨A, hA⟩ : ∃ A, A = Tr.askAll wide t ks := ⟨_, rfl⟩
  rw [← hA] at HI3
  have HA := Lib.hid hA
  have hx3x := hx3
  rw [hW3] at hx3x
  obtain ⟨x1, x2, x3, x4⟩ := box2 hx3x
  have HW3 := Lib.hid hW3
  clear ht2 hb2 hW3 hb3 hx3 hx3x hta3 hin3 hi2 hA
  go_wp2_with fail
  rw [← HW3.out]
  refine HI3.out.mono ?_
  rintro e w4 ⟨k4, c4, P4, rfl, ho4, hb4⟩
  obtain ⟨p1, p2, p3, p4, p5, p6, rfl, rfl⟩ := ho4.tree.slices
  have hs4 := hb4.size
  obtain ⟨W5, hW5⟩ : ∃ W5, W5 = w4.alloc (.cells #[.slice p1 p2 p3, .slice p4 p5 p6] 26) := ⟨_, rfl⟩
  have hs5 : w4.heap.size < W5.heap.size := by rw [hW5]; simp
  have hb45 : Below w4.heap.size w4 W5 := by rw [hW5]; exact (Below.refl _ _).alloc (Nat.le_refl _) _
  have hb5 : Below W3.heap.size W3 W5 := hb4.trans (hb45.mono (by omega))
  have hk5 : W5.heap[w4.heap.size]? = some (.cells #[.slice p1 p2 p3, .slice p4 p5 p6] 26 (0, 0)) := by rw [hW5, new_blk]
  have htx5 : TreeA W5 (.slice p1 p2 p3) (.slice p4 p5 p6) (Tr.goneT wide t ks) := (ho4.later hb45 (Nat.le_refl _)).a
  have HTX5 := Lib.hid htx5
  have HS5 := Lib.hid (specDeleteAll_c HTA.out.tree hwt HIN.out wide W5 hb5 (by omega) (Nat.le_refl _))
  rw [← HA.out] at HS5
  have hq5 := (hb5.block _ hs3).trans HBX.out.2
  have HB5 := Lib.hid (And.intro hb5 (And.intro hq5 hk5))
  have hq5x := hq5
  rw [hW5] at hq5x
  clear x1 x2 x3 x4
  obtain ⟨x1, x2, x3, x4⟩ := box2 hq5x
  have HW5 := Lib.hid hW5
  clear ho4 hb4 hW5 hb45 hb5 hk5 htx5 hq5 hq5x
  go_wp2_with fail
  rw [← HW5.out]
  refine HS5.out.mono ?_
  rintro e w6 ⟨k6, c6, rfl, ho6, hb6⟩
  obtain ⟨q1, q2, q3, q4, q5, q6, rfl, rfl⟩ := ho6.slices
  have hs6 := hb6.size
  obtain ⟨W7, hW7⟩ : ∃ W7, W7 = w6.alloc (.cells #[.slice q1 q2 q3, .slice q4 q5 q6] 26) := ⟨_, rfl⟩
  have hs7 : w6.heap.size < W7.heap.size := by rw [hW7]; simp
  have hb57 : Below W5.heap.size W5 W7 := hb6.trans (by rw [hW7]; exact (Below.refl _ _).alloc hs6 _)
  have hb37 : Below W3.heap.size W3 W7 := HB5.out.1.trans (hb57.mono (by omega))
  have htw7 : TreeA W7 (.slice b1 b2 b3) (.slice b4 b5 b6) t := HTA.out.later hb37 (Nat.le_refl _)
  have htx7 : TreeA W7 (.slice p1 p2 p3) (.slice p4 p5 p6) (Tr.goneT wide t ks) := HTX5.out.later hb57 (Nat.le_refl _)
  have HTW7 := Lib.hid htw7
  have HTX7 := Lib.hid htx7
  have HTW : Hid (∀ wx : World, Below W7.heap.size W7 wx → TreeIn wx wx.heap.size (.slice b1 b2 b3) (.slice b4 b5 b6) t) := Lib.hid (fun wx hx => (htw7.later hx (Nat.le_refl _)).tree)
  have HIN7 := Lib.hid (show IntsIn W7 W7.heap.size (.slice oa ks.length oc) ks from IntsIn.wider (HIN.out.later hb37 (Nat.le_refl _)) (by omega))
  have BOX7 : Hid (∀ wx : World, Below W7.heap.size W7 wx → wx.heap[w2.heap.size]? = some (.cells #[.slice b1 b2 b3, .slice b4 b5 b6] 26 (0, 0)) ∧ wx.heap[w4.heap.size]? = some (.cells #[.slice p1 p2 p3, .slice p4 p5 p6] 26 (0, 0))) :=
    Lib.hid (fun wx hx => ⟨(hx.block _ (by omega)).trans ((hb57.block _ (by omega)).trans HB5.out.2.1), (hx.block _ (by omega)).trans ((hb57.block _ (by omega)).trans HB5.out.2.2)⟩)
  have HF7 := Lib.hid (HBX.out.1.trans (hb37.mono (by have := HBX.out.1.size; omega)))
  have hneb : (A != A) = false := by simp
  obtain ⟨R, hR⟩ : ∃ R, R = ks.reverse := ⟨_, rfl⟩
  have HRl : Hid (R.length = ks.length) := Lib.hid (by rw [hR]; simp)
  have HSN : Hid (∀ j, j < ks.length → R.take (j + 1) = R.take j ++ [ks.getD (ks.length - 1 - j) 0]) := Lib.hid (fun j hj => by rw [hR]; exact Tr.back_snoc hj)
  have HASK : Hid (Tr.askAll wide t R = A) := Lib.hid (by rw [hR, Tr.ask_back, HA.out])
  have HR := Lib.hid hR
  have hal : Below W7.heap.size W7 (W7.alloc (.cells #[] 3)) := (Below.refl _ _).alloc (Nat.le_refl _) _
  have HL0 := Lib.hid (And.intro (World.ownsRow_made W7 #[] 0 (Nat.le_refl _) (by unfold maxLen; omega) rfl : IntsOwn (W7.alloc (.cells #[] 3)) W7.heap.size (.slice (some ⟨W7.heap.size, 0, none⟩) 0 0) []) hal)
  have HW7 := Lib.hid hW7
  clear ho6 hb6 hW7 hb57 hb37 htw7 htx7 hR hal x1 x2 x3 x4
  go_upto_region 8 with (fail)
  rw [← HW7.out]
  go_wp2_with fail
  go_loopw [10, 11] (fun sl i wr => ∃ (j : Nat), j ≤ ks.length ∧ i = .int .i64 ((ks.length : Int) - 1 - (j : Int)) ∧ IntsOwn wr W7.heap.size sl (R.take j) ∧ Below W7.heap.size W7 wr) (fun _ i _ => (intOf i + 1).toNat)
  case atStart => exact ⟨0, Nat.zero_le _, by simp, HL0.out.1, HL0.out.2⟩
  case round =>
    obtain ⟨j, hj, rfl, hown, hbel⟩ := hrel
    obtain ⟨oa2, oc2, rfl⟩ := IntsOwn.shown hown
    have hsz := hbel.size
    have HR9 := Lib.hid (And.intro hown hbel)
    clear hown hbel
    by_cases hlt : j < ks.length
    · obtain ⟨q, hq⟩ : ∃ q : Nat, (ks.length : Int) - 1 - (j : Int) = (q : Int) := ⟨ks.length - 1 - j, by omega⟩
      have hqe : q = ks.length - 1 - j := by omega
      have hin := HIN7.out
      obtain ⟨_, _, hve, -, -, -, h3⟩ := hin
      simp only [Value.slice.injEq] at hve
      obtain ⟨rfl, -, -⟩ := hve
      rcases h3 with h | ⟨b, off, rfl, hb, hat⟩
      · simp [h] at hlt
      have ha := hat q (by omega)
      rw [← below_cell HR9.out.2 (by omega)] at ha
      obtain ⟨k, hk⟩ : ∃ k, k = ks.getD q 0 := ⟨_, rfl⟩
      rw [← hk] at ha
      have hql : (q : Int) < (ks.length : Int) := by omega
      have hq0 : (0 : Int) ≤ (q : Int) := by omega
      have hwr : IntKind.i64.wrap ((q : Int) - 1) = (q : Int) - 1 := by rw [IntKind.wrap_i64]; omega
      have hge : (q : Int) ≥ 0 := hq0
      have HO1 := Lib.hid (IntsOwn.alloc' HR9.out.1 (.cells #[.int .i64 k] 3))
      have HS := Lib.hid (IntsAt.one wr k)
      have hlo : W7.heap.size ≤ (wr.alloc (.cells #[.int .i64 k] 3)).heap.size := by simp; omega
      have htl : (R.take j).length = j := by rw [List.length_take]; have := HRl.out; omega
      obtain ⟨L, hL⟩ : ∃ L, L = R.take j := ⟨_, rfl⟩
      rw [← hL] at HO1 htl
      have HLN : Hid (L.length + [k].length ≤ 17592186044416) := Lib.hid (by simp; omega)
      have HE : Hid (L ++ [k] = R.take (j + 1)) := Lib.hid (by rw [hL, HSN.out j hlt, hk, hqe])
      rw [hq, ← hL]
      have HQ := Lib.hid (And.intro hq hqe)
      clear hat hk hL hq hqe
      go_wp2_with (at_builtin; refine wpList_append_ints rfl _ _ rfl W7.heap.size _ _ L [k] rfl HO1.out rfl HS.out HLN.out hlo ?_; intro v4 w9 hown9 hbel9 _ hsh9; obtain ⟨a9, c9, rfl⟩ := hsh9; generalize hL9 : L ++ [k] = L9 at hown9 ⊢; have HL9 := Lib.hid hL9; have HN := Lib.hid (And.intro hown9 hbel9); clear hown9 hbel9 hL9)
      go_roundw
      case rel =>
        have := HQ.out.1
        refine ⟨j + 1, by omega, by congr 1; omega, ?_, HR9.out.2.trans (((Below.refl _ _).alloc hsz _).trans HN.out.2)⟩
        rw [← HE.out, HL9.out]
        exact HN.out.1
      case measure =>
        have := HQ.out.1
        simp [intOf]
    · have hje : j = ks.length := by omega
      have htk : R.take j = R := by rw [hje, ← HRl.out, List.take_length]
      have ho9 := HR9.out.1
      rw [htk] at ho9
      rw [htk]
      have hng : ¬ ((ks.length : Int) - 1 - (j : Int) ≥ 0) := by omega
      have hjm : (ks.length : Int) - 1 - (j : Int) = -1 := by omega
      rw [hjm]
      have HO9 := Lib.hid (IntsOwn.inB ho9 (Nat.le_refl _))
      have HB9 := Lib.hid HR9.out.2
      clear ho9 htk hje hng hjm hj hlt HR9
      have hbx := (BOX7.out wr HB9.out).1
      obtain ⟨x1, x2, x3, x4⟩ := box2 hbx
      clear hbx
      go_wp2_with fail
      refine (impl_deleteAll (w := wr) (HTW.out wr HB9.out) hwt HO9.out wide (by omega) (by omega) wr (Below.refl _ _) (Nat.le_refl _) (Nat.le_refl _)).mono ?_
      rintro e w10 ⟨k10, c10, P10, rfl, ho10, hb10⟩
      rw [HASK.out]
      obtain ⟨r1, r2, r3, r4, r5, r6, rfl, rfl⟩ := ho10.tree.slices
      have hs10 := hb10.size
      obtain ⟨W11, hW11⟩ : ∃ W11, W11 = w10.alloc (.cells #[.slice r1 r2 r3, .slice r4 r5 r6] 26) := ⟨_, rfl⟩
      have hs11 : w10.heap.size < W11.heap.size := by rw [hW11]; simp
      have hb1011 : Below w10.heap.size w10 W11 := by rw [hW11]; exact (Below.refl _ _).alloc (Nat.le_refl _) _
      have hb711 : Below W7.heap.size W7 W11 := HB9.out.trans ((hb10.mono hsz).trans (hb1011.mono (by omega)))
      have hk11 : W11.heap[w10.heap.size]? = some (.cells #[.slice r1 r2 r3, .slice r4 r5 r6] 26 (0, 0)) := by rw [hW11, new_blk]
      have htt : ∀ wx, Below W11.heap.size W11 wx → TreeIn wx wx.heap.size (.slice b1 b2 b3) (.slice b4 b5 b6) t := fun wx hx => HTW.out wx (hb711.trans (hx.mono (by omega)))
      have htx : TreeA W11 (.slice p1 p2 p3) (.slice p4 p5 p6) (Tr.goneT wide t ks) := HTX7.out.later hb711 (Nat.le_refl _)
      have hty : TreeA W11 (.slice r1 r2 r3) (.slice r4 r5 r6) (Tr.goneT wide t R) := (ho10.later hb1011 (Nat.le_refl _)).a
      have BOXS : Hid (∀ wx : World, Below W11.heap.size W11 wx → wx.heap[w2.heap.size]? = some (.cells #[.slice b1 b2 b3, .slice b4 b5 b6] 26 (0, 0)) ∧ wx.heap[w4.heap.size]? = some (.cells #[.slice p1 p2 p3, .slice p4 p5 p6] 26 (0, 0)) ∧ wx.heap[w10.heap.size]? = some (.cells #[.slice r1 r2 r3, .slice r4 r5 r6] 26 (0, 0))) :=
        Lib.hid (fun wx hx => ⟨(BOX7.out wx (hb711.trans (hx.mono (by omega)))).1, (BOX7.out wx (hb711.trans (hx.mono (by omega)))).2, (hx.block _ hs11).trans hk11⟩)
      have HTT := Lib.hid htt
      have HTX := Lib.hid htx
      have HTY := Lib.hid hty
      have hwx := Tr.goneT_weight wide t ks
      have hwy := Tr.goneT_weight wide t R
      have HF11 := Lib.hid (HF7.out.trans (hb711.mono (by have := HF7.out.size; omega)))
      have HW11 := Lib.hid hW11
      have hKT := Lib.hid (fun (wx : World) (hx : Below W11.heap.size W11 wx) => impl_keys_a (HTW7.out.later (hb711.trans (hx.mono (by omega))) (Nat.le_refl _)) hwt)
      clear ho10 hb10 hW11 hb1011 hb711 hk11 htt htx hty
      cases A with
      | false =>
        go_wp2_with fail
        rw [← HW11.out]
        go_ret
        exact ⟨rfl, HF11.out⟩
      | true =>
      have hask := HA.out.symm
      have hv : Tr.validB wide t = true := by simp only [Tr.askAll, Bool.and_eq_true] at hask; exact hask.1
      have HKK := Lib.hid (show (Tr.goneT wide t R).keys = (Tr.goneT wide t ks).keys by rw [HR.out]; exact Tr.gone_back hask)
      obtain ⟨K, hK⟩ : ∃ K, K = t.keys := ⟨_, rfl⟩
      obtain ⟨U, hU⟩ : ∃ U, U = K.reverse := ⟨_, rfl⟩
      have HUl : Hid (U.length = K.length) := Lib.hid (by rw [hU]; simp)
      have HUS : Hid (∀ j, j < K.length → U.take (j + 1) = U.take j ++ [K.getD (K.length - 1 - j) 0]) := Lib.hid (fun j hj => by rw [hU]; exact Tr.back_snoc hj)
      have hKl : K.length ≤ 100 := by rw [hK]; exact sorted_len (Tr.valid_keys hv)
      have HNONE : Hid (Tr.goneT wide t U = .mk [] []) := Lib.hid (Tr.gone_all hv (fun x hx => by rw [hU, hK]; simpa using hx) (by rw [hU, hK, Tr.ask_back]; exact Tr.all_ask hv))
      have hbx := (BOXS.out W11 (Below.refl _ _)).1
      have hbxx := hbx
      rw [HW11.out] at hbxx
      obtain ⟨x1, x2, x3, x4⟩ := box2 hbxx
      rw [← hK] at hKT
      clear hask hv hU hK hbx hbxx
      go_wp2_with fail
      rw [← HW11.out]
      refine (hKT.out W11 (Below.refl _ _)).mono ?_
      rintro e w12 ⟨v12, rfl, ho12, hb12⟩
      obtain ⟨ka, kc, rfl⟩ := IntsOwn.shown ho12
      have hs12 := hb12.size
      have HF12 := Lib.hid hb12
      have HIK := Lib.hid (IntsOwn.inB ho12 (Nat.le_refl _))
      have hal2 : Below w12.heap.size w12 (w12.alloc (.cells #[] 3)) := (Below.refl _ _).alloc (Nat.le_refl _) _
      have HL2 := Lib.hid (And.intro (World.ownsRow_made w12 #[] 0 (Nat.le_refl _) (by unfold maxLen; omega) rfl : IntsOwn (w12.alloc (.cells #[] 3)) w12.heap.size (.slice (some ⟨w12.heap.size, 0, none⟩) 0 0) []) hal2)
      clear ho12 hb12 hal2 x1 x2 x3 x4 HO9 hsz
      go_wp2_with fail
      go_loopw [15, 16] (fun sl i wr => ∃ (j : Nat), j ≤ K.length ∧ i = .int .i64 ((K.length : Int) - 1 - (j : Int)) ∧ IntsOwn wr w12.heap.size sl (U.take j) ∧ Below w12.heap.size w12 wr) (fun _ i _ => (intOf i + 1).toNat)
      case atStart => exact ⟨0, Nat.zero_le _, by simp, HL2.out.1, HL2.out.2⟩
      case round =>
        obtain ⟨j, hj, rfl, hown, hbel⟩ := hrel
        obtain ⟨oa2, oc2, rfl⟩ := IntsOwn.shown hown
        have hsz := hbel.size
        have HR9 := Lib.hid (And.intro hown hbel)
        clear hown hbel
        by_cases hlt : j < K.length
        · obtain ⟨q, hq⟩ : ∃ q : Nat, (K.length : Int) - 1 - (j : Int) = (q : Int) := ⟨K.length - 1 - j, by omega⟩
          have hqe : q = K.length - 1 - j := by omega
          have hin := HIK.out
          obtain ⟨_, _, hve, -, -, -, h3⟩ := hin
          simp only [Value.slice.injEq] at hve
          obtain ⟨rfl, -, -⟩ := hve
          rcases h3 with h | ⟨b, off, rfl, hb, hat⟩
          · simp [h] at hlt
          have ha := hat q (by omega)
          rw [← below_cell HR9.out.2 (by omega)] at ha
          obtain ⟨k, hk⟩ : ∃ k, k = K.getD q 0 := ⟨_, rfl⟩
          rw [← hk] at ha
          have hql : (q : Int) < (K.length : Int) := by omega
          have hq0 : (0 : Int) ≤ (q : Int) := by omega
          have hwr : IntKind.i64.wrap ((q : Int) - 1) = (q : Int) - 1 := by rw [IntKind.wrap_i64]; omega
          have hge : (q : Int) ≥ 0 := hq0
          have HO1 := Lib.hid (IntsOwn.alloc' HR9.out.1 (.cells #[.int .i64 k] 3))
          have HS := Lib.hid (IntsAt.one wr k)
          have hlo : w12.heap.size ≤ (wr.alloc (.cells #[.int .i64 k] 3)).heap.size := by simp; omega
          have htl : (U.take j).length = j := by rw [List.length_take]; have := HUl.out; omega
          obtain ⟨L, hL⟩ : ∃ L, L = U.take j := ⟨_, rfl⟩
          rw [← hL] at HO1 htl
          have HLN : Hid (L.length + [k].length ≤ 17592186044416) := Lib.hid (by simp; omega)
          have HE : Hid (L ++ [k] = U.take (j + 1)) := Lib.hid (by rw [hL, HUS.out j hlt, hk, hqe])
          rw [hq, ← hL]
          have HQ := Lib.hid (And.intro hq hqe)
          clear hat hk hL hq hqe
          go_wp2_with (at_builtin; refine wpList_append_ints rfl _ _ rfl w12.heap.size _ _ L [k] rfl HO1.out rfl HS.out HLN.out hlo ?_; intro v4 w9 hown9 hbel9 _ hsh9; obtain ⟨a9, c9, rfl⟩ := hsh9; generalize hL9 : L ++ [k] = L9 at hown9 ⊢; have HL9 := Lib.hid hL9; have HN := Lib.hid (And.intro hown9 hbel9); clear hown9 hbel9 hL9)
          go_roundw
          case rel =>
            have := HQ.out.1
            refine ⟨j + 1, by omega, by congr 1; omega, ?_, HR9.out.2.trans (((Below.refl _ _).alloc hsz _).trans HN.out.2)⟩
            rw [← HE.out, HL9.out]
            exact HN.out.1
          case measure =>
            have := HQ.out.1
            simp [intOf]
        · have hje : j = K.length := by omega
          have htk : U.take j = U := by rw [hje, ← HUl.out, List.take_length]
          have ho9 := HR9.out.1
          rw [htk] at ho9
          rw [htk]
          have hng : ¬ ((K.length : Int) - 1 - (j : Int) ≥ 0) := by omega
          have hjm : (K.length : Int) - 1 - (j : Int) = -1 := by omega
          rw [hjm]
          have HO9 := Lib.hid (IntsOwn.inB ho9 (Nat.le_refl _))
          have HB9 := Lib.hid HR9.out.2
          clear ho9 htk hje hng hjm hj hlt HR9
          have hbx := (BOXS.out wr (HF12.out.trans (HB9.out.mono hs12))).1
          obtain ⟨x1, x2, x3, x4⟩ := box2 hbx
          clear hbx
          go_wp2_with fail
          refine (impl_deleteAll (w := wr) (HTT.out wr (HF12.out.trans (HB9.out.mono (by have := HF12.out.size; omega)))) hwt HO9.out wide (by omega) (by omega) wr (Below.refl _ _) (Nat.le_refl _) (Nat.le_refl _)).mono ?_
          rintro e w14 ⟨k14, c14, P14, rfl, ho14, hb14⟩
          obtain ⟨g1, g2, g3, g4, g5, g6, rfl, rfl⟩ := ho14.tree.slices
          obtain ⟨rfl, rfl⟩ : g2 = 0 ∧ g5 = 0 := none_rows (by have h := ho14.tree; rw [HNONE.out] at h; exact h)
          have hs14 := hb14.size
          obtain ⟨W15, hW15⟩ : ∃ W15, W15 = w14.alloc (.cells #[.slice g1 0 g3, .slice g4 0 g6] 26) := ⟨_, rfl⟩
          have hb15 : Below w14.heap.size w14 W15 := by rw [hW15]; exact (Below.refl _ _).alloc (Nat.le_refl _) _
          have hs15 : w14.heap.size < W15.heap.size := by rw [hW15]; simp
          have hk15 : W15.heap[w14.heap.size]? = some (.cells #[.slice g1 0 g3, .slice g4 0 g6] 26 (0, 0)) := by rw [hW15, new_blk]
          have hbF : Below W11.heap.size W11 W15 := HF12.out.trans ((HB9.out.mono (by have := HF12.out.size; omega)).trans ((hb14.mono (by have := HF12.out.size; omega)).trans (hb15.mono (by have := HF12.out.size; omega))))
          have hsF := hbF.size
          have hx15 := BOXS.out W15 hbF
          have hkx := fun (wx : World) (hx : Below W15.heap.size W15 wx) => impl_keys_a (HTX.out.later (hbF.trans (hx.mono hsF)) (Nat.le_refl _)) hwx
          have hky := fun (wx : World) (hx : Below W15.heap.size W15 wx) => impl_keys_a (HTY.out.later (hbF.trans (hx.mono hsF)) (Nat.le_refl _)) hwy
          rw [HKK.out] at hky
          obtain ⟨KX, hKX⟩ : ∃ KX, KX = (Tr.goneT wide t ks).keys := ⟨_, rfl⟩
          rw [← hKX] at hkx hky
          have BOXD : Hid (∀ wx : World, Below W15.heap.size W15 wx → (wx.heap[w4.heap.size]? = some (.cells #[.slice p1 p2 p3, .slice p4 p5 p6] 26 (0, 0)) ∧ wx.heap[w10.heap.size]? = some (.cells #[.slice r1 r2 r3, .slice r4 r5 r6] 26 (0, 0))) ∧ wx.heap[w14.heap.size]? = some (.cells #[.slice g1 0 g3, .slice g4 0 g6] 26 (0, 0))) :=
            Lib.hid (fun wx hx => ⟨(BOXS.out wx (hbF.trans (hx.mono hsF))).2, (hx.block _ hs15).trans hk15⟩)
          have HKX := Lib.hid hkx
          have HKY := Lib.hid hky
          have HW15 := Lib.hid hW15
          have HFF := Lib.hid hbF
          clear ho14 hb14 hW15 hb15 hk15 hbF hx15 hkx hky hKX
          go_upto_region 23 with (fail)
          rw [← HW15.out]
          obtain ⟨x1, x2, -⟩ := box2 (BOXD.out W15 (Below.refl _ _)).1.1
          obtain ⟨x3, x4, -⟩ := box2 (BOXD.out W15 (Below.refl _ _)).1.2
          obtain ⟨x5, x6, -⟩ := box2 (BOXD.out W15 (Below.refl _ _)).2
          go_region_held3 (fun x => x.cell? ⟨w4.heap.size, 0, none⟩ = some (.slice p1 p2 p3) ∧ x.cell? ⟨w4.heap.size, 1, none⟩ = some (.slice p4 p5 p6) ∧ x.cell? ⟨w10.heap.size, 0, none⟩ = some (.slice r1 r2 r3) ∧ x.cell? ⟨w10.heap.size, 1, none⟩ = some (.slice r4 r5 r6) ∧ x.cell? ⟨w14.heap.size, 0, none⟩ = some (.slice g1 0 g3) ∧ x.cell? ⟨w14.heap.size, 1, none⟩ = some (.slice g4 0 g6))
            (first | exact ⟨x1, x2, x3, x4, x5, x6⟩ | exact ⟨z1, z2, z3, z4, z5, z6⟩ | exact ⟨q1, q2, q3, q4, q5, q6⟩ | exact ⟨j1, j2, j3, j4, j5, j6⟩ | go_keep)
            (first
              | (go_at_call 23; refine (ftSame_c _ _ _ w17 w17.heap.size (Nat.le_refl _) HO17.out.1 HO17.out.2).mono ?_; rintro e w18 ⟨rfl, hb18⟩; have hB18 : Below W15.heap.size W15 w18 := HB17.out.trans (hb18.mono (by have := HB17.out.size; omega)); obtain ⟨j1, j2, -⟩ := box2 (BOXD.out w18 hB18).1.1; obtain ⟨j3, j4, -⟩ := box2 (BOXD.out w18 hB18).1.2; obtain ⟨j5, j6, -⟩ := box2 (BOXD.out w18 hB18).2; have HB18 := Lib.hid hB18; clear hb18 hB18)
              | (go_at_call 21; refine (HKY.out _ HB16.out).mono ?_; rintro e w17 ⟨v17, rfl, ho17, hb17⟩; have ho16' := IntsOwn.later HO16.out hb17 (Nat.le_refl _); obtain ⟨va17, vc17, rfl⟩ := IntsOwn.shown ho17; have hB17 : Below W15.heap.size W15 w17 := HB16.out.trans (hb17.mono (by have := HB16.out.size; omega)); have HO17 := Lib.hid (And.intro (IntsOwn.inB ho16' (Nat.le_refl _)) (IntsOwn.inB ho17 (Nat.le_refl _))); obtain ⟨q1, q2, -⟩ := box2 (BOXD.out w17 hB17).1.1; obtain ⟨q3, q4, -⟩ := box2 (BOXD.out w17 hB17).1.2; obtain ⟨q5, q6, -⟩ := box2 (BOXD.out w17 hB17).2; have HB17 := Lib.hid hB17; clear hb17 hB17 ho17 ho16')
              | (go_at_call 21; refine (HKX.out _ (Below.refl _ _).drew).mono ?_; rintro e w16 ⟨v16, rfl, ho16, hb16⟩; obtain ⟨va16, vc16, rfl⟩ := IntsOwn.shown ho16; have hB16 : Below W15.heap.size W15 w16 := ((Below.refl _ _).drew).trans hb16; obtain ⟨z1, z2, -⟩ := box2 (BOXD.out w16 hB16).1.1; obtain ⟨z3, z4, -⟩ := box2 (BOXD.out w16 hB16).1.2; obtain ⟨z5, z6, -⟩ := box2 (BOXD.out w16 hB16).2; have HB16 := Lib.hid hB16; have HO16 := Lib.hid ho16; clear hb16 hB16 ho16))
          go_wp2_with fail
          go_ret
          exact ⟨rfl, HF11.out.trans ((HFF.out.trans (HB18.out.mono hsF)).mono (by have := HF11.out.size; omega))⟩
end Go.Proofs.Ytananonjomfpkaa

/- The statement on two orders of deletions, from the walk of its law. -/
namespace Go.Proofs.Ytananonjomfpkaa.fnTwoDeletesRowP
open Go.ChangeShapes Go.WideShapes Go.ChangeAt Go.RowKit
set_option linter.unusedVariables false

theorem own : ownKnob Try.prog.godebug = none := by kernel_rfl
theorem laidOut : laidOutB Try.prog = true := by kernel_rfl

set_option maxRecDepth 100000 in
set_option maxHeartbeats 1000000 in
theorem lifted (os : Os) (started : os.Started) (H : Type) (enc : TypeId × Value → H) :
    ReturnsInHanded {} Try.checked os 8 .any (Rows.fnTwoDeletesSpec.pre6 enc Try.prog Try.f8 Rows.fnTwoDeletesRow.domain false) (Rows.fnTwoDeletesSpec.post enc Try.prog Try.f8 false true false false) := by
  refine returnsInHanded_of_change (C := Try.checked) own started (by kernel_rfl) Try.func8
    (ChangeSpec.witness6 (enc := enc) (C := Try.checked) false ⟨#[], #[.slice none 0 0], []⟩ 8 (by kernel_rfl) (by kernel_rfl) (by kernel_rfl) (by kernel_rfl)) ?_
  intro W base args ds gs before hval0 hW hcnd _
  have hval : ∀ (j : Nat) t v, Try.f8.params[j]? = some t → args[j]? = some v → Value.okWide Try.prog W .any base t v := hval0
  have hW' := hW
  obtain ⟨p, q, hA0, hV, rfl, hfz, hnd⟩ := hW
  have hA : DataW.TrodAll enc Try.prog W 0 (fun _ => true) true Try.f8.params.toList args.toList ds p := hA0
  rw [Try.params8] at hA hval
  obtain ⟨v0, vs0, d0, ds0, p0, q0, hargs, rfl, rfl, h0, r0⟩ := trodAll_cons hA
  obtain ⟨rfl, rfl, rfl⟩ := trodAll_nil r0
  obtain rfl : args = #[v0] := by cases args; simp_all
  obtain ⟨rfl, rfl⟩ := trodVars_none hV
  obtain ⟨a0, len0, cap0, rfl⟩ := okWide_slice Try.underlying22 (hval 0 22 v0 rfl rfl)
  have k0 := h0
  have lt0 : ∀ x ∈ p0, x.block < W.heap.size := by obtain ⟨m, hm⟩ := k0; exact DataW.trod_lt m _ _ _ hm
  obtain ⟨bs0, hb0⟩ : ∃ bs, BytesIn W W.heap.size (.slice a0 len0 cap0) bs := by
    obtain ⟨fuel, hf⟩ := h0
    exact bytes_of_trod fuel (fun _ => rfl) hf
  clear hA0 hval0
  refine (fnTwoDeletes_c hb0).mono fun e W' ⟨he, bel⟩ => ?_
  subst he
  exact ⟨_, rfl, _, _, _, [], _, [], hW', trodAll_mk1 (shut_bool Try.underlying4 _), (trodAll_cons_mk (Below.trod laidOut (by kernel_rfl) (of_decide_eq_true (by kernel_rfl)) k0 bel lt0) trodAll_mk0), rfl, bel.frame _, fun h => by cases h⟩

theorem closed : joinedFacts Try.prog 8 Try.f8 Rows.fnTwoDeletesSpec Rows.fnTwoDeletesRow = true := by
  unfold joinedFacts
  exact band (band (band (band (band (band (band (by kernel_rfl) fact_enter) fact_lifts) fact_make) (by kernel_rfl)) (by kernel_rfl)) (by kernel_rfl)) (by kernel_rfl)

theorem over : Rows.fnTwoDeletesRow.holds Try.pinned (OpenSpec.ofChange Rows.fnTwoDeletesSpec) :=
  OpenClaim.holds_of_wide 8 Try.f8 rfl rfl rfl rfl rfl rfl rfl ⟨rfl, rfl, rfl, rfl, rfl⟩ rfl rfl rfl rfl rfl (by kernel_rfl) Try.func8 closed
    (of_decide_eq_true (by kernel_rfl)) (by unfold Func.isWrapper; first | (rw [if_pos (by decide +kernel)]; kernel_rfl) | (rw [if_neg (by decide +kernel)]; exact ⟨rfl, rfl⟩))
    (fun os started H enc _ => lifted os started H enc)
end Go.Proofs.Ytananonjomfpkaa.fnTwoDeletesRowP

/- For every slice of bytes, the law on two orders of deletions returns true and leaves its arguments as they were; no conditions. -/
namespace Go.Proofs.Ytananonjomfpkaa

theorem two_deletes_said : Rows.FnTwoDeletesSaid := fnTwoDeletesRowP.over
end Go.Proofs.Ytananonjomfpkaa
