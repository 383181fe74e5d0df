/- The law on parts of ranges: the walk over the contracts. -/
import Derived.Test.YtjnkdbgebkajoaaProg
import Derived.Test.YtjnkdbgebkajoaaSq0
import Derived.Test.YtjnkdbgebkajoaaAt
import Derived.Test.YtjnkdbgebkajoaaSq3
import Derived.Test.YtjnkdbgebkajoaaSq13
import Derived.Test.YtjnkdbgebkajoaaSq14
import Derived.Test.YtjnkdbgebkajoaaImRank
import Derived.Test.YtjnkdbgebkajoaaSq16
import Derived.Test.YtjnkdbgebkajoaaSq17
import Derived.Test.YtjnkdbgebkajoaaSq18
import Derived.Test.YtjnkdbgebkajoaaSq19
import Derived.Test.YtjnkdbgebkajoaaSq24
import Derived.Test.YtjnkdbgebkajoaaSq31
import Derived.Deep.RegionHeld3
namespace Go.Proofs.Ytjnkdbgebkajoaa
open Go.RowKit

set_option maxHeartbeats 8000000 in
set_option maxRecDepth 100000 in
theorem fnRangeParts_c {w : World} {v : Value} {bs : List Nat} (h : BytesIn w w.heap.size v bs) :
    Calls Try.prog 5 #[v] w fun e w' => e = .returned (.bool true) ∧ Below w.heap.size w w' := by
  have H := Lib.hid h
  obtain ⟨a1, c1, rfl, -⟩ := h
  by_cases hc1 : bs.length ≤ 1048576
  case neg =>
    have hc1' : ((bs.length : Int) > 1048576) := by omega
    go_enter Try.func5, Try.ntmps5
    go_wp2_with fail
    go_ret
    exact ⟨rfl, Below.refl _ _⟩
  have hc1' : ¬ ((bs.length : Int) > 1048576) := by omega
  have HD := Lib.hid (drawRange_c H.out w (Below.refl _ _) (Nat.le_refl _))
  go_enter Try.func5, Try.ntmps5
  go_wp2_with fail
  refine HD.out.mono ?_
  rintro e w2 ⟨k2, d2, t, low, high, rfl, ht2, hw2, hb2⟩
  obtain ⟨b1, b2, b3, b4, b5, b6, rfl, rfl⟩ := ht2.slices
  have hs2 := hb2.size
  obtain ⟨W3, hW3⟩ : ∃ W3, W3 = w2.alloc (.cells #[.slice b1 b2 b3, .slice b4 b5 b6] 26) := ⟨_, rfl⟩
  have hs3 : w2.heap.size < W3.heap.size := by rw [hW3]; simp
  have hb3 : Below w2.heap.size w2 W3 := by rw [hW3]; exact (Below.refl _ _).alloc (Nat.le_refl _) _
  have hx3 : W3.heap[w2.heap.size]? = some (.cells #[.slice b1 b2 b3, .slice b4 b5 b6] 26 (0, 0)) := by rw [hW3, new_blk]
  have hta3 : TreeA W3 (.slice b1 b2 b3) (.slice b4 b5 b6) t := (ht2.a (fun k hk => hk.2)).later hb3 (Nat.le_refl _)
  have hwt : t.weight ≤ 1048576 := by omega
  obtain ⟨S0, hS0⟩ : ∃ S0, S0 = IntKind.i64.wrap (low + high) := ⟨_, rfl⟩
  have hSb : -9223372036854775808 ≤ S0 ∧ S0 ≤ 9223372036854775807 := by rw [hS0, IntKind.wrap_i64]; omega
  obtain ⟨mid, hmid⟩ : ∃ mid, mid = Int.tdiv S0 2 := ⟨_, rfl⟩
  have hmb : -4611686018427387904 ≤ mid ∧ mid ≤ 4611686018427387903 := by
    rcases Int.le_total 0 S0 with h | h
    · rw [hmid, Int.tdiv_eq_ediv_of_nonneg h]; omega
    · rw [hmid, show S0 = -(-S0) by omega, Int.neg_tdiv, Int.tdiv_eq_ediv_of_nonneg (by omega)]; omega
  have hwm : IntKind.i64.wrap (Int.tdiv S0 2) = mid := by rw [← hmid, IntKind.wrap_i64]; omega
  have hw1 : IntKind.i64.wrap (mid + 1) = mid + 1 := by rw [IntKind.wrap_i64]; omega
  have hws : IntKind.i64.wrap (low + high) = S0 := hS0.symm
  obtain ⟨r0, hr0⟩ : ∃ r0, r0 = t.rankB 0 := ⟨_, rfl⟩
  have C1 := fun (wx : World) (hx : Below W3.heap.size W3 wx) => impl_rank hta3.tree hwt 0 wx hx hx.size
  have C2 := fun (wx : World) (hx : Below W3.heap.size W3 wx) => specRankOf_c hta3.tree hwt 0 wx hx hx.size
  have C3 := fun (l h : Int) (wx : World) (hx : Below W3.heap.size W3 wx) => impl_range hta3.tree hwt l h wx hx hx.size
  have C4 := fun (l h : Int) (wx : World) (hx : Below W3.heap.size W3 wx) => impl_rangeVisits hta3.tree hwt l h wx hx hx.size
  rw [← hr0] at C1 C2
  have HP := Lib.hid hr0
  have HC1 := Lib.hid C1
  have HC2 := Lib.hid C2
  have HC3 := Lib.hid C3
  have HC4 := Lib.hid C4
  have BOX : Hid (∀ wx : World, Below W3.heap.size W3 wx → wx.heap[w2.heap.size]? = some (.cells #[.slice b1 b2 b3, .slice b4 b5 b6] 26 (0, 0))) := Lib.hid (fun wx hx => (hx.block _ (by omega)).trans hx3)
  have HF := Lib.hid (hb2.trans (hb3.mono (by omega)))
  have hx3x := hx3
  rw [hW3] at hx3x
  obtain ⟨x1, x2, x3, x4⟩ := box2 hx3x
  have HW3 := Lib.hid hW3
  have hner : (r0 != r0) = false := by simp
  clear ht2 hb2 hW3 hb3 hx3 hx3x hta3 C1 C2 C3 C4 hr0 hmid hS0
  go_upto_region 5 with (fail)
  rw [← HW3.out]
  clear x1 x2 x3 x4 hwm hws hSb
  obtain ⟨x1, x2, x3, x4⟩ := box2 (BOX.out W3 (Below.refl _ _))
  go_region_held3 (fun x => x.cell? ⟨w2.heap.size, 0, none⟩ = some (.slice b1 b2 b3) ∧ x.cell? ⟨w2.heap.size, 1, none⟩ = some (.slice b4 b5 b6))
    (first | exact ⟨x1, x2⟩ | exact ⟨z1, z2⟩ | exact ⟨q1, q2⟩ | go_keep)
    (first
      | (go_at_call 30; refine (HC1.out _ (Below.refl _ _).drew).mono ?_; rintro e w4 ⟨rfl, hb4⟩; have hB4 : Below W3.heap.size W3 w4 := ((Below.refl _ _).drew).trans hb4; obtain ⟨z1, z2, -⟩ := box2 (BOX.out w4 hB4); have H4 := Lib.hid hB4; clear hb4 hB4)
      | (go_at_call 32; refine (HC2.out _ H4.out).mono ?_; rintro e w5 ⟨rfl, hb5⟩; have hB5 : Below W3.heap.size W3 w5 := H4.out.trans (hb5.mono (by have := H4.out.size; omega)); obtain ⟨q1, q2, -⟩ := box2 (BOX.out w5 hB5); have H5 := Lib.hid hB5; clear hb5 hB5)
      | fail)
  clear x1 x2 x3 x4 z1 z2 q1 q2 hner
  obtain ⟨x1, x2, x3, x4⟩ := box2 (BOX.out w5 H5.out)
  go_wp2_with fail
  refine (HC1.out w5 H5.out).mono ?_
  rintro e w6 ⟨rfl, hb6⟩
  have H6 := Lib.hid (H5.out.trans (hb6.mono (by have := H5.out.size; omega)))
  clear hb6 x1 x2 x3 x4
  obtain ⟨x1, x2, x3, x4⟩ := box2 (BOX.out w6 H6.out)
  have HF6 := Lib.hid (HF.out.trans (H6.out.mono (by have := HF.out.size; omega)))
  by_cases hneg : r0 < 0
  · go_wp2_with fail
    go_ret
    exact ⟨rfl, HF6.out⟩
  by_cases hlm : low > mid
  · go_wp2_with fail
    go_ret
    exact ⟨rfl, HF6.out⟩
  by_cases hmh : mid ≥ high
  · go_wp2_with fail
    go_ret
    exact ⟨rfl, HF6.out⟩
  have hsome := Tr.rank_some (t := t) (key := 0) (by rw [← HP.out]; omega)
  have hwl := Tr.Well.of_some hsome
  have hcat : t.rangeB low mid ++ t.rangeB (mid + 1) high = t.rangeB low high := by
    simp only [Tr.rangeB, if_pos hsome]
    exact rangeL_split (by omega) (by omega) hwl.2
  have hv1 : t.rvB low mid ≤ t.rvB low high := by
    rw [(Tr.rvB_is low mid t).1 hsome (by omega), (Tr.rvB_is low high t).1 hsome (by omega)]
    have := Tr.rv_mono (low := low) (low' := low) (high := high) (high' := mid) (by omega) (by omega) t.weight t (Nat.le_refl _)
    omega
  have hv2 : t.rvB (mid + 1) high ≤ t.rvB low high := by
    rw [(Tr.rvB_is (mid + 1) high t).1 hsome (by omega), (Tr.rvB_is low high t).1 hsome (by omega)]
    have := Tr.rv_mono (low := low) (low' := mid + 1) (high := high) (high' := high) (by omega) (by omega) t.weight t (Nat.le_refl _)
    omega
  have hl1 := rangeB_len low mid t
  have hl2 := rangeB_len (mid + 1) high t
  have D1 := fun (wx : World) (hx : Below W3.heap.size W3 wx) => HC4.out low mid wx hx
  have D2 := fun (wx : World) (hx : Below W3.heap.size W3 wx) => HC4.out low high wx hx
  have D3 := fun (wx : World) (hx : Below W3.heap.size W3 wx) => HC4.out (mid + 1) high wx hx
  have E1 := fun (wx : World) (hx : Below W3.heap.size W3 wx) => HC3.out low mid wx hx
  have E2 := fun (wx : World) (hx : Below W3.heap.size W3 wx) => HC3.out (mid + 1) high wx hx
  obtain ⟨g1, hg1⟩ : ∃ g, g = t.rvB low mid := ⟨_, rfl⟩
  obtain ⟨g2, hg2⟩ : ∃ g, g = t.rvB low high := ⟨_, rfl⟩
  obtain ⟨g3, hg3⟩ : ∃ g, g = t.rvB (mid + 1) high := ⟨_, rfl⟩
  obtain ⟨LA, hLA⟩ : ∃ g, g = t.rangeB low mid := ⟨_, rfl⟩
  obtain ⟨LB, hLB⟩ : ∃ g, g = t.rangeB (mid + 1) high := ⟨_, rfl⟩
  rw [← hg1] at D1 hv1
  rw [← hg2] at D2 hv1 hv2
  rw [← hg3] at D3 hv2
  rw [← hLA] at E1 hcat hl1
  rw [← hLB] at E2 hcat hl2
  have HX := Lib.hid (And.intro hcat (And.intro hwt (And.intro hw2 (And.intro (show LA.length ≤ 1048576 by omega) (show LB.length ≤ 1048576 by omega)))))
  have D1 := Lib.hid D1
  have D2 := Lib.hid D2
  have D3 := Lib.hid D3
  have E1 := Lib.hid E1
  have E2 := Lib.hid E2
  clear hg1 hg2 hg3 hLA hLB hcat hl1 hl2 hsome hwl
  go_upto_region 9 with (fail)
  go_region_held3 (fun x => x.cell? ⟨w2.heap.size, 0, none⟩ = some (.slice b1 b2 b3) ∧ x.cell? ⟨w2.heap.size, 1, none⟩ = some (.slice b4 b5 b6))
    (first | exact ⟨x1, x2⟩ | exact ⟨z1, z2⟩ | exact ⟨q1, q2⟩ | go_keep)
    (first
      | (go_at_call 24; refine (E2.out _ H8.out).mono ?_; rintro e w9 ⟨v9, rfl, ho9, hb9⟩; obtain ⟨kb, kd, rfl⟩ := ho9.shown; have hB9 : Below W3.heap.size W3 w9 := H8.out.trans (hb9.mono (by have := H8.out.size; omega)); obtain ⟨q1, q2, -⟩ := box2 (BOX.out w9 hB9); have HO9 := Lib.hid (And.intro ((HO8.out.later hb9 (Nat.le_refl _)).inB (Nat.le_refl _)) (ho9.inB (Nat.le_refl _))); have H9 := Lib.hid hB9; clear hb9 hB9 ho9)
      | (go_at_call 24; refine (E1.out _ H6.out.drew).mono ?_; rintro e w8 ⟨v8, rfl, ho8, hb8⟩; obtain ⟨ka, kc, rfl⟩ := ho8.shown; have hB8 : Below W3.heap.size W3 w8 := H6.out.drew.trans (hb8.mono (by have := H6.out.size; simp; omega)); obtain ⟨z1, z2, -⟩ := box2 (BOX.out w8 hB8); have HO8 := Lib.hid ho8; have H8 := Lib.hid hB8; clear hb8 hB8 ho8)
      | fail)
  clear x1 x2 x3 x4 z1 z2 q1 q2
  obtain ⟨x1, x2, x3, x4⟩ := box2 (BOX.out w9 H9.out)
  go_upto_region 10 with (fail)
  go_region_held3 (fun x => x.cell? ⟨w2.heap.size, 0, none⟩ = some (.slice b1 b2 b3) ∧ x.cell? ⟨w2.heap.size, 1, none⟩ = some (.slice b4 b5 b6))
    (first | exact ⟨x1, x2⟩ | exact ⟨p1, p2⟩ | exact ⟨l1, l2⟩ | exact ⟨m1, m2⟩ | exact ⟨n1, n2⟩ | exact ⟨o1, o2⟩ | exact ⟨u1, u2⟩ | exact ⟨s1, s2⟩ | exact ⟨y1, y2⟩ | go_keep)
    (first
      | (go_at_call 25; refine (D2.out _ H16.out).mono ?_; rintro e w17 ⟨rfl, hb17⟩; have hB17 : Below W3.heap.size W3 w17 := H16.out.trans (hb17.mono (by have := H16.out.size; omega)); obtain ⟨y1, y2, -⟩ := box2 (BOX.out w17 hB17); have H17 := Lib.hid hB17; clear hb17 hB17)
      | (go_at_call 25; refine (D3.out _ H15.out).mono ?_; rintro e w16 ⟨rfl, hb16⟩; have hB16 : Below W3.heap.size W3 w16 := H15.out.trans (hb16.mono (by have := H15.out.size; omega)); obtain ⟨s1, s2, -⟩ := box2 (BOX.out w16 hB16); have H16 := Lib.hid hB16; clear hb16 hB16)
      | (go_at_call 25; refine (D2.out _ H14.out).mono ?_; rintro e w15 ⟨rfl, hb15⟩; have hB15 : Below W3.heap.size W3 w15 := H14.out.trans (hb15.mono (by have := H14.out.size; omega)); obtain ⟨u1, u2, -⟩ := box2 (BOX.out w15 hB15); have H15 := Lib.hid hB15; clear hb15 hB15)
      | (go_at_call 25; refine (D1.out _ H13.out).mono ?_; rintro e w14 ⟨rfl, hb14⟩; have hB14 : Below W3.heap.size W3 w14 := H13.out.trans (hb14.mono (by have := H13.out.size; omega)); obtain ⟨o1, o2, -⟩ := box2 (BOX.out w14 hB14); have H14 := Lib.hid hB14; clear hb14 hB14)
      | (go_at_call 26; refine (ftSame_c L11 _ _ w12 w12.heap.size (Nat.le_refl _) (IntsOwn.inB HO12.out.1 (Nat.le_refl _)) (by have h1 := HO12.out.2.inB (Nat.le_refl _); have h2 : L11 = t.rangeB low high := (by rw [← HO11.out.2, ← H10.out.2.1]; simpa using HX.out.1); rw [h2]; exact h1)).mono ?_; rintro e w13 ⟨rfl, hb13⟩; have hB13 : Below W3.heap.size W3 w13 := H12.out.trans (hb13.mono (by have := H12.out.size; omega)); obtain ⟨n1, n2, -⟩ := box2 (BOX.out w13 hB13); have H13 := Lib.hid hB13; clear hb13 hB13)
      | (go_at_call 24; refine (HC3.out low high _ H11.out).mono ?_; rintro e w12 ⟨v12, rfl, ho12, hb12⟩; obtain ⟨ma, mc, rfl⟩ := ho12.shown; have hB12 : Below W3.heap.size W3 w12 := H11.out.trans (hb12.mono (by have := H11.out.size; omega)); obtain ⟨m1, m2, -⟩ := box2 (BOX.out w12 hB12); have HO12 := Lib.hid (And.intro (IntsOwn.later HO11.out.1 hb12 (Nat.le_refl _)) ho12); have H12 := Lib.hid hB12; clear ho12 hb12 hB12)
      | ((refine step_append_ints (by rfl) (.tmp 51) (.tmp 52) (by rfl) w9.heap.size (.slice a10 L10.length c10) (.slice kb LB.length kd) L10 LB (by rfl) H10.out.1 (by rfl) (IntsIn.later HO9.out.2 H10.out.2.2.1 (Nat.le_refl _)).at (by have h1 := H10.out.2.1; have h2 := HX.out.2.2.2; rw [← h1]; simp <;> omega) H10.out.2.2.1.size ?_; intro v11 w11 hown11 hbel11 hgrow11 hsh11; obtain ⟨a11, c11, rfl⟩ := hsh11; generalize hL11 : L10 ++ LB = L11 at hown11 ⊢; have hbB : Below w9.heap.size w9 w11 := H10.out.2.2.1.trans hbel11; have hBW : Below W3.heap.size W3 w11 := H9.out.trans (hbB.mono (by have := H9.out.size; omega)); obtain ⟨l1, l2, -⟩ := box2 (BOX.out w11 hBW); have HO11 := Lib.hid (And.intro hown11 hL11); have H11 := Lib.hid hBW; clear hown11 hbel11 hgrow11 hL11 hbB hBW))
      | ((refine step_append_ints (by rfl) (.tmp 49) (.tmp 50) (by rfl) w9.heap.size (.slice (some ⟨_, 0, none⟩) 0 0) (.slice ka LA.length kc) [] LA (by rfl) (made1 w9) (by rfl) (IntsIn.later HO9.out.1 ((Below.refl w9.heap.size w9).alloc (Nat.le_refl _) _).drew (Nat.le_refl _)).at (by have := HX.out.2.2.2.1; simp <;> omega) (by simp <;> omega) ?_; intro v10 w10 hown10 hbel10 hgrow10 hsh10; obtain ⟨a10, c10, rfl⟩ := hsh10; generalize hL10 : ([] : List Int) ++ LA = L10 at hown10 ⊢; have hbB : Below w9.heap.size w9 w10 := Below.trans ((Below.refl w9.heap.size w9).alloc (Nat.le_refl _) _).drew hbel10; have hBW : Below W3.heap.size W3 w10 := H9.out.trans (hbB.mono (by have := H9.out.size; omega)); obtain ⟨p1, p2, -⟩ := box2 (BOX.out w10 hBW); have H10 := Lib.hid (And.intro hown10 (And.intro hL10 (And.intro hbB hBW))); clear hown10 hbel10 hgrow10 hL10 hbB hBW))
      | fail)
  go_wp2_with fail
  go_ret
  first
    | exact ⟨rfl, HF.out.trans (H17.out.mono (by have := HF.out.size; omega))⟩
    | exact ⟨ret_bool (by simp [*]), HF.out.trans (H17.out.mono (by have := HF.out.size; omega))⟩
end Go.Proofs.Ytjnkdbgebkajoaa
