/- The law on counts: the walk over the contracts. -/
import Derived.Test.YthiohdbcclbgkaaProg
import Derived.Test.YthiohdbcclbgkaaBase
import Derived.Test.YthiohdbcclbgkaaSpecTree
import Derived.Test.YthiohdbcclbgkaaAt
import Derived.Test.YthiohdbcclbgkaaTreeRow
import Derived.Test.YthiohdbcclbgkaaCountA
import Derived.Test.YthiohdbcclbgkaaFullA
import Derived.Test.YthiohdbcclbgkaaDepthA
import Derived.Test.YthiohdbcclbgkaaDrawTree
import Derived.Deep.DeepCutAuto
namespace Go.Proofs.Ythiohdbcclbgkaa
open Go.RowKit

set_option maxHeartbeats 2000000 in
set_option maxRecDepth 100000 in
theorem fnCounts_c {w : World} {v : Value} {bs : List Nat} (h : BytesIn w w.heap.size v bs) :
    Calls Try.prog 5 #[v] w fun e w' => e = .returned (.bool true) ∧ Below w.heap.size w w' := by
  have H := Lib.hid h
  obtain ⟨a1, c1, rfl, -⟩ := h
  by_cases hc1 : bs.length ≤ 1048576
  case neg =>
    have hc1' : ((bs.length : Int) > 1048576) := by omega
    go_enter Try.func5, Try.ntmps5
    go_wp2_with fail
    go_ret
    exact ⟨rfl, Below.refl _ _⟩
  have hc1' : ¬ ((bs.length : Int) > 1048576) := by omega
  have HD := Lib.hid (DrawFullNodes_c H.out w (Below.refl _ _) (Nat.le_refl _))
  go_enter Try.func5, Try.ntmps5
  go_wp2_with fail
  refine HD.out.mono ?_
  rintro e w2 ⟨k2, d2, t, wide, rfl, hwd1, hwd2, ht2, hw2, hb2⟩
  obtain ⟨ks, cs⟩ := t
  obtain ⟨ca, ccap, kvs, cvs, rfl, hik, hcl, hcc, hkat, hkk⟩ := ht2.parts
  obtain ⟨ka, kcap, rfl, -⟩ := id hik
  unfold maxLen at hcc
  have hs2 := hb2.size
  obtain ⟨W3, hW3⟩ : ∃ W3, W3 = w2.alloc (.cells #[.slice ka ks.length kcap, .slice ca cs.length ccap] 25) := ⟨_, rfl⟩
  have hs3 : w2.heap.size < W3.heap.size := by rw [hW3]; simp
  have hb3 : Below w2.heap.size w2 W3 := by rw [hW3]; exact (Below.refl _ _).alloc (Nat.le_refl _) _
  have hx3 : W3.heap[w2.heap.size]? = some (.cells #[.slice ka ks.length kcap, .slice ca cs.length ccap] 25 (0, 0)) := by rw [hW3, new_blk]
  have hta : TreeA w2 (.slice ka ks.length kcap) (.slice ca cs.length ccap) (.mk ks cs) := ht2.a (fun k hk => hk.2)
  have hta3 := hta.later hb3 (Nat.le_refl _)
  have hwt : (Tr.mk ks cs).weight ≤ 1048576 := by omega
  have hfl := Tr.full_le wide (.mk ks cs)
  have hdl := Tr.depth_le (.mk ks cs)
  have hct := Tr.count_le (.mk ks cs)
  simp only [Tr.weight] at hw2
  have hlw := Tr.length_le_weights cs
  have hcd : ((Tr.mk ks cs).count : Int) = 1 + (Tr.counts cs : Nat) := by simp [Tr.count]
  have hfd : ((Tr.mk ks cs).full wide : Int) = (if (ks.length : Int) = wide then 1 else 0) + (Tr.fulls wide cs : Nat) := by simp only [Tr.full]; split <;> simp
  obtain ⟨N, hN⟩ : ∃ N, N = (Tr.mk ks cs).count := ⟨_, rfl⟩
  obtain ⟨F, hF⟩ : ∃ F, F = (Tr.mk ks cs).full wide := ⟨_, rfl⟩
  obtain ⟨D, hD⟩ : ∃ D, D = (Tr.mk ks cs).depth := ⟨_, rfl⟩
  rw [← hN] at hfl hct hdl hcd
  rw [← hF] at hfl hfd
  rw [← hD] at hdl
  have C1 := fun (wx : World) (hx : Below W3.heap.size W3 wx) => impl_count_a (hta3.later hx (Nat.le_refl _)) hwt
  have C2 := fun (wx : World) (hx : Below W3.heap.size W3 wx) => impl_full_a (hta3.later hx (Nat.le_refl _)) hwt wide (by omega) (by omega)
  have C3 := fun (wx : World) (hx : Below W3.heap.size W3 wx) => impl_depth_a (hta3.later hx (Nat.le_refl _)) hwt
  have S1 := fun (wx : World) (hx : Below W3.heap.size W3 wx) => specCount_c hta3.tree hwt wx hx hx.size
  have S2 := fun (wx : World) (hx : Below W3.heap.size W3 wx) => specFull_c hta3.tree wide hwt wx hx hx.size
  rw [← hN] at C1 S1
  rw [← hF] at C2 S2
  rw [← hD] at C3
  have HC1 := Lib.hid C1
  have HC2 := Lib.hid C2
  have HC3 := Lib.hid C3
  have HS1 := Lib.hid S1
  have HS2 := Lib.hid S2
  have hx3x := hx3
  rw [hW3] at hx3x
  obtain ⟨x1, x2, x3, x4⟩ := box2 hx3x
  have HW3 := Lib.hid hW3
  have HKK := Lib.hid (And.intro hkat hkk)
  have HNF := Lib.hid (And.intro hcd hfd)
  have H3 := Lib.hid (And.intro (hb2.trans (hb3.mono (by omega))) (And.intro hx3 hb3))
  clear ht2 hb2 hW3 hb3 hx3 hx3x hta hta3 hik hkat hkk C1 C2 C3 S1 S2 hN hF hD hcd hfd
  go_wp2_with fail
  rw [← HW3.out]
  refine (HC1.out W3 (Below.refl _ _)).mono ?_
  rintro e w4 ⟨rfl, hb4⟩
  have hs4 := hb4.size
  have hx4 := (hb4.block _ (by omega)).trans H3.out.2.1
  clear x1 x2 x3 x4
  obtain ⟨x1, x2, x3, x4⟩ := box2 hx4
  have H4 := Lib.hid (And.intro hb4 hx4)
  clear hb4 hx4
  go_wp2_with fail
  refine (HC2.out w4 H4.out.1).mono ?_
  rintro e w5 ⟨rfl, hb5⟩
  have hs5 := hb5.size
  have hx5 := (hb5.block _ (by omega)).trans H4.out.2
  clear x1 x2 x3 x4
  obtain ⟨x1, x2, x3, x4⟩ := box2 hx5
  have H5 := Lib.hid (And.intro (H4.out.1.trans (hb5.mono (by omega))) hx5)
  clear hb5 hx5
  go_wp2_with fail
  refine (HS1.out w5 H5.out.1).mono ?_
  rintro e w6 ⟨rfl, hb6⟩
  have hs6 := hb6.size
  have hx6 := (hb6.block _ (by omega)).trans H5.out.2
  clear x1 x2 x3 x4
  obtain ⟨x1, x2, x3, x4⟩ := box2 hx6
  have H6 := Lib.hid (And.intro (H5.out.1.trans (hb6.mono (by omega))) hx6)
  clear hb6 hx6
  go_wp2_with fail
  refine (HS2.out w6 H6.out.1).mono ?_
  rintro e w7 ⟨rfl, hb7⟩
  have hs7 := hb7.size
  have hx7 := (hb7.block _ (by omega)).trans H6.out.2
  clear x1 x2 x3 x4
  obtain ⟨x1, x2, x3, x4⟩ := box2 hx7
  have H7 := Lib.hid (And.intro (H6.out.1.trans (hb7.mono (by omega))) hx7)
  clear hb7 hx7
  have hflt : ¬ (F : Int) > (N : Int) := by omega
  go_upto_if 44 with (fail)
  go_cut [8] (fun s8 wx => s8 = .int .i64 (if (ks.length : Int) = wide then 1 else 0) ∧ wx = w7)
  case first =>
    by_cases hq : (ks.length : Int) = wide
    · have hq' : ((ks.length : Int) == wide) = true := by simp [hq]
      go_wp2_with fail
      go_meet
      exact ⟨by rw [if_pos hq], rfl⟩
    · have hq' : ((ks.length : Int) == wide) = false := by simp [hq]
      go_wp2_with fail
      go_meet
      exact ⟨by rw [if_neg hq], rfl⟩
  case rest =>
    obtain ⟨rfl, hwc⟩ := hcut
    subst wc
    obtain ⟨q, hqd⟩ : ∃ q : Nat, (q : Int) = (if (ks.length : Int) = wide then 1 else 0) ∧ q ≤ 1 := by
      by_cases hq : (ks.length : Int) = wide
      · exact ⟨1, by rw [if_pos hq]; rfl, by omega⟩
      · exact ⟨0, by rw [if_neg hq]; rfl, by omega⟩
    have hnf := HNF.out
    rw [← hqd.1] at hnf
    rw [← hqd.1]
    have HQ := Lib.hid hnf
    have hq1 := hqd.2
    have hcsl := Tr.counts_le cs
    have hfsl : Tr.fulls wide cs ≤ Tr.counts cs := Tr.fulls_le wide cs
    clear hnf hqd
    go_wp2_with fail
    go_loopw [7, 8, 48] (fun s7 s8 i wr => ∃ j : Nat, j ≤ cs.length ∧ i = .int .i64 j ∧ s7 = .int .i64 (1 + (Tr.counts (cs.take j) : Nat) : Int) ∧ s8 = .int .i64 ((q : Int) + (Tr.fulls wide (cs.take j) : Nat)) ∧ Below W3.heap.size W3 wr ∧ wr.heap[w2.heap.size]? = some (.cells #[.slice ka ks.length kcap, .slice ca cs.length ccap] 25 (0, 0))) (fun _ _ i _ => cs.length - (intOf i).toNat)
    case atStart => exact ⟨0, Nat.zero_le _, rfl, by simp [Tr.counts], by simp [Tr.fulls], H7.out.1, H7.out.2⟩
    case round =>
      obtain ⟨j, hj, rfl, rfl, rfl, hbel, hbx⟩ := hrel
      by_cases hlt : j < cs.length
      · rcases HKK.out.1 with h | ⟨b, off, rfl, hb, hat⟩
        · omega
        obtain ⟨ha, hc⟩ := hat j hlt
        obtain ⟨e1, e2, e3, f1, f2, f3, g1, g2⟩ := (HKK.out.2 j hlt).slices
        have hbb : b < w2.heap.size := hb.1.2
        have h23 : Below w2.heap.size w2 wr := H3.out.2.2.trans (hbel.mono (by omega))
        rw [← below_cell h23 hbb] at ha hc
        have hz := hbel.size
        have hka : TreeA w2 (kvs j) (cvs j) cs[j] := (HKK.out.2 j hlt).a (fun k hk => hk.2)
        have hwj := Tr.weight_get_le cs j hlt
        have hts := Tr.counts_take_succ cs j hlt
        have htl := Tr.counts_take_le cs (j + 1)
        have hfs : Tr.fulls wide (cs.take (j + 1)) = Tr.fulls wide (cs.take j) + cs[j].full wide := Tr.fulls_take_succ wide cs j hlt
        have hfj := Tr.full_le wide cs[j]
        have hftl : Tr.fulls wide (cs.take j) ≤ Tr.counts (cs.take j) := Tr.fulls_le wide _
        obtain ⟨wx, hwx⟩ : ∃ wx, wx = wr.alloc (.cells #[kvs j, cvs j] 25) := ⟨_, rfl⟩
        have hbw : Below wr.heap.size wr wx := by rw [hwx]; exact (Below.refl _ _).alloc (Nat.le_refl _) _
        have hxw : wx.heap[wr.heap.size]? = some (.cells #[kvs j, cvs j] 25 (0, 0)) := by rw [hwx, new_blk]
        have hsw : wx.heap.size = wr.heap.size + 1 := by rw [hwx]; simp
        have hkx : TreeA wx (kvs j) (cvs j) cs[j] := hka.later (h23.trans (hbw.mono (by omega))) (Nat.le_refl _)
        have HCX := Lib.hid (impl_count_a hkx (by omega))
        have HFX := Lib.hid (fun (wy : World) (hy : Below wx.heap.size wx wy) => impl_full_a (hkx.later hy (Nat.le_refl _)) (by omega) wide (by omega) (by omega))
        have HWX := Lib.hid hwx
        have HX := Lib.hid (And.intro hbw (And.intro hxw hbx))
        have HR := Lib.hid (And.intro hts (And.intro hfs hbel))
        rw [g1, g2] at hwx HWX HX HCX HFX
        rw [g1] at ha
        rw [g2] at hc
        have kx := HX.out.2.1
        rw [hwx] at kx
        obtain ⟨z1, z2, z3, z4⟩ := box2 kx
        have hle : Tr.counts (cs.take j) + cs[j].count ≤ 1048576 := by omega
        obtain ⟨Cj, hCj⟩ : ∃ Cj, Cj = cs[j].count := ⟨_, rfl⟩
        obtain ⟨Fj, hFj⟩ : ∃ Fj, Fj = cs[j].full wide := ⟨_, rfl⟩
        rw [← hCj] at HCX hfj hle
        rw [← hFj] at HFX hfj
        have HCJ := Lib.hid (And.intro hCj hFj)
        clear hat hka hkx hts hfs hbel hbx hbw hxw hwx kx h23 hCj hFj g1 g2
        go_wp2_with fail
        rw [← HWX.out]
        refine HCX.out.mono ?_
        rintro e w8 ⟨rfl, hb8⟩
        have hs8 := hb8.size
        have kx8 := (hb8.block _ (by omega)).trans HX.out.2.1
        clear z1 z2 z3 z4
        obtain ⟨z1, z2, z3, z4⟩ := box2 kx8
        have H8 := Lib.hid hb8
        clear hb8 kx8
        go_wp2_with fail
        refine (HFX.out w8 H8.out).mono ?_
        rintro e w9 ⟨rfl, hb9⟩
        have H9 := Lib.hid (H8.out.trans (hb9.mono (by omega)))
        clear hb9
        go_wp2_with fail
        go_roundw
        case rel =>
          have hl9 := H9.out.size
          have hblr : w2.heap.size < wr.heap.size := Nat.lt_of_lt_of_le (by omega) hz
          exact ⟨j + 1, by omega, by go_num, by rw [HR.out.1, HCJ.out.1]; go_num, by rw [HR.out.2.1, HCJ.out.2]; go_num, HR.out.2.2.trans ((HX.out.1.mono hz).trans (H9.out.mono (by omega))), (H9.out.block _ (by omega)).trans ((HX.out.1.block _ hblr).trans HX.out.2.2)⟩
        case measure => simp [intOf]; omega
      · have hje : j = cs.length := by omega
        subst hje
        rw [List.take_length]
        have hjl : ¬ ((cs.length : Nat) : Int) < (cs.length : Int) := by omega
        have e1 : (1 + (Tr.counts cs : Nat) : Int) = (N : Int) := HQ.out.1.symm
        have e2 : ((q : Int) + (Tr.fulls wide cs : Nat)) = (F : Int) := HQ.out.2.symm
        rw [e1, e2]
        obtain ⟨x1, x2, x3, x4⟩ := box2 hbx
        have HB := Lib.hid hbel
        have hdn : (D : Int) ≤ (N : Int) := by omega
        clear hbel hbx e1 e2
        go_wp2_with fail
        refine (HC3.out wr HB.out).mono ?_
        rintro e w8 ⟨rfl, hb8⟩
        have H8 := Lib.hid (H3.out.1.trans ((HB.out.mono (by omega)).trans (hb8.mono (by have := HB.out.size; omega))))
        clear hb8
        go_wp2_with fail
        go_ret
        first | exact ⟨rfl, H8.out⟩ | exact ⟨ret_bool (by simp [hdn]), H8.out⟩
end Go.Proofs.Ythiohdbcclbgkaa
