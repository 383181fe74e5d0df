/- The model's shape of a coloured tree: l10Is, l10Red, l10Shape. -/
import Derived.Test.YtodcapgmhginoaaProg
import Derived.Test.YtodcapgmhginoaaBdS0
import Derived.Test.YtodcapgmhginoaaBdS2
import Derived.Test.YtodcapgmhginoaaBdS4
import Derived.Deep.QuietTactic
import Derived.BigQuiet
import Derived.WalkKit
namespace Go.Proofs.Ytodcapgmhginoaa
open Go.RowKit

theorem Bt.shape_le : ∀ (t : Bt) (n : Nat), t.shape = some n → n ≤ t.weight
  | .mk k r [], n, h => by
    simp only [Bt.shape] at h
    split at h
    · cases h; exact Nat.zero_le _
    · cases h
  | .mk k r [a, b], n, h => by
    simp only [Bt.shape] at h
    cases ha : a.shape with
    | none => rw [ha] at h; cases h
    | some x =>
      cases hb : b.shape with
      | none => rw [ha, hb] at h; cases h
      | some y =>
        have := Bt.shape_le a x ha
        rw [ha, hb] at h
        simp only at h
        split at h
        · cases h
        · simp only [Option.some.injEq] at h
          simp only [Bt.weight, Bt.weights]
          split at h <;> omega
  | .mk _ _ [_], n, h => by simp [Bt.shape] at h
  | .mk _ _ (_ :: _ :: _ :: _), n, h => by simp [Bt.shape] at h

theorem l10Is_c (kk : Int) (kr : Bool) (a : Option Addr) (n c : Nat) (W : World) :
    Calls Try.prog 100 #[.agg #[.int .i64 kk, .bool kr, .slice a n c]] W fun e W' => e = .returned (.bool ((n : Int) == 2)) ∧ Below W.heap.size W W' := by
  go_enter Try.func100, Try.ntmps100
  go_wp2_with fail
  go_ret
  exact ⟨rfl, (Below.refl _ _).alloc (Nat.le_refl _) _⟩

theorem l10Red_c (kk : Int) (kr : Bool) (a : Option Addr) (n c : Nat) (W : World) :
    Calls Try.prog 85 #[.agg #[.int .i64 kk, .bool kr, .slice a n c]] W fun e W' => e = .returned (.bool (((n : Int) == 2) && kr)) ∧ Below W.heap.size W W' := by
  obtain ⟨W1, hW1⟩ : ∃ W1, W1 = W.alloc (.cells #[.int .i64 kk, .bool kr, .slice a n c] 48) := ⟨_, rfl⟩
  have hs1 : W1.heap.size = W.heap.size + 1 := by rw [hW1]; simp
  have hb1 : Below W.heap.size W W1 := by rw [hW1]; exact (Below.refl _ _).alloc (Nat.le_refl _) _
  have k1 : W1.heap[W.heap.size]? = some (.cells #[.int .i64 kk, .bool kr, .slice a n c] 48 (0, 0)) := by rw [hW1, new_blk]
  obtain ⟨x1, x2, x3, x4, x5, x6⟩ := box3 k1
  obtain ⟨q, hq⟩ : ∃ q, q = ((n : Int) == 2) := ⟨_, rfl⟩
  have hI := l10Is_c kk kr a n c W1
  rw [← hq] at hI ⊢
  have HI := Lib.hid hI
  have HW1 := Lib.hid hW1
  have H1 := Lib.hid (And.intro hb1 k1)
  clear hI hW1 hb1 k1 hq
  cases q with
  | false =>
    rw [Bool.false_and]
    go_enter Try.func85, Try.ntmps85
    go_wp2_with fail
    rw [← HW1.out]
    refine HI.out.mono ?_
    rintro e W2 ⟨rfl, hb2⟩
    have H2 := Lib.hid (H1.out.1.trans (hb2.mono (by omega)))
    clear hb2
    go_wp2_with fail
    go_ret
    exact ⟨rfl, H2.out⟩
  | true =>
    rw [Bool.true_and]
    go_enter Try.func85, Try.ntmps85
    go_wp2_with fail
    rw [← HW1.out]
    refine HI.out.mono ?_
    rintro e W2 ⟨rfl, hb2⟩
    clear x1 x2 x3 x4 x5 x6
    obtain ⟨x1, x2, x3, x4, x5, x6⟩ := box3 ((hb2.block W.heap.size (by omega)).trans H1.out.2)
    have H2 := Lib.hid (H1.out.1.trans (hb2.mono (by omega)))
    clear hb2
    go_wp2_with fail
    go_ret
    exact ⟨rfl, H2.out⟩
-- SHAPE
set_option maxHeartbeats 2000000 in
set_option maxRecDepth 100000 in
theorem l10Shape_c {w : World} {B : Nat} {cv : Value} {t : Bt} (ht : BinIn w B cv t) (hw : t.weight ≤ 1048576) :
    ∀ w', Below B w w' → B ≤ w'.heap.size →
    Calls Try.prog 84 #[.agg #[.int .i64 t.key, .bool t.red, cv]] w' fun e w'' => e = .returned (.tuple #[.int .i64 (t.shape.getD 0), .bool t.shape.isSome]) ∧ Below w'.heap.size w' w'' := by
  induction ht with
  | mk key red cs a cap cvs hlen hcap hat hkids ih =>
    intro w' hbw hB
    simp only [Bt.weight] at hw
    unfold maxLen at hcap
    show Calls Try.prog 84 #[.agg #[.int .i64 key, .bool red, .slice a cs.length cap]] w' _
    obtain ⟨L, hL⟩ : ∃ L : Nat, L = cs.length := ⟨_, rfl⟩
    rw [← hL]
    obtain ⟨W1, hW1⟩ : ∃ W1, W1 = w'.alloc (.cells #[.int .i64 key, .bool red, .slice a L cap] 48) := ⟨_, rfl⟩
    have hs1 : W1.heap.size = w'.heap.size + 1 := by rw [hW1]; simp
    have hb1 : Below w'.heap.size w' W1 := by rw [hW1]; exact (Below.refl _ _).alloc (Nat.le_refl _) _
    have k1 : W1.heap[w'.heap.size]? = some (.cells #[.int .i64 key, .bool red, .slice a L cap] 48 (0, 0)) := by rw [hW1, new_blk]
    obtain ⟨x1, x2, x3, -⟩ := box3 k1
    have HW1 := Lib.hid hW1
    have H1 := Lib.hid (And.intro hb1 k1)
    have HBW := Lib.hid hbw
    clear hb1
    rcases cs with _ | ⟨c0, _ | ⟨c1, _ | ⟨c2, q⟩⟩⟩
    · obtain rfl : L = 0 := hL
      clear hat ih hkids hbw k1
      rw [hW1] at x1 x2 x3
      clear hW1
      cases red with
      | true =>
        have hr : (Bt.mk key true []).shape = none := by simp [Bt.shape]
        rw [hr]
        by_cases hk : key = 0
        · have hz : (key == 0) = true := by simp [hk]
          clear hk
          go_enter Try.func84, Try.ntmps84
          go_wp2_with fail
          go_quiet (fail)
          go_wp2_with fail
          rw [← HW1.out]
          refine bodyPost_ret (v := .tuple #[.int .i64 0, .bool false]) (by simp [results, Try.results84, go_sem]) rfl ⟨?_, (H1.out.1.trans ⟨rfl, rfl, rfl, Nat.le_refl _, fun _ _ => rfl⟩)⟩
          rfl
        · have hz : (key == 0) = false := by simp [hk]
          clear hk
          go_enter Try.func84, Try.ntmps84
          go_wp2_with fail
          go_quiet (fail)
          go_wp2_with fail
          rw [← HW1.out]
          refine bodyPost_ret (v := .tuple #[.int .i64 0, .bool false]) (by simp [results, Try.results84, go_sem]) rfl ⟨?_, (H1.out.1.trans ⟨rfl, rfl, rfl, Nat.le_refl _, fun _ _ => rfl⟩)⟩
          rfl
      | false =>
        by_cases hk : key = 0
        · have hr : (Bt.mk key false []).shape = some 0 := by simp [Bt.shape, hk]
          rw [hr]
          have hz : (key == 0) = true := by simp [hk]
          clear hk
          go_enter Try.func84, Try.ntmps84
          go_wp2_with fail
          go_quiet (fail)
          go_wp2_with fail
          rw [← HW1.out]
          refine bodyPost_ret (v := .tuple #[.int .i64 0, .bool true]) (by simp [results, Try.results84, go_sem]) rfl ⟨?_, (H1.out.1.trans ⟨rfl, rfl, rfl, Nat.le_refl _, fun _ _ => rfl⟩)⟩
          rfl
        · have hr : (Bt.mk key false []).shape = none := by simp [Bt.shape, hk]
          rw [hr]
          have hz : (key == 0) = false := by simp [hk]
          clear hk
          go_enter Try.func84, Try.ntmps84
          go_wp2_with fail
          go_quiet (fail)
          go_wp2_with fail
          rw [← HW1.out]
          refine bodyPost_ret (v := .tuple #[.int .i64 0, .bool false]) (by simp [results, Try.results84, go_sem]) rfl ⟨?_, (H1.out.1.trans ⟨rfl, rfl, rfl, Nat.le_refl _, fun _ _ => rfl⟩)⟩
          rfl
    · obtain rfl : L = 1 := hL
      clear hat ih hkids hbw k1
      rw [hW1] at x1 x2 x3
      clear hW1
      rw [show (Bt.mk key red [c0]).shape = none by simp [Bt.shape]]
      go_enter Try.func84, Try.ntmps84
      go_wp2_with fail
      rw [← HW1.out]
      refine bodyPost_ret (v := .tuple #[.int .i64 0, .bool false]) (by simp [results, Try.results84, go_sem]) rfl ⟨?_, H1.out.1⟩
      rfl
    · obtain rfl : L = 2 := hL
      obtain ⟨b, off, rfl, hb, hat⟩ := hat.resolve_left (by simp)
      obtain ⟨ha0, hr0, hc0⟩ := hat 0 (by simp)
      obtain ⟨ha1, hr1, hc1⟩ := hat 1 (by simp)
      simp only [List.getElem_cons_zero, List.getElem_cons_succ, Nat.zero_mul, Nat.one_mul, Nat.add_zero] at ha0 hr0 hc0 ha1 hr1 hc1
      have hbw1 : Below B w W1 := hbw.trans (H1.out.1.mono hB)
      rw [← below_cell hbw1 hb] at ha0 hr0 hc0 ha1 hr1 hc1
      obtain ⟨a2, n2, c2', e2, -⟩ := (hkids 0 (by simp)).parts
      obtain ⟨a3, n3, c3', e3, -⟩ := (hkids 1 (by simp)).parts
      have hw0 : c0.weight ≤ 1048576 := by simp only [Bt.weights] at hw; omega
      have hw1 : c1.weight ≤ 1048576 := by simp only [Bt.weights] at hw; omega
      have hih0 := ih 0 (by simp) hw0
      have hih1 := ih 1 (by simp) hw1
      simp only [List.getElem_cons_zero, List.getElem_cons_succ] at hih0 hih1 e2 e3
      rw [e2] at hih0 hc0
      rw [e3] at hih1 hc1
      have hbl : b < W1.heap.size := by omega
      have hcat : ∀ wx : World, Below (w'.heap.size + 1) W1 wx → wx.cell? ⟨w'.heap.size, 0, none⟩ = some (.int .i64 key) ∧ wx.cell? ⟨w'.heap.size, 1, none⟩ = some (.bool red) ∧ wx.cell? ⟨w'.heap.size, 2, none⟩ = some (.slice (some ⟨b, off, none⟩) 2 cap) ∧
          wx.cell? ⟨b, off, none⟩ = some (.int .i64 c0.key) ∧ wx.cell? ⟨b, off + 1, none⟩ = some (.bool c0.red) ∧ wx.cell? ⟨b, off + 2, none⟩ = some (.slice a2 c0.cs.length n2) ∧
          wx.cell? ⟨b, off + 3, none⟩ = some (.int .i64 c1.key) ∧ wx.cell? ⟨b, off + 3 + 1, none⟩ = some (.bool c1.red) ∧ wx.cell? ⟨b, off + 3 + 2, none⟩ = some (.slice a3 c1.cs.length n3) := fun wx hx => by
        obtain ⟨g0, g1, g2, -⟩ := box3 ((hx.block w'.heap.size (by omega)).trans k1)
        have hbx : b < w'.heap.size + 1 := by omega
        exact ⟨g0, g1, g2, (below_cell hx hbx).trans ha0, (below_cell hx hbx).trans hr0, (below_cell hx hbx).trans hc0, (below_cell hx hbx).trans ha1, (below_cell hx hbx).trans hr1, (below_cell hx hbx).trans hc1⟩
      have hsl0 := Bt.shape_le c0
      have hsl1 := Bt.shape_le c1
      obtain ⟨k0, hk0⟩ : ∃ k, k = c0.key := ⟨_, rfl⟩
      obtain ⟨r0, hr0'⟩ : ∃ r, r = c0.red := ⟨_, rfl⟩
      obtain ⟨m0, hm0⟩ : ∃ m, m = c0.cs.length := ⟨_, rfl⟩
      obtain ⟨kk1, hk1⟩ : ∃ k, k = c1.key := ⟨_, rfl⟩
      obtain ⟨rr1, hr1'⟩ : ∃ r, r = c1.red := ⟨_, rfl⟩
      obtain ⟨m1, hm1⟩ : ∃ m, m = c1.cs.length := ⟨_, rfl⟩
      have hq0 : c0.redN = (((m0 : Int) == 2) && r0) := by unfold Bt.redN; rw [hm0, hr0']; congr 1; rw [Bool.eq_iff_iff]; simp; omega
      have hq1 : c1.redN = (((m1 : Int) == 2) && rr1) := by unfold Bt.redN; rw [hm1, hr1']; congr 1; rw [Bool.eq_iff_iff]; simp; omega
      rw [← hk0, ← hr0', ← hm0] at hih0
      rw [← hk1, ← hr1', ← hm1] at hih1
      simp only [← hk0, ← hr0', ← hm0, ← hk1, ← hr1', ← hm1] at hcat
      have HC := Lib.hid hcat
      have HQ := Lib.hid (And.intro hq0 hq1)
      clear hat ih hkids hbw hbw1 k1 ha0 hr0 hc0 ha1 hr1 hc1 e2 e3 hcat hk0 hr0' hm0 hk1 hr1' hm1 hq0 hq1 hlen
      obtain ⟨x1, x2, x3, p1, p2, p3, r1, r2, r3⟩ := HC.out W1 (Below.refl _ _)
      rw [hW1] at x1 x2 x3 p1 p2 p3 r1 r2 r3
      clear hW1 hbl
      cases h0 : c0.shape with
      | none =>
        have hr : (Bt.mk key red [c0, c1]).shape = none := by simp [Bt.shape, h0]
        rw [hr]
        rw [h0] at hih0
        have H0 := Lib.hid hih0
        have HH := Lib.hid hih1
        obtain ⟨y1, hy1⟩ : ∃ y : Int, y = ((c1.shape.getD 0 : Nat) : Int) := ⟨_, rfl⟩
        clear hih0 hih1
        simp only [Option.getD_none, Option.isSome_none] at H0
        go_enter Try.func84, Try.ntmps84
        go_wp2_with fail
        rw [← HW1.out]
        refine (H0.out W1 (HBW.out.trans (H1.out.1.mono hB)) (by omega)).mono ?_
        rintro e W2 ⟨rfl, hb2⟩
        obtain ⟨x1, x2, x3, p1, p2, p3, r1, r2, r3⟩ := HC.out W2 (hb2.mono (by omega))
        have hs2 := hb2.size
        have H2 := Lib.hid (hb2.mono (show w'.heap.size + 1 ≤ _ by omega))
        clear hb2
        go_wp2_with fail
        refine (HH.out W2 (HBW.out.trans ((H1.out.1.trans (H2.out.mono (by omega))).mono hB)) (by omega)).mono ?_
        rintro e W3 ⟨rfl, hb3⟩
        clear x1 x2 x3 p1 p2 p3 r1 r2 r3
        have hs3 := hb3.size
        have H3 := Lib.hid (H2.out.trans (hb3.mono (by omega)))
        clear hb3
        obtain ⟨x1, x2, x3, p1, p2, p3, r1, r2, r3⟩ := HC.out W3 H3.out
        go_wp2_with fail
        refine bodyPost_ret (v := .tuple #[.int .i64 0, .bool false]) (by simp [results, Try.results84, go_sem]) rfl ⟨?_, H1.out.1.trans (H3.out.mono (by omega))⟩
        rfl
      | some n0 =>
        cases h1 : c1.shape with
        | none =>
          have hr : (Bt.mk key red [c0, c1]).shape = none := by simp [Bt.shape, h0, h1]
          rw [hr]
          rw [h0] at hih0
          rw [h1] at hih1
          have H0 := Lib.hid hih0
          have HH := Lib.hid hih1
          clear hih0 hih1
          simp only [Option.getD_none, Option.isSome_none, Option.getD_some, Option.isSome_some] at H0 HH
          go_enter Try.func84, Try.ntmps84
          go_wp2_with fail
          rw [← HW1.out]
          refine (H0.out W1 (HBW.out.trans (H1.out.1.mono hB)) (by omega)).mono ?_
          rintro e W2 ⟨rfl, hb2⟩
          obtain ⟨x1, x2, x3, p1, p2, p3, r1, r2, r3⟩ := HC.out W2 (hb2.mono (by omega))
          have hs2 := hb2.size
          have H2 := Lib.hid (hb2.mono (show w'.heap.size + 1 ≤ _ by omega))
          clear hb2
          go_wp2_with fail
          refine (HH.out W2 (HBW.out.trans ((H1.out.1.trans (H2.out.mono (by omega))).mono hB)) (by omega)).mono ?_
          rintro e W3 ⟨rfl, hb3⟩
          clear x1 x2 x3 p1 p2 p3 r1 r2 r3
          have hs3 := hb3.size
          have H3 := Lib.hid (H2.out.trans (hb3.mono (by omega)))
          clear hb3
          obtain ⟨x1, x2, x3, p1, p2, p3, r1, r2, r3⟩ := HC.out W3 H3.out
          go_wp2_with fail
          refine bodyPost_ret (v := .tuple #[.int .i64 0, .bool false]) (by simp [results, Try.results84, go_sem]) rfl ⟨?_, H1.out.1.trans (H3.out.mono (by omega))⟩
          rfl
        | some n1 =>
          have hn0 := hsl0 n0 h0
          have hn1 := hsl1 n1 h1
          rw [h0] at hih0
          rw [h1] at hih1
          have H0 := Lib.hid hih0
          have HH := Lib.hid hih1
          clear hih0 hih1
          simp only [Option.getD_some, Option.isSome_some] at H0 HH
          by_cases hne : n0 = n1
          · have hnz : ((n0 : Int) != (n1 : Int)) = false := by simp [hne]
            cases red with
            | false =>
              have hr : (Bt.mk key false [c0, c1]).shape = some (n0 + 1) := by simp [Bt.shape, h0, h1, hne]
              rw [hr]
              clear hne
              simp only [Option.getD_some, Option.isSome_some]
              go_enter Try.func84, Try.ntmps84
              go_wp2_with fail
              rw [← HW1.out]
              refine (H0.out W1 (HBW.out.trans (H1.out.1.mono hB)) (by omega)).mono ?_
              rintro e W2 ⟨rfl, hb2⟩
              obtain ⟨x1, x2, x3, p1, p2, p3, r1, r2, r3⟩ := HC.out W2 (hb2.mono (by omega))
              have hs2 := hb2.size
              have H2 := Lib.hid (hb2.mono (show w'.heap.size + 1 ≤ _ by omega))
              clear hb2
              go_wp2_with fail
              refine (HH.out W2 (HBW.out.trans ((H1.out.1.trans (H2.out.mono (by omega))).mono hB)) (by omega)).mono ?_
              rintro e W3 ⟨rfl, hb3⟩
              clear x1 x2 x3 p1 p2 p3 r1 r2 r3
              have hs3 := hb3.size
              have H3 := Lib.hid (H2.out.trans (hb3.mono (by omega)))
              clear hb3
              obtain ⟨x1, x2, x3, p1, p2, p3, r1, r2, r3⟩ := HC.out W3 H3.out
              go_wp2_with fail
              refine bodyPost_ret (v := .tuple #[.int .i64 ((n0 : Int) + 1), .bool true]) (by simp [results, Try.results84, go_sem]) rfl ⟨?_, H1.out.1.trans (H3.out.mono (by omega))⟩
              rfl
            | true =>
              obtain ⟨u0, hu0⟩ : ∃ u, u = (((m0 : Int) == 2) && r0) := ⟨_, rfl⟩
              obtain ⟨u1, hu1⟩ : ∃ u, u = (((m1 : Int) == 2) && rr1) := ⟨_, rfl⟩
              have HR0 := Lib.hid (fun W => l10Red_c k0 r0 a2 m0 n2 W)
              have HR1 := Lib.hid (fun W => l10Red_c kk1 rr1 a3 m1 n3 W)
              rw [← hu0] at HR0
              rw [← hu1] at HR1
              have q0 : c0.redN = u0 := by rw [hu0]; exact HQ.out.1
              have q1 : c1.redN = u1 := by rw [hu1]; exact HQ.out.2
              clear hu0 hu1
              cases u0 with
              | true =>
                have hr : (Bt.mk key true [c0, c1]).shape = none := by simp [Bt.shape, h0, h1, q0]
                rw [hr]
                clear hne q0 q1
                go_enter Try.func84, Try.ntmps84
                go_wp2_with fail
                rw [← HW1.out]
                refine (H0.out W1 (HBW.out.trans (H1.out.1.mono hB)) (by omega)).mono ?_
                rintro e W2 ⟨rfl, hb2⟩
                obtain ⟨x1, x2, x3, p1, p2, p3, r1, r2, r3⟩ := HC.out W2 (hb2.mono (by omega))
                have hs2 := hb2.size
                have H2 := Lib.hid (hb2.mono (show w'.heap.size + 1 ≤ _ by omega))
                clear hb2
                go_wp2_with fail
                refine (HH.out W2 (HBW.out.trans ((H1.out.1.trans (H2.out.mono (by omega))).mono hB)) (by omega)).mono ?_
                rintro e W3 ⟨rfl, hb3⟩
                clear x1 x2 x3 p1 p2 p3 r1 r2 r3
                have hs3 := hb3.size
                have H3 := Lib.hid (H2.out.trans (hb3.mono (by omega)))
                clear hb3
                obtain ⟨x1, x2, x3, p1, p2, p3, r1, r2, r3⟩ := HC.out W3 H3.out
                go_wp2_with fail
                refine (HR0.out W3).mono ?_
                rintro e W4 ⟨rfl, hbW4⟩
                clear x1 x2 x3 p1 p2 p3 r1 r2 r3
                have hsW4 := hbW4.size
                have H4 := Lib.hid (H3.out.trans (hbW4.mono (by omega)))
                clear hbW4
                obtain ⟨x1, x2, x3, p1, p2, p3, r1, r2, r3⟩ := HC.out W4 H4.out
                go_wp2_with fail
                refine bodyPost_ret (v := .tuple #[.int .i64 0, .bool false]) (by simp [results, Try.results84, go_sem]) rfl ⟨?_, H1.out.1.trans (H4.out.mono (by omega))⟩
                rfl
              | false =>
                cases u1 with
                | true =>
                  have hr : (Bt.mk key true [c0, c1]).shape = none := by simp [Bt.shape, h0, h1, q0, q1]
                  rw [hr]
                  clear hne q0 q1
                  go_enter Try.func84, Try.ntmps84
                  go_wp2_with fail
                  rw [← HW1.out]
                  refine (H0.out W1 (HBW.out.trans (H1.out.1.mono hB)) (by omega)).mono ?_
                  rintro e W2 ⟨rfl, hb2⟩
                  obtain ⟨x1, x2, x3, p1, p2, p3, r1, r2, r3⟩ := HC.out W2 (hb2.mono (by omega))
                  have hs2 := hb2.size
                  have H2 := Lib.hid (hb2.mono (show w'.heap.size + 1 ≤ _ by omega))
                  clear hb2
                  go_wp2_with fail
                  refine (HH.out W2 (HBW.out.trans ((H1.out.1.trans (H2.out.mono (by omega))).mono hB)) (by omega)).mono ?_
                  rintro e W3 ⟨rfl, hb3⟩
                  clear x1 x2 x3 p1 p2 p3 r1 r2 r3
                  have hs3 := hb3.size
                  have H3 := Lib.hid (H2.out.trans (hb3.mono (by omega)))
                  clear hb3
                  obtain ⟨x1, x2, x3, p1, p2, p3, r1, r2, r3⟩ := HC.out W3 H3.out
                  go_wp2_with fail
                  refine (HR0.out W3).mono ?_
                  rintro e W4 ⟨rfl, hbW4⟩
                  clear x1 x2 x3 p1 p2 p3 r1 r2 r3
                  have hsW4 := hbW4.size
                  have H4 := Lib.hid (H3.out.trans (hbW4.mono (by omega)))
                  clear hbW4
                  obtain ⟨x1, x2, x3, p1, p2, p3, r1, r2, r3⟩ := HC.out W4 H4.out
                  go_wp2_with fail
                  refine (HR1.out W4).mono ?_
                  rintro e W5 ⟨rfl, hbW5⟩
                  clear x1 x2 x3 p1 p2 p3 r1 r2 r3
                  have hsW5 := hbW5.size
                  have H5 := Lib.hid (H4.out.trans (hbW5.mono (by omega)))
                  clear hbW5
                  obtain ⟨x1, x2, x3, p1, p2, p3, r1, r2, r3⟩ := HC.out W5 H5.out
                  go_wp2_with fail
                  refine bodyPost_ret (v := .tuple #[.int .i64 0, .bool false]) (by simp [results, Try.results84, go_sem]) rfl ⟨?_, H1.out.1.trans (H5.out.mono (by omega))⟩
                  rfl
                | false =>
                  have hr : (Bt.mk key true [c0, c1]).shape = some n0 := by simp [Bt.shape, h0, h1, q0, q1, hne]
                  rw [hr]
                  clear hne q0 q1
                  simp only [Option.getD_some, Option.isSome_some]
                  go_enter Try.func84, Try.ntmps84
                  go_wp2_with fail
                  rw [← HW1.out]
                  refine (H0.out W1 (HBW.out.trans (H1.out.1.mono hB)) (by omega)).mono ?_
                  rintro e W2 ⟨rfl, hb2⟩
                  obtain ⟨x1, x2, x3, p1, p2, p3, r1, r2, r3⟩ := HC.out W2 (hb2.mono (by omega))
                  have hs2 := hb2.size
                  have H2 := Lib.hid (hb2.mono (show w'.heap.size + 1 ≤ _ by omega))
                  clear hb2
                  go_wp2_with fail
                  refine (HH.out W2 (HBW.out.trans ((H1.out.1.trans (H2.out.mono (by omega))).mono hB)) (by omega)).mono ?_
                  rintro e W3 ⟨rfl, hb3⟩
                  clear x1 x2 x3 p1 p2 p3 r1 r2 r3
                  have hs3 := hb3.size
                  have H3 := Lib.hid (H2.out.trans (hb3.mono (by omega)))
                  clear hb3
                  obtain ⟨x1, x2, x3, p1, p2, p3, r1, r2, r3⟩ := HC.out W3 H3.out
                  go_wp2_with fail
                  refine (HR0.out W3).mono ?_
                  rintro e W4 ⟨rfl, hbW4⟩
                  clear x1 x2 x3 p1 p2 p3 r1 r2 r3
                  have hsW4 := hbW4.size
                  have H4 := Lib.hid (H3.out.trans (hbW4.mono (by omega)))
                  clear hbW4
                  obtain ⟨x1, x2, x3, p1, p2, p3, r1, r2, r3⟩ := HC.out W4 H4.out
                  go_wp2_with fail
                  refine (HR1.out W4).mono ?_
                  rintro e W5 ⟨rfl, hbW5⟩
                  clear x1 x2 x3 p1 p2 p3 r1 r2 r3
                  have hsW5 := hbW5.size
                  have H5 := Lib.hid (H4.out.trans (hbW5.mono (by omega)))
                  clear hbW5
                  obtain ⟨x1, x2, x3, p1, p2, p3, r1, r2, r3⟩ := HC.out W5 H5.out
                  go_wp2_with fail
                  refine bodyPost_ret (v := .tuple #[.int .i64 (n0 : Int), .bool true]) (by simp [results, Try.results84, go_sem]) rfl ⟨?_, H1.out.1.trans (H5.out.mono (by omega))⟩
                  rfl
          · have hnz : ((n0 : Int) != (n1 : Int)) = true := by simp; omega
            have hr : (Bt.mk key red [c0, c1]).shape = none := by simp [Bt.shape, h0, h1, hne]
            rw [hr]
            clear hne
            go_enter Try.func84, Try.ntmps84
            go_wp2_with fail
            rw [← HW1.out]
            refine (H0.out W1 (HBW.out.trans (H1.out.1.mono hB)) (by omega)).mono ?_
            rintro e W2 ⟨rfl, hb2⟩
            obtain ⟨x1, x2, x3, p1, p2, p3, r1, r2, r3⟩ := HC.out W2 (hb2.mono (by omega))
            have hs2 := hb2.size
            have H2 := Lib.hid (hb2.mono (show w'.heap.size + 1 ≤ _ by omega))
            clear hb2
            go_wp2_with fail
            refine (HH.out W2 (HBW.out.trans ((H1.out.1.trans (H2.out.mono (by omega))).mono hB)) (by omega)).mono ?_
            rintro e W3 ⟨rfl, hb3⟩
            clear x1 x2 x3 p1 p2 p3 r1 r2 r3
            have hs3 := hb3.size
            have H3 := Lib.hid (H2.out.trans (hb3.mono (by omega)))
            clear hb3
            obtain ⟨x1, x2, x3, p1, p2, p3, r1, r2, r3⟩ := HC.out W3 H3.out
            go_wp2_with fail
            refine bodyPost_ret (v := .tuple #[.int .i64 0, .bool false]) (by simp [results, Try.results84, go_sem]) rfl ⟨?_, H1.out.1.trans (H3.out.mono (by omega))⟩
            rfl
    · have hL3 : 3 ≤ L := by rw [hL]; simp
      have hz : ((L : Int) == 0) = false := by simp; omega
      have hz2 : ((L : Int) != 2) = true := by simp; omega
      clear hat ih hkids hbw k1
      rw [hW1] at x1 x2 x3
      clear hW1 hL
      rw [show (Bt.mk key red (c0 :: c1 :: c2 :: q)).shape = none by simp [Bt.shape]]
      go_enter Try.func84, Try.ntmps84
      go_wp2_with fail
      rw [← HW1.out]
      refine bodyPost_ret (v := .tuple #[.int .i64 0, .bool false]) (by simp [results, Try.results84, go_sem]) rfl ⟨?_, H1.out.1⟩
      rfl
end Go.Proofs.Ytodcapgmhginoaa
