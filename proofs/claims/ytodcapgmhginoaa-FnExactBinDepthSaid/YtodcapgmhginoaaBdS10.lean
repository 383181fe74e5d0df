/- The contracts on BinDepth: the model's, and the program's over nesting. -/
import Derived.Test.YtodcapgmhginoaaProg
import Derived.Test.YtodcapgmhginoaaBdS0
import Derived.Test.YtodcapgmhginoaaBdS1
import Derived.Test.YtodcapgmhginoaaBdS2
import Derived.Test.YtodcapgmhginoaaBdS8
import Derived.Test.YtodcapgmhginoaaBdS7
import Derived.Test.YtodcapgmhginoaaBdS9
import Derived.Shelf.RegionOpen
namespace Go.Proofs.Ytodcapgmhginoaa
open Go.RowKit

set_option maxHeartbeats 1000000 in
theorem specBinDepth_c {w : World} {B : Nat} {cv : Value} {t : Bt} (ht : BinIn w B cv t) (hw : t.weight ≤ 1048576) :
    ∀ w', Below B w w' → B ≤ w'.heap.size →
    Calls Try.prog 41 #[.agg #[.int .i64 t.key, .bool t.red, cv]] w' fun e w'' => e = .returned (.int .i64 t.depth) ∧ Below w'.heap.size w' w'' := by
  induction ht with
  | mk key red cs a cap cvs hlen hcap hat hkids ih =>
    intro w' hbw hB
    simp only [Bt.weight] at hw
    unfold maxLen at hcap
    have hcd := Bt.depths_le cs
    have HAT := Lib.hid (hat.later hbw (Nat.le_refl _))
    have IH := Lib.hid ih
    have HKI := Lib.hid hkids
    clear hat ih hkids
    show Calls Try.prog 41 #[.agg #[.int .i64 key, .bool red, .slice a cs.length cap]] w' _
    by_cases hl0 : cs.length = 0
    · have hz : ((cs.length : Int) == 0) = true := by simp [hl0]
      have HD := Lib.hid (show Bt.depth (.mk key red cs) = 0 by simp [Bt.depth, hl0])
      clear hl0
      go_enter Try.func41, Try.ntmps41
      go_wp2_with fail
      go_ret
      exact ⟨ret_int (by rw [HD.out]; rfl), (Below.refl _ _).alloc (Nat.le_refl _) _⟩
    · have hz : ((cs.length : Int) == 0) = false := by rw [beq_eq_false_iff_ne]; omega
      have HD := Lib.hid (show Bt.depth (.mk key red cs) = Bt.depths cs + 1 by simp [Bt.depth, hl0])
      clear hl0
      go_enter Try.func41, Try.ntmps41
      go_wp2_with fail
      go_loopw [3, 13] (fun l i wr => ∃ (j : Nat), j ≤ cs.length ∧ i = .int .i64 j ∧ l = .int .i64 (Bt.depths (cs.take j)) ∧ Below w'.heap.size w' wr) (fun _ i _ => cs.length - (intOf i).toNat)
      case atStart => exact ⟨0, Nat.zero_le _, rfl, by simp [Bt.depths], (Below.refl _ _).alloc (Nat.le_refl _) _⟩
      case round =>
        obtain ⟨j, hj, rfl, rfl, hbel⟩ := hrel
        by_cases hlt : j < cs.length
        · rcases HAT.out with h | ⟨b, off, rfl, hb, hat⟩
          · omega
          obtain ⟨ha, hr, hc⟩ := hat j hlt
          obtain ⟨a1, n1, c1, e1, -⟩ := (HKI.out j hlt).parts
          rw [← below_cell hbel (by omega)] at ha hr hc
          rw [e1] at hc
          have hz := hbel.size
          have hC := fun w1 h1 h2 => IH.out j hlt (by have := Bt.weight_get_le cs j hlt; omega) w1 h1 h2
          rw [e1] at hC
          have HC := Lib.hid hC
          have hts := Bt.depths_take_succ cs j hlt
          have HT := Lib.hid hts
          obtain ⟨kk, hkk⟩ : ∃ kk, kk = cs[j].key := ⟨_, rfl⟩
          obtain ⟨kr, hkr⟩ : ∃ kr, kr = cs[j].red := ⟨_, rfl⟩
          rw [← hkk] at ha HC
          rw [← hkr] at hr HC
          have hdj := Bt.depth_le cs[j]
          have hwj := Bt.weight_get_le cs j hlt
          have hdt : Bt.depths (cs.take j) ≤ 1048576 := by
            have h1 := Bt.depths_le (cs.take j)
            have h2 := Bt.weights_take_ge cs j
            omega
          clear hat hC hts e1 hkk hkr
          go_wp2_with fail
          refine (HC.out _ (hbw.trans ((hbel.alloc hz _).mono hB)) (by simp; omega)).mono ?_
          rintro e w1 ⟨rfl, hb1⟩
          have hb1' : Below w'.heap.size w' w1 := (hbel.alloc hz _).trans (hb1.mono (by simp; omega))
          clear hb1
          go_wp2_with fail
          all_goals (
            go_roundw
            case rel => exact ⟨j + 1, by omega, by go_num, by rw [HT.out]; go_num, hb1'⟩
            case measure => simp [intOf]; omega)
        · obtain rfl : j = cs.length := by omega
          rw [List.take_length]
          go_wp2_with fail
          go_ret
          exact ⟨ret_int (by rw [HD.out]; omega), hbel⟩

theorem allKids_c (b o : Nat) (a : Option Addr) (n c : Nat) (w : World) (h : w.cell? ⟨b, o + 2, none⟩ = some (.slice a n c)) :
    Calls Try.prog 83 #[.pointer (some ⟨b, o, none⟩)] w fun e w' => e = .returned (.slice a n c) ∧ Below w.heap.size w w' := by
  go_enter Try.func83, Try.ntmps83
  go_wp2_with fail
  go_ret
  exact ⟨rfl, Below.refl _ _⟩

set_option maxHeartbeats 1000000 in
theorem impl_binDepth {w : World} {lo : Nat} {cv : Value} {t : Bt} (h : BinNew w lo cv t) (hw : t.weight ≤ 1048576) (w' : World) (hbw : Below w.heap.size w w') :
    Calls Try.prog 42 #[.agg #[.int .i64 t.key, .bool t.red, cv]] w' fun e w'' => e = .returned (.int .i64 t.depth) ∧ Below w'.heap.size w' w'' := by
  have h' := h.later hbw (Nat.le_refl _)
  obtain ⟨gv, rfl⟩ := h.shown
  obtain ⟨W1, hW1⟩ : ∃ W1, W1 = w'.alloc (.cells #[.int .i64 t.key, .bool t.red, .slice (some ⟨gv, 0, none⟩) t.cs.length t.cs.length] 48) := ⟨_, rfl⟩
  have hb1 : Below w'.heap.size w' W1 := by rw [hW1]; exact (Below.refl _ _).alloc (Nat.le_refl _) _
  have k1 : W1.heap[w'.heap.size]? = some (.cells #[.int .i64 t.key, .bool t.red, .slice (some ⟨gv, 0, none⟩) t.cs.length t.cs.length] 48 (0, 0)) := by rw [hW1, new_blk]
  obtain ⟨c0, c1, c2, -⟩ := box3 k1
  obtain ⟨r, hr1, hr2, hr3, hra⟩ := ro_of_new (P := Try.prog) (g := 83) (k := fun x => x) (f := fun n => n) (fun n => Nat.le_refl n) (fun a n c => ⟨rfl, fun _ => rfl⟩) (w := W1)
    (fun b o a n c hc W hW => (allKids_c b o a n c W (by rw [below_cell hW (World.block_lt_of_cell? W1 _ hc)]; exact hc)).mono (fun e W' hh => hh)) (h'.later hb1 (Nat.le_refl _)) w'.heap.size 0 ⟨_, _, k1⟩ c0 c1 c2
  have hs : r.siz ≤ 1048576 := by rw [Ro.siz_bt, hr3]; exact Nat.le_trans (Bt.cut_weight _ t) hw
  have hd : (r.depth : Int) = (t.depth : Int) + 1 := by rw [Ro.depth_bt, hr3, Bt.cut_id]; omega
  have hdl := Bt.depth_le t
  have hnc := nestingB_c (g := 83) (enters_of Try.func83 (by kernel_rfl) rfl) hra hs
  rw [show r.addr = ⟨w'.heap.size, 0, none⟩ by simp [Ro.addr, hr1, hr2], hd] at hnc
  obtain ⟨D, hD⟩ : ∃ D : Int, D = (t.depth : Int) := ⟨_, rfl⟩
  rw [← hD] at hnc ⊢
  have hD0 : 0 ≤ D := by omega
  have hD1 : D ≤ 1048576 := by omega
  have hlt : ¬ D < 0 := by omega
  have HN := Lib.hid hnc
  have HW1 := Lib.hid hW1
  have HB1 := Lib.hid hb1
  clear h h' hW1 hb1 k1 c0 c1 c2 hr1 hr2 hr3 hra hs hd hdl hnc hD hbw
  go_enter Try.func42, Try.ntmps42
  go_wp2_with fail
  rw [← HW1.out]
  refine HN.out.mono ?_
  rintro e w2 ⟨rfl, hb2⟩
  have HB2 := Lib.hid (HB1.out.trans (hb2.mono HB1.out.size))
  clear hb2
  go_wp2_with fail
  all_goals (
    go_ret
    exact ⟨ret_int (by omega), HB2.out⟩)
end Go.Proofs.Ytodcapgmhginoaa
