/- Whether a number lies between two others; the model's l1In and l1Wide. -/
import Derived.Test.YtdcifdpkfcgmhaaDoorProg
import Derived.Test.YtdcifdpkfcgmhaaDoorCb0

/- The contracts of the model's functions on trees: CountNodes, l1Depth, FullNodes. -/
namespace Go.Proofs.YtdcifdpkfcgmhaaDoor
open Go.RowKit

set_option maxHeartbeats 1000000 in
theorem specDepth_c {w : World} {B : Nat} {kv cv : Value} {t : Tr} (ht : TreeIn w B kv cv t) (hw : t.weight ≤ 1048576) :
    ∀ w', Below B w w' → B ≤ w'.heap.size →
    Calls Tryd.prog 125 #[.agg #[kv, cv]] w' fun e w'' => e = .returned (.int .i64 t.depth) ∧ Below w'.heap.size w' w'' := by
  induction ht with
  | mk ks cs kv a cap kvs cvs hk hlen hcap hat hkids ih =>
    intro w' hbw hB
    simp only [Tr.weight] at hw
    unfold maxLen at hcap
    have hcl := Tr.counts_le cs
    have hcd := Tr.depths_le cs
    have HAT := Lib.hid (hat.later hbw (Nat.le_refl _))
    have IH := Lib.hid ih
    have HKI := Lib.hid hkids
    clear hk hat ih hkids
    go_enter Tryd.func125, Tryd.ntmps125
    go_wp2_with fail
    go_loopw [3, 9] (fun l i wr => ∃ (j : Nat), j ≤ cs.length ∧ i = .int .i64 j ∧ l = .int .i64 (Tr.depths (cs.take j)) ∧ Below w'.heap.size w' wr) (fun _ i _ => cs.length - (intOf i).toNat)
    case atStart => exact ⟨0, Nat.zero_le _, rfl, by simp [Tr.depths], (Below.refl _ _).alloc (Nat.le_refl _) _⟩
    case round =>
      obtain ⟨j, hj, rfl, rfl, hbel⟩ := hrel
      by_cases hlt : j < cs.length
      · rcases HAT.out with h | ⟨b, off, rfl, hb, hat⟩
        · omega
        obtain ⟨ha, hc⟩ := hat j hlt
        obtain ⟨a1, n1, c1, a2, n2, c2, e1, e2⟩ := (HKI.out j hlt).slices
        rw [← below_cell hbel (by omega)] at ha hc
        rw [e1] at ha
        rw [e2] at hc
        have hz := hbel.size
        have hC := fun w1 h1 h2 => IH.out j hlt (by have := Tr.weight_get_le cs j hlt; omega) w1 h1 h2
        rw [e1, e2] at hC
        have HC := Lib.hid hC
        have hts := Tr.depths_take_succ cs j hlt
        have HT := Lib.hid hts
        clear hat hC hts e1 e2
        go_wp2_with fail
        refine (HC.out _ (hbw.trans ((hbel.alloc hz _).mono hB)) (by simp; omega)).mono ?_
        rintro e w1 ⟨rfl, hb1⟩
        have hb1' : Below w'.heap.size w' w1 := (hbel.alloc hz _).trans (hb1.mono (by simp; omega))
        clear hb1
        go_wp2_with fail
        all_goals (
          go_roundw
          case rel => exact ⟨j + 1, by omega, by go_num, by rw [HT.out]; go_num, hb1'⟩
          case measure => simp [intOf]; omega)
      · obtain rfl : j = cs.length := by omega
        rw [List.take_length]
        go_wp2_with fail
        go_ret
        exact ⟨ret_int (by simp only [Tr.depth]; omega), hbel⟩
end Go.Proofs.YtdcifdpkfcgmhaaDoor

/- Whether a number lies between two others; the model's l1In and l1Wide. -/
namespace Go.Proofs.YtdcifdpkfcgmhaaDoor
open Go.RowKit

/-- Whether a number lies between two others. -/
def inB (n lo hi : Int) : Bool := decide (lo ≤ n) && decide (n ≤ hi)
theorem inB_true {n lo hi : Int} (h : lo ≤ n) (h' : n ≤ hi) : inB n lo hi = true := by simp [inB, h, h']
theorem inB_false {n lo hi : Int} (h : ¬ (lo ≤ n ∧ n ≤ hi)) : inB n lo hi = false := by
  simp only [inB, Bool.and_eq_false_iff, decide_eq_false_iff_not]; omega

theorem l1In_c (n lo hi : Int) (w : World) : Calls Tryd.prog 104 #[.int .i64 n, .int .i64 lo, .int .i64 hi] w fun e w' => e = .returned (.bool (inB n lo hi)) ∧ w = w' := by
  by_cases h1 : lo ≤ n
  · by_cases h2 : n ≤ hi
    · go_enter Tryd.func104, Tryd.ntmps104
      go_wp2_with fail
      go_ret
      exact ⟨ret_bool (inB_true h1 h2).symm, rfl⟩
    · go_enter Tryd.func104, Tryd.ntmps104
      go_wp2_with fail
      go_ret
      exact ⟨ret_bool (inB_false (by omega)).symm, rfl⟩
  · go_enter Tryd.func104, Tryd.ntmps104
    go_wp2_with fail
    go_ret
    exact ⟨ret_bool (inB_false (by omega)).symm, rfl⟩

theorem l1Wide_c (n : Int) (w : World) : Calls Tryd.prog 123 #[.int .i64 n] w fun e w' => e = .returned (.bool (inB n 2 6)) ∧ w = w' := by
  go_enter Tryd.func123, Tryd.ntmps123
  go_wp2_with fail
  refine (l1In_c n 2 6 _).mono ?_
  rintro e w1 ⟨rfl, rfl⟩
  go_wp2_with fail
  go_ret
  exact ⟨rfl, rfl⟩
end Go.Proofs.YtdcifdpkfcgmhaaDoor
