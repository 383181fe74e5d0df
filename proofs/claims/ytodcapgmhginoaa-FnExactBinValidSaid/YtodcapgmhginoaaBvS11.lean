/- The contracts of the model's functions on trees: CountNodes, l1Depth, FullNodes. -/
import Derived.Test.YtodcapgmhginoaaProg
import Derived.Test.YtodcapgmhginoaaBvS0
namespace Go.Proofs.Ytodcapgmhginoaa
open Go.RowKit

set_option maxHeartbeats 1000000 in
theorem specCount_c {w : World} {B : Nat} {kv cv : Value} {t : Tr} (ht : TreeIn w B kv cv t) (hw : t.weight ≤ 1048576) :
    ∀ w', Below B w w' → B ≤ w'.heap.size →
    Calls Try.prog 27 #[.agg #[kv, cv]] w' fun e w'' => e = .returned (.int .i64 t.count) ∧ Below w'.heap.size w' w'' := by
  induction ht with
  | mk ks cs kv a cap kvs cvs hk hlen hcap hat hkids ih =>
    intro w' hbw hB
    simp only [Tr.weight] at hw
    unfold maxLen at hcap
    have hcl := Tr.counts_le cs
    have HAT := Lib.hid (hat.later hbw (Nat.le_refl _))
    have IH := Lib.hid ih
    have HKI := Lib.hid hkids
    clear hk hat ih hkids
    go_enter Try.func27, Try.ntmps27
    go_wp2_with fail
    go_loopw [3, 9] (fun l i wr => ∃ (j : Nat), j ≤ cs.length ∧ i = .int .i64 j ∧ l = .int .i64 (1 + (Tr.counts (cs.take j) : Nat) : Int) ∧ Below w'.heap.size w' wr) (fun _ i _ => cs.length - (intOf i).toNat)
    case atStart => exact ⟨0, Nat.zero_le _, rfl, by simp [Tr.counts], (Below.refl _ _).alloc (Nat.le_refl _) _⟩
    case round =>
      obtain ⟨j, hj, rfl, rfl, hbel⟩ := hrel
      by_cases hlt : j < cs.length
      · rcases HAT.out with h | ⟨b, off, rfl, hb, hat⟩
        · omega
        obtain ⟨ha, hc⟩ := hat j hlt
        obtain ⟨a1, n1, c1, a2, n2, c2, e1, e2⟩ := (HKI.out j hlt).slices
        rw [← below_cell hbel (by omega)] at ha hc
        rw [e1] at ha
        rw [e2] at hc
        have hz := hbel.size
        have hC := fun w1 h1 h2 => IH.out j hlt (by have := Tr.weight_get_le cs j hlt; omega) w1 h1 h2
        rw [e1, e2] at hC
        have HC := Lib.hid hC
        have hts := Tr.counts_take_succ cs j hlt
        have htl := Tr.counts_take_le cs (j + 1)
        have HT := Lib.hid hts
        have hle : Tr.counts (cs.take j) + cs[j].count ≤ 1048576 := by omega
        clear hat hC hts e1 e2
        go_wp2_with fail
        refine (HC.out _ (hbw.trans ((hbel.alloc hz _).mono hB)) (by simp; omega)).mono ?_
        rintro e w1 ⟨rfl, hb1⟩
        have hb1' : Below w'.heap.size w' w1 := (hbel.alloc hz _).trans (hb1.mono (by simp; omega))
        clear hb1
        go_wp2_with fail
        go_roundw
        case rel => exact ⟨j + 1, by omega, by go_num, by rw [HT.out]; go_num, hb1'⟩
        case measure => simp [intOf]; omega
      · obtain rfl : j = cs.length := by omega
        rw [List.take_length]
        go_wp2_with fail
        go_ret
        exact ⟨ret_int (by simp only [Tr.count]; omega), hbel⟩
set_option maxHeartbeats 1000000 in
theorem specDepth_c {w : World} {B : Nat} {kv cv : Value} {t : Tr} (ht : TreeIn w B kv cv t) (hw : t.weight ≤ 1048576) :
    ∀ w', Below B w w' → B ≤ w'.heap.size →
    Calls Try.prog 59 #[.agg #[kv, cv]] w' fun e w'' => e = .returned (.int .i64 t.depth) ∧ Below w'.heap.size w' w'' := by
  induction ht with
  | mk ks cs kv a cap kvs cvs hk hlen hcap hat hkids ih =>
    intro w' hbw hB
    simp only [Tr.weight] at hw
    unfold maxLen at hcap
    have hcl := Tr.counts_le cs
    have hcd := Tr.depths_le cs
    have HAT := Lib.hid (hat.later hbw (Nat.le_refl _))
    have IH := Lib.hid ih
    have HKI := Lib.hid hkids
    clear hk hat ih hkids
    go_enter Try.func59, Try.ntmps59
    go_wp2_with fail
    go_loopw [3, 9] (fun l i wr => ∃ (j : Nat), j ≤ cs.length ∧ i = .int .i64 j ∧ l = .int .i64 (Tr.depths (cs.take j)) ∧ Below w'.heap.size w' wr) (fun _ i _ => cs.length - (intOf i).toNat)
    case atStart => exact ⟨0, Nat.zero_le _, rfl, by simp [Tr.depths], (Below.refl _ _).alloc (Nat.le_refl _) _⟩
    case round =>
      obtain ⟨j, hj, rfl, rfl, hbel⟩ := hrel
      by_cases hlt : j < cs.length
      · rcases HAT.out with h | ⟨b, off, rfl, hb, hat⟩
        · omega
        obtain ⟨ha, hc⟩ := hat j hlt
        obtain ⟨a1, n1, c1, a2, n2, c2, e1, e2⟩ := (HKI.out j hlt).slices
        rw [← below_cell hbel (by omega)] at ha hc
        rw [e1] at ha
        rw [e2] at hc
        have hz := hbel.size
        have hC := fun w1 h1 h2 => IH.out j hlt (by have := Tr.weight_get_le cs j hlt; omega) w1 h1 h2
        rw [e1, e2] at hC
        have HC := Lib.hid hC
        have hts := Tr.depths_take_succ cs j hlt
        have HT := Lib.hid hts
        clear hat hC hts e1 e2
        go_wp2_with fail
        refine (HC.out _ (hbw.trans ((hbel.alloc hz _).mono hB)) (by simp; omega)).mono ?_
        rintro e w1 ⟨rfl, hb1⟩
        have hb1' : Below w'.heap.size w' w1 := (hbel.alloc hz _).trans (hb1.mono (by simp; omega))
        clear hb1
        go_wp2_with fail
        all_goals (
          go_roundw
          case rel => exact ⟨j + 1, by omega, by go_num, by rw [HT.out]; go_num, hb1'⟩
          case measure => simp [intOf]; omega)
      · obtain rfl : j = cs.length := by omega
        rw [List.take_length]
        go_wp2_with fail
        go_ret
        exact ⟨ret_int (by simp only [Tr.depth]; omega), hbel⟩
set_option maxHeartbeats 1000000 in
theorem specFull_c {w : World} {B : Nat} {kv cv : Value} {t : Tr} (ht : TreeIn w B kv cv t) (n : Int) (hw : t.weight ≤ 1048576) :
    ∀ w', Below B w w' → B ≤ w'.heap.size →
    Calls Try.prog 29 #[.agg #[kv, cv], .int .i64 n] w' fun e w'' => e = .returned (.int .i64 (Tr.full n t)) ∧ Below w'.heap.size w' w'' := by
  induction ht with
  | mk ks cs kv a cap kvs cvs hk hlen hcap hat hkids ih =>
    intro w' hbw hB
    simp only [Tr.weight] at hw
    unfold maxLen at hcap
    have hcl := Tr.counts_le cs
    have hcd := Tr.fulls_le n cs
    obtain ⟨ka, kcap, rfl, k1, k2, _, k3⟩ := hk
    unfold maxLen at k2
    obtain ⟨bo, hbo⟩ : ∃ bo, ((ks.length : Int) == n) = bo := ⟨_, rfl⟩
    have HAT := Lib.hid (hat.later hbw (Nat.le_refl _))
    have IH := Lib.hid ih
    have HKI := Lib.hid hkids
    clear k3 hat ih hkids
    cases bo
    · have hf : Tr.full n (.mk ks cs) = 0 + Tr.fulls n cs := by simp only [Tr.full]; rw [if_neg (by simpa using hbo)]
      rw [hf]
      clear hf
      go_enter Try.func29, Try.ntmps29
      go_wp2_with fail
      go_loopw [5, 16] (fun l i wr => ∃ (j : Nat), j ≤ cs.length ∧ i = .int .i64 j ∧ l = .int .i64 (0 + (Tr.fulls n (cs.take j) : Nat) : Int) ∧ Below w'.heap.size w' wr) (fun _ i _ => cs.length - (intOf i).toNat)
      case atStart => exact ⟨0, Nat.zero_le _, rfl, by simp [Tr.fulls], (Below.refl _ _).alloc (Nat.le_refl _) _⟩
      case round =>
        obtain ⟨j, hj, rfl, rfl, hbel⟩ := hrel
        by_cases hlt : j < cs.length
        · rcases HAT.out with h | ⟨b, off, rfl, hb, hat⟩
          · omega
          obtain ⟨ha, hc⟩ := hat j hlt
          obtain ⟨a1, n1, c1, a2, n2, c2, e1, e2⟩ := (HKI.out j hlt).slices
          rw [← below_cell hbel (by omega)] at ha hc
          rw [e1] at ha
          rw [e2] at hc
          have hz := hbel.size
          have hC := fun w1 h1 h2 => IH.out j hlt (by have := Tr.weight_get_le cs j hlt; omega) w1 h1 h2
          rw [e1, e2] at hC
          have HC := Lib.hid hC
          have hts := Tr.fulls_take_succ n cs j hlt
          have htl := Tr.fulls_take_le n cs (j + 1)
          have HT := Lib.hid hts
          have hle : Tr.fulls n (cs.take j) + Tr.full n cs[j] ≤ 1048576 := by omega
          clear hat hC hts e1 e2
          go_wp2_with fail
          refine (HC.out _ (hbw.trans ((hbel.alloc hz _).mono hB)) (by simp; omega)).mono ?_
          rintro e w1 ⟨rfl, hb1⟩
          have hb1' : Below w'.heap.size w' w1 := (hbel.alloc hz _).trans (hb1.mono (by simp; omega))
          clear hb1
          go_wp2_with fail
          go_roundw
          case rel => exact ⟨j + 1, by omega, by go_num, by rw [HT.out]; go_num, hb1'⟩
          case measure => simp [intOf]; omega
        · obtain rfl : j = cs.length := by omega
          rw [List.take_length]
          go_wp2_with fail
          go_ret
          exact ⟨ret_int (by omega), hbel⟩
    · have hf : Tr.full n (.mk ks cs) = 1 + Tr.fulls n cs := by simp only [Tr.full]; rw [if_pos (by simpa using hbo)]
      rw [hf]
      clear hf
      go_enter Try.func29, Try.ntmps29
      go_wp2_with fail
      go_loopw [5, 16] (fun l i wr => ∃ (j : Nat), j ≤ cs.length ∧ i = .int .i64 j ∧ l = .int .i64 (1 + (Tr.fulls n (cs.take j) : Nat) : Int) ∧ Below w'.heap.size w' wr) (fun _ i _ => cs.length - (intOf i).toNat)
      case atStart => exact ⟨0, Nat.zero_le _, rfl, by simp [Tr.fulls], (Below.refl _ _).alloc (Nat.le_refl _) _⟩
      case round =>
        obtain ⟨j, hj, rfl, rfl, hbel⟩ := hrel
        by_cases hlt : j < cs.length
        · rcases HAT.out with h | ⟨b, off, rfl, hb, hat⟩
          · omega
          obtain ⟨ha, hc⟩ := hat j hlt
          obtain ⟨a1, n1, c1, a2, n2, c2, e1, e2⟩ := (HKI.out j hlt).slices
          rw [← below_cell hbel (by omega)] at ha hc
          rw [e1] at ha
          rw [e2] at hc
          have hz := hbel.size
          have hC := fun w1 h1 h2 => IH.out j hlt (by have := Tr.weight_get_le cs j hlt; omega) w1 h1 h2
          rw [e1, e2] at hC
          have HC := Lib.hid hC
          have hts := Tr.fulls_take_succ n cs j hlt
          have htl := Tr.fulls_take_le n cs (j + 1)
          have HT := Lib.hid hts
          have hle : Tr.fulls n (cs.take j) + Tr.full n cs[j] ≤ 1048576 := by omega
          clear hat hC hts e1 e2
          go_wp2_with fail
          refine (HC.out _ (hbw.trans ((hbel.alloc hz _).mono hB)) (by simp; omega)).mono ?_
          rintro e w1 ⟨rfl, hb1⟩
          have hb1' : Below w'.heap.size w' w1 := (hbel.alloc hz _).trans (hb1.mono (by simp; omega))
          clear hb1
          go_wp2_with fail
          go_roundw
          case rel => exact ⟨j + 1, by omega, by go_num, by rw [HT.out]; go_num, hb1'⟩
          case measure => simp [intOf]; omega
        · obtain rfl : j = cs.length := by omega
          rw [List.take_length]
          go_wp2_with fail
          go_ret
          exact ⟨ret_int (by omega), hbel⟩

end Go.Proofs.Ytodcapgmhginoaa
