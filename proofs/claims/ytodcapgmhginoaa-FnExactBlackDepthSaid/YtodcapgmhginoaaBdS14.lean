/- The contracts of the model's l1Sorted and TreeValid. -/
import Derived.Test.YtodcapgmhginoaaProg
import Derived.Test.YtodcapgmhginoaaBdS0
import Derived.Test.YtodcapgmhginoaaBdS1
import Derived.Test.YtodcapgmhginoaaBdS10
import Derived.Test.YtodcapgmhginoaaBdS11
import Derived.Test.YtodcapgmhginoaaBdS13
import Derived.Deep.RegionWith
import Derived.Deep.QuietTactic
import Derived.BigQuiet
import Derived.WalkSmall
import Derived.Deep.RegionHeld3
namespace Go.Proofs.Ytodcapgmhginoaa
open Go.RowKit

/-- Whether number i of a list is a key, and greater than the one ahead. -/
def okAt (ks : List Int) (i : Nat) : Bool := inB (ks.getD i 0) 0 99 && (decide (i = 0) || decide (ks.getD (i - 1) 0 < ks.getD i 0))
def sortedB (ks : List Int) : Bool := (List.range ks.length).all (okAt ks)
theorem sortedB_of {ks : List Int} (h : ∀ i, i < ks.length → okAt ks i = true) : sortedB ks = true := by
  simp only [sortedB, List.all_eq_true, List.mem_range]; exact h
theorem sortedB_not {ks : List Int} (i : Nat) (hi : i < ks.length) (h : okAt ks i = false) : sortedB ks = false := by
  cases hh : sortedB ks with
  | false => rfl
  | true =>
    simp only [sortedB, List.all_eq_true, List.mem_range] at hh
    rw [hh i hi] at h; cases h

set_option maxHeartbeats 1000000 in
theorem l1Sorted_c (ks : List Int) (v : Value) (w : World) (B : Nat) (_hB : B ≤ w.heap.size) (hk : IntsIn w B v ks) :
    Calls Try.prog 60 #[v] w fun e w' => e = .returned (.bool (sortedB ks)) ∧ w = w' := by
  obtain ⟨a, cap, rfl, h1, h2, _, h3⟩ := hk
  unfold maxLen at h2
  have HK := Lib.hid h3
  clear h3
  go_enter Try.func60, Try.ntmps60
  go_wp2_with fail
  go_loop [7] (fun i => ∃ (j : Nat), j ≤ ks.length ∧ i = .int .i64 j ∧ (∀ i, i < j → okAt ks i = true)) (fun i => ks.length - (intOf i).toNat)
  case atStart => exact ⟨0, Nat.zero_le _, rfl, fun i h => by omega⟩
  case round =>
    obtain ⟨j, hj, rfl, hall⟩ := hrel
    have HALL := Lib.hid hall
    clear hall
    by_cases hlt : j < ks.length
    · rcases HK.out with h | ⟨b, off, rfl, hb, hat⟩
      · simp [h] at hlt
      have ha1 := hat j hlt
      obtain ⟨x, hx⟩ : ∃ x, x = ks.getD j 0 := ⟨_, rfl⟩
      rw [← hx] at ha1
      have HX := Lib.hid hx
      clear hx
      by_cases hin : 0 ≤ x ∧ x ≤ 99
      · have hin' := inB_true hin.1 hin.2
        rcases Nat.eq_zero_or_pos j with hj0 | hj0
        · have hok : okAt ks j = true := by simp only [okAt, ← HX.out, hin']; simp [hj0]
          have HOK := Lib.hid hok
          have hgt : ¬ (0 : Int) < j := by omega
          clear hok hat
          have HJ0 := Lib.hid hj0
          clear hj0
          go_wp2_with fail
          refine (l1In_c x 0 99 _).mono ?_
          rintro e w1 ⟨rfl, rfl⟩
          rw [hin']
          go_wp2_with fail
          go_round
          case rel =>
            refine ⟨j + 1, by omega, by go_num, fun i hi => ?_⟩
            by_cases e : i = j
            · subst e; exact HOK.out
            · exact HALL.out i (by omega)
          case measure => simp [intOf]; omega
        · have ha2 := hat (j - 1) (by omega)
          obtain ⟨y, hy⟩ : ∃ y, y = ks.getD (j - 1) 0 := ⟨_, rfl⟩
          rw [← hy] at ha2
          have HY := Lib.hid hy
          obtain ⟨m, rfl⟩ : ∃ m, j = m + 1 := ⟨j - 1, by omega⟩
          rw [Nat.add_sub_cancel] at ha2
          clear hy hat
          by_cases hyx : y < x
          · have hok : okAt ks (m + 1) = true := by
              have h1 := HY.out; rw [Nat.add_sub_cancel] at h1
              simp only [okAt, ← HX.out, hin', Nat.add_sub_cancel, ← h1]; simp [hyx]
            have HOK := Lib.hid hok
            clear hok
            go_wp2_with fail
            refine (l1In_c x 0 99 _).mono ?_
            rintro e w1 ⟨rfl, rfl⟩
            rw [hin']
            go_wp2_with fail
            go_round
            case rel =>
              refine ⟨m + 1 + 1, by omega, by go_num, fun i hi => ?_⟩
              by_cases e : i = m + 1
              · subst e; exact HOK.out
              · exact HALL.out i (by omega)
            case measure => simp [intOf]; omega
          · have hok : okAt ks (m + 1) = false := by
              have h1 := HY.out; rw [Nat.add_sub_cancel] at h1
              simp only [okAt, ← HX.out, hin', Nat.add_sub_cancel, ← h1]; simp [hyx]
            have HOK := Lib.hid hok
            clear hok
            go_wp2_with fail
            refine (l1In_c x 0 99 _).mono ?_
            rintro e w1 ⟨rfl, rfl⟩
            rw [hin']
            go_wp2_with fail
            go_ret
            exact ⟨ret_bool (sortedB_not _ hlt HOK.out).symm, rfl⟩
      · have hin' := inB_false hin
        have hok : okAt ks j = false := by simp only [okAt, ← HX.out, hin']; rfl
        have HOK := Lib.hid hok
        clear hok hin hat
        go_wp2_with fail
        refine (l1In_c x 0 99 _).mono ?_
        rintro e w1 ⟨rfl, rfl⟩
        rw [hin']
        go_wp2_with fail
        go_ret
        exact ⟨ret_bool (sortedB_not _ hlt HOK.out).symm, rfl⟩
    · obtain rfl : j = ks.length := by omega
      go_wp2_with fail
      go_ret
      exact ⟨ret_bool (sortedB_of (fun i hi => HALL.out i hi)).symm, rfl⟩

/-- The model's TreeValid. -/
def Tr.validB (wide : Int) (t : Tr) : Bool := inB wide 2 6 && (Tr.nodesB wide 0 t.depth t && sortedB t.keys)

theorem l1Wide_is (n : Int) (b : Bool) (h : inB n 2 6 = b) (w : World) : Calls Try.prog 57 #[.int .i64 n] w fun e w' => e = .returned (.bool b) ∧ w' = w :=
  (l1Wide_c n w).mono (by rintro e w' ⟨rfl, rfl⟩; exact ⟨by rw [h], rfl⟩)

set_option maxHeartbeats 2000000 in
set_option maxRecDepth 100000 in
theorem specTreeValid_no {kv cv : Value} {t : Tr} (wide : Int) (hwd : inB wide 2 6 = false) (w' : World) :
    Calls Try.prog 17 #[.agg #[kv, cv], .int .i64 wide] w' fun e w'' => e = .returned (.bool (Tr.validB wide t)) ∧ Below w'.heap.size w' w'' := by
  have hfin : Tr.validB wide t = false := by simp only [Tr.validB, hwd]; rfl
  have HF := Lib.hid hfin
  have HW := Lib.hid hwd
  clear hfin hwd
  go_enter Try.func17, Try.ntmps17
  go_wp2_with fail
  go_quiet ((go_at_call 57; exact Calls.quiet_of_same (l1Wide_is wide false HW.out _)))
  go_wp2_with fail
  go_ret
  exact ⟨ret_bool HF.out.symm, below_drewN ((Below.refl _ _).alloc (Nat.le_refl _) _) _⟩

theorem size_le_drew {n : Nat} {w : World} (h : n ≤ w.heap.size) : n ≤ w.drew.heap.size := h

theorem l1Nodes_is (b : Bool) (wide : Int) (hw1 : 2 ≤ wide) (hw2 : wide ≤ 6) {w : World} {B : Nat} {kv cv : Value} {t : Tr} (ht : TreeIn w B kv cv t) (hw : t.weight ≤ 1048576) (depth : Int) (h : Tr.nodesB wide 0 depth t = b)
    (w' : World) (hbw : Below B w w') (hB : B ≤ w'.heap.size) (hd1 : 1 ≤ depth) (hd2 : depth ≤ 1048577) :
    Calls Try.prog 58 #[.agg #[kv, cv], .int .i64 wide, .bool true, .int .i64 depth] w' fun e w'' => e = .returned (.bool b) ∧ Below w'.heap.size w' w'' :=
  (l1Nodes_c wide hw1 hw2 ht hw w' true depth hbw hB hd1 hd2).mono (by rintro e w'' ⟨rfl, hb⟩; exact ⟨by rw [← h]; rfl, hb⟩)

set_option maxHeartbeats 4000000 in
set_option maxRecDepth 100000 in
theorem specTreeValid_yes {w : World} {B : Nat} {kv cv : Value} {t : Tr} (ht : TreeIn w B kv cv t) (hw : t.weight ≤ 1048576) (wide : Int) (hwd : inB wide 2 6 = true)
    (hno : Tr.nodesB wide 0 t.depth t = true) (w' : World) (hbw : Below B w w') (hB : B ≤ w'.heap.size) :
    Calls Try.prog 17 #[.agg #[kv, cv], .int .i64 wide] w' fun e w'' => e = .returned (.bool (Tr.validB wide t)) ∧ Below w'.heap.size w' w'' := by
  have hfin : Tr.validB wide t = sortedB t.keys := by simp only [Tr.validB, hwd, hno]; rfl
  have hr : 2 ≤ wide ∧ wide ≤ 6 := by simpa [inB] using hwd
  have hd1 : (1 : Int) ≤ (t.depth : Int) := by cases t; simp only [Tr.depth]; omega
  have hd2 : (t.depth : Int) ≤ 1048577 := by have h1 := Tr.depth_le t; have h2 := Tr.count_le t; omega
  have HF := Lib.hid hfin
  have HW := Lib.hid hwd
  have HNO := Lib.hid hno
  have HBW := Lib.hid hbw
  obtain ⟨a1, n1, c1, a2, n2, c2, rfl, rfl⟩ := ht.slices
  obtain ⟨W1, hW1⟩ : ∃ W1, W1 = w'.alloc (.cells #[.slice a1 n1 c1, .slice a2 n2 c2] 30) := ⟨_, rfl⟩
  have hs1 : W1.heap.size = w'.heap.size + 1 := by rw [hW1]; simp
  have hb1 : Below w'.heap.size w' W1 := by rw [hW1]; exact (Below.refl _ _).alloc (Nat.le_refl _) _
  have kb : W1.heap[w'.heap.size]? = some (.cells #[.slice a1 n1 c1, .slice a2 n2 c2] 30 (0, 0)) := by rw [hW1, new_blk]
  have HW1 := Lib.hid hW1
  have HB1 := Lib.hid hb1
  have HKB := Lib.hid kb
  have HS1 := Lib.hid hs1
  obtain ⟨x1, x2, x3, x4⟩ := box2 kb
  clear hfin hwd hno hW1 hb1 kb hs1 hbw
  go_enter Try.func17, Try.ntmps17
  go_wp2_with fail
  rw [← HW1.out]
  go_region_held3 (fun x => x.cell? ⟨w'.heap.size, 0, none⟩ = some (.slice a1 n1 c1) ∧ x.cell? ⟨w'.heap.size, 1, none⟩ = some (.slice a2 n2 c2))
    (first | exact ⟨x1, x2⟩ | exact ⟨y1, y2⟩ | exact ⟨z1, z2⟩ | exact ⟨v1, v2⟩ | go_keep)
    (first
      | (go_at_call 57; refine (l1Wide_is wide true HW.out _).mono ?_; rintro e w1 ⟨rfl, rfl⟩)
      | (go_at_call 59; refine (specDepth_c ht hw _ (HBW.out.trans (HB1.out.drew.mono hB)) (by have := HS1.out; simp; omega)).mono ?_; rintro e w2 ⟨rfl, hb2⟩; have hs2 := hb2.size; have y0 := (hb2.block w'.heap.size (by have := HS1.out; simp; omega)).trans HKB.out; obtain ⟨y1, y2, y3, y4⟩ := box2 y0; have hb2' := HB1.out.drew.trans (hb2.mono (by have := HS1.out; simp; omega)); have HB2 := Lib.hid hb2'; have HY := Lib.hid y0; have HS2 : Hid (w'.heap.size + 1 ≤ w2.heap.size) := Lib.hid (by have := HS1.out; simp at hs2; omega); clear hb2 hs2 hb2' y0)
      | (go_at_call 58; refine (l1Nodes_is true wide hr.1 hr.2 ht hw _ HNO.out _ (HBW.out.trans (HB2.out.mono hB)) (by have := HS2.out; omega) hd1 hd2).mono ?_; rintro e w3 ⟨rfl, hb3⟩; have hs3 := hb3.size; have z0 := (hb3.block w'.heap.size (by have := HS2.out; omega)).trans HY.out; obtain ⟨z1, z2, z3, z4⟩ := box2 z0; have hb3' := HB2.out.trans (hb3.mono (by have := HS2.out; omega)); have HB3 := Lib.hid hb3'; have HS3 : Hid (w'.heap.size + 1 ≤ w3.heap.size) := Lib.hid (by have := HS2.out; omega); have HZ := Lib.hid z0; clear hb3 hs3 hb3' z0)
      | (go_at_call 61; refine (specKeys_c ht hw _ (HBW.out.trans (HB3.out.mono hB)) (by have := HS3.out; omega)).mono ?_; rintro e w4 ⟨v, rfl, hown, hb4⟩; have HO := Lib.hid hown; have hb4' := HB3.out.trans (hb4.mono (by have := HS3.out; omega)); have HB4 := Lib.hid hb4'; obtain ⟨v1, v2, v3, v4⟩ := box2 ((hb4.block w'.heap.size (by have := HS3.out; omega)).trans HZ.out); clear hown hb4 hb4')
      | (go_at_call 60; refine (l1Sorted_c _ _ _ _ (Nat.le_refl _) (IntsOwn.in HO.out)).mono ?_; rintro e w5 ⟨rfl, rfl⟩))
  go_wp2_with fail
  go_ret
  exact ⟨ret_bool HF.out.symm, HB4.out⟩

set_option maxHeartbeats 4000000 in
set_option maxRecDepth 100000 in
theorem specTreeValid_not {w : World} {B : Nat} {kv cv : Value} {t : Tr} (ht : TreeIn w B kv cv t) (hw : t.weight ≤ 1048576) (wide : Int) (hwd : inB wide 2 6 = true)
    (hno : Tr.nodesB wide 0 t.depth t = false) (w' : World) (hbw : Below B w w') (hB : B ≤ w'.heap.size) :
    Calls Try.prog 17 #[.agg #[kv, cv], .int .i64 wide] w' fun e w'' => e = .returned (.bool (Tr.validB wide t)) ∧ Below w'.heap.size w' w'' := by
  have hfin : Tr.validB wide t = false := by simp only [Tr.validB, hwd, hno]; rfl
  have hr : 2 ≤ wide ∧ wide ≤ 6 := by simpa [inB] using hwd
  have hd1 : (1 : Int) ≤ (t.depth : Int) := by cases t; simp only [Tr.depth]; omega
  have hd2 : (t.depth : Int) ≤ 1048577 := by have h1 := Tr.depth_le t; have h2 := Tr.count_le t; omega
  have HF := Lib.hid hfin
  have HW := Lib.hid hwd
  have HNO := Lib.hid hno
  have HBW := Lib.hid hbw
  obtain ⟨a1, n1, c1, a2, n2, c2, rfl, rfl⟩ := ht.slices
  obtain ⟨W1, hW1⟩ : ∃ W1, W1 = w'.alloc (.cells #[.slice a1 n1 c1, .slice a2 n2 c2] 30) := ⟨_, rfl⟩
  have hs1 : W1.heap.size = w'.heap.size + 1 := by rw [hW1]; simp
  have hb1 : Below w'.heap.size w' W1 := by rw [hW1]; exact (Below.refl _ _).alloc (Nat.le_refl _) _
  have kb : W1.heap[w'.heap.size]? = some (.cells #[.slice a1 n1 c1, .slice a2 n2 c2] 30 (0, 0)) := by rw [hW1, new_blk]
  have HW1 := Lib.hid hW1
  have HB1 := Lib.hid hb1
  have HKB := Lib.hid kb
  have HS1 := Lib.hid hs1
  obtain ⟨x1, x2, x3, x4⟩ := box2 kb
  clear hfin hwd hno hW1 hb1 kb hs1 hbw
  go_enter Try.func17, Try.ntmps17
  go_wp2_with fail
  rw [← HW1.out]
  go_region_with (first
      | (go_at_call 57; refine (l1Wide_is wide true HW.out _).mono ?_; rintro e w1 ⟨rfl, rfl⟩)
      | (go_at_call 59; refine (specDepth_c ht hw _ (HBW.out.trans (HB1.out.drew.mono hB)) (by have := HS1.out; simp; omega)).mono ?_; rintro e w2 ⟨rfl, hb2⟩; have hs2 := hb2.size; have y0 := (hb2.block w'.heap.size (by have := HS1.out; simp; omega)).trans HKB.out; obtain ⟨y1, y2, y3, y4⟩ := box2 y0; have hb2' := HB1.out.drew.trans (hb2.mono (by have := HS1.out; simp; omega)); have HB2 := Lib.hid hb2'; have HY := Lib.hid y0; have HS2 : Hid (w'.heap.size + 1 ≤ w2.heap.size) := Lib.hid (by have := HS1.out; simp at hs2; omega); clear hb2 hs2 hb2' y0)
      | (go_at_call 58; refine (l1Nodes_is false wide hr.1 hr.2 ht hw _ HNO.out _ (HBW.out.trans (HB2.out.mono hB)) (by have := HS2.out; omega) hd1 hd2).mono ?_; rintro e w3 ⟨rfl, hb3⟩; have hs3 := hb3.size; have z0 := (hb3.block w'.heap.size (by have := HS2.out; omega)).trans HY.out; obtain ⟨z1, z2, z3, z4⟩ := box2 z0; have hb3' := HB2.out.trans (hb3.mono (by have := HS2.out; omega)); have HB3 := Lib.hid hb3'; have HS3 : Hid (w'.heap.size + 1 ≤ w3.heap.size) := Lib.hid (by have := HS2.out; omega); have HZ := Lib.hid z0; clear hb3 hs3 hb3' z0))
  all_goals (go_wp2_with fail)
  all_goals (go_ret; refine ⟨?_, HB3.out⟩; rw [HF.out]; rfl)

theorem specTreeValid_c {w : World} {B : Nat} {kv cv : Value} {t : Tr} (ht : TreeIn w B kv cv t) (hw : t.weight ≤ 1048576) (wide : Int) (w' : World) (hbw : Below B w w') (hB : B ≤ w'.heap.size) :
    Calls Try.prog 17 #[.agg #[kv, cv], .int .i64 wide] w' fun e w'' => e = .returned (.bool (Tr.validB wide t)) ∧ Below w'.heap.size w' w'' := by
  cases hwd : inB wide 2 6 with
  | false => exact specTreeValid_no wide hwd w'
  | true =>
    cases hno : Tr.nodesB wide 0 t.depth t with
    | false => exact specTreeValid_not ht hw wide hwd hno w' hbw hB
    | true => exact specTreeValid_yes ht hw wide hwd hno w' hbw hB

end Go.Proofs.Ytodcapgmhginoaa
