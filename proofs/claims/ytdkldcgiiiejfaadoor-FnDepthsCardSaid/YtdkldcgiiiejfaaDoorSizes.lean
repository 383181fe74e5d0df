/- How many keys a tree of a depth has, and how deep a tree of so many keys is: the program's functions and the model's. -/
import Derived.Test.YtdkldcgiiiejfaaDoorProg
import Derived.Test.YtdkldcgiiiejfaaDoorBase
import Derived.Test.YtdkldcgiiiejfaaDoorDraw1
import Derived.Test.YtdkldcgiiiejfaaDoorDa1
import Derived.Test.YtdkldcgiiiejfaaDoorDa7
namespace Go.Proofs.YtdkldcgiiiejfaaDoor
open Go.RowKit

def leastV (wd d : Int) : Int := if inB wd 2 6 && inB d 1 8 then (lowN wd.toNat d.toNat : Int) else -1
def mostV (wd d : Int) : Int := if inB wd 2 6 && inB d 1 8 then (mostN wd.toNat d.toNat : Int) else -1
def leastD (wd n : Int) : Int := if inB wd 2 6 && inB n 0 100 then (leastDep wd.toNat n.toNat : Int) else -1
def mostD (wd n : Int) : Int := if inB wd 2 6 && inB n 0 100 then (mostDep wd.toNat n.toNat : Int) else -1

theorem isTold_c (n : Int) (w : World) : Calls Tryd.prog 32 #[.int .i64 n] w fun e w' => e = .returned (.bool (inB n 1 8)) ∧ w' = w := by
  by_cases h1 : 1 ≤ n
  · by_cases h2 : n ≤ 8
    · have HI := Lib.hid (inB_true h1 h2)
      go_enter Tryd.func32, Tryd.ntmps32
      go_wp2_with fail
      go_ret
      exact ⟨ret_bool HI.out.symm, rfl⟩
    · have HI := Lib.hid (show inB n 1 8 = false from inB_false (by omega))
      go_enter Tryd.func32, Tryd.ntmps32
      go_wp2_with fail
      go_ret
      exact ⟨ret_bool HI.out.symm, rfl⟩
  · have HI := Lib.hid (show inB n 1 8 = false from inB_false (by omega))
    go_enter Tryd.func32, Tryd.ntmps32
    go_wp2_with fail
    go_ret
    exact ⟨ret_bool HI.out.symm, rfl⟩

theorem isSize_c (n : Int) (w : World) : Calls Tryd.prog 21 #[.int .i64 n] w fun e w' => e = .returned (.bool (inB n 0 100)) ∧ w' = w := by
  by_cases h1 : 0 ≤ n
  · by_cases h2 : n ≤ 100
    · have HI := Lib.hid (inB_true h1 h2)
      go_enter Tryd.func21, Tryd.ntmps21
      go_wp2_with fail
      go_ret
      exact ⟨ret_bool HI.out.symm, rfl⟩
    · have HI := Lib.hid (show inB n 0 100 = false from inB_false (by omega))
      go_enter Tryd.func21, Tryd.ntmps21
      go_wp2_with fail
      go_ret
      exact ⟨ret_bool HI.out.symm, rfl⟩
  · have HI := Lib.hid (show inB n 0 100 = false from inB_false (by omega))
    go_enter Tryd.func21, Tryd.ntmps21
    go_wp2_with fail
    go_ret
    exact ⟨ret_bool HI.out.symm, rfl⟩

theorem l5Deep_c (n : Int) (w : World) : Calls Tryd.prog 38 #[.int .i64 n] w fun e w' => e = .returned (.bool (inB n 1 8)) ∧ w = w' := by
  go_enter Tryd.func38, Tryd.ntmps38
  go_wp2_with fail
  refine (l1In_c n 1 8 _).mono ?_
  rintro e w1 ⟨rfl, rfl⟩
  go_wp2_with fail
  go_ret
  exact ⟨rfl, rfl⟩

set_option maxHeartbeats 1000000 in
theorem LeastKeys_c (w : World) (ht : TabAt w 0 tabL) (wd d : Int) : Calls Tryd.prog 13 #[.int .i64 wd, .int .i64 d] w fun e w' => e = .returned (.int .i64 (leastV wd d)) ∧ w' = w := by
  by_cases hw : inB wd 2 6 = true
  · have hw1 : 2 ≤ wd ∧ wd ≤ 6 := by simpa [inB] using hw
    by_cases hd : inB d 1 8 = true
    · have hd1 : 1 ≤ d ∧ d ≤ 8 := by simpa [inB] using hd
      obtain ⟨i, rfl⟩ := Int.eq_ofNat_of_zero_le (show 0 ≤ wd by omega)
      obtain ⟨j, rfl⟩ := Int.eq_ofNat_of_zero_le (show 0 ≤ d by omega)
      have HV := Lib.hid (show leastV i j = (lowN i j : Int) by simp [leastV, hw, hd])
      go_enter Tryd.func13, Tryd.ntmps13
      go_wp2_with fail
      refine (isWide_c _ _).mono ?_
      rintro e w1 ⟨rfl, rfl⟩
      rw [hw]
      go_wp2_with fail
      refine (isTold_c (j : Int) _).mono ?_
      rintro e w1 ⟨rfl, rfl⟩
      rw [hd]
      go_wp2_with fail
      refine (leastKeys_c _ ht i j (by omega) (by omega) (by omega) (by omega)).mono ?_
      rintro e w1 ⟨rfl, rfl⟩
      go_wp2_with fail
      go_ret
      exact ⟨ret_int HV.out.symm, rfl⟩
    · have HD := Lib.hid (Bool.eq_false_iff.2 hd)
      have HV := Lib.hid (show leastV wd d = -1 by simp [leastV, hd])
      clear hd
      go_enter Tryd.func13, Tryd.ntmps13
      go_wp2_with fail
      refine (isWide_c _ _).mono ?_
      rintro e w1 ⟨rfl, rfl⟩
      rw [hw]
      go_wp2_with fail
      refine (isTold_c d _).mono ?_
      rintro e w1 ⟨rfl, rfl⟩
      rw [HD.out]
      go_wp2_with fail
      go_ret
      exact ⟨ret_int HV.out.symm, rfl⟩
  · have HW := Lib.hid (Bool.eq_false_iff.2 hw)
    have HV := Lib.hid (show leastV wd d = -1 by simp [leastV, hw])
    clear hw
    go_enter Tryd.func13, Tryd.ntmps13
    go_wp2_with fail
    refine (isWide_c _ _).mono ?_
    rintro e w1 ⟨rfl, rfl⟩
    rw [HW.out]
    go_wp2_with fail
    go_ret
    exact ⟨ret_int HV.out.symm, rfl⟩

set_option maxHeartbeats 1000000 in
theorem MostKeys_c (w : World) (ht : TabAt w 1 tabM) (wd d : Int) : Calls Tryd.prog 14 #[.int .i64 wd, .int .i64 d] w fun e w' => e = .returned (.int .i64 (mostV wd d)) ∧ w' = w := by
  by_cases hw : inB wd 2 6 = true
  · have hw1 : 2 ≤ wd ∧ wd ≤ 6 := by simpa [inB] using hw
    by_cases hd : inB d 1 8 = true
    · have hd1 : 1 ≤ d ∧ d ≤ 8 := by simpa [inB] using hd
      obtain ⟨i, rfl⟩ := Int.eq_ofNat_of_zero_le (show 0 ≤ wd by omega)
      obtain ⟨j, rfl⟩ := Int.eq_ofNat_of_zero_le (show 0 ≤ d by omega)
      have HV := Lib.hid (show mostV i j = (mostN i j : Int) by simp [mostV, hw, hd])
      go_enter Tryd.func14, Tryd.ntmps14
      go_wp2_with fail
      refine (isWide_c _ _).mono ?_
      rintro e w1 ⟨rfl, rfl⟩
      rw [hw]
      go_wp2_with fail
      refine (isTold_c (j : Int) _).mono ?_
      rintro e w1 ⟨rfl, rfl⟩
      rw [hd]
      go_wp2_with fail
      refine (mostKeys_c _ ht i j (by omega) (by omega) (by omega) (by omega)).mono ?_
      rintro e w1 ⟨rfl, rfl⟩
      go_wp2_with fail
      go_ret
      exact ⟨ret_int HV.out.symm, rfl⟩
    · have HD := Lib.hid (Bool.eq_false_iff.2 hd)
      have HV := Lib.hid (show mostV wd d = -1 by simp [mostV, hd])
      clear hd
      go_enter Tryd.func14, Tryd.ntmps14
      go_wp2_with fail
      refine (isWide_c _ _).mono ?_
      rintro e w1 ⟨rfl, rfl⟩
      rw [hw]
      go_wp2_with fail
      refine (isTold_c d _).mono ?_
      rintro e w1 ⟨rfl, rfl⟩
      rw [HD.out]
      go_wp2_with fail
      go_ret
      exact ⟨ret_int HV.out.symm, rfl⟩
  · have HW := Lib.hid (Bool.eq_false_iff.2 hw)
    have HV := Lib.hid (show mostV wd d = -1 by simp [mostV, hw])
    clear hw
    go_enter Tryd.func14, Tryd.ntmps14
    go_wp2_with fail
    refine (isWide_c _ _).mono ?_
    rintro e w1 ⟨rfl, rfl⟩
    rw [HW.out]
    go_wp2_with fail
    go_ret
    exact ⟨ret_int HV.out.symm, rfl⟩

set_option maxHeartbeats 1000000 in
theorem LeastDepth_c (w : World) (ht : TabAt w 1 tabM) (wd d : Int) : Calls Tryd.prog 6 #[.int .i64 wd, .int .i64 d] w fun e w' => e = .returned (.int .i64 (leastD wd d)) ∧ w' = w := by
  by_cases hw : inB wd 2 6 = true
  · have hw1 : 2 ≤ wd ∧ wd ≤ 6 := by simpa [inB] using hw
    by_cases hd : inB d 0 100 = true
    · have hd1 : 0 ≤ d ∧ d ≤ 100 := by simpa [inB] using hd
      obtain ⟨i, rfl⟩ := Int.eq_ofNat_of_zero_le (show 0 ≤ wd by omega)
      obtain ⟨j, rfl⟩ := Int.eq_ofNat_of_zero_le (show 0 ≤ d by omega)
      have HV := Lib.hid (show leastD i j = (leastDep i j : Int) by simp [leastD, hw, hd])
      go_enter Tryd.func6, Tryd.ntmps6
      go_wp2_with fail
      refine (isWide_c _ _).mono ?_
      rintro e w1 ⟨rfl, rfl⟩
      rw [hw]
      go_wp2_with fail
      refine (isSize_c (j : Int) _).mono ?_
      rintro e w1 ⟨rfl, rfl⟩
      rw [hd]
      go_wp2_with fail
      refine (leastDepth_c _ ht i j (by omega) (by omega) (by omega)).mono ?_
      rintro e w1 ⟨rfl, rfl⟩
      go_wp2_with fail
      go_ret
      exact ⟨ret_int HV.out.symm, rfl⟩
    · have HD := Lib.hid (Bool.eq_false_iff.2 hd)
      have HV := Lib.hid (show leastD wd d = -1 by simp [leastD, hd])
      clear hd
      go_enter Tryd.func6, Tryd.ntmps6
      go_wp2_with fail
      refine (isWide_c _ _).mono ?_
      rintro e w1 ⟨rfl, rfl⟩
      rw [hw]
      go_wp2_with fail
      refine (isSize_c d _).mono ?_
      rintro e w1 ⟨rfl, rfl⟩
      rw [HD.out]
      go_wp2_with fail
      go_ret
      exact ⟨ret_int HV.out.symm, rfl⟩
  · have HW := Lib.hid (Bool.eq_false_iff.2 hw)
    have HV := Lib.hid (show leastD wd d = -1 by simp [leastD, hw])
    clear hw
    go_enter Tryd.func6, Tryd.ntmps6
    go_wp2_with fail
    refine (isWide_c _ _).mono ?_
    rintro e w1 ⟨rfl, rfl⟩
    rw [HW.out]
    go_wp2_with fail
    go_ret
    exact ⟨ret_int HV.out.symm, rfl⟩

set_option maxHeartbeats 1000000 in
theorem MostDepth_c (w : World) (ht : TabAt w 0 tabL) (wd d : Int) : Calls Tryd.prog 7 #[.int .i64 wd, .int .i64 d] w fun e w' => e = .returned (.int .i64 (mostD wd d)) ∧ w' = w := by
  by_cases hw : inB wd 2 6 = true
  · have hw1 : 2 ≤ wd ∧ wd ≤ 6 := by simpa [inB] using hw
    by_cases hd : inB d 0 100 = true
    · have hd1 : 0 ≤ d ∧ d ≤ 100 := by simpa [inB] using hd
      obtain ⟨i, rfl⟩ := Int.eq_ofNat_of_zero_le (show 0 ≤ wd by omega)
      obtain ⟨j, rfl⟩ := Int.eq_ofNat_of_zero_le (show 0 ≤ d by omega)
      have HV := Lib.hid (show mostD i j = (mostDep i j : Int) by simp [mostD, hw, hd])
      go_enter Tryd.func7, Tryd.ntmps7
      go_wp2_with fail
      refine (isWide_c _ _).mono ?_
      rintro e w1 ⟨rfl, rfl⟩
      rw [hw]
      go_wp2_with fail
      refine (isSize_c (j : Int) _).mono ?_
      rintro e w1 ⟨rfl, rfl⟩
      rw [hd]
      go_wp2_with fail
      refine (mostDepth_c _ ht i j (by omega) (by omega) (by omega)).mono ?_
      rintro e w1 ⟨rfl, rfl⟩
      go_wp2_with fail
      go_ret
      exact ⟨ret_int HV.out.symm, rfl⟩
    · have HD := Lib.hid (Bool.eq_false_iff.2 hd)
      have HV := Lib.hid (show mostD wd d = -1 by simp [mostD, hd])
      clear hd
      go_enter Tryd.func7, Tryd.ntmps7
      go_wp2_with fail
      refine (isWide_c _ _).mono ?_
      rintro e w1 ⟨rfl, rfl⟩
      rw [hw]
      go_wp2_with fail
      refine (isSize_c d _).mono ?_
      rintro e w1 ⟨rfl, rfl⟩
      rw [HD.out]
      go_wp2_with fail
      go_ret
      exact ⟨ret_int HV.out.symm, rfl⟩
  · have HW := Lib.hid (Bool.eq_false_iff.2 hw)
    have HV := Lib.hid (show mostD wd d = -1 by simp [mostD, hw])
    clear hw
    go_enter Tryd.func7, Tryd.ntmps7
    go_wp2_with fail
    refine (isWide_c _ _).mono ?_
    rintro e w1 ⟨rfl, rfl⟩
    rw [HW.out]
    go_wp2_with fail
    go_ret
    exact ⟨ret_int HV.out.symm, rfl⟩


set_option maxHeartbeats 1000000 in
theorem specLeastKeys_c (w : World) (wd d : Int) : Calls Tryd.prog 27 #[.int .i64 wd, .int .i64 d] w fun e w' => e = .returned (.int .i64 (leastV wd d)) ∧ w' = w := by
  by_cases hw : inB wd 2 6 = true
  · have hw1 : 2 ≤ wd ∧ wd ≤ 6 := by simpa [inB] using hw
    by_cases hd : inB d 1 8 = true
    · have hd1 : 1 ≤ d ∧ d ≤ 8 := by simpa [inB] using hd
      obtain ⟨i, rfl⟩ := Int.eq_ofNat_of_zero_le (show 0 ≤ wd by omega)
      obtain ⟨j, rfl⟩ := Int.eq_ofNat_of_zero_le (show 0 ≤ d by omega)
      have HV := Lib.hid (show leastV i j = (lowN i j : Int) by simp [leastV, hw, hd])
      go_enter Tryd.func27, Tryd.ntmps27
      go_wp2_with fail
      refine (l1Wide_c _ _).mono ?_
      rintro e w1 ⟨rfl, rfl⟩
      rw [hw]
      go_wp2_with fail
      refine (l5Deep_c (j : Int) _).mono ?_
      rintro e w1 ⟨rfl, rfl⟩
      rw [hd]
      by_cases hj : j = 1
      · subst hj
        have HZ := Lib.hid (show lowN i 1 = 0 from rfl)
        go_wp2_with fail
        go_ret
        exact ⟨ret_int (by rw [HV.out, HZ.out]; rfl), rfl⟩
      · obtain ⟨k, rfl⟩ : ∃ k, j = k + 2 := ⟨j - 2, by omega⟩
        have hj' : ((k : Int) + 2 == 1) = false := beq_eq_false_iff_ne.2 (by omega)
        have HC := Lib.hid (l1Least_c i (by omega) (k + 1) w (by omega))
        have HZ := Lib.hid (show (lowN i (k + 2) : Int) = 1 + 2 * (leastN i (k + 1) : Int) by
          unfold lowN
          rw [if_pos (by omega), show k + 2 - 1 = k + 1 by omega]
          omega)
        have hb := leastN_le_mostN i (k + 1)
        have hb2 := most_le i (by omega) (k + 1) (by omega)
        generalize leastN i (k + 1) = z at HC HZ hb
        clear hj
        go_wp2_with fail
        rw [show (k : Int) + 2 - 1 = ((k + 1 : Nat) : Int) by omega]
        refine HC.out.mono ?_
        rintro e w1 ⟨rfl, rfl⟩
        go_wp2_with fail
        go_ret
        exact ⟨ret_int (by rw [HV.out, HZ.out]), rfl⟩
    · have HD := Lib.hid (Bool.eq_false_iff.2 hd)
      have HV := Lib.hid (show leastV wd d = -1 by simp [leastV, hd])
      clear hd
      go_enter Tryd.func27, Tryd.ntmps27
      go_wp2_with fail
      refine (l1Wide_c _ _).mono ?_
      rintro e w1 ⟨rfl, rfl⟩
      rw [hw]
      go_wp2_with fail
      refine (l5Deep_c d _).mono ?_
      rintro e w1 ⟨rfl, rfl⟩
      rw [HD.out]
      go_wp2_with fail
      go_ret
      exact ⟨ret_int HV.out.symm, rfl⟩
  · have HW := Lib.hid (Bool.eq_false_iff.2 hw)
    have HV := Lib.hid (show leastV wd d = -1 by simp [leastV, hw])
    clear hw
    go_enter Tryd.func27, Tryd.ntmps27
    go_wp2_with fail
    refine (l1Wide_c _ _).mono ?_
    rintro e w1 ⟨rfl, rfl⟩
    rw [HW.out]
    go_wp2_with fail
    go_ret
    exact ⟨ret_int HV.out.symm, rfl⟩

set_option maxHeartbeats 1000000 in
theorem specLeastDepth_c (w : World) (wd d : Int) : Calls Tryd.prog 8 #[.int .i64 wd, .int .i64 d] w fun e w' => e = .returned (.int .i64 (leastD wd d)) ∧ w' = w := by
  by_cases hw : inB wd 2 6 = true
  · have hw1 : 2 ≤ wd ∧ wd ≤ 6 := by simpa [inB] using hw
    by_cases hd : inB d 0 100 = true
    · have hd1 : 0 ≤ d ∧ d ≤ 100 := by simpa [inB] using hd
      obtain ⟨i, rfl⟩ := Int.eq_ofNat_of_zero_le (show 0 ≤ wd by omega)
      obtain ⟨j, rfl⟩ := Int.eq_ofNat_of_zero_le (show 0 ≤ d by omega)
      have HV := Lib.hid (show leastD i j = (leastDep i j : Int) by simp [leastD, hw, hd])
      go_enter Tryd.func8, Tryd.ntmps8
      go_wp2_with fail
      refine (l1Wide_c _ _).mono ?_
      rintro e w1 ⟨rfl, rfl⟩
      rw [hw]
      go_wp2_with fail
      refine (l1In_c (j : Int) 0 100 _).mono ?_
      rintro e w1 ⟨rfl, rfl⟩
      rw [hd]
      go_wp2_with fail
      refine (l5Least_c _ i j (by omega) (by omega) (by omega)).mono ?_
      rintro e w1 ⟨rfl, rfl⟩
      go_wp2_with fail
      go_ret
      exact ⟨ret_int HV.out.symm, rfl⟩
    · have HD := Lib.hid (Bool.eq_false_iff.2 hd)
      have HV := Lib.hid (show leastD wd d = -1 by simp [leastD, hd])
      clear hd
      go_enter Tryd.func8, Tryd.ntmps8
      go_wp2_with fail
      refine (l1Wide_c _ _).mono ?_
      rintro e w1 ⟨rfl, rfl⟩
      rw [hw]
      go_wp2_with fail
      refine (l1In_c d 0 100 _).mono ?_
      rintro e w1 ⟨rfl, rfl⟩
      rw [HD.out]
      go_wp2_with fail
      go_ret
      exact ⟨ret_int HV.out.symm, rfl⟩
  · have HW := Lib.hid (Bool.eq_false_iff.2 hw)
    have HV := Lib.hid (show leastD wd d = -1 by simp [leastD, hw])
    clear hw
    go_enter Tryd.func8, Tryd.ntmps8
    go_wp2_with fail
    refine (l1Wide_c _ _).mono ?_
    rintro e w1 ⟨rfl, rfl⟩
    rw [HW.out]
    go_wp2_with fail
    go_ret
    exact ⟨ret_int HV.out.symm, rfl⟩

set_option maxHeartbeats 1000000 in
theorem specMostDepth_c (w : World) (wd d : Int) : Calls Tryd.prog 9 #[.int .i64 wd, .int .i64 d] w fun e w' => e = .returned (.int .i64 (mostD wd d)) ∧ w' = w := by
  by_cases hw : inB wd 2 6 = true
  · have hw1 : 2 ≤ wd ∧ wd ≤ 6 := by simpa [inB] using hw
    by_cases hd : inB d 0 100 = true
    · have hd1 : 0 ≤ d ∧ d ≤ 100 := by simpa [inB] using hd
      obtain ⟨i, rfl⟩ := Int.eq_ofNat_of_zero_le (show 0 ≤ wd by omega)
      obtain ⟨j, rfl⟩ := Int.eq_ofNat_of_zero_le (show 0 ≤ d by omega)
      have HV := Lib.hid (show mostD i j = (mostDep i j : Int) by simp [mostD, hw, hd])
      go_enter Tryd.func9, Tryd.ntmps9
      go_wp2_with fail
      refine (l1Wide_c _ _).mono ?_
      rintro e w1 ⟨rfl, rfl⟩
      rw [hw]
      go_wp2_with fail
      refine (l1In_c (j : Int) 0 100 _).mono ?_
      rintro e w1 ⟨rfl, rfl⟩
      rw [hd]
      have h1 : 2 ≤ i := by omega
      have h2 : i ≤ 6 := by omega
      have hn : j ≤ 100 := by omega
      clear hw hd hw1 hd1
      go_wp2_with fail
      go_loopw [5] (fun s5 wr => ∃ d : Nat, s5 = .int .i64 d ∧ 1 ≤ d ∧ d ≤ 7 ∧ Hid (∀ x, 1 ≤ x → x < d → lowN i (x + 1) ≤ j) ∧ wr = w) (fun s5 _ => 8 - (intOf s5).toNat)
      case atStart => exact ⟨1, rfl, by omega, by omega, Lib.hid (fun x h1 h2 => by omega), rfl⟩
      case round =>
        obtain ⟨d, rfl, hd1, hd2, HB, rfl⟩ := hrel
        have HLV := Lib.hid (show leastV i ((d + 1 : Nat) : Int) = (lowN i (d + 1) : Int) by
          unfold leastV
          rw [inB_true (by omega) (by omega), inB_true (by omega) (by omega)]
          simp only [Bool.and_self, if_true, Int.toNat_natCast])
        go_wp2_with fail
        rw [show (d : Int) + 1 = ((d + 1 : Nat) : Int) by omega]
        refine (specLeastKeys_c _ i ((d + 1 : Nat) : Int)).mono ?_
        rintro e w1 ⟨rfl, rfl⟩
        rw [HLV.out]
        have hb := low_le i h2 (d + 1) (by omega)
        by_cases hlt : lowN i (d + 1) ≤ j
        · have hd7 : d ≠ 7 := by rintro rfl; have := low8 i h2 h1; omega
          have HLT := Lib.hid hlt
          have HB2 := Lib.hid (show ∀ x, 1 ≤ x → x < d + 1 → lowN i (x + 1) ≤ j from fun x hx1 hx2 => by
            by_cases hxd : x = d
            · subst hxd; exact HLT.out
            · exact HB.out x hx1 (by omega))
          clear HLT
          generalize lowN i (d + 1) = z at hlt hb
          have hlt' : (z : Int) ≤ (j : Int) := by omega
          clear hlt
          go_wp2_with fail
          go_roundw
          case rel => exact ⟨d + 1, by go_num, by omega, by omega, HB2, by first | rfl | trivial⟩
          case measure => simp [intOf]; omega
        · have HE := Lib.hid (mostDep_eq i j d HB.out (by omega) hd1 (by omega))
          generalize lowN i (d + 1) = z at hlt hb
          have hlt' : ¬ (z : Int) ≤ (j : Int) := by omega
          clear hlt
          go_wp2_with fail
          go_ret
          exact ⟨ret_int (by rw [HV.out, ← HE.out]), rfl⟩
    · have HD := Lib.hid (Bool.eq_false_iff.2 hd)
      have HV := Lib.hid (show mostD wd d = -1 by simp [mostD, hd])
      clear hd
      go_enter Tryd.func9, Tryd.ntmps9
      go_wp2_with fail
      refine (l1Wide_c _ _).mono ?_
      rintro e w1 ⟨rfl, rfl⟩
      rw [hw]
      go_wp2_with fail
      refine (l1In_c d 0 100 _).mono ?_
      rintro e w1 ⟨rfl, rfl⟩
      rw [HD.out]
      go_wp2_with fail
      go_ret
      exact ⟨ret_int HV.out.symm, rfl⟩
  · have HW := Lib.hid (Bool.eq_false_iff.2 hw)
    have HV := Lib.hid (show mostD wd d = -1 by simp [mostD, hw])
    clear hw
    go_enter Tryd.func9, Tryd.ntmps9
    go_wp2_with fail
    refine (l1Wide_c _ _).mono ?_
    rintro e w1 ⟨rfl, rfl⟩
    rw [HW.out]
    go_wp2_with fail
    go_ret
    exact ⟨ret_int HV.out.symm, rfl⟩

end Go.Proofs.YtdkldcgiiiejfaaDoor
