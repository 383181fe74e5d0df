/- The contracts of the model's TreeValid and what it calls. -/
import Derived.Test.YtodcapgmhginoaaProg
import Derived.Test.YtodcapgmhginoaaBdS0
import Derived.Test.YtodcapgmhginoaaBdS1
import Derived.Test.YtodcapgmhginoaaBdS10
import Derived.Test.YtodcapgmhginoaaBdS11
import Derived.Test.YtodcapgmhginoaaBdS12
namespace Go.Proofs.Ytodcapgmhginoaa
open Go.RowKit

namespace Tr
mutual
/-- Whether all nodes have as many keys as they have to, and all leaves are as deep as told. -/
def nodesB (wide least depth : Int) : Tr → Bool
  | .mk k c => inB k.length least wide && ((decide (c.length = 0)) == (decide (depth = 1))) &&
      (decide (c.length = 0) || (decide (c.length = k.length + 1) && !decide (k.length = 0) && nodesAllB wide (depth - 1) c))
def nodesAllB (wide depth : Int) : List Tr → Bool
  | [] => true
  | t :: r => nodesB wide (wide / 2) depth t && nodesAllB wide depth r
end
theorem nodesAllB_get {wide depth : Int} {c : List Tr} (h : nodesAllB wide depth c = true) (i : Nat) (hi : i < c.length) : nodesB wide (wide / 2) depth c[i] = true := by
  induction c generalizing i with
  | nil => simp at hi
  | cons t r ih =>
    simp only [nodesAllB, Bool.and_eq_true] at h
    cases i with
    | zero => exact h.1
    | succ i => exact ih h.2 i (by simpa using hi)
theorem nodesAllB_of {wide depth : Int} {c : List Tr} (h : ∀ i (hi : i < c.length), nodesB wide (wide / 2) depth c[i] = true) : nodesAllB wide depth c = true := by
  induction c with
  | nil => rfl
  | cons t r ih =>
    simp only [nodesAllB, Bool.and_eq_true]
    exact ⟨h 0 (by simp), ih (fun i hi => h (i + 1) (by simpa using hi))⟩
theorem nodesAllB_not {wide depth : Int} {c : List Tr} (i : Nat) (hi : i < c.length) (h : nodesB wide (wide / 2) depth c[i] = false) : nodesAllB wide depth c = false := by
  cases hh : nodesAllB wide depth c with
  | false => rfl
  | true => rw [nodesAllB_get hh i hi] at h; cases h
end Tr

set_option maxHeartbeats 2000000 in
theorem l1Nodes_c (wide : Int) (hw1 : 2 ≤ wide) (hw2 : wide ≤ 6) {w : World} {B : Nat} {kv cv : Value} {t : Tr} (ht : TreeIn w B kv cv t) (hw : t.weight ≤ 1048576) :
    ∀ w' (root : Bool) (depth : Int), Below B w w' → B ≤ w'.heap.size → 1 ≤ depth → depth ≤ 1048577 →
    Calls Try.prog 58 #[.agg #[kv, cv], .int .i64 wide, .bool root, .int .i64 depth] w' fun e w'' => e = .returned (.bool (Tr.nodesB wide (if root then 0 else wide / 2) depth t)) ∧ Below w'.heap.size w' w'' := by
  induction ht with
  | mk ks cs kv a cap kvs cvs hk hlen hcap hat hkids ih =>
    intro w' root depth hbw hB hd1 hd2
    simp only [Tr.weight] at hw
    unfold maxLen at hcap
    have hcl := Tr.length_le_weights cs
    obtain ⟨ka, kcap, rfl, k1, k2, _, k3⟩ := hk
    unfold maxLen at k2
    have HAT := Lib.hid (hat.later hbw (Nat.le_refl _))
    have IH := Lib.hid ih
    have HKI := Lib.hid hkids
    clear k3 hat ih hkids
    cases root
    · -- root = false
      rw [show (if false = true then (0 : Int) else wide / 2) = wide / 2 from rfl]
      by_cases hin : (wide / 2) ≤ (ks.length : Int) ∧ (ks.length : Int) ≤ wide
      · have hin' := inB_true hin.1 hin.2
        by_cases hc0 : cs.length = 0
        · by_cases hdep : depth = 1
          · have hfin : Tr.nodesB wide (wide / 2) depth (.mk ks cs) = true := by simp only [Tr.nodesB, hin', hc0, hdep]; rfl
            have HF := Lib.hid hfin
            have hc1 : ((cs.length : Int) == 0) = true := by simp [hc0]
            have hd1' : ((depth : Int) == 1) = true := by simp [hdep]
            clear hfin hc0 hdep
            go_enter Try.func58, Try.ntmps58
            go_wp2_with fail
            refine (l1In_c (ks.length : Int) (wide / 2) wide _).mono ?_
            rintro e w1 ⟨rfl, rfl⟩
            rw [hin']
            go_wp2_with fail
            go_ret
            exact ⟨ret_bool HF.out.symm, (Below.refl _ _).alloc (Nat.le_refl _) _⟩
          · have hfin : Tr.nodesB wide (wide / 2) depth (.mk ks cs) = false := by simp only [Tr.nodesB, hin', hc0, hdep]; rfl
            have HF := Lib.hid hfin
            have hc1 : ((cs.length : Int) == 0) = true := by simp [hc0]
            have hd1' : ((depth : Int) == 1) = false := by simp [hdep]
            clear hfin hc0 hdep
            go_enter Try.func58, Try.ntmps58
            go_wp2_with fail
            refine (l1In_c (ks.length : Int) (wide / 2) wide _).mono ?_
            rintro e w1 ⟨rfl, rfl⟩
            rw [hin']
            go_wp2_with fail
            go_ret
            exact ⟨ret_bool HF.out.symm, (Below.refl _ _).alloc (Nat.le_refl _) _⟩
        · by_cases hdep : depth = 1
          · have hfin : Tr.nodesB wide (wide / 2) depth (.mk ks cs) = false := by simp only [Tr.nodesB, hin', hc0, hdep]; rfl
            have HF := Lib.hid hfin
            have hc1 : ((cs.length : Int) == 0) = false := beq_eq_false_iff_ne.2 (by omega)
            have hd1' : ((depth : Int) == 1) = true := by simp [hdep]
            clear hfin hc0 hdep
            go_enter Try.func58, Try.ntmps58
            go_wp2_with fail
            refine (l1In_c (ks.length : Int) (wide / 2) wide _).mono ?_
            rintro e w1 ⟨rfl, rfl⟩
            rw [hin']
            go_wp2_with fail
            go_ret
            exact ⟨ret_bool HF.out.symm, (Below.refl _ _).alloc (Nat.le_refl _) _⟩
          · have hc1 : ((cs.length : Int) == 0) = false := beq_eq_false_iff_ne.2 (by omega)
            have hd1' : ((depth : Int) == 1) = false := by simp [hdep]
            by_cases hck : cs.length = ks.length + 1
            · have hck' : ((cs.length : Int) != (ks.length : Int) + 1) = false := by simp; omega
              by_cases hk0 : ks.length = 0
              · have hfin : Tr.nodesB wide (wide / 2) depth (.mk ks cs) = false := by simp [Tr.nodesB, hdep, hck, hk0]
                have HF := Lib.hid hfin
                have hk0' : ((ks.length : Int) == 0) = true := by simp [hk0]
                clear hfin hc0 hdep hk0 hck
                go_enter Try.func58, Try.ntmps58
                go_wp2_with fail
                refine (l1In_c (ks.length : Int) (wide / 2) wide _).mono ?_
                rintro e w1 ⟨rfl, rfl⟩
                rw [hin']
                go_wp2_with fail
                go_ret
                exact ⟨ret_bool HF.out.symm, (Below.refl _ _).alloc (Nat.le_refl _) _⟩
              · have hfin : Tr.nodesB wide (wide / 2) depth (.mk ks cs) = Tr.nodesAllB wide (depth - 1) cs := by simp [Tr.nodesB, hin', hck, hdep, hk0]
                have HF := Lib.hid hfin
                have hk0' : ((ks.length : Int) == 0) = false := beq_eq_false_iff_ne.2 (by omega)
                have hd2' : 2 ≤ depth := by omega
                clear hfin hc0 hdep hk0 hck
                go_enter Try.func58, Try.ntmps58
                go_wp2_with fail
                refine (l1In_c (ks.length : Int) (wide / 2) wide _).mono ?_
                rintro e w1 ⟨rfl, rfl⟩
                rw [hin']
                go_wp2_with fail
                go_loopw [52] (fun i wr => ∃ (j : Nat), j ≤ cs.length ∧ i = .int .i64 j ∧ (∀ i (hi : i < cs.length), i < j → Tr.nodesB wide (wide / 2) (depth - 1) cs[i] = true) ∧ Below w'.heap.size w' wr) (fun i _ => cs.length - (intOf i).toNat)
                case atStart => exact ⟨0, Nat.zero_le _, rfl, fun i _ h => by omega, (Below.refl _ _).alloc (Nat.le_refl _) _⟩
                case round =>
                  obtain ⟨j, hj, rfl, hall, hbel⟩ := hrel
                  have HALL := Lib.hid hall
                  clear hall
                  by_cases hlt : j < cs.length
                  · rcases HAT.out with h | ⟨b, off, rfl, hb, hat⟩
                    · omega
                    obtain ⟨ha, hc⟩ := hat j hlt
                    obtain ⟨a1, n1, c1, a2, n2, c2, e1, e2⟩ := (HKI.out j hlt).slices
                    rw [← below_cell hbel (by omega)] at ha hc
                    rw [e1] at ha
                    rw [e2] at hc
                    have hz := hbel.size
                    have hC := fun w1 h1 h2 => IH.out j hlt (by have := Tr.weight_get_le cs j hlt; omega) w1 false (depth - 1) h1 h2 (by omega) (by omega)
                    rw [e1, e2] at hC
                    have HC := Lib.hid hC
                    clear hat hC e1 e2
                    go_wp2_with fail
                    refine (HC.out _ (hbw.trans ((hbel.alloc hz _).mono hB)) (by simp; omega)).mono ?_
                    rintro e w1 ⟨rfl, hb1⟩
                    have hb1' : Below w'.heap.size w' w1 := (hbel.alloc hz _).trans (hb1.mono (by simp; omega))
                    clear hb1
                    cases hres : Tr.nodesB wide (if false = true then 0 else wide / 2) (depth - 1) cs[j] with
                    | true =>
                      have HRES := Lib.hid hres
                      clear hres
                      go_wp2_with fail
                      go_roundw
                      case rel =>
                        refine ⟨j + 1, by omega, by go_num, fun i hi hij => ?_, hb1'⟩
                        by_cases e : i = j
                        · subst e; simpa using HRES.out
                        · exact HALL.out i hi (by omega)
                      case measure => simp [intOf]; omega
                    | false =>
                      have HRES := Lib.hid hres
                      clear hres
                      go_wp2_with fail
                      go_ret
                      exact ⟨ret_bool (by rw [HF.out]; exact (Tr.nodesAllB_not j hlt (by simpa using HRES.out)).symm), hb1'⟩
                  · obtain rfl : j = cs.length := by omega
                    go_wp2_with fail
                    go_ret
                    exact ⟨ret_bool (by rw [HF.out]; exact (Tr.nodesAllB_of (fun i hi => HALL.out i hi hi)).symm), hbel⟩
            · have hfin : Tr.nodesB wide (wide / 2) depth (.mk ks cs) = false := by simp [Tr.nodesB, hin', hc0, hdep, hck]
              have HF := Lib.hid hfin
              have hck' : ((cs.length : Int) != (ks.length : Int) + 1) = true := by simp; omega
              clear hfin hc0 hdep hck
              go_enter Try.func58, Try.ntmps58
              go_wp2_with fail
              refine (l1In_c (ks.length : Int) (wide / 2) wide _).mono ?_
              rintro e w1 ⟨rfl, rfl⟩
              rw [hin']
              go_wp2_with fail
              go_ret
              exact ⟨ret_bool HF.out.symm, (Below.refl _ _).alloc (Nat.le_refl _) _⟩
      · have hin' := inB_false hin
        have hfin : Tr.nodesB wide (wide / 2) depth (.mk ks cs) = false := by simp only [Tr.nodesB, hin']; rfl
        have HF := Lib.hid hfin
        clear hfin hin
        go_enter Try.func58, Try.ntmps58
        go_wp2_with fail
        refine (l1In_c (ks.length : Int) (wide / 2) wide _).mono ?_
        rintro e w1 ⟨rfl, rfl⟩
        rw [hin']
        go_wp2_with fail
        go_ret
        exact ⟨ret_bool HF.out.symm, (Below.refl _ _).alloc (Nat.le_refl _) _⟩
    · -- root = true
      rw [show (if true = true then (0 : Int) else wide / 2) = 0 from rfl]
      by_cases hin : (0) ≤ (ks.length : Int) ∧ (ks.length : Int) ≤ wide
      · have hin' := inB_true hin.1 hin.2
        by_cases hc0 : cs.length = 0
        · by_cases hdep : depth = 1
          · have hfin : Tr.nodesB wide (0) depth (.mk ks cs) = true := by simp only [Tr.nodesB, hin', hc0, hdep]; rfl
            have HF := Lib.hid hfin
            have hc1 : ((cs.length : Int) == 0) = true := by simp [hc0]
            have hd1' : ((depth : Int) == 1) = true := by simp [hdep]
            clear hfin hc0 hdep
            go_enter Try.func58, Try.ntmps58
            go_wp2_with fail
            refine (l1In_c (ks.length : Int) (0) wide _).mono ?_
            rintro e w1 ⟨rfl, rfl⟩
            rw [hin']
            go_wp2_with fail
            go_ret
            exact ⟨ret_bool HF.out.symm, (Below.refl _ _).alloc (Nat.le_refl _) _⟩
          · have hfin : Tr.nodesB wide (0) depth (.mk ks cs) = false := by simp only [Tr.nodesB, hin', hc0, hdep]; rfl
            have HF := Lib.hid hfin
            have hc1 : ((cs.length : Int) == 0) = true := by simp [hc0]
            have hd1' : ((depth : Int) == 1) = false := by simp [hdep]
            clear hfin hc0 hdep
            go_enter Try.func58, Try.ntmps58
            go_wp2_with fail
            refine (l1In_c (ks.length : Int) (0) wide _).mono ?_
            rintro e w1 ⟨rfl, rfl⟩
            rw [hin']
            go_wp2_with fail
            go_ret
            exact ⟨ret_bool HF.out.symm, (Below.refl _ _).alloc (Nat.le_refl _) _⟩
        · by_cases hdep : depth = 1
          · have hfin : Tr.nodesB wide (0) depth (.mk ks cs) = false := by simp only [Tr.nodesB, hin', hc0, hdep]; rfl
            have HF := Lib.hid hfin
            have hc1 : ((cs.length : Int) == 0) = false := beq_eq_false_iff_ne.2 (by omega)
            have hd1' : ((depth : Int) == 1) = true := by simp [hdep]
            clear hfin hc0 hdep
            go_enter Try.func58, Try.ntmps58
            go_wp2_with fail
            refine (l1In_c (ks.length : Int) (0) wide _).mono ?_
            rintro e w1 ⟨rfl, rfl⟩
            rw [hin']
            go_wp2_with fail
            go_ret
            exact ⟨ret_bool HF.out.symm, (Below.refl _ _).alloc (Nat.le_refl _) _⟩
          · have hc1 : ((cs.length : Int) == 0) = false := beq_eq_false_iff_ne.2 (by omega)
            have hd1' : ((depth : Int) == 1) = false := by simp [hdep]
            by_cases hck : cs.length = ks.length + 1
            · have hck' : ((cs.length : Int) != (ks.length : Int) + 1) = false := by simp; omega
              by_cases hk0 : ks.length = 0
              · have hfin : Tr.nodesB wide (0) depth (.mk ks cs) = false := by simp [Tr.nodesB, hdep, hck, hk0]
                have HF := Lib.hid hfin
                have hk0' : ((ks.length : Int) == 0) = true := by simp [hk0]
                clear hfin hc0 hdep hk0 hck
                go_enter Try.func58, Try.ntmps58
                go_wp2_with fail
                refine (l1In_c (ks.length : Int) (0) wide _).mono ?_
                rintro e w1 ⟨rfl, rfl⟩
                rw [hin']
                go_wp2_with fail
                go_ret
                exact ⟨ret_bool HF.out.symm, (Below.refl _ _).alloc (Nat.le_refl _) _⟩
              · have hfin : Tr.nodesB wide (0) depth (.mk ks cs) = Tr.nodesAllB wide (depth - 1) cs := by simp [Tr.nodesB, hin', hck, hdep, hk0]
                have HF := Lib.hid hfin
                have hk0' : ((ks.length : Int) == 0) = false := beq_eq_false_iff_ne.2 (by omega)
                have hd2' : 2 ≤ depth := by omega
                clear hfin hc0 hdep hk0 hck
                go_enter Try.func58, Try.ntmps58
                go_wp2_with fail
                refine (l1In_c (ks.length : Int) (0) wide _).mono ?_
                rintro e w1 ⟨rfl, rfl⟩
                rw [hin']
                go_wp2_with fail
                go_loopw [52] (fun i wr => ∃ (j : Nat), j ≤ cs.length ∧ i = .int .i64 j ∧ (∀ i (hi : i < cs.length), i < j → Tr.nodesB wide (wide / 2) (depth - 1) cs[i] = true) ∧ Below w'.heap.size w' wr) (fun i _ => cs.length - (intOf i).toNat)
                case atStart => exact ⟨0, Nat.zero_le _, rfl, fun i _ h => by omega, (Below.refl _ _).alloc (Nat.le_refl _) _⟩
                case round =>
                  obtain ⟨j, hj, rfl, hall, hbel⟩ := hrel
                  have HALL := Lib.hid hall
                  clear hall
                  by_cases hlt : j < cs.length
                  · rcases HAT.out with h | ⟨b, off, rfl, hb, hat⟩
                    · omega
                    obtain ⟨ha, hc⟩ := hat j hlt
                    obtain ⟨a1, n1, c1, a2, n2, c2, e1, e2⟩ := (HKI.out j hlt).slices
                    rw [← below_cell hbel (by omega)] at ha hc
                    rw [e1] at ha
                    rw [e2] at hc
                    have hz := hbel.size
                    have hC := fun w1 h1 h2 => IH.out j hlt (by have := Tr.weight_get_le cs j hlt; omega) w1 false (depth - 1) h1 h2 (by omega) (by omega)
                    rw [e1, e2] at hC
                    have HC := Lib.hid hC
                    clear hat hC e1 e2
                    go_wp2_with fail
                    refine (HC.out _ (hbw.trans ((hbel.alloc hz _).mono hB)) (by simp; omega)).mono ?_
                    rintro e w1 ⟨rfl, hb1⟩
                    have hb1' : Below w'.heap.size w' w1 := (hbel.alloc hz _).trans (hb1.mono (by simp; omega))
                    clear hb1
                    cases hres : Tr.nodesB wide (if false = true then 0 else wide / 2) (depth - 1) cs[j] with
                    | true =>
                      have HRES := Lib.hid hres
                      clear hres
                      go_wp2_with fail
                      go_roundw
                      case rel =>
                        refine ⟨j + 1, by omega, by go_num, fun i hi hij => ?_, hb1'⟩
                        by_cases e : i = j
                        · subst e; simpa using HRES.out
                        · exact HALL.out i hi (by omega)
                      case measure => simp [intOf]; omega
                    | false =>
                      have HRES := Lib.hid hres
                      clear hres
                      go_wp2_with fail
                      go_ret
                      exact ⟨ret_bool (by rw [HF.out]; exact (Tr.nodesAllB_not j hlt (by simpa using HRES.out)).symm), hb1'⟩
                  · obtain rfl : j = cs.length := by omega
                    go_wp2_with fail
                    go_ret
                    exact ⟨ret_bool (by rw [HF.out]; exact (Tr.nodesAllB_of (fun i hi => HALL.out i hi hi)).symm), hbel⟩
            · have hfin : Tr.nodesB wide (0) depth (.mk ks cs) = false := by simp [Tr.nodesB, hin', hc0, hdep, hck]
              have HF := Lib.hid hfin
              have hck' : ((cs.length : Int) != (ks.length : Int) + 1) = true := by simp; omega
              clear hfin hc0 hdep hck
              go_enter Try.func58, Try.ntmps58
              go_wp2_with fail
              refine (l1In_c (ks.length : Int) (0) wide _).mono ?_
              rintro e w1 ⟨rfl, rfl⟩
              rw [hin']
              go_wp2_with fail
              go_ret
              exact ⟨ret_bool HF.out.symm, (Below.refl _ _).alloc (Nat.le_refl _) _⟩
      · have hin' := inB_false hin
        have hfin : Tr.nodesB wide (0) depth (.mk ks cs) = false := by simp only [Tr.nodesB, hin']; rfl
        have HF := Lib.hid hfin
        clear hfin hin
        go_enter Try.func58, Try.ntmps58
        go_wp2_with fail
        refine (l1In_c (ks.length : Int) (0) wide _).mono ?_
        rintro e w1 ⟨rfl, rfl⟩
        rw [hin']
        go_wp2_with fail
        go_ret
        exact ⟨ret_bool HF.out.symm, (Below.refl _ _).alloc (Nat.le_refl _) _⟩

end Go.Proofs.Ytodcapgmhginoaa
