/- The contract of the program's TreeValid. -/
import Derived.Test.YtodcapgmhginoaaProg
import Derived.Test.YtodcapgmhginoaaTvS0
import Derived.Test.YtodcapgmhginoaaTvS2
import Derived.Test.YtodcapgmhginoaaTvS3
import Derived.Test.YtodcapgmhginoaaTvS4
import Derived.Test.YtodcapgmhginoaaTvS10
import Derived.Test.YtodcapgmhginoaaTvS15
import Derived.Test.YtodcapgmhginoaaTvS19
namespace Go.Proofs.Ytodcapgmhginoaa
open Go.RowKit

set_option maxRecDepth 100000 in
set_option maxHeartbeats 2000000 in
theorem impl_valid : ImplTreeValid := by
  intro w0 B kv cv t n ht hwt hn1 hn2 w' hbw hB
  cases t with
  | mk ks cs =>
    have ht' := ht.later hbw (Nat.le_refl _)
    obtain ⟨a5, n5, m5, a6, n6, m6, rfl, rfl⟩ := ht.slices
    obtain ⟨a, cap, kvs, cvs, hcv, hk, hlen, hcap, hat, hkids⟩ := ht.parts
    simp only [Value.slice.injEq] at hcv
    obtain ⟨rfl, rfl, rfl⟩ := hcv
    clear hk hlen hcap hat hkids ht hbw
    obtain ⟨W1, hW1⟩ : ∃ W1, W1 = w'.alloc (.cells #[.slice a5 n5 m5, .slice a6 cs.length m6] 30) := ⟨_, rfl⟩
    have hs1 : W1.heap.size = w'.heap.size + 1 := by rw [hW1]; simp
    have hb1 : Below w'.heap.size w' W1 := by rw [hW1]; exact (Below.refl _ _).alloc (Nat.le_refl _) _
    have kb : W1.heap[w'.heap.size]? = some (.cells #[.slice a5 n5 m5, .slice a6 cs.length m6] 30 (0, 0)) := by rw [hW1, new_blk]
    have ht1 : TreeIn W1 W1.heap.size (.slice a5 n5 m5) (.slice a6 cs.length m6) (.mk ks cs) := (ht'.later hb1 hB).wider (by omega)
    obtain ⟨x1, x2, x3, x4⟩ := box2 kb
    have HT1 := Lib.hid ht1
    have HW1 := Lib.hid hW1
    have HB1 := Lib.hid (And.intro hb1 kb)
    have hval0 : inB n 2 6 = false → Tr.validB n (.mk ks cs) = false := fun h => by simp only [Tr.validB, h]; rfl
    have HV0 := Lib.hid hval0
    clear ht' ht1 hW1 hb1 kb hval0
    by_cases hwd : 2 ≤ n ∧ n ≤ 6
    · have hin := inB_true hwd.1 hwd.2
      have hval := even_valid hwd.1 hwd.2 ks cs
      have hel := Tr.evenD_le n 6 ((min cs.length 1 : Nat) : Int) (.mk ks cs)
      have hc := evenDepth_c n hwd.1 hwd.2 6 (Nat.le_refl _) HT1.out hwt w'.heap.size 0 ((min cs.length 1 : Nat) : Int) (by omega) (by omega) x1 x2 (by omega) W1 (Below.refl _ _) (Nat.le_refl _)
      generalize Tr.evenD n 6 ((min cs.length 1 : Nat) : Int) (.mk ks cs) = E at hval hel hc
      obtain ⟨EI, hEI⟩ : ∃ EI : Int, EI = (E : Int) := ⟨_, rfl⟩
      rw [← hEI] at hc
      have HEI := Lib.hid hEI
      clear hEI
      have HIN := Lib.hid hin
      have HVAL := Lib.hid hval
      have HC := Lib.hid hc
      clear hin hval hc
      go_enter Try.func19, Try.ntmps19
      go_wp2_with fail
      rw [← HW1.out]
      refine (isWide_c n W1).mono ?_
      rintro e w1 ⟨rfl, rfl⟩
      rw [HIN.out]
      rcases Nat.lt_or_ge cs.length 2 with h0 | h1
      · have h0' : ((cs.length : Nat) : Int) ≤ 1 := by omega
        have H0 := Lib.hid h0
        clear h0
        go_wp2_with fail
        have hc' := HC.out
        have e9 : ((min cs.length 1 : Nat) : Int) = (cs.length : Int) := by omega
        rw [e9] at hc'
        refine hc'.mono ?_
        clear hc' e9
        rintro e w2 ⟨rfl, hb2⟩
        have hs2 := hb2.size
        have kb2 := (hb2.block w'.heap.size (by omega)).trans HB1.out.2
        clear x1 x2 x3 x4
        obtain ⟨x1, x2, x3, x4⟩ := box2 kb2
        have HB2 := Lib.hid hb2
        clear hb2 kb2
        by_cases hE : E = 0
        · have hv : Tr.validB n (.mk ks cs) = false := by rw [HVAL.out, hE]; rfl
          have hE' : ¬ (0 : Int) < EI := by rw [HEI.out, hE]; decide
          have HV := Lib.hid hv
          clear hv hE
          go_wp2_with fail
          go_ret
          exact ⟨ret_bool HV.out.symm, HB1.out.1.trans (HB2.out.mono (by omega))⟩
        · have hv : Tr.validB n (.mk ks cs) = sortedB (Tr.mk ks cs).keys := by rw [HVAL.out, decide_eq_true (by omega), Bool.true_and]
          have hE' : (0 : Int) < EI := by rw [HEI.out]; omega
          have HV := Lib.hid hv
          have HE := Lib.hid hE
          clear hv hE
          go_wp2_with fail
          refine (plant_c HT1.out hwt w2 HB2.out hs2).mono ?_
          rintro e w3 ⟨nb, rfl, hnd, hb3⟩
          have hs3 := hb3.size
          have HND := Lib.hid hnd
          have HB3 := Lib.hid hb3
          clear hnd hb3 x1 x2 x3 x4
          go_wp2_with fail
          refine (ascend_c (enters_of Try.func68 (by kernel_rfl) rfl) (inOrder_iter HND.out hwt (Nat.le_refl _)) (fun k h => h.2)).mono ?_
          rintro e w4 ⟨rfl, hb4⟩
          have HB4 := Lib.hid hb4
          clear hb4
          go_wp2_with fail
          go_ret
          exact ⟨ret_bool HV.out.symm, HB1.out.1.trans ((HB2.out.mono (by omega)).trans ((HB3.out.mono (by omega)).trans (HB4.out.mono (by omega))))⟩
      · have h1' : (1 : Int) < ((cs.length : Nat) : Int) := by omega
        have H1 := Lib.hid h1
        clear h1
        go_wp2_with fail
        have hc' := HC.out
        have e9 : ((min cs.length 1 : Nat) : Int) = 1 := by omega
        rw [e9] at hc'
        refine hc'.mono ?_
        clear hc' e9
        rintro e w2 ⟨rfl, hb2⟩
        have hs2 := hb2.size
        have kb2 := (hb2.block w'.heap.size (by omega)).trans HB1.out.2
        clear x1 x2 x3 x4
        obtain ⟨x1, x2, x3, x4⟩ := box2 kb2
        have HB2 := Lib.hid hb2
        clear hb2 kb2
        by_cases hE : E = 0
        · have hv : Tr.validB n (.mk ks cs) = false := by rw [HVAL.out, hE]; rfl
          have hE' : ¬ (0 : Int) < EI := by rw [HEI.out, hE]; decide
          have HV := Lib.hid hv
          clear hv hE
          go_wp2_with fail
          go_ret
          exact ⟨ret_bool HV.out.symm, HB1.out.1.trans (HB2.out.mono (by omega))⟩
        · have hv : Tr.validB n (.mk ks cs) = sortedB (Tr.mk ks cs).keys := by rw [HVAL.out, decide_eq_true (by omega), Bool.true_and]
          have hE' : (0 : Int) < EI := by rw [HEI.out]; omega
          have HV := Lib.hid hv
          have HE := Lib.hid hE
          clear hv hE
          go_wp2_with fail
          refine (plant_c HT1.out hwt w2 HB2.out hs2).mono ?_
          rintro e w3 ⟨nb, rfl, hnd, hb3⟩
          have hs3 := hb3.size
          have HND := Lib.hid hnd
          have HB3 := Lib.hid hb3
          clear hnd hb3 x1 x2 x3 x4
          go_wp2_with fail
          refine (ascend_c (enters_of Try.func68 (by kernel_rfl) rfl) (inOrder_iter HND.out hwt (Nat.le_refl _)) (fun k h => h.2)).mono ?_
          rintro e w4 ⟨rfl, hb4⟩
          have HB4 := Lib.hid hb4
          clear hb4
          go_wp2_with fail
          go_ret
          exact ⟨ret_bool HV.out.symm, HB1.out.1.trans ((HB2.out.mono (by omega)).trans ((HB3.out.mono (by omega)).trans (HB4.out.mono (by omega))))⟩
    · have hin := inB_false hwd
      have HIN := Lib.hid hin
      clear hin
      go_enter Try.func19, Try.ntmps19
      go_wp2_with fail
      rw [← HW1.out]
      refine (isWide_c n W1).mono ?_
      rintro e w1 ⟨rfl, rfl⟩
      rw [HIN.out]
      go_wp2_with fail
      go_ret
      exact ⟨ret_bool (HV0.out HIN.out).symm, HB1.out.1⟩
end Go.Proofs.Ytodcapgmhginoaa
