/- Whether a tree is valid for some width: the program. -/
import Derived.Test.YtdcifdpkfcgmhaaDoorProg
import Derived.Test.YtdcifdpkfcgmhaaDoorCr0
import Derived.Test.YtdcifdpkfcgmhaaDoorCr14
import Derived.Test.YtdcifdpkfcgmhaaDoorCrS1
import Derived.Test.YtdcifdpkfcgmhaaDoorCr11
import Derived.Deep.RegionHeld3
import Derived.Test.YtdcifdpkfcgmhaaDoorCr8
import Derived.Test.YtdcifdpkfcgmhaaDoorCr10
import Derived.Test.YtdcifdpkfcgmhaaDoorCr12
import Derived.Test.YtdcifdpkfcgmhaaDoorCr13

/- The law on TreeValid: the walk over the contracts. -/
namespace Go.Proofs.YtdcifdpkfcgmhaaDoor
open Go.RowKit

/-- What the program's TreeValid is to do. -/
def ImplTreeValid : Prop := ∀ (w0 : World) (B : Nat) (kv cv : Value) (t : Tr) (n : Int), TreeIn w0 B kv cv t → t.weight ≤ 1048576 → -9223372036854775808 ≤ n → n ≤ 9223372036854775807 → ∀ w', Below B w0 w' → B ≤ w'.heap.size →
  Calls Tryd.prog 113 #[.agg #[kv, cv], .int .i64 n] w' fun e w'' => e = .returned (.bool (Tr.validB n t)) ∧ Below w'.heap.size w' w''


-- END

end Go.Proofs.YtdcifdpkfcgmhaaDoor

/- The contract of the program's TreeValid. -/
namespace Go.Proofs.YtdcifdpkfcgmhaaDoor
open Go.RowKit

set_option maxRecDepth 100000 in
set_option maxHeartbeats 2000000 in
theorem impl_valid : ImplTreeValid := by
  intro w0 B kv cv t n ht hwt hn1 hn2 w' hbw hB
  cases t with
  | mk ks cs =>
    have ht' := ht.later hbw (Nat.le_refl _)
    obtain ⟨a5, n5, m5, a6, n6, m6, rfl, rfl⟩ := ht.slices
    obtain ⟨a, cap, kvs, cvs, hcv, hk, hlen, hcap, hat, hkids⟩ := ht.parts
    simp only [Value.slice.injEq] at hcv
    obtain ⟨rfl, rfl, rfl⟩ := hcv
    clear hk hlen hcap hat hkids ht hbw
    obtain ⟨W1, hW1⟩ : ∃ W1, W1 = w'.alloc (.cells #[.slice a5 n5 m5, .slice a6 cs.length m6] 33) := ⟨_, rfl⟩
    have hs1 : W1.heap.size = w'.heap.size + 1 := by rw [hW1]; simp
    have hb1 : Below w'.heap.size w' W1 := by rw [hW1]; exact (Below.refl _ _).alloc (Nat.le_refl _) _
    have kb : W1.heap[w'.heap.size]? = some (.cells #[.slice a5 n5 m5, .slice a6 cs.length m6] 33 (0, 0)) := by rw [hW1, new_blk]
    have ht1 : TreeIn W1 W1.heap.size (.slice a5 n5 m5) (.slice a6 cs.length m6) (.mk ks cs) := (ht'.later hb1 hB).wider (by omega)
    obtain ⟨x1, x2, x3, x4⟩ := box2 kb
    have HT1 := Lib.hid ht1
    have HW1 := Lib.hid hW1
    have HB1 := Lib.hid (And.intro hb1 kb)
    have hval0 : inB n 2 6 = false → Tr.validB n (.mk ks cs) = false := fun h => by simp only [Tr.validB, h]; rfl
    have HV0 := Lib.hid hval0
    clear ht' ht1 hW1 hb1 kb hval0
    by_cases hwd : 2 ≤ n ∧ n ≤ 6
    · have hin := inB_true hwd.1 hwd.2
      have hval := even_valid hwd.1 hwd.2 ks cs
      have hel := Tr.evenD_le n 6 ((min cs.length 1 : Nat) : Int) (.mk ks cs)
      have hc := evenDepth_c n hwd.1 hwd.2 6 (Nat.le_refl _) HT1.out hwt w'.heap.size 0 ((min cs.length 1 : Nat) : Int) (by omega) (by omega) x1 x2 (by omega) W1 (Below.refl _ _) (Nat.le_refl _)
      generalize Tr.evenD n 6 ((min cs.length 1 : Nat) : Int) (.mk ks cs) = E at hval hel hc
      obtain ⟨EI, hEI⟩ : ∃ EI : Int, EI = (E : Int) := ⟨_, rfl⟩
      rw [← hEI] at hc
      have HEI := Lib.hid hEI
      clear hEI
      have HIN := Lib.hid hin
      have HVAL := Lib.hid hval
      have HC := Lib.hid hc
      clear hin hval hc
      go_enter Tryd.func113, Tryd.ntmps113
      go_wp2_with fail
      rw [← HW1.out]
      refine (isWide_c n W1).mono ?_
      rintro e w1 ⟨rfl, rfl⟩
      rw [HIN.out]
      rcases Nat.lt_or_ge cs.length 2 with h0 | h1
      · have h0' : ((cs.length : Nat) : Int) ≤ 1 := by omega
        have H0 := Lib.hid h0
        clear h0
        go_wp2_with fail
        have hc' := HC.out
        have e9 : ((min cs.length 1 : Nat) : Int) = (cs.length : Int) := by omega
        rw [e9] at hc'
        refine hc'.mono ?_
        clear hc' e9
        rintro e w2 ⟨rfl, hb2⟩
        have hs2 := hb2.size
        have kb2 := (hb2.block w'.heap.size (by omega)).trans HB1.out.2
        clear x1 x2 x3 x4
        obtain ⟨x1, x2, x3, x4⟩ := box2 kb2
        have HB2 := Lib.hid hb2
        clear hb2 kb2
        by_cases hE : E = 0
        · have hv : Tr.validB n (.mk ks cs) = false := by rw [HVAL.out, hE]; rfl
          have hE' : ¬ (0 : Int) < EI := by rw [HEI.out, hE]; decide
          have HV := Lib.hid hv
          clear hv hE
          go_wp2_with fail
          go_ret
          exact ⟨ret_bool HV.out.symm, HB1.out.1.trans (HB2.out.mono (by omega))⟩
        · have hv : Tr.validB n (.mk ks cs) = sortedB (Tr.mk ks cs).keys := by rw [HVAL.out, decide_eq_true (by omega), Bool.true_and]
          have hE' : (0 : Int) < EI := by rw [HEI.out]; omega
          have HV := Lib.hid hv
          have HE := Lib.hid hE
          clear hv hE
          go_wp2_with fail
          refine (plant_c HT1.out hwt w2 HB2.out hs2).mono ?_
          rintro e w3 ⟨nb, rfl, hnd, hb3⟩
          have hs3 := hb3.size
          have HND := Lib.hid hnd
          have HB3 := Lib.hid hb3
          clear hnd hb3 x1 x2 x3 x4
          go_wp2_with fail
          refine (ascends_c HND.out hwt (Nat.le_refl _)).mono ?_
          rintro e w4 ⟨rfl, hb4⟩
          have HB4 := Lib.hid hb4
          clear hb4
          go_wp2_with fail
          go_ret
          exact ⟨ret_bool HV.out.symm, HB1.out.1.trans ((HB2.out.mono (by omega)).trans ((HB3.out.mono (by omega)).trans (HB4.out.mono (by omega))))⟩
      · have h1' : (1 : Int) < ((cs.length : Nat) : Int) := by omega
        have H1 := Lib.hid h1
        clear h1
        go_wp2_with fail
        have hc' := HC.out
        have e9 : ((min cs.length 1 : Nat) : Int) = 1 := by omega
        rw [e9] at hc'
        refine hc'.mono ?_
        clear hc' e9
        rintro e w2 ⟨rfl, hb2⟩
        have hs2 := hb2.size
        have kb2 := (hb2.block w'.heap.size (by omega)).trans HB1.out.2
        clear x1 x2 x3 x4
        obtain ⟨x1, x2, x3, x4⟩ := box2 kb2
        have HB2 := Lib.hid hb2
        clear hb2 kb2
        by_cases hE : E = 0
        · have hv : Tr.validB n (.mk ks cs) = false := by rw [HVAL.out, hE]; rfl
          have hE' : ¬ (0 : Int) < EI := by rw [HEI.out, hE]; decide
          have HV := Lib.hid hv
          clear hv hE
          go_wp2_with fail
          go_ret
          exact ⟨ret_bool HV.out.symm, HB1.out.1.trans (HB2.out.mono (by omega))⟩
        · have hv : Tr.validB n (.mk ks cs) = sortedB (Tr.mk ks cs).keys := by rw [HVAL.out, decide_eq_true (by omega), Bool.true_and]
          have hE' : (0 : Int) < EI := by rw [HEI.out]; omega
          have HV := Lib.hid hv
          have HE := Lib.hid hE
          clear hv hE
          go_wp2_with fail
          refine (plant_c HT1.out hwt w2 HB2.out hs2).mono ?_
          rintro e w3 ⟨nb, rfl, hnd, hb3⟩
          have hs3 := hb3.size
          have HND := Lib.hid hnd
          have HB3 := Lib.hid hb3
          clear hnd hb3 x1 x2 x3 x4
          go_wp2_with fail
          refine (ascends_c HND.out hwt (Nat.le_refl _)).mono ?_
          rintro e w4 ⟨rfl, hb4⟩
          have HB4 := Lib.hid hb4
          clear hb4
          go_wp2_with fail
          go_ret
          exact ⟨ret_bool HV.out.symm, HB1.out.1.trans ((HB2.out.mono (by omega)).trans ((HB3.out.mono (by omega)).trans (HB4.out.mono (by omega))))⟩
    · have hin := inB_false hwd
      have HIN := Lib.hid hin
      clear hin
      go_enter Tryd.func113, Tryd.ntmps113
      go_wp2_with fail
      rw [← HW1.out]
      refine (isWide_c n W1).mono ?_
      rintro e w1 ⟨rfl, rfl⟩
      rw [HIN.out]
      go_wp2_with fail
      go_ret
      exact ⟨ret_bool (HV0.out HIN.out).symm, HB1.out.1⟩
end Go.Proofs.YtdcifdpkfcgmhaaDoor

/- Whether a tree is valid for some width: the program. -/
namespace Go.Proofs.YtdcifdpkfcgmhaaDoor
open Go.RowKit

set_option maxRecDepth 100000 in
set_option maxHeartbeats 1000000 in
theorem validForSome_c {w : World} {B : Nat} {kv cv : Value} {t : Tr} (ht : TreeIn w B kv cv t) (hw : t.weight ≤ 1048576) (w' : World) (hbw : Below B w w') (hB : B ≤ w'.heap.size) :
    Calls Tryd.prog 86 #[.agg #[kv, cv]] w' fun e w'' => e = .returned (.bool t.someB) ∧ Below w'.heap.size w' w'' := by
  obtain ⟨a5, n5, m5, a6, n6, m6, rfl, rfl⟩ := ht.slices
  obtain ⟨W1, hW1⟩ : ∃ W1, W1 = w'.alloc (.cells #[.slice a5 n5 m5, .slice a6 n6 m6] 33) := ⟨_, rfl⟩
  have hs1 : W1.heap.size = w'.heap.size + 1 := by rw [hW1]; simp
  have hb1 : Below w'.heap.size w' W1 := by rw [hW1]; exact (Below.refl _ _).alloc (Nat.le_refl _) _
  have kb : W1.heap[w'.heap.size]? = some (.cells #[.slice a5 n5 m5, .slice a6 n6 m6] 33 (0, 0)) := by rw [hW1, new_blk]
  have HT := Lib.hid ht
  have HBW := Lib.hid hbw
  have HW1 := Lib.hid hW1
  have H1 := Lib.hid (And.intro hb1 kb)
  have hsb := someB_of t
  have HSB := Lib.hid hsb
  clear ht hbw hW1 hb1 kb hsb
  go_enter Tryd.func86, Tryd.ntmps86
  go_wp2_with fail
  rw [← HW1.out]
  go_loopw [3] (fun i wr => ∃ (j : Nat), 2 ≤ j ∧ j ≤ 7 ∧ i = .int .i64 j ∧ (∀ q : Nat, 2 ≤ q → q < j → Tr.validB q t = false) ∧ Below W1.heap.size W1 wr) (fun i _ => 7 - (intOf i).toNat)
  case atStart => exact ⟨2, Nat.le_refl _, by omega, rfl, fun q h1 h2 => by omega, Below.refl _ _⟩
  case round =>
    obtain ⟨j, hj2, hj7, rfl, hall, hbel⟩ := hrel
    have hsr := hbel.size
    obtain ⟨x1, x2, x3, x4⟩ := box2 ((hbel.block w'.heap.size (by omega)).trans H1.out.2)
    have HALL := Lib.hid hall
    have HBEL := Lib.hid hbel
    clear hall hbel
    by_cases hlt : j ≤ 6
    · have hlt' : (j : Int) ≤ 6 := by omega
      go_wp2_with fail
      refine (impl_valid _ _ _ _ _ (j : Int) HT.out hw (by omega) (by omega) wr (HBW.out.trans ((H1.out.1.mono hB).trans (HBEL.out.mono (by omega)))) (by omega)).mono ?_
      rintro e w2 ⟨rfl, hb2⟩
      have HB2 := Lib.hid (HBEL.out.trans (hb2.mono hsr))
      clear hb2
      cases hv : Tr.validB j t with
      | true =>
        have hso := HSB.out.1 j hj2 (by omega) hv
        have HSO := Lib.hid hso
        have HV := Lib.hid hv
        clear hso hv
        go_wp2_with fail
        go_ret
        exact ⟨ret_bool HSO.out.symm, H1.out.1.trans (HB2.out.mono (by omega))⟩
      | false =>
        have HV := Lib.hid hv
        clear hv
        go_wp2_with fail
        go_roundw
        case rel =>
          refine ⟨j + 1, by omega, by omega, by go_num, fun q h1 h2 => ?_, HB2.out⟩
          by_cases hq : q = j
          · rw [hq]; exact HV.out
          · exact HALL.out q h1 (by omega)
        case measure => simp [intOf]; omega
    · have hlt' : ¬ (j : Int) ≤ 6 := by omega
      have hso := HSB.out.2 (fun q h1 h2 => HALL.out q h1 (by omega))
      have HSO := Lib.hid hso
      clear hso
      go_wp2_with fail
      go_ret
      exact ⟨ret_bool HSO.out.symm, H1.out.1.trans (HBEL.out.mono (by omega))⟩
end Go.Proofs.YtdcifdpkfcgmhaaDoor
