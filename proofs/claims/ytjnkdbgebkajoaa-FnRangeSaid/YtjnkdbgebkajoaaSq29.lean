/- Whether a list ascends: the laws' own function. -/
import Derived.Test.YtjnkdbgebkajoaaProg
import Derived.Test.YtjnkdbgebkajoaaSq0
import Derived.Test.YtjnkdbgebkajoaaSq6
import Derived.Test.YtjnkdbgebkajoaaSq10
import Derived.Test.YtjnkdbgebkajoaaSq18
import Derived.Lib.SliceRun
import Derived.Deep.QuietTactic
import Derived.BigQuiet
import Derived.WalkSmall

/- The model's RangeVisits. -/
namespace Go.Proofs.Ytjnkdbgebkajoaa
open Go.RowKit

set_option maxRecDepth 100000 in
set_option maxHeartbeats 4000000 in
theorem l2Visits_c (low high : Int) {w : World} {B : Nat} {kv cv : Value} {t : Tr} (ht : TreeIn w B kv cv t) : t.weight ≤ 1048576 → Tr.Well t → ∀ w', Below B w w' → B ≤ w'.heap.size →
    Calls Try.prog 85 #[.agg #[kv, cv], .int .i64 low, .int .i64 high] w' fun e w'' => e = .returned (.int .i64 (t.rv low high)) ∧ Below w'.heap.size w' w'' := by
  induction ht with
  | mk ks cs kv a cap kvs cvs hk hlen hcap hat hkids ih =>
    intro hwt hwell w' hbw hB
    have hinner := fun h => Tr.Well.inner hwell h
    have hwk := fun i hi => Tr.Well.kid hwell i hi
    have hpw := Tr.Well.keys hwell
    simp only [Tr.weight] at hwt
    have hl0 := Tr.length_le_weights cs
    have hcount := Tr.counts_le cs
    have hpart := Tr.rv_part low high ks cs
    have hki := hk
    obtain ⟨ka, kcap, rfl, k1, k2, k3, k4⟩ := hk
    unfold maxLen at hcap k2
    obtain ⟨W1, hW1⟩ : ∃ W1, W1 = w'.alloc (.cells #[.slice ka ks.length kcap, .slice a cs.length cap] 26) := ⟨_, rfl⟩
    have hs1 : W1.heap.size = w'.heap.size + 1 := by rw [hW1]; simp
    have hb1 : Below w'.heap.size w' W1 := by rw [hW1]; exact (Below.refl _ _).alloc (Nat.le_refl _) _
    have kb : W1.heap[w'.heap.size]? = some (.cells #[.slice ka ks.length kcap, .slice a cs.length cap] 26 (0, 0)) := by rw [hW1, new_blk]
    obtain ⟨x1, x2, x3, x4⟩ := box2 kb
    have HB := Lib.hid hbw
    have HW1 := Lib.hid hW1
    have H1 := Lib.hid (And.intro hb1 kb)
    have HK4 := Lib.hid k4
    have HAT := Lib.hid hat
    have IH := Lib.hid ih
    have HKI := Lib.hid hkids
    have HIN := Lib.hid hinner
    have HWK := Lib.hid hwk
    have HPW := Lib.hid hpw
    have HPART := Lib.hid hpart
    clear hbw hW1 hb1 kb k4 hat ih hkids hinner hwk hpw hwell hpart hki
    go_enter Try.func85, Try.ntmps85
    go_wp2_with fail
    rw [← HW1.out]
    go_loopw [7, 13] (fun o i wr => ∃ (j : Nat), j ≤ cs.length ∧ i = .int .i64 j ∧ o = .int .i64 ((1 + rsum (place (low + 1) ks) (place high ks + 1) (Tr.rvs low high cs) j : Nat) : Int) ∧ Below W1.heap.size W1 wr) (fun _ i _ => cs.length - (intOf i).toNat)
    case atStart => exact ⟨0, Nat.zero_le _, rfl, rfl, Below.refl _ _⟩
    case round =>
      obtain ⟨j, hj, rfl, rfl, hbel⟩ := hrel
      have hsr := hbel.size
      clear x1 x2 x3 x4
      obtain ⟨x1, x2, x3, x4⟩ := box2 ((hbel.block w'.heap.size (by omega)).trans H1.out.2)
      have hbw2 : Below w'.heap.size w' wr := H1.out.1.trans (hbel.mono (by omega))
      have HBEL := Lib.hid hbel
      have hB2 : Below B w wr := HB.out.trans (hbw2.mono hB)
      have HB2 := Lib.hid hB2
      have HBW2 := Lib.hid hbw2
      clear hbel hB2 hbw2
      by_cases hlt : j < cs.length
      · have hcl := HIN.out (by omega)
        obtain ⟨n1, n2, n3, n4, n5, n6, s1, s2⟩ := (HKI.out j hlt).slices
        rcases HAT.out with h | ⟨kb5, ko5, rfl, hkb5, hkat5⟩
        · omega
        have z1 := (below_cell HB2.out hkb5).trans (hkat5 j hlt).1
        have z2 := (below_cell HB2.out hkb5).trans (hkat5 j hlt).2
        rw [s1] at z1
        rw [s2] at z2
        have S12 := Lib.hid (And.intro s1 s2)
        have x1' := Lib.cell?_alloc_some (.cells #[.slice n1 n2 n3, .slice n4 n5 n6] 26) x1
        clear hkat5 s1 s2
        have hjl : (j : Int) < (cs.length : Int) := by omega
        have hp1 := HPART.out j
        have hp2 := HPART.out (j + 1)
        have hge := fun h1 h2 => rsum_in (f := place (low + 1) ks) (to := place high ks + 1) (vs := Tr.rvs low high cs) (n := j) ⟨h1, h2⟩
        have hgo := fun h1 => rsum_out (f := place (low + 1) ks) (to := place high ks + 1) (vs := Tr.rvs low high cs) (n := j) h1
        have hgt := Tr.rvs_get low high cs j hlt
        generalize hG1 : rsum (place (low + 1) ks) (place high ks + 1) (Tr.rvs low high cs) j = g1 at hp1 hge hgo ⊢
        generalize hG2 : rsum (place (low + 1) ks) (place high ks + 1) (Tr.rvs low high cs) (j + 1) = g2 at hp2 hge hgo
        rw [hgt] at hge
        have HGE := Lib.hid hge
        have HGO := Lib.hid hgo
        have HG2 := Lib.hid hG2
        have HCL := Lib.hid hcl
        have hcall := IH.out j hlt (by have := Tr.weight_get_le cs j hlt; omega) (HWK.out j hlt)
        have HC := Lib.hid hcall
        have hrl := Tr.rv_le low high cs[j]
        have hrc := Tr.count_le cs[j]
        have hrw := Tr.weight_get_le cs j hlt
        generalize hRV : cs[j].rv low high = rvj at hrl HGE HC
        clear hge hgo hgt hG1 hG2 hcall hRV hcl
        by_cases hj0 : j = 0
        · have hj0' : ((j : Int) == 0) = true := by simp [hj0]
          have HJ0 := Lib.hid hj0
          clear hj0
          by_cases hr : j < ks.length
          · have hr' : ((j : Int) == (ks.length : Int)) = false := by rw [beq_eq_false_iff_ne]; omega
            rcases HK4.out with h0 | ⟨kb, ko, rfl, hkb, hkat⟩
            · exfalso; have h9 : ks.length = 0 := by rw [h0]; rfl
              have := HCL.out; omega
            have rc : wr.cell? ⟨kb, ko + j, none⟩ = some (.int .i64 (ks.getD j 0)) := (below_cell HB2.out hkb).trans (hkat j hr)
            have hpi := Tr.lt_iff_place HPW.out (c := low + 1) hr
            obtain ⟨y, hy⟩ : ∃ y, y = ks.getD j 0 := ⟨_, rfl⟩
            rw [← hy] at rc hpi
            have rc' := Lib.cell?_alloc_some (.cells #[.slice n1 n2 n3, .slice n4 n5 n6] 26) rc
            have HPI := Lib.hid hpi
            have hjk : (j : Int) < (ks.length : Int) := by omega
            clear hkat hy hpi
            by_cases hlo : y > low
            · go_wp2_with fail
              rw [S12.out.1, S12.out.2] at HC
              refine (HC.out _ (HB2.out.trans (((Below.refl B wr).alloc (by omega) _))) (by simp; omega)).mono ?_
              rintro e w3 ⟨rfl, hb3⟩
              have H3 := Lib.hid (HBEL.out.trans (((Below.refl W1.heap.size wr).alloc hsr _).trans (hb3.mono (by simp; omega))))
              have hse := HGE.out (by have := HPI.out; omega) (by have := HJ0.out; omega)
              have HSE := Lib.hid hse
              clear hb3 hse
              go_wp2_with fail
              go_roundw
              case rel => exact ⟨j + 1, by omega, by go_num, by rw [HG2.out, HSE.out]; go_num, H3.out⟩
              case measure => simp [intOf]; omega
            · have hse := HGO.out (by have := HPI.out; omega)
              have HSE := Lib.hid hse
              clear hse
              go_wp2_with fail
              go_roundw
              case rel => exact ⟨j + 1, by omega, by go_num, by rw [HG2.out, HSE.out], HBEL.out.alloc hsr _⟩
              case measure => simp [intOf]; omega
          · have hr' : ((j : Int) == (ks.length : Int)) = true := by simp; have := HCL.out; omega
            have hpl9 := place_le (low + 1) ks
            go_wp2_with fail
            rw [S12.out.1, S12.out.2] at HC
            refine (HC.out _ (HB2.out.trans (((Below.refl B wr).alloc (by omega) _))) (by simp; omega)).mono ?_
            rintro e w3 ⟨rfl, hb3⟩
            have H3 := Lib.hid (HBEL.out.trans (((Below.refl W1.heap.size wr).alloc hsr _).trans (hb3.mono (by simp; omega))))
            have hse := HGE.out (by omega) (by have := HJ0.out; omega)
            have HSE := Lib.hid hse
            clear hb3 hse
            go_wp2_with fail
            go_roundw
            case rel => exact ⟨j + 1, by omega, by go_num, by rw [HG2.out, HSE.out]; go_num, H3.out⟩
            case measure => simp [intOf]; omega
        · obtain ⟨q, hq⟩ : ∃ q, j = q + 1 := ⟨j - 1, by omega⟩
          have hj0' : ((j : Int) == 0) = false := by rw [beq_eq_false_iff_ne]; omega
          have hjq : (j : Int) - 1 = (q : Int) := by omega
          rcases HK4.out with h0 | ⟨kb, ko, rfl, hkb, hkat⟩
          · exfalso; have h9 : ks.length = 0 := by rw [h0]; rfl
            have := HCL.out; omega
          have hqi : q < ks.length := by have := HCL.out; omega
          have qc : wr.cell? ⟨kb, ko + q, none⟩ = some (.int .i64 (ks.getD q 0)) := (below_cell HB2.out hkb).trans (hkat q hqi)
          have hqp := Tr.lt_iff_place HPW.out (c := high) hqi
          obtain ⟨z, hz⟩ : ∃ z, z = ks.getD q 0 := ⟨_, rfl⟩
          rw [← hz] at qc hqp
          have qc' := Lib.cell?_alloc_some (.cells #[.slice n1 n2 n3, .slice n4 n5 n6] 26) qc
          have HQP := Lib.hid hqp
          have hqk : (q : Int) < (ks.length : Int) := by omega
          have HKAT := Lib.hid hkat
          have HQ := Lib.hid hq
          clear hkat hz hqp hq hj0
          by_cases hhi : z < high
          · by_cases hr : j < ks.length
            · have hr' : ((j : Int) == (ks.length : Int)) = false := by rw [beq_eq_false_iff_ne]; omega
              have rc : wr.cell? ⟨kb, ko + j, none⟩ = some (.int .i64 (ks.getD j 0)) := (below_cell HB2.out hkb).trans (HKAT.out j hr)
              have hpi := Tr.lt_iff_place HPW.out (c := low + 1) hr
              obtain ⟨y, hy⟩ : ∃ y, y = ks.getD j 0 := ⟨_, rfl⟩
              rw [← hy] at rc hpi
              have rc' := Lib.cell?_alloc_some (.cells #[.slice n1 n2 n3, .slice n4 n5 n6] 26) rc
              have HPI := Lib.hid hpi
              have hjk : (j : Int) < (ks.length : Int) := by omega
              clear hy hpi
              by_cases hlo : y > low
              · go_wp2_with fail
                rw [S12.out.1, S12.out.2] at HC
                refine (HC.out _ (HB2.out.trans (((Below.refl B wr).alloc (by omega) _))) (by simp; omega)).mono ?_
                rintro e w3 ⟨rfl, hb3⟩
                have H3 := Lib.hid (HBEL.out.trans (((Below.refl W1.heap.size wr).alloc hsr _).trans (hb3.mono (by simp; omega))))
                have hse := HGE.out (by have := HPI.out; omega) (by have := HQP.out; have := HQ.out; omega)
                have HSE := Lib.hid hse
                clear hb3 hse
                go_wp2_with fail
                go_roundw
                case rel => exact ⟨j + 1, by omega, by go_num, by rw [HG2.out, HSE.out]; go_num, H3.out⟩
                case measure => simp [intOf]; omega
              · have hse := HGO.out (by have := HPI.out; omega)
                have HSE := Lib.hid hse
                clear hse
                go_wp2_with fail
                go_roundw
                case rel => exact ⟨j + 1, by omega, by go_num, by rw [HG2.out, HSE.out], HBEL.out.alloc hsr _⟩
                case measure => simp [intOf]; omega
            · have hr' : ((j : Int) == (ks.length : Int)) = true := by simp; have := HCL.out; omega
              have hpl9 := place_le (low + 1) ks
              go_wp2_with fail
              rw [S12.out.1, S12.out.2] at HC
              refine (HC.out _ (HB2.out.trans (((Below.refl B wr).alloc (by omega) _))) (by simp; omega)).mono ?_
              rintro e w3 ⟨rfl, hb3⟩
              have H3 := Lib.hid (HBEL.out.trans (((Below.refl W1.heap.size wr).alloc hsr _).trans (hb3.mono (by simp; omega))))
              have hse := HGE.out (by omega) (by have := HQP.out; have := HQ.out; omega)
              have HSE := Lib.hid hse
              clear hb3 hse
              go_wp2_with fail
              go_roundw
              case rel => exact ⟨j + 1, by omega, by go_num, by rw [HG2.out, HSE.out]; go_num, H3.out⟩
              case measure => simp [intOf]; omega
          · have hse := HGO.out (by have := HQP.out; have := HQ.out; omega)
            have HSE := Lib.hid hse
            clear hse
            go_wp2_with fail
            go_roundw
            case rel => exact ⟨j + 1, by omega, by go_num, by rw [HG2.out, HSE.out], HBEL.out.alloc hsr _⟩
            case measure => simp [intOf]; omega
      · obtain rfl : j = cs.length := by omega
        go_wp2_with fail
        go_ret
        refine ⟨ret_int ?_, HBW2.out⟩
        rw [Tr.rv]

set_option maxRecDepth 100000 in
set_option maxHeartbeats 1000000 in
theorem specRangeVisits_c {w : World} {B : Nat} {kv cv : Value} {t : Tr} (ht : TreeIn w B kv cv t) (hw : t.weight ≤ 1048576) (low high : Int) (w' : World) (hbw : Below B w w') (hB : B ≤ w'.heap.size) :
    Calls Try.prog 28 #[.agg #[kv, cv], .int .i64 low, .int .i64 high] w' fun e w'' => e = .returned (.int .i64 (t.rvB low high)) ∧ Below w'.heap.size w' w'' := by
  obtain ⟨a5, n5, m5, a6, n6, m6, rfl, rfl⟩ := ht.slices
  obtain ⟨W1, hW1⟩ : ∃ W1, W1 = w'.alloc (.cells #[.slice a5 n5 m5, .slice a6 n6 m6] 26) := ⟨_, rfl⟩
  have hs1 : W1.heap.size = w'.heap.size + 1 := by rw [hW1]; simp
  have hb1 : Below w'.heap.size w' W1 := by rw [hW1]; exact (Below.refl _ _).alloc (Nat.le_refl _) _
  have kb : W1.heap[w'.heap.size]? = some (.cells #[.slice a5 n5 m5, .slice a6 n6 m6] 26 (0, 0)) := by rw [hW1, new_blk]
  obtain ⟨x1, x2, x3, x4⟩ := box2 kb
  have hv := Tr.rvB_is low high t
  have HB := Lib.hid hbw
  have HT := Lib.hid ht
  have HW1 := Lib.hid hW1
  have H1 := Lib.hid (And.intro hb1 kb)
  have HV := Lib.hid hv
  clear hbw ht hW1 hb1 kb hv
  go_enter Try.func28, Try.ntmps28
  go_wp2_with fail
  rw [← HW1.out]
  refine (l2Valid_c HT.out hw W1 (HB.out.trans (H1.out.1.mono hB)) (by omega)).mono ?_
  rintro e w2 ⟨rfl, hb2⟩
  have hs2 := hb2.size
  have kb2 := (hb2.block w'.heap.size (by omega)).trans H1.out.2
  clear x1 x2 x3 x4
  obtain ⟨x1, x2, x3, x4⟩ := box2 kb2
  have H2 := Lib.hid (H1.out.1.trans (hb2.mono (by omega)))
  clear hb2 kb2
  cases hsb : t.someB with
  | false =>
    have h := HV.out.2.1 hsb
    have HZ := Lib.hid h
    have HSB := Lib.hid hsb
    clear h hsb
    go_wp2_with fail
    go_ret
    exact ⟨ret_int HZ.out.symm, H2.out⟩
  | true =>
    by_cases hlh : low ≤ high
    · have h := HV.out.1 hsb hlh
      have hwell := Tr.Well.of_some hsb
      have HWL := Lib.hid hwell
      have HZ := Lib.hid h
      have HSB := Lib.hid hsb
      have hlh' : ¬ (low > high) := by omega
      clear h hsb hwell
      go_wp2_with fail
      refine (l2Visits_c low high HT.out hw HWL.out _ (HB.out.trans (H2.out.mono hB)) (by omega)).mono ?_
      rintro e w3 ⟨rfl, hb3⟩
      have H3 := Lib.hid (H2.out.trans (hb3.mono (by omega)))
      clear hb3
      go_wp2_with fail
      go_ret
      exact ⟨ret_int HZ.out.symm, H3.out⟩
    · have h := HV.out.2.2 (by omega)
      have HZ := Lib.hid h
      have HSB := Lib.hid hsb
      have hlh' : low > high := by omega
      clear h hsb
      go_wp2_with fail
      go_ret
      exact ⟨ret_int HZ.out.symm, H2.out⟩
end Go.Proofs.Ytjnkdbgebkajoaa

/- Whether a list ascends: the laws' own function. -/
namespace Go.Proofs.Ytjnkdbgebkajoaa
open Go.RowKit

set_option maxHeartbeats 1000000 in
theorem ftSorted_c (ks : List Int) (hp : ks.Pairwise (· < ·)) (v : Value) (w : World) (B : Nat) (hB : B ≤ w.heap.size) (hk : IntsIn w B v ks) :
    Calls Try.prog 29 #[v] w fun e w' => e = .returned (.bool true) ∧ Below w.heap.size w w' := by
  obtain ⟨a, cap, rfl, h1, h2, _, h3⟩ := hk
  unfold maxLen at h2
  have HK := Lib.hid h3
  have hlt : ∀ j, 0 < j → j < ks.length → ks.getD (j - 1) 0 < ks.getD j 0 := fun j h0 hj => by
    have := List.pairwise_iff_getElem.1 hp (j - 1) j (by omega) hj (by omega)
    rw [List.getD_eq_getElem?_getD, List.getD_eq_getElem?_getD, List.getElem?_eq_getElem hj, List.getElem?_eq_getElem (by omega)]
    exact this
  have HP := Lib.hid hlt
  clear h3 hp hlt
  go_enter Try.func29, Try.ntmps29
  go_wp2_with fail
  go_loopw [3, 6] (fun s3 i wr => ∃ (j : Nat), j ≤ ks.length ∧ i = .int .i64 j ∧ Below w.heap.size w wr) (fun _ i _ => ks.length - (intOf i).toNat)
  case atStart => exact ⟨0, Nat.zero_le _, rfl, Below.refl _ _⟩
  case round =>
    obtain ⟨j, hj, rfl, hbel⟩ := hrel
    by_cases hlt : j < ks.length
    · have hjl : (j : Int) < (ks.length : Int) := by omega
      rcases j with _ | m
      · have h00 : decide ((0 : Int) > 0) = false := by decide
        go_wp2_with fail
        go_quiet (fail)
        go_wp2_with fail
        go_roundw
        case rel => exact ⟨1, by omega, by go_num, below_drewN hbel _⟩
        case measure => simp [intOf]; omega
      rcases HK.out with h | ⟨b, off, rfl, hb, hat⟩
      · simp [h] at hlt
      have ha1 : wr.cell? ⟨b, off + m, none⟩ = some (.int .i64 (ks.getD m 0)) := by rw [below_cell hbel (by omega)]; exact hat m (by omega)
      have ha2 : wr.cell? ⟨b, off + (m + 1), none⟩ = some (.int .i64 (ks.getD (m + 1) 0)) := by rw [below_cell hbel (by omega)]; exact hat (m + 1) hlt
      have hxy := HP.out (m + 1) (by omega) hlt
      rw [show m + 1 - 1 = m by omega] at hxy
      clear hat
      generalize ks.getD m 0 = x at ha1 hxy
      generalize ks.getD (m + 1) 0 = y at ha2 hxy
      have hge : decide (x ≥ y) = false := by simp <;> omega
      have hg0 : decide (((m + 1 : Nat) : Int) > 0) = true := by simp <;> omega
      have hwr : IntKind.i64.wrap (((m + 1 : Nat) : Int) - 1) = (m : Int) := by rw [IntKind.wrap_i64]; omega
      have hml : (m : Int) < (ks.length : Int) := by omega
      clear hxy
      go_wp2_with fail
      go_quiet (fail)
      go_wp2_with fail
      go_roundw
      case rel => exact ⟨m + 1 + 1, by omega, by go_num, below_drewN hbel _⟩
      case measure => simp [intOf]; omega
    · obtain rfl : j = ks.length := by omega
      have hjl : ¬ ((ks.length : Nat) : Int) < (ks.length : Int) := by omega
      go_wp2_with fail
      go_ret
      exact ⟨rfl, hbel⟩
end Go.Proofs.Ytjnkdbgebkajoaa
