/- The law on depths: the walk over the contracts. -/
import Derived.Test.YtdkldcgiiiejfaaDoorProg
import Derived.Test.YtdkldcgiiiejfaaDoorBase
import Derived.Test.YtdkldcgiiiejfaaDoorAt
import Derived.Test.YtdkldcgiiiejfaaDoorDa2
import Derived.Test.YtdkldcgiiiejfaaDoorKeysA
import Derived.Test.YtdkldcgiiiejfaaDoorDepthA
import Derived.Test.YtdkldcgiiiejfaaDoorDrawTree
import Derived.Test.YtdkldcgiiiejfaaDoorDrawLD
import Derived.Test.YtdkldcgiiiejfaaDoorDeepData
import Derived.Test.YtdkldcgiiiejfaaDoorSizes
import Derived.Test.YtdkldcgiiiejfaaDoorDa9
import Derived.Deep.RegionHeld3
namespace Go.Proofs.YtdkldcgiiiejfaaDoor
open Go.RowKit

set_option maxHeartbeats 4000000 in
set_option maxRecDepth 100000 in
theorem fnDepths_c {w : World} {v1 v2 : Value} {bs1 bs2 : List Nat} (h1 : BytesIn w w.heap.size v1 bs1) (h2 : BytesIn w w.heap.size v2 bs2) (hl : TabAt w 0 tabL) (hm : TabAt w 1 tabM) (hg : 2 ≤ w.heap.size) :
    Calls Tryd.prog 3 #[v1, v2] w fun e w' => e = .returned (.bool true) ∧ Below w.heap.size w w' := by
  have H1 := Lib.hid h1
  have H2 := Lib.hid h2
  obtain ⟨a1, c1, rfl, -⟩ := h1
  obtain ⟨a2, c2, rfl, -⟩ := h2
  have HT := Lib.hid (And.intro hl hm)
  clear hl hm
  by_cases hc1 : bs1.length ≤ 1048576
  case neg =>
    have hc1' : ((bs1.length : Int) > 1048576) := by omega
    go_enter Tryd.func3, Tryd.ntmps3
    go_wp2_with fail
    go_ret
    exact ⟨rfl, Below.refl _ _⟩
  by_cases hc2 : bs2.length ≤ 1048576
  case neg =>
    have hc1' : ¬ ((bs1.length : Int) > 1048576) := by omega
    have hc2' : ((bs2.length : Int) > 1048576) := by omega
    go_enter Tryd.func3, Tryd.ntmps3
    go_wp2_with fail
    go_ret
    exact ⟨rfl, Below.refl _ _⟩
  have hc1' : ¬ ((bs1.length : Int) > 1048576) := by omega
  have hc2' : ¬ ((bs2.length : Int) > 1048576) := by omega
  have TL : Hid (∀ wx : World, Below w.heap.size w wx → TabAt wx 0 tabL) := Lib.hid (fun wx hx i hi => by rw [below_cell hx (by show 0 < _; omega)]; exact HT.out.1 i hi)
  have TM : Hid (∀ wx : World, Below w.heap.size w wx → TabAt wx 1 tabM) := Lib.hid (fun wx hx i hi => by rw [below_cell hx (by show 1 < _; omega)]; exact HT.out.2 i hi)
  have HD1 := Lib.hid (DrawTreeValid_c H1.out w (Below.refl _ _) (Nat.le_refl _))
  go_enter Tryd.func3, Tryd.ntmps3
  go_wp2_with fail
  refine HD1.out.mono ?_
  rintro e w2 ⟨k2, d2, t, wide, rfl, hwd1, hwd2, ht2, hw2, hb2⟩
  obtain ⟨b1, b2, b3, b4, b5, b6, rfl, rfl⟩ := ht2.slices
  have hs2 := hb2.size
  obtain ⟨W3, hW3⟩ : ∃ W3, W3 = w2.alloc (.cells #[.slice b1 b2 b3, .slice b4 b5 b6] 26) := ⟨_, rfl⟩
  have hs3 : w2.heap.size < W3.heap.size := by rw [hW3]; simp
  have hb3 : Below w2.heap.size w2 W3 := by rw [hW3]; exact (Below.refl _ _).alloc (Nat.le_refl _) _
  have hx3 : W3.heap[w2.heap.size]? = some (.cells #[.slice b1 b2 b3, .slice b4 b5 b6] 26 (0, 0)) := by rw [hW3, new_blk]
  have hta3 : TreeA W3 (.slice b1 b2 b3) (.slice b4 b5 b6) t := (ht2.a (fun k hk => hk.2)).later hb3 (Nat.le_refl _)
  have hwt : t.weight ≤ 1048576 := by omega
  have HTA := Lib.hid hta3
  have HBX := Lib.hid (And.intro (hb2.trans (hb3.mono (by omega))) hx3)
  have HD2 := Lib.hid (drawLD_c H2.out W3 (hb2.trans (hb3.mono (by omega))) (by omega))
  have HW3 := Lib.hid hW3
  clear ht2 hb2 hW3 hb3 hx3 hta3
  go_upto_region 4 with (fail)
  rw [← HW3.out]
  go_wp2_with fail
  refine HD2.out.mono ?_
  rintro e w4 ⟨wd, n, rfl, hb4⟩
  have hB4 : Below w.heap.size w w4 := HBX.out.1.trans (hb4.mono HBX.out.1.size)
  have hx4 := (hb4.block _ hs3).trans HBX.out.2
  have HX4 := Lib.hid (And.intro hb4 (And.intro hB4 hx4))
  obtain ⟨hdo1, hdo2⟩ := deps_ok wd n
  have hLD := LeastDepth_c w4 (TM.out w4 hB4) wd n
  have hMD := MostDepth_c w4 (TL.out w4 hB4) wd n
  have hSL := specLeastDepth_c w4 wd n
  have hSM := specMostDepth_c w4 wd n
  generalize leastD wd n = A at hdo1 hdo2 hLD hSL
  generalize mostD wd n = M at hdo1 hdo2 hMD hSM
  have HLD := Lib.hid hLD
  have HMD := Lib.hid hMD
  have HSL := Lib.hid hSL
  have HSM := Lib.hid hSM
  have hAA : (A != A) = false := by simp
  have hMM : (M != M) = false := by simp
  have hAM : (decide (A < 0) != decide (M < 0)) = false := by rw [hdo2]; simp
  have HDO := Lib.hid hdo2
  clear hb4 hB4 hx4 hLD hMD hSL hSM hdo2
  go_wp2_with fail
  refine HLD.out.mono ?_
  rintro e w5 ⟨rfl, hw5⟩
  subst hw5
  go_wp2_with fail
  refine HMD.out.mono ?_
  rintro e w5 ⟨rfl, hw5⟩
  subst hw5
  go_wp2_with fail
  refine HSL.out.mono ?_
  rintro e w5 ⟨rfl, hw5⟩
  subst hw5
  go_wp2_with fail
  refine HSM.out.mono ?_
  rintro e w5 ⟨rfl, hw5⟩
  subst hw5
  have hiv := impl_valid _ _ _ _ _ wide ((HTA.out.later HX4.out.1 (Nat.le_refl _)).tree) hwt (by omega) (by omega) w5 (Below.refl _ _) (Nat.le_refl _)
  obtain ⟨V, hV⟩ : ∃ V, V = Tr.validB wide t := ⟨_, rfl⟩
  rw [← hV] at hiv
  have HIV := Lib.hid hiv
  have HV := Lib.hid hV
  clear hiv hV
  obtain ⟨x1, x2, -⟩ := box2 HX4.out.2.2
  have hM0 : (A < 0 ∧ M < 0) ∨ (¬ A < 0 ∧ ¬ M < 0) := by
    have h := HDO.out
    by_cases hA0 : A < 0
    · rw [decide_eq_true hA0] at h; exact .inl ⟨hA0, of_decide_eq_true h.symm⟩
    · rw [decide_eq_false hA0] at h; exact .inr ⟨hA0, of_decide_eq_false h.symm⟩
  clear hAM
  rcases hM0 with ⟨hA0, hM0⟩ | ⟨hA0, hM0⟩
  all_goals go_wp2_with fail
  all_goals first
    | (rename_i h; exfalso; rcases h with h | h; · omega
       · rw [decide_eq_false (by omega), decide_eq_false (by omega)] at h; simp at h)
    | (
        refine HIV.out.mono ?_
        rintro e w6 ⟨rfl, hb6⟩
        have hz6 := hb6.size
        have hB6 : Below w.heap.size w w6 := HX4.out.2.1.trans (hb6.mono HX4.out.2.1.size)
        have H6 := Lib.hid (And.intro hb6 hB6)
        clear hb6 hB6 x1 x2
        cases V with
        | false =>
          go_wp2_with fail
          go_ret
          exact ⟨rfl, H6.out.2⟩
        | true =>
          obtain ⟨f1, f2, f3, f4, f5, f6⟩ := Tr.deep_facts HV.out.symm
          have C1 := fun (wx : World) (hx : Below w6.heap.size w6 wx) => impl_depth_a (HTA.out.later (HX4.out.1.trans ((H6.out.1.trans (hx.mono hz6)).mono HX4.out.1.size)) (Nat.le_refl _)) hwt
          have C2 := fun (wx : World) (hx : Below w6.heap.size w6 wx) => impl_keys_a (HTA.out.later (HX4.out.1.trans ((H6.out.1.trans (hx.mono hz6)).mono HX4.out.1.size)) (Nat.le_refl _)) hwt
          have BOX : Hid (∀ wx : World, Below w6.heap.size w6 wx → wx.heap[w2.heap.size]? = some (.cells #[.slice b1 b2 b3, .slice b4 b5 b6] 26 (0, 0))) :=
            Lib.hid (fun wx hx => (hx.block _ (by have := HX4.out.1.size; omega)).trans ((H6.out.1.block _ (by have := HX4.out.1.size; omega)).trans HX4.out.2.2))
          obtain ⟨D, hD⟩ : ∃ D : Int, D = t.depth := ⟨_, rfl⟩
          rw [← hD] at C1 f1 f2 f3 f4
          have L1 := fun (wx : World) (hx : Below w.heap.size w wx) => LeastDepth_c wx (TM.out wx hx) wide t.keys.length
          have L2 := fun (wx : World) (hx : Below w.heap.size w wx) => MostDepth_c wx (TL.out wx hx) wide t.keys.length
          have L3 := fun (wx : World) (hx : Below w.heap.size w wx) => LeastKeys_c wx (TL.out wx hx) wide D
          have L4 := fun (wx : World) (hx : Below w.heap.size w wx) => MostKeys_c wx (TM.out wx hx) wide D
          generalize leastD wide t.keys.length = Q1 at f1 L1
          generalize mostD wide t.keys.length = Q2 at f2 L2
          generalize leastV wide D = Q3 at f3 L3
          generalize mostV wide D = Q4 at f4 L4
          have HC1 := Lib.hid C1
          have HC2 := Lib.hid C2
          have HL1 := Lib.hid L1
          have HL2 := Lib.hid L2
          have HL3 := Lib.hid L3
          have HL4 := Lib.hid L4
          clear C1 C2 L1 L2 L3 L4 hD
          go_upto_region 10 with (fail)
          obtain ⟨x1, x2, -⟩ := box2 (BOX.out w6 (Below.refl _ _))
          go_region_held3 (fun x => x.cell? ⟨w2.heap.size, 0, none⟩ = some (.slice b1 b2 b3) ∧ x.cell? ⟨w2.heap.size, 1, none⟩ = some (.slice b4 b5 b6))
            (first | exact ⟨x1, x2⟩ | exact ⟨z1, z2⟩ | exact ⟨q1, q2⟩ | go_keep)
            (first
              | (go_at_call 12; refine (HC2.out _ HB16.out).mono ?_; rintro e w17 ⟨v17, rfl, ho17, hb17⟩; obtain ⟨va17, vc17, rfl⟩ := IntsOwn.shown ho17; have hB17 : Below w6.heap.size w6 w17 := HB16.out.trans (hb17.mono HB16.out.size); obtain ⟨q1, q2, -⟩ := box2 (BOX.out w17 hB17); have HB17 := Lib.hid (H6.out.2.trans (hB17.mono H6.out.2.size)); clear hb17 hB17 ho17)
              | (go_at_call 11; refine (HC1.out _ (Below.refl _ _).drew).mono ?_; rintro e w16 ⟨rfl, hb16⟩; have hB16 : Below w6.heap.size w6 w16 := ((Below.refl _ _).drew).trans hb16; obtain ⟨z1, z2, -⟩ := box2 (BOX.out w16 hB16); have HB16 := Lib.hid hB16; clear hb16 hB16))
          clear x1 x2 z1 z2 q1 q2
          generalize (t.keys.length : Int) = K at f1 f2 f3 f4 f6 HL1 HL2 ⊢
          go_wp2_with fail
          refine (HL1.out w17 HB17.out).mono ?_
          rintro e w18 ⟨rfl, hw18⟩
          subst hw18
          go_wp2_with fail
          refine (HL2.out w18 HB17.out).mono ?_
          rintro e w18 ⟨rfl, hw18⟩
          subst hw18
          go_wp2_with fail
          refine (HL3.out w18 HB17.out).mono ?_
          rintro e w18 ⟨rfl, hw18⟩
          subst hw18
          go_wp2_with fail
          refine (HL4.out w18 HB17.out).mono ?_
          rintro e w18 ⟨rfl, hw18⟩
          subst hw18
          go_wp2_with fail
          go_ret
          first | exact ⟨rfl, HB17.out⟩ | exact ⟨ret_bool (by simp [f4]), HB17.out⟩)
end Go.Proofs.YtdkldcgiiiejfaaDoor
