/- For every slice of bytes, the law on nodes and splits returns true and leaves its arguments as they were; no conditions. -/
import Derived.Test.YtgbgdanbdbojaaaProg
import Derived.Test.YtgbgdanbdbojaaaNs0
import Derived.Test.YtgbgdanbdbojaaaAt
import Derived.Test.YtgbgdanbdbojaaaNs5
import Derived.Test.YtgbgdanbdbojaaaNs7
import Derived.Test.YtgbgdanbdbojaaaNs8
import Derived.Test.YtgbgdanbdbojaaaNs9
import Derived.Test.YtgbgdanbdbojaaaNs25
import Derived.Test.YtgbgdanbdbojaaaNs26
import Derived.Deep.RegionHeld3
import Derived.Test.YtgbgdanbdbojaaaRows
import Derived.Test.YtgbgdanbdbojaaaFacts
import Derived.Test.YtgbgdanbdbojaaaNs1
import Derived.WalkKit
import Derived.ProofKit
import Derived.OpenShut
import Derived.ChangeOld
import Derived.Below

/- The law on nodes and splits: the walk over the contracts. -/
namespace Go.Proofs.Ytgbgdanbdbojaaa
open Go.RowKit

set_option maxHeartbeats 2000000 in
set_option maxRecDepth 100000 in
theorem fnNodesSplits_c {w : World} {v : Value} {bs : List Nat} (h : BytesIn w w.heap.size v bs) :
    Calls Try.prog 5 #[v] w fun e w' => e = .returned (.bool true) ∧ Below w.heap.size w w' := by
  have H := Lib.hid h
  obtain ⟨a1, c1, rfl, -⟩ := h
  by_cases hc1 : bs.length ≤ 1048576
  case neg =>
    have hc1' : ((bs.length : Int) > 1048576) := by omega
    go_enter Try.func5, Try.ntmps5
    go_wp2_with fail
    go_ret
    exact ⟨rfl, Below.refl _ _⟩
  have hc1' : ¬ ((bs.length : Int) > 1048576) := by omega
  have HD := Lib.hid (DrawSplitsOf_c H.out w (Below.refl _ _) (Nat.le_refl _))
  go_enter Try.func5, Try.ntmps5
  go_wp2_with fail
  refine HD.out.mono ?_
  rintro e w2 ⟨⟨wide, v2, ks, rfl, hwd, hown, hkl⟩, hb2⟩
  obtain ⟨oa, oc, rfl⟩ := IntsOwn.shown hown
  have hs2 := hb2.size
  have hin2 : IntsIn w2 w2.heap.size (.slice oa ks.length oc) ks := IntsOwn.inB hown (Nat.le_refl _)
  have S1 := impl_splitsOf w2 w2.heap.size (Nat.le_refl _) hin2 wide
  obtain ⟨z, hz⟩ : ∃ z, z = Tr.splitsOfB wide ks := ⟨_, rfl⟩
  rw [← hz] at S1
  have HIN := Lib.hid hin2
  have HS1 := Lib.hid S1
  have HZ := Lib.hid hz
  have H2 := Lib.hid hb2
  clear hown hin2 S1 hz hb2
  go_wp2_with fail
  refine HS1.out.mono ?_
  rintro e w3 ⟨rfl, hb3⟩
  have hs3 := hb3.size
  have HIA := Lib.hid (impl_insertAll w3 w2.heap.size (by omega) (HIN.out.later hb3 (Nat.le_refl _)) wide)
  have H3 := Lib.hid hb3
  clear hb3
  go_wp2_with fail
  refine HIA.out.mono ?_
  rintro e w4 ⟨k4, c4, P4, rfl, ho4, hb4⟩
  obtain ⟨p1, p2, p3, p4, p5, p6, rfl, rfl⟩ := ho4.tree.slices
  have hs4 := hb4.size
  obtain ⟨W5, hW5⟩ : ∃ W5, W5 = w4.alloc (.cells #[.slice p1 p2 p3, .slice p4 p5 p6] 26) := ⟨_, rfl⟩
  have hs5 : W5.heap.size = w4.heap.size + 1 := by rw [hW5]; simp
  have hb45 : Below w4.heap.size w4 W5 := by rw [hW5]; exact (Below.refl _ _).alloc (Nat.le_refl _) _
  have hb5 : Below w2.heap.size w2 W5 := H3.out.trans ((hb4.mono (by omega)).trans (hb45.mono (by omega)))
  have hk5 : W5.heap[w4.heap.size]? = some (.cells #[.slice p1 p2 p3, .slice p4 p5 p6] 26 (0, 0)) := by rw [hW5, new_blk]
  have hta5 : TreeA W5 (.slice p1 p2 p3) (.slice p4 p5 p6) (Tr.insAllT wide ks) := (ho4.later hb45 (Nat.le_refl _)).a
  have hwt := Tr.insAll_weight wide ks
  have BOX : Hid (∀ wx : World, Below W5.heap.size W5 wx → wx.heap[w4.heap.size]? = some (.cells #[.slice p1 p2 p3, .slice p4 p5 p6] 26 (0, 0))) := Lib.hid (fun wx hx => (hx.block _ (by omega)).trans hk5)
  have HC1 := Lib.hid (fun (wx : World) (hx : Below W5.heap.size W5 wx) => impl_count_a (hta5.later hx (Nat.le_refl _)) hwt)
  have HC2 := Lib.hid (fun (wx : World) (hx : Below W5.heap.size W5 wx) => impl_depth_a (hta5.later hx (Nat.le_refl _)) hwt)
  have hss := fun (wx : World) (hx : Below W5.heap.size W5 wx) => specSplitsOf_c wx w2.heap.size (by have := hx.size; omega) (HIN.out.later (hb5.trans (hx.mono (by omega))) (Nat.le_refl _)) wide
  rw [← HZ.out] at hss
  have HSS := Lib.hid hss
  have hfin : Below w.heap.size w W5 := H2.out.trans (hb5.mono (by omega))
  have HF := Lib.hid hfin
  have hct := Tr.count_le (Tr.insAllT wide ks)
  have hdl := Tr.depth_le (Tr.insAllT wide ks)
  obtain ⟨A, hA⟩ : ∃ A, A = Tr.allOk wide ks := ⟨_, rfl⟩
  rw [← hA]
  have HA := Lib.hid hA
  have HW5 := Lib.hid hW5
  clear ho4 hb4 hW5 hb45 hb5 hk5 hta5 hss hfin hA
  have hneb : (z != z) = false := by simp
  cases A with
  | false =>
    have hz1 : z = -1 := by rw [HZ.out]; simp [Tr.splitsOfB, ← HA.out]
    subst hz1
    clear hneb
    go_upto_region 6 with (fail)
    rw [← HW5.out]
    go_wp2_with fail
    refine (HSS.out W5 (Below.refl _ _)).mono ?_
    rintro e w6 ⟨rfl, hb6⟩
    have hs6 := hb6.size
    have H6 := Lib.hid hb6
    clear hb6
    go_wp2_with fail
    refine (HSS.out w6 H6.out).mono ?_
    rintro e w7 ⟨rfl, hb7⟩
    have H7 := Lib.hid (H6.out.trans (hb7.mono (by omega)))
    clear hb7
    go_wp2_with fail
    go_ret
    exact ⟨rfl, HF.out.trans (H7.out.mono (by have := HF.out.size; omega))⟩
  | true =>
    have hie : Tr.insAllT wide ks = (Tr.allIn wide ks).1 := by simp [Tr.insAllT, ← HA.out]
    obtain ⟨N, hN⟩ : ∃ N : Nat, z = (N : Int) ∧ (Tr.insAllT wide ks).count = N + (Tr.insAllT wide ks).depth :=
      ⟨(Tr.allIn wide ks).2, by rw [HZ.out]; simp [Tr.splitsOfB, ← HA.out], by rw [hie]; exact Tr.all_count' HA.out.symm⟩
    obtain ⟨hzN, hcd⟩ := hN
    subst hzN
    obtain ⟨C, hC⟩ : ∃ C, C = (Tr.insAllT wide ks).count := ⟨_, rfl⟩
    obtain ⟨D, hD⟩ : ∃ D, D = (Tr.insAllT wide ks).depth := ⟨_, rfl⟩
    have hc1 := HC1.out
    have hc2 := HC2.out
    rw [← hC] at hc1 hct hcd
    rw [← hD] at hc2 hcd
    have HC1' := Lib.hid hc1
    have HC2' := Lib.hid hc2
    have hbnd : C ≤ 1048577 := by omega
    have heq : ((C : Int) == IntKind.i64.wrap ((N : Int) + (D : Int))) = true := by
      rw [beq_iff_eq, IntKind.wrap_i64]; omega
    have heq2 : ((C : Int) == (N : Int) + (D : Int)) = true := by rw [beq_iff_eq]; omega
    have hND : (N : Int) + (D : Int) ≤ 1048577 := by omega
    clear hc1 hc2 HC1 HC2 hC hD hie hcd hct hdl
    go_upto_region 6 with (fail)
    rw [← HW5.out]
    go_wp2_with fail
    refine (HSS.out W5 (Below.refl _ _)).mono ?_
    rintro e w6 ⟨rfl, hb6⟩
    have hs6 := hb6.size
    have H6 := Lib.hid hb6
    clear hb6
    go_upto_region 8 with (fail)
    obtain ⟨x1, x2, -⟩ := box2 (BOX.out w6 H6.out)
    go_region_held3 (fun x => x.cell? ⟨w4.heap.size, 0, none⟩ = some (.slice p1 p2 p3) ∧ x.cell? ⟨w4.heap.size, 1, none⟩ = some (.slice p4 p5 p6))
      (first | exact ⟨x1, x2⟩ | exact ⟨z1, z2⟩ | exact ⟨q1, q2⟩ | go_keep)
      (first
        | (go_at_call 15; refine (HC1'.out _ H6.out.drew).mono ?_; rintro e w7 ⟨rfl, hb7⟩; have hB7 : Below W5.heap.size W5 w7 := H6.out.drew.trans (hb7.mono (by have := H6.out.size; simp; omega)); obtain ⟨z1, z2, -⟩ := box2 (BOX.out w7 hB7); have HB7 := Lib.hid hB7; clear hb7 hB7)
        | (go_at_call 16; refine (HC2'.out _ HB7.out).mono ?_; rintro e w8 ⟨rfl, hb8⟩; have hB8 : Below W5.heap.size W5 w8 := HB7.out.trans (hb8.mono (by have := HB7.out.size; omega)); obtain ⟨q1, q2, -⟩ := box2 (BOX.out w8 hB8); have HB8 := Lib.hid hB8; clear hb8 hB8))
    go_wp2_with fail
    go_ret
    first | exact ⟨rfl, HF.out.trans (HB8.out.mono (by have := HF.out.size; omega))⟩ | exact ⟨ret_bool (by first | exact heq | exact heq2 | simp [heq, heq2]), HF.out.trans (HB8.out.mono (by have := HF.out.size; omega))⟩
end Go.Proofs.Ytgbgdanbdbojaaa

/- The statement on nodes and splits, from the walk of its law. -/
namespace Go.Proofs.Ytgbgdanbdbojaaa.fnNodesSplitsRowP
open Go.ChangeShapes Go.WideShapes Go.ChangeAt Go.RowKit
set_option linter.unusedVariables false

theorem own : ownKnob Try.prog.godebug = none := by kernel_rfl
theorem laidOut : laidOutB Try.prog = true := by kernel_rfl

set_option maxRecDepth 100000 in
set_option maxHeartbeats 1000000 in
theorem lifted (os : Os) (started : os.Started) (H : Type) (enc : TypeId × Value → H) :
    ReturnsInHanded {} Try.checked os 5 .any (Rows.fnNodesSplitsSpec.pre6 enc Try.prog Try.f5 Rows.fnNodesSplitsRow.domain false) (Rows.fnNodesSplitsSpec.post enc Try.prog Try.f5 false true false false) := by
  refine returnsInHanded_of_change (C := Try.checked) own started (by kernel_rfl) Try.func5
    (ChangeSpec.witness6 (enc := enc) (C := Try.checked) false ⟨#[], #[.slice none 0 0], []⟩ 8 (by kernel_rfl) (by kernel_rfl) (by kernel_rfl) (by kernel_rfl)) ?_
  intro W base args ds gs before hval0 hW hcnd _
  have hval : ∀ (j : Nat) t v, Try.f5.params[j]? = some t → args[j]? = some v → Value.okWide Try.prog W .any base t v := hval0
  have hW' := hW
  obtain ⟨p, q, hA0, hV, rfl, hfz, hnd⟩ := hW
  have hA : DataW.TrodAll enc Try.prog W 0 (fun _ => true) true Try.f5.params.toList args.toList ds p := hA0
  rw [Try.params5] at hA hval
  obtain ⟨v0, vs0, d0, ds0, p0, q0, hargs, rfl, rfl, h0, r0⟩ := trodAll_cons hA
  obtain ⟨rfl, rfl, rfl⟩ := trodAll_nil r0
  obtain rfl : args = #[v0] := by cases args; simp_all
  obtain ⟨rfl, rfl⟩ := trodVars_none hV
  obtain ⟨a0, len0, cap0, rfl⟩ := okWide_slice Try.underlying22 (hval 0 22 v0 rfl rfl)
  have k0 := h0
  have lt0 : ∀ x ∈ p0, x.block < W.heap.size := by obtain ⟨m, hm⟩ := k0; exact DataW.trod_lt m _ _ _ hm
  obtain ⟨bs0, hb0⟩ : ∃ bs, BytesIn W W.heap.size (.slice a0 len0 cap0) bs := by
    obtain ⟨fuel, hf⟩ := h0
    exact bytes_of_trod fuel (fun _ => rfl) hf
  clear hA0 hval0
  refine (fnNodesSplits_c hb0).mono fun e W' ⟨he, bel⟩ => ?_
  subst he
  exact ⟨_, rfl, _, _, _, [], _, [], hW', trodAll_mk1 (shut_bool Try.underlying4 _), (trodAll_cons_mk (Below.trod laidOut (by kernel_rfl) (of_decide_eq_true (by kernel_rfl)) k0 bel lt0) trodAll_mk0), rfl, bel.frame _, fun h => by cases h⟩

theorem closed : joinedFacts Try.prog 5 Try.f5 Rows.fnNodesSplitsSpec Rows.fnNodesSplitsRow = true := by
  unfold joinedFacts
  exact band (band (band (band (band (band (band (by kernel_rfl) fact_enter) fact_lifts) fact_make) (by kernel_rfl)) (by kernel_rfl)) (by kernel_rfl)) (by kernel_rfl)

theorem over : Rows.fnNodesSplitsRow.holds Try.pinned (OpenSpec.ofChange Rows.fnNodesSplitsSpec) :=
  OpenClaim.holds_of_wide 5 Try.f5 rfl rfl rfl rfl rfl rfl rfl ⟨rfl, rfl, rfl, rfl, rfl⟩ rfl rfl rfl rfl rfl (by kernel_rfl) Try.func5 closed
    (of_decide_eq_true (by kernel_rfl)) (by unfold Func.isWrapper; first | (rw [if_pos (by decide +kernel)]; kernel_rfl) | (rw [if_neg (by decide +kernel)]; exact ⟨rfl, rfl⟩))
    (fun os started H enc _ => lifted os started H enc)
end Go.Proofs.Ytgbgdanbdbojaaa.fnNodesSplitsRowP

/- For every slice of bytes, the law on nodes and splits returns true and leaves its arguments as they were; no conditions. -/
namespace Go.Proofs.Ytgbgdanbdbojaaa

theorem nodesSplits_said : Rows.FnNodesSplitsSaid := fnNodesSplitsRowP.over
end Go.Proofs.Ytgbgdanbdbojaaa
