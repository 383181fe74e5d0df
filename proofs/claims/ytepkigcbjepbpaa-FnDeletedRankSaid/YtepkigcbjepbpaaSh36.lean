/- For every slice of bytes, the law on ranks when a key is deleted returns true and leaves its arguments as they were; no conditions. -/
import Derived.Test.YtepkigcbjepbpaaSh0
import Derived.Test.YtepkigcbjepbpaaSh3
import Derived.Test.YtepkigcbjepbpaaSh12
import Derived.Test.YtepkigcbjepbpaaSh14
import Derived.Test.YtepkigcbjepbpaaSh13
import Derived.Test.YtepkigcbjepbpaaSh21
import Derived.Test.YtepkigcbjepbpaaSh33
import Derived.Test.YtepkigcbjepbpaaProg
import Derived.Test.YtepkigcbjepbpaaSh26
import Derived.Test.YtepkigcbjepbpaaSh27
import Derived.Test.YtepkigcbjepbpaaSh28
import Derived.Test.YtepkigcbjepbpaaSh32
import Derived.Test.YtepkigcbjepbpaaDelKeyS
import Derived.Test.YtepkigcbjepbpaaSh25
import Derived.Test.YtepkigcbjepbpaaImRank
import Derived.Deep.Cut
import Derived.Deep.RegionHeld3
import Derived.Test.YtepkigcbjepbpaaRows
import Derived.Test.YtepkigcbjepbpaaFacts
import Derived.WalkKit
import Derived.ProofKit
import Derived.OpenShut
import Derived.ChangeOld
import Derived.Below

/- Ranks when a key is deleted. -/
namespace Go.Proofs.Ytepkigcbjepbpaa
open Go.RowKit
namespace Tr
theorem del_ranks {wide key : Int} {t : Tr} (h : lacksB wide key t = true) {j : Nat} (hj : j < (delT wide key t).keys.length) :
    (delT wide key t).rankB ((delT wide key t).keys.getD j 0) = j ∧ t.rankB ((delT wide key t).keys.getD j 0) = (if key < (delT wide key t).keys.getD j 0 then (j : Int) + 1 else (j : Int)) := by
  obtain ⟨hv, ⟨A, B, hA, hB⟩, -⟩ := delT_facts h
  have hv0 : validB wide t = true := by unfold lacksB at h; exact (Bool.and_eq_true_iff.1 h).1
  have s1 := (valid_well hv).2
  have s0 := (valid_well hv0).2
  have r1 := (rankB_is ((delT wide key t).keys.getD j 0) (delT wide key t)).1 (someB_valid hv)
  have r0 := (rankB_is ((delT wide key t).keys.getD j 0) t).1 (someB_valid hv0)
  rw [r1, r0, place_get s1 hj]
  refine ⟨rfl, ?_⟩
  rw [hB] at hj s1 ⊢
  rw [hA] at s0 ⊢
  have hp := List.pairwise_append.1 s0
  by_cases hjA : j < A.length
  · have e1 : (A ++ B).getD j 0 = A[j] := by rw [List.getD_eq_getElem?_getD, List.getElem?_append_left hjA, List.getElem?_eq_getElem hjA]; rfl
    have e2 : (A ++ key :: B).getD j 0 = A[j] := by rw [List.getD_eq_getElem?_getD, List.getElem?_append_left hjA, List.getElem?_eq_getElem hjA]; rfl
    have hlt := hp.2.2 A[j] (List.getElem_mem hjA) key (by simp)
    rw [e1, ← e2, place_get s0 (by simp; omega), e2, if_neg (by omega)]
  · have hjB : j - A.length < B.length := by rw [List.length_append] at hj; omega
    have e1 : (A ++ B).getD j 0 = B[j - A.length] := by rw [List.getD_eq_getElem?_getD, List.getElem?_append_right (by omega), List.getElem?_eq_getElem hjB]; rfl
    have e2 : (A ++ key :: B).getD (j + 1) 0 = B[j - A.length] := by
      rw [List.getD_eq_getElem?_getD, List.getElem?_append_right (by omega), show j + 1 - A.length = (j - A.length) + 1 by omega, List.getElem?_cons_succ, List.getElem?_eq_getElem hjB]; rfl
    have hlt := (List.pairwise_cons.1 hp.2.1).1 B[j - A.length] (List.getElem_mem hjB)
    rw [e1, ← e2, place_get s0 (by simp; omega), e2, if_pos hlt]
    omega
end Tr
end Go.Proofs.Ytepkigcbjepbpaa

/- The law on ranks when a key is deleted: the walk over the contracts. -/
namespace Go.Proofs.Ytepkigcbjepbpaa
open Go.RowKit

set_option maxHeartbeats 4000000 in
set_option maxRecDepth 100000 in
theorem fnDeletedRank_c {w : World} {v : Value} {bs : List Nat} (h : BytesIn w w.heap.size v bs) :
    Calls Try.prog 4 #[v] w fun e w' => e = .returned (.bool true) ∧ Below w.heap.size w w' := by
  have H := Lib.hid h
  obtain ⟨a1, c1, rfl, -⟩ := h
  by_cases hc1 : bs.length ≤ 1048576
  case neg =>
    have hc1' : ((bs.length : Int) > 1048576) := by omega
    go_enter Try.func4, Try.ntmps4
    go_wp2_with fail
    go_ret
    exact ⟨rfl, Below.refl _ _⟩
  have hc1' : ¬ ((bs.length : Int) > 1048576) := by omega
  have HD := Lib.hid (DrawDeleteKey_c H.out w (Below.refl _ _) (Nat.le_refl _))
  go_enter Try.func4, Try.ntmps4
  go_wp2_with fail
  refine HD.out.mono ?_
  rintro e w2 ⟨k2, d2, t, wide, key, rfl, ⟨hwd1, hwd2⟩, ht2, hw2, -, hb2⟩
  obtain ⟨b1, b2, b3, b4, b5, b6, rfl, rfl⟩ := ht2.slices
  have hs2 := hb2.size
  obtain ⟨W3, hW3⟩ : ∃ W3, W3 = w2.alloc (.cells #[.slice b1 b2 b3, .slice b4 b5 b6] 29) := ⟨_, rfl⟩
  have hs3 : w2.heap.size < W3.heap.size := by rw [hW3]; simp
  have hb3 : Below w2.heap.size w2 W3 := by rw [hW3]; exact (Below.refl _ _).alloc (Nat.le_refl _) _
  have hx3 : W3.heap[w2.heap.size]? = some (.cells #[.slice b1 b2 b3, .slice b4 b5 b6] 29 (0, 0)) := by rw [hW3, new_blk]
  have hta3 : TreeA W3 (.slice b1 b2 b3) (.slice b4 b5 b6) t := (ht2.a (fun k hk => hk.2)).later hb3 (Nat.le_refl _)
  have hwt : t.weight ≤ 1048576 := by omega
  have HI3 := Lib.hid (impl_delete hta3.tree hwt wide key (by omega) (by omega) W3 (Below.refl _ _) (Nat.le_refl _))
  have HS3 := Lib.hid (fun wx hx => specDeleteKey_c hta3.tree hwt wide key wx hx (Below.size (w := W3) hx))
  obtain ⟨A, hA⟩ : ∃ A, A = Tr.lacksB wide key t := ⟨_, rfl⟩
  rw [← hA] at HI3 HS3
  obtain ⟨X, hX⟩ : ∃ X, X = Tr.delKeyT wide key t := ⟨_, rfl⟩
  rw [← hX] at HI3 HS3
  have hXw := Tr.delKey_weight wide key t
  rw [← hX] at hXw
  have HAX := Lib.hid (And.intro hA hX)
  have HTA := Lib.hid hta3
  have HBX := Lib.hid (And.intro (hb2.trans (hb3.mono (by omega))) hx3)
  have hx3x := hx3
  rw [hW3] at hx3x
  obtain ⟨x1, x2, x3, x4⟩ := box2 hx3x
  have HW3 := Lib.hid hW3
  clear ht2 hb2 hW3 hb3 hx3 hx3x hta3 hA hX
  go_wp2_with fail
  rw [← HW3.out]
  refine HI3.out.mono ?_
  rintro e w4 ⟨k4, d4, P4, rfl, ho4, hb4⟩
  obtain ⟨p1, p2, p3, p4, p5, p6, rfl, rfl⟩ := ho4.tree.slices
  have hs4 := hb4.size
  obtain ⟨W5, hW5⟩ : ∃ W5, W5 = w4.alloc (.cells #[.slice p1 p2 p3, .slice p4 p5 p6] 29) := ⟨_, rfl⟩
  have hs5 : W5.heap.size = w4.heap.size + 1 := by rw [hW5]; simp
  have hb45 : Below w4.heap.size w4 W5 := by rw [hW5]; exact (Below.refl _ _).alloc (Nat.le_refl _) _
  have hb5 : Below W3.heap.size W3 W5 := hb4.trans (hb45.mono (by omega))
  have hk5 : W5.heap[w4.heap.size]? = some (.cells #[.slice p1 p2 p3, .slice p4 p5 p6] 29 (0, 0)) := by rw [hW5, new_blk]
  have hx5 := (hb5.block _ (by omega)).trans HBX.out.2
  have hx5x := hx5
  rw [hW5] at hx5x
  clear x1 x2 x3 x4
  obtain ⟨x1, x2, x3, x4⟩ := box2 hx5x
  have HX5 := Lib.hid (And.intro (ho4.later hb45 (Nat.le_refl _)) (And.intro hk5 hb5))
  have HS5 := Lib.hid (HS3.out W5 hb5)
  have HW5 := Lib.hid hW5
  clear ho4 hb4 hb45 hb5 hk5 hx5 hx5x hW5
  go_wp2_with fail
  rw [← HW5.out]
  refine HS5.out.mono ?_
  rintro e w6 ⟨k6, d6, P6, rfl, ho6, hb6⟩
  obtain ⟨q1, q2, q3, q4, q5, q6, rfl, rfl⟩ := ho6.tree.slices
  have hs6 := hb6.size
  obtain ⟨W7, hW7⟩ : ∃ W7, W7 = w6.alloc (.cells #[.slice q1 q2 q3, .slice q4 q5 q6] 29) := ⟨_, rfl⟩
  have hs7 : W7.heap.size = w6.heap.size + 1 := by rw [hW7]; simp
  have hb67 : Below w6.heap.size w6 W7 := by rw [hW7]; exact (Below.refl _ _).alloc (Nat.le_refl _) _
  have hb57 : Below W5.heap.size W5 W7 := hb6.trans (hb67.mono hs6)
  have hb7 : Below W3.heap.size W3 W7 := HX5.out.2.2.trans (hb57.mono (by omega))
  have hk7 : W7.heap[w6.heap.size]? = some (.cells #[.slice q1 q2 q3, .slice q4 q5 q6] 29 (0, 0)) := by rw [hW7, new_blk]
  have htx : TreeA W7 (.slice p1 p2 p3) (.slice p4 p5 p6) X := (HX5.out.1.later hb57 (Nat.le_refl _)).a
  have htq : TreeIn W7 W7.heap.size (.slice q1 q2 q3) (.slice q4 q5 q6) X := (ho6.later hb67 (Nat.le_refl _)).tree
  have htt : TreeA W7 (.slice b1 b2 b3) (.slice b4 b5 b6) t := HTA.out.later hb7 (Nat.le_refl _)
  have BOX1 : Hid (∀ wx : World, Below W7.heap.size W7 wx → wx.heap[w2.heap.size]? = some (.cells #[.slice b1 b2 b3, .slice b4 b5 b6] 29 (0, 0))) :=
    Lib.hid (fun wx hx => (hx.block _ (by omega)).trans ((hb7.block _ (by omega)).trans HBX.out.2))
  have BOX2 : Hid (∀ wx : World, Below W7.heap.size W7 wx → wx.heap[w4.heap.size]? = some (.cells #[.slice p1 p2 p3, .slice p4 p5 p6] 29 (0, 0))) :=
    Lib.hid (fun wx hx => (hx.block _ (by omega)).trans ((hb57.block _ (by omega)).trans HX5.out.2.1))
  have BOX3 : Hid (∀ wx : World, Below W7.heap.size W7 wx → wx.heap[w6.heap.size]? = some (.cells #[.slice q1 q2 q3, .slice q4 q5 q6] 29 (0, 0))) :=
    Lib.hid (fun wx hx => (hx.block _ (by omega)).trans hk7)
  have C4 := fun (wx : World) (hx : Below W7.heap.size W7 wx) => impl_rank htt.tree hwt
  have CT := fun (k : Int) (wx : World) (hx : Below W7.heap.size W7 wx) => impl_rank htt.tree hwt k wx hx hx.size
  have CX := fun (k : Int) (wx : World) (hx : Below W7.heap.size W7 wx) => impl_rank htx.tree hXw k wx hx hx.size
  have CK := fun (wx : World) (hx : Below W7.heap.size W7 wx) => impl_keys_a (htx.later hx (Nat.le_refl _)) hXw
  clear C4
  have HCT := Lib.hid CT
  have HCX := Lib.hid CX
  have HCK := Lib.hid CK
  have HF := Lib.hid (HBX.out.1.trans (hb7.mono (by have := HBX.out.1.size; omega)))
  have r1 := BOX1.out W7 (Below.refl _ _)
  have r2 := BOX2.out W7 (Below.refl _ _)
  rw [hW7] at r1 r2
  clear x1 x2 x3 x4
  obtain ⟨x1, x2, x3, x4⟩ := box2 r1
  obtain ⟨y1, y2, y3, y4⟩ := box2 r2
  have HW7 := Lib.hid hW7
  have hAA : (A != A) = false := by simp
  clear ho6 hb6 hb67 hb57 hb7 hk7 htx htq htt CT CX CK r1 r2 hW7
  cases A with
  | false =>
    go_wp2_with fail
    rw [← HW7.out]
    go_ret
    exact ⟨rfl, HF.out⟩
  | true =>
    go_wp2_with fail
    rw [← HW7.out]
    refine (HCK.out W7 (Below.refl _ _)).mono ?_
    rintro e w8 ⟨v8, rfl, hown8, hb8⟩
    obtain ⟨K, hK⟩ : ∃ K, K = X.keys := ⟨_, rfl⟩
    rw [← hK] at hown8
    obtain ⟨ka, kc, rfl⟩ := IntsOwn.shown hown8
    have hin8 := IntsOwn.in hown8
    obtain ⟨_, _, hv8, hk1, hk2, -, hat⟩ := hin8
    injection hv8 with ev1 _ ev3
    subst ev1 ev3
    have hlk : Tr.lacksB wide key t = true := HAX.out.1.symm
    have hXe : X = Tr.delT wide key t := by rw [HAX.out.2, Tr.delKeyT, if_pos hlk]
    have hKw : K.length ≤ 1048576 := by
      rw [hK, hXe]
      have := sorted_len (Tr.valid_keys (Tr.delT_facts hlk).1)
      omega
    have hfacts : ∀ j, j < K.length → X.rankB (K.getD j 0) = j ∧ t.rankB (K.getD j 0) = (if key < K.getD j 0 then (j : Int) + 1 else (j : Int)) := fun j hj => by
      rw [hK, hXe] at hj ⊢
      exact Tr.del_ranks hlk hj
    have HFA := Lib.hid hfacts
    have HAT := Lib.hid hat
    have H8 := Lib.hid hb8
    have hs8 := hb8.size
    have HK := Lib.hid hK
    unfold maxLen at hk2
    clear hown8 hb8 hat hfacts hXe hlk hK x1 x2 x3 x4 y1 y2 y3 y4
    go_wp2_with fail
    go_loopw [44] (fun s44 wr => ∃ j : Nat, j ≤ K.length ∧ s44 = .int .i64 j ∧ Below w8.heap.size w8 wr) (fun s44 _ => K.length - (intOf s44).toNat)
    case atStart => exact ⟨0, Nat.zero_le _, rfl, Below.refl _ _⟩
    case round =>
      obtain ⟨j, hj, rfl, hbel⟩ := hrel
      have hsz := hbel.size
      have hb7r : Below W7.heap.size W7 wr := H8.out.trans (hbel.mono hs8)
      have HR := Lib.hid (And.intro hbel hb7r)
      obtain ⟨x1, x2, x3, x4⟩ := box2 (BOX1.out wr hb7r)
      clear hbel hb7r
      by_cases hlt : j < K.length
      · rcases HAT.out with h | ⟨kb, ko, rfl, hkb, hat⟩
        · rw [h] at hlt; simp at hlt
        have hcell : wr.cell? ⟨kb, ko + j, none⟩ = some (.int .i64 (K.getD j 0)) := by rw [below_cell HR.out.1 hkb]; exact hat j hlt
        obtain ⟨k, hk⟩ : ∃ k, k = K.getD j 0 := ⟨_, rfl⟩
        obtain ⟨f1, f2⟩ := HFA.out j hlt
        rw [← hk] at hcell f1 f2
        have hjk : (j : Int) < (K.length : Int) := by omega
        have hc1 := HCT.out k wr HR.out.2
        rw [f2] at hc1
        have HC1 := Lib.hid hc1
        have HF1 := Lib.hid (And.intro f1 hk)
        clear hat hc1 f1 f2 hk
        go_wp2_with fail
        refine HC1.out.mono ?_
        rintro e w9 ⟨rfl, hb9⟩
        have hs9 := hb9.size
        have hb9' : Below W7.heap.size W7 w9 := HR.out.2.trans (hb9.mono HR.out.2.size)
        have hc2 := HCX.out k w9 hb9'
        rw [HF1.out.1] at hc2
        have HC2 := Lib.hid hc2
        have H9 := Lib.hid (And.intro hb9 hb9')
        clear x1 x2 x3 x4 hb9 hb9' hc2
        obtain ⟨y1, y2, y3, y4⟩ := box2 (BOX2.out w9 H9.out.2)
        by_cases hkk : key < k
        · have hkk' : k > key := hkk
          have hwr : IntKind.i64.wrap ((j : Int) + 1 - 1) = (j : Int) := by rw [IntKind.wrap_i64]; omega
          have hne : ((j : Int) != (j : Int)) = false := by simp
          rw [if_pos hkk]
          go_wp2_with fail
          refine HC2.out.mono ?_
          rintro e w10 ⟨rfl, hb10⟩
          have HB10 := Lib.hid (HR.out.1.trans ((H9.out.1.trans (hb10.mono hs9)).mono hsz))
          clear hb10
          go_wp2_with fail
          go_roundw
          case rel => exact ⟨j + 1, by omega, by simp, HB10.out⟩
          case measure => simp [intOf]; omega
        · have hkk' : ¬ k > key := hkk
          have hne : ((j : Int) != (j : Int)) = false := by simp
          rw [if_neg hkk]
          go_wp2_with fail
          refine HC2.out.mono ?_
          rintro e w10 ⟨rfl, hb10⟩
          have HB10 := Lib.hid (HR.out.1.trans ((H9.out.1.trans (hb10.mono hs9)).mono hsz))
          clear hb10
          go_wp2_with fail
          go_roundw
          case rel => exact ⟨j + 1, by omega, by simp, HB10.out⟩
          case measure => simp [intOf]; omega
      · have hjk : ¬ (j : Int) < (K.length : Int) := by omega
        go_wp2_with fail
        go_ret
        exact ⟨rfl, HF.out.trans ((HR.out.2).mono (by have := HF.out.size; omega))⟩
end Go.Proofs.Ytepkigcbjepbpaa

/- The statement on ranks when a key is deleted, from the walk of its law. -/
namespace Go.Proofs.Ytepkigcbjepbpaa.fnDeletedRankRowP
open Go.ChangeShapes Go.WideShapes Go.ChangeAt Go.RowKit
set_option linter.unusedVariables false

theorem own : ownKnob Try.prog.godebug = none := by kernel_rfl
theorem laidOut : laidOutB Try.prog = true := by kernel_rfl

set_option maxRecDepth 100000 in
set_option maxHeartbeats 1000000 in
theorem lifted (os : Os) (started : os.Started) (H : Type) (enc : TypeId × Value → H) :
    ReturnsInHanded {} Try.checked os 4 .any (Rows.fnDeletedRankSpec.pre6 enc Try.prog Try.f4 Rows.fnDeletedRankRow.domain false) (Rows.fnDeletedRankSpec.post enc Try.prog Try.f4 false true false false) := by
  refine returnsInHanded_of_change (C := Try.checked) own started (by kernel_rfl) Try.func4
    (ChangeSpec.witness6 (enc := enc) (C := Try.checked) false ⟨#[], #[.slice none 0 0], []⟩ 8 (by kernel_rfl) (by kernel_rfl) (by kernel_rfl) (by kernel_rfl)) ?_
  intro W base args ds gs before hval0 hW hcnd _
  have hval : ∀ (j : Nat) t v, Try.f4.params[j]? = some t → args[j]? = some v → Value.okWide Try.prog W .any base t v := hval0
  have hW' := hW
  obtain ⟨p, q, hA0, hV, rfl, hfz, hnd⟩ := hW
  have hA : DataW.TrodAll enc Try.prog W 0 (fun _ => true) true Try.f4.params.toList args.toList ds p := hA0
  rw [Try.params4] at hA hval
  obtain ⟨v0, vs0, d0, ds0, p0, q0, hargs, rfl, rfl, h0, r0⟩ := trodAll_cons hA
  obtain ⟨rfl, rfl, rfl⟩ := trodAll_nil r0
  obtain rfl : args = #[v0] := by cases args; simp_all
  obtain ⟨rfl, rfl⟩ := trodVars_none hV
  obtain ⟨a0, len0, cap0, rfl⟩ := okWide_slice Try.underlying36 (hval 0 36 v0 rfl rfl)
  have k0 := h0
  have lt0 : ∀ x ∈ p0, x.block < W.heap.size := by obtain ⟨m, hm⟩ := k0; exact DataW.trod_lt m _ _ _ hm
  obtain ⟨bs0, hb0⟩ : ∃ bs, BytesIn W W.heap.size (.slice a0 len0 cap0) bs := by
    obtain ⟨fuel, hf⟩ := h0
    exact bytes_of_trod fuel (fun _ => rfl) hf
  clear hA0 hval0
  refine (fnDeletedRank_c hb0).mono fun e W' ⟨he, bel⟩ => ?_
  subst he
  exact ⟨_, rfl, _, _, _, [], _, [], hW', trodAll_mk1 (shut_bool Try.underlying4 _), (trodAll_cons_mk (Below.trod laidOut (by kernel_rfl) (of_decide_eq_true (by kernel_rfl)) k0 bel lt0) trodAll_mk0), rfl, bel.frame _, fun h => by cases h⟩

theorem closed : joinedFacts Try.prog 4 Try.f4 Rows.fnDeletedRankSpec Rows.fnDeletedRankRow = true := by
  unfold joinedFacts
  exact band (band (band (band (band (band (band (by kernel_rfl) fact_enter) fact_lifts) fact_make) (by kernel_rfl)) (by kernel_rfl)) (by kernel_rfl)) (by kernel_rfl)

theorem over : Rows.fnDeletedRankRow.holds Try.pinned (OpenSpec.ofChange Rows.fnDeletedRankSpec) :=
  OpenClaim.holds_of_wide 4 Try.f4 rfl rfl rfl rfl rfl rfl rfl ⟨rfl, rfl, rfl, rfl, rfl⟩ rfl rfl rfl rfl rfl (by kernel_rfl) Try.func4 closed
    (of_decide_eq_true (by kernel_rfl)) (by unfold Func.isWrapper; first | (rw [if_pos (by decide +kernel)]; kernel_rfl) | (rw [if_neg (by decide +kernel)]; exact ⟨rfl, rfl⟩))
    (fun os started H enc _ => lifted os started H enc)
end Go.Proofs.Ytepkigcbjepbpaa.fnDeletedRankRowP

/- For every slice of bytes, the law on ranks when a key is deleted returns true and leaves its arguments as they were; no conditions. -/
namespace Go.Proofs.Ytepkigcbjepbpaa

theorem deletedRank_said : Rows.FnDeletedRankSaid := fnDeletedRankRowP.over
end Go.Proofs.Ytepkigcbjepbpaa
