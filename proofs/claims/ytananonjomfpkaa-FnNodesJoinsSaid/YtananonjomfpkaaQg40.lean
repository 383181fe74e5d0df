/- For every slice of bytes, the law on nodes and joins returns true and leaves its arguments as they were; no conditions. -/
import Derived.Test.YtananonjomfpkaaQg8
import Derived.Test.YtananonjomfpkaaQg39
import Derived.Test.YtananonjomfpkaaRows
import Derived.Test.YtananonjomfpkaaQgS0
/- The law on nodes and joins: the walk over the contracts. -/
namespace Go.Proofs.Ytananonjomfpkaa
open Go.RowKit
set_option maxHeartbeats 4000000 in
set_option maxRecDepth 100000 in
theorem fnNodesJoins_c {w : World} {v1 : Value} {bs1 : List Nat} (h1 : BytesIn w w.heap.size v1 bs1) :
   Calls Try.prog 12 #[v1] w fun e w' => e = .returned (.bool true) ∧ Below w.heap.size w w' := by
 have H1 := Lib.hid h1
 obtain ⟨a1, c1, rfl, -⟩ := h1
 by_cases hc1 : bs1.length ≤ 1048576
 case neg =>
   have hc1' : ((bs1.length : Int) > 1048576) := by omega
   go_enter Try.func12, Try.ntmps12
   go_wp2_with fail
   go_ret
   exact ⟨rfl, Below.refl _ _⟩
 have hc1' : ¬ ((bs1.length : Int) > 1048576) := by omega
 have HD1 := Lib.hid (drawRepOf_c H1.out w (Below.refl _ _) (Nat.le_refl _))
 go_enter Try.func12, Try.ntmps12
 go_wp2_with fail
 refine HD1.out.mono ?_
 rintro e w2 ⟨k2, d2, v2, t, wide, ks, rfl, ⟨hwd1, hwd2⟩, ht2, hw2, hi2, hkl, hb2⟩
 obtain ⟨b1, b2, b3, b4, b5, b6, rfl, rfl⟩ := ht2.slices
 obtain ⟨oa, oc, rfl⟩ := IntsOwn.shown hi2
 have hs2 := hb2.size
 obtain ⟨W3, hW3⟩ : ∃ W3, W3 = w2.alloc (.cells #[.slice b1 b2 b3, .slice b4 b5 b6] 26) := ⟨_, rfl⟩
 have hs3 : w2.heap.size < W3.heap.size := by rw [hW3]; simp
 have hb3 : Below w2.heap.size w2 W3 := by rw [hW3]; exact (Below.refl _ _).alloc (Nat.le_refl _) _
 have hx3 : W3.heap[w2.heap.size]? = some (.cells #[.slice b1 b2 b3, .slice b4 b5 b6] 26 (0, 0)) := by rw [hW3, new_blk]
 have hta3 : TreeA W3 (.slice b1 b2 b3) (.slice b4 b5 b6) t := (ht2.a (fun k hk => hk.2)).later hb3 (Nat.le_refl _)
 have hin3 : IntsIn W3 W3.heap.size (.slice oa ks.length oc) ks := (IntsOwn.inB (IntsOwn.later hi2 hb3 (Nat.le_refl _)) (Nat.le_refl _))
 have hwt : t.weight ≤ 1048576 := by omega
 have HTA := Lib.hid hta3
 have HIN := Lib.hid hin3
 have HBX := Lib.hid (And.intro (hb2.trans (hb3.mono (by omega))) hx3)
 have HI3 := Lib.hid (impl_repairsOf hta3.tree hwt hin3 wide (by omega) (by omega) W3 (Below.refl _ _) (Nat.le_refl _) (Nat.le_refl _))
 obtain ⟨A, hA⟩ : ∃ A, A = Tr.askAll wide t ks := ⟨_, rfl⟩
 obtain ⟨⟨rb, rj, rs⟩, hr⟩ : ∃ r, r = Tr.repOf wide t ks := ⟨_, rfl⟩
 rw [← hA, ← hr] at HI3
 have HA := Lib.hid (And.intro hA hr)
 have hx3x := hx3
 rw [hW3] at hx3x
 obtain ⟨x1, x2, x3, x4⟩ := box2 hx3x
 have HW3 := Lib.hid hW3
 clear ht2 hb2 hW3 hb3 hx3 hx3x hta3 hin3 hi2 hA hr
 go_wp2_with fail
 rw [← HW3.out]
 refine HI3.out.mono ?_
 rintro e w4 ⟨rfl, hb4⟩
 unfold repV
 dsimp only
 have hs4 := hb4.size
 obtain ⟨W5, hW5⟩ : ∃ W5, W5 = w4.alloc (.cells #[.int .i64 (rb : Int), .int .i64 (rj : Int), .bool rs] 52) := ⟨_, rfl⟩
 have hs5 : w4.heap.size < W5.heap.size := by rw [hW5]; simp
 have hb5 : Below W3.heap.size W3 W5 := hb4.trans (by rw [hW5]; exact (Below.refl _ _).alloc hs4 _)
 have hk5 : W5.heap[w4.heap.size]? = some (.cells #[.int .i64 (rb : Int), .int .i64 (rj : Int), .bool rs] 52 (0, 0)) := by rw [hW5, new_blk]
 have hq5 := (hb5.block _ hs3).trans HBX.out.2
 have HS5 := Lib.hid (specRepairsOf_c HTA.out.tree hwt HIN.out wide W5 hb5 (by omega) (Nat.le_refl _))
 rw [← HA.out.1, ← HA.out.2] at HS5
 have HB5 := Lib.hid (And.intro hb5 (And.intro hq5 hk5))
 have HW5 := Lib.hid hW5
 clear hb4 hW5 hb5 hk5 hq5 x1 x2 x3 x4
 go_upto_region 5 with (fail)
 rw [← HW5.out]
 obtain ⟨x1, x2, x3, x4⟩ := box2 HB5.out.2.1
 go_wp2_with fail
 refine HS5.out.mono ?_
 rintro e w6 ⟨rfl, hb6⟩
 unfold repV
 dsimp only
 have hs6 := hb6.size
 obtain ⟨W7, hW7⟩ : ∃ W7, W7 = w6.alloc (.cells #[.int .i64 (rb : Int), .int .i64 (rj : Int), .bool rs] 52) := ⟨_, rfl⟩
 have hs7 : w6.heap.size < W7.heap.size := by rw [hW7]; simp
 have hb57 : Below W5.heap.size W5 W7 := hb6.trans (by rw [hW7]; exact (Below.refl _ _).alloc hs6 _)
 have hk7 : W7.heap[w6.heap.size]? = some (.cells #[.int .i64 (rb : Int), .int .i64 (rj : Int), .bool rs] 52 (0, 0)) := by rw [hW7, new_blk]
 have hk47 := (hb57.block _ hs5).trans HB5.out.2.2
 have hq7 := (hb57.block _ (by omega)).trans HB5.out.2.1
 have hb37 : Below W3.heap.size W3 W7 := HB5.out.1.trans (hb57.mono (by omega))
 have HW7 := Lib.hid hW7
 have HB7 := Lib.hid (And.intro hb37 (And.intro hq7 (And.intro hk47 hk7)))
 have HF7 := Lib.hid (HBX.out.1.trans (hb37.mono (by have := HBX.out.1.size; omega)))
 clear hb6 hW7 hb57 hk7 hk47 hq7 hb37 x1 x2 x3 x4
 have hneb : (A != A) = false := by simp
 have heqb : (A == A) = true := by simp
 have HI7 := Lib.hid (impl_deleteAll HTA.out.tree hwt HIN.out wide (by omega) (by omega) W7 HB7.out.1 HB7.out.1.size (Nat.le_refl _))
 rw [← HA.out.1] at HI7
 go_upto_region 8 with (fail)
 rw [← HW7.out]
 obtain ⟨x1, x2, -⟩ := box2 HB7.out.2.1
 go_wp2_with fail
 refine HI7.out.mono ?_
 rintro e w8 ⟨k8, c8, P8, rfl, ho8, hb8⟩
 obtain ⟨p1, p2, p3, p4, p5, p6, rfl, rfl⟩ := ho8.tree.slices
 have hs8 := hb8.size
 obtain ⟨W9, hW9⟩ : ∃ W9, W9 = w8.alloc (.cells #[.slice p1 p2 p3, .slice p4 p5 p6] 26) := ⟨_, rfl⟩
 have hs9 : w8.heap.size < W9.heap.size := by rw [hW9]; simp
 have hb89 : Below w8.heap.size w8 W9 := by rw [hW9]; exact (Below.refl _ _).alloc (Nat.le_refl _) _
 have hb79 : Below W7.heap.size W7 W9 := hb8.trans (hb89.mono hs8)
 have hk9 : W9.heap[w8.heap.size]? = some (.cells #[.slice p1 p2 p3, .slice p4 p5 p6] 26 (0, 0)) := by rw [hW9, new_blk]
 have htx : TreeA W9 (.slice p1 p2 p3) (.slice p4 p5 p6) (Tr.goneT wide t ks) := (ho8.later hb89 (Nat.le_refl _)).a
 have htt : TreeA W9 (.slice b1 b2 b3) (.slice b4 b5 b6) t := HTA.out.later (HB7.out.1.trans (hb79.mono HB7.out.1.size)) (Nat.le_refl _)
 have hz7 := HB7.out.1.size
 have BOX9 : Hid (∀ wx : World, Below W9.heap.size W9 wx → (wx.heap[w2.heap.size]? = some (.cells #[.slice b1 b2 b3, .slice b4 b5 b6] 26 (0, 0)) ∧ wx.heap[w8.heap.size]? = some (.cells #[.slice p1 p2 p3, .slice p4 p5 p6] 26 (0, 0))) ∧ wx.heap[w4.heap.size]? = some (.cells #[.int .i64 (rb : Int), .int .i64 (rj : Int), .bool rs] 52 (0, 0))) :=
   Lib.hid (fun wx hx => ⟨⟨(hx.block _ (by omega)).trans ((hb79.block _ (by omega)).trans HB7.out.2.1), (hx.block _ hs9).trans hk9⟩, (hx.block _ (by omega)).trans ((hb79.block _ (by omega)).trans HB7.out.2.2.1)⟩)
 have hwx := Tr.goneT_weight wide t ks
 have hfew := Tr.count_le t
 have C1 := fun (wx : World) (hx : Below W9.heap.size W9 wx) => impl_depth_a (htt.later hx (Nat.le_refl _)) hwt
 have C2 := fun (wx : World) (hx : Below W9.heap.size W9 wx) => impl_depth_a (htx.later hx (Nat.le_refl _)) hwx
 have C3 := fun (wx : World) (hx : Below W9.heap.size W9 wx) => impl_count_a (htt.later hx (Nat.le_refl _)) hwt
 have C4 := fun (wx : World) (hx : Below W9.heap.size W9 wx) => impl_count_a (htx.later hx (Nat.le_refl _)) hwx
 have HF9 := Lib.hid (HF7.out.trans (hb79.mono (by have := HF7.out.size; omega)))
 have HW9 := Lib.hid hW9
 clear ho8 hb8 hW9 hb89 hb79 hk9 htx htt x1 x2
 cases A with
 | false =>
   go_wp2_with fail
   rw [← HW9.out]
   go_ret
   exact ⟨rfl, HF9.out⟩
 | true =>
   have hask := HA.out.1.symm
   have hrep : (rb, rj, rs) = ((Tr.gone wide t ks).b, (Tr.gone wide t ks).j, (Tr.gone wide t ks).sh) := by rw [HA.out.2]; simp [Tr.repOf, hask]
   obtain ⟨s, hf1, hf2, hf3⟩ := Tr.joins_facts hask
   have hrep' := hrep
   injection hrep' with e1 e2
   injection e2 with e2 e3
   rw [← e2] at hf1
   rw [← e3] at hf3
   obtain ⟨d0, hd0⟩ : ∃ d0 : Int, d0 = t.depth := ⟨_, rfl⟩
   obtain ⟨d1, hd1⟩ : ∃ d1 : Int, d1 = (Tr.goneT wide t ks).depth := ⟨_, rfl⟩
   obtain ⟨n0, hn0⟩ : ∃ n0 : Int, n0 = t.count := ⟨_, rfl⟩
   obtain ⟨n1, hn1⟩ : ∃ n1 : Int, n1 = (Tr.goneT wide t ks).count := ⟨_, rfl⟩
   obtain ⟨J, hJ⟩ : ∃ J : Int, J = rj := ⟨_, rfl⟩
   obtain ⟨S, hS⟩ : ∃ S : Int, S = s := ⟨_, rfl⟩
   rw [← hd0] at C1
   rw [← hd1] at C2
   rw [← hn0] at C3
   rw [← hn1] at C4
   rw [← hJ] at BOX9
   have hdw := Tr.depth_le t
   have hwrap1 : IntKind.i64.wrap (d0 - d1) = S := by rw [IntKind.wrap_i64]; omega
   have hwrap2 : IntKind.i64.wrap (n0 - n1) = J + S := by rw [IntKind.wrap_i64]; omega
   have hwrap3 : IntKind.i64.wrap (J + S) = J + S := by rw [IntKind.wrap_i64]; omega
   have hsum : ((J + S : Int) == J + S) = true := by simp
   have hS0 : S ≥ 0 := by omega
   have hrs : rs = decide (S > 0) := by rw [hf3]; simp only [decide_eq_decide]; omega
   have HC1 := Lib.hid C1
   have HC2 := Lib.hid C2
   have HC3 := Lib.hid C3
   have HC4 := Lib.hid C4
   have HRS := Lib.hid hrs
   clear hask hrep e1 e2 e3 hf1 hf2 hf3 hd0 hd1 hn0 hn1 hJ hS C1 C2 C3 C4 hdw hfew hneb hrs
   go_upto_region 11 with (fail)
   rw [← HW9.out]
   obtain ⟨x1, x2, -⟩ := box2 (BOX9.out W9 (Below.refl _ _)).1.1
   obtain ⟨x3, x4, -⟩ := box2 (BOX9.out W9 (Below.refl _ _)).1.2
   go_region_held3 (fun x => x.cell? ⟨w2.heap.size, 0, none⟩ = some (.slice b1 b2 b3) ∧ x.cell? ⟨w2.heap.size, 1, none⟩ = some (.slice b4 b5 b6) ∧ x.cell? ⟨w8.heap.size, 0, none⟩ = some (.slice p1 p2 p3) ∧ x.cell? ⟨w8.heap.size, 1, none⟩ = some (.slice p4 p5 p6))
     (first | exact ⟨x1, x2, x3, x4⟩ | exact ⟨z1, z2, z3, z4⟩ | exact ⟨q1, q2, q3, q4⟩ | go_keep)
     (first
       | (go_at_call 47; refine (HC2.out _ HB16.out).mono ?_; rintro e w17 ⟨rfl, hb17⟩; have hB17 : Below W9.heap.size W9 w17 := HB16.out.trans (hb17.mono HB16.out.size); obtain ⟨q1, q2, -⟩ := box2 (BOX9.out w17 hB17).1.1; obtain ⟨q3, q4, -⟩ := box2 (BOX9.out w17 hB17).1.2; have HB17 := Lib.hid hB17; clear hb17 hB17)
       | (go_at_call 47; refine (HC1.out _ (Below.refl _ _).drew).mono ?_; rintro e w16 ⟨rfl, hb16⟩; have hB16 : Below W9.heap.size W9 w16 := ((Below.refl _ _).drew).trans hb16; obtain ⟨z1, z2, -⟩ := box2 (BOX9.out w16 hB16).1.1; obtain ⟨z3, z4, -⟩ := box2 (BOX9.out w16 hB16).1.2; have HB16 := Lib.hid hB16; clear hb16 hB16))
   clear x1 x2 x3 x4 z1 z2 z3 z4 q1 q2 q3 q4
   go_upto_region 12 with (fail)
   by_cases hpos : S > 0
   · have hrt : rs = true := by rw [HRS.out]; simp [hpos]
     subst hrt
     obtain ⟨x1, x2, -⟩ := box2 (BOX9.out w17 HB17.out).1.1
     obtain ⟨x3, x4, -⟩ := box2 (BOX9.out w17 HB17.out).1.2
     obtain ⟨x5, x6, x7, -⟩ := box3 (BOX9.out w17 HB17.out).2
     go_region_held3 (fun x => x.cell? ⟨w2.heap.size, 0, none⟩ = some (.slice b1 b2 b3) ∧ x.cell? ⟨w2.heap.size, 1, none⟩ = some (.slice b4 b5 b6) ∧ x.cell? ⟨w8.heap.size, 0, none⟩ = some (.slice p1 p2 p3) ∧ x.cell? ⟨w8.heap.size, 1, none⟩ = some (.slice p4 p5 p6) ∧ x.cell? ⟨w4.heap.size, 0, none⟩ = some (.int .i64 (rb : Int)) ∧ x.cell? ⟨w4.heap.size, 1, none⟩ = some (.int .i64 J) ∧ x.cell? ⟨w4.heap.size, 2, none⟩ = some (.bool true))
       (first | exact ⟨x1, x2, x3, x4, x5, x6, x7⟩ | exact ⟨z1, z2, z3, z4, z5, z6, z7⟩ | exact ⟨q1, q2, q3, q4, q5, q6, q7⟩ | go_keep)
       (first
         | (go_at_call 48; refine (HC4.out _ HB18.out).mono ?_; rintro e w19 ⟨rfl, hb19⟩; have hB19 : Below W9.heap.size W9 w19 := HB18.out.trans (hb19.mono HB18.out.size); obtain ⟨q1, q2, -⟩ := box2 (BOX9.out w19 hB19).1.1; obtain ⟨q3, q4, -⟩ := box2 (BOX9.out w19 hB19).1.2; obtain ⟨q5, q6, q7, -⟩ := box3 (BOX9.out w19 hB19).2; have HB19 := Lib.hid hB19; clear hb19 hB19)
         | (go_at_call 48; refine (HC3.out _ HB17.out.drew).mono ?_; rintro e w18 ⟨rfl, hb18⟩; have hB18 : Below W9.heap.size W9 w18 := (HB17.out.drew).trans (hb18.mono (by have := HB17.out.size; simp; omega)); obtain ⟨z1, z2, -⟩ := box2 (BOX9.out w18 hB18).1.1; obtain ⟨z3, z4, -⟩ := box2 (BOX9.out w18 hB18).1.2; obtain ⟨z5, z6, z7, -⟩ := box3 (BOX9.out w18 hB18).2; have HB18 := Lib.hid hB18; clear hb18 hB18))
     go_wp2_with fail
     go_ret
     have hfin := HF9.out.trans (HB19.out.mono (by have := HF9.out.size; omega))
     first | exact ⟨rfl, hfin⟩ | exact ⟨ret_bool (by simp [hpos]), hfin⟩ | exact ⟨ret_bool (by simp; omega), hfin⟩
   · have hrt : rs = false := by rw [HRS.out]; simp [hpos]
     subst hrt
     obtain ⟨x1, x2, -⟩ := box2 (BOX9.out w17 HB17.out).1.1
     obtain ⟨x3, x4, -⟩ := box2 (BOX9.out w17 HB17.out).1.2
     obtain ⟨x5, x6, x7, -⟩ := box3 (BOX9.out w17 HB17.out).2
     go_region_held3 (fun x => x.cell? ⟨w2.heap.size, 0, none⟩ = some (.slice b1 b2 b3) ∧ x.cell? ⟨w2.heap.size, 1, none⟩ = some (.slice b4 b5 b6) ∧ x.cell? ⟨w8.heap.size, 0, none⟩ = some (.slice p1 p2 p3) ∧ x.cell? ⟨w8.heap.size, 1, none⟩ = some (.slice p4 p5 p6) ∧ x.cell? ⟨w4.heap.size, 0, none⟩ = some (.int .i64 (rb : Int)) ∧ x.cell? ⟨w4.heap.size, 1, none⟩ = some (.int .i64 J) ∧ x.cell? ⟨w4.heap.size, 2, none⟩ = some (.bool false))
       (first | exact ⟨x1, x2, x3, x4, x5, x6, x7⟩ | exact ⟨z1, z2, z3, z4, z5, z6, z7⟩ | exact ⟨q1, q2, q3, q4, q5, q6, q7⟩ | go_keep)
       (first
         | (go_at_call 48; refine (HC4.out _ HB18.out).mono ?_; rintro e w19 ⟨rfl, hb19⟩; have hB19 : Below W9.heap.size W9 w19 := HB18.out.trans (hb19.mono HB18.out.size); obtain ⟨q1, q2, -⟩ := box2 (BOX9.out w19 hB19).1.1; obtain ⟨q3, q4, -⟩ := box2 (BOX9.out w19 hB19).1.2; obtain ⟨q5, q6, q7, -⟩ := box3 (BOX9.out w19 hB19).2; have HB19 := Lib.hid hB19; clear hb19 hB19)
         | (go_at_call 48; refine (HC3.out _ HB17.out.drew).mono ?_; rintro e w18 ⟨rfl, hb18⟩; have hB18 : Below W9.heap.size W9 w18 := (HB17.out.drew).trans (hb18.mono (by have := HB17.out.size; simp; omega)); obtain ⟨z1, z2, -⟩ := box2 (BOX9.out w18 hB18).1.1; obtain ⟨z3, z4, -⟩ := box2 (BOX9.out w18 hB18).1.2; obtain ⟨z5, z6, z7, -⟩ := box3 (BOX9.out w18 hB18).2; have HB18 := Lib.hid hB18; clear hb18 hB18))
     go_wp2_with fail
     go_ret
     have hfin := HF9.out.trans (HB19.out.mono (by have := HF9.out.size; omega))
     first | exact ⟨rfl, hfin⟩ | exact ⟨ret_bool (by simp [hpos]), hfin⟩ | exact ⟨ret_bool (by simp; omega), hfin⟩
end Go.Proofs.Ytananonjomfpkaa
/- The statement on nodes and joins, from the walk of its law. -/
namespace Go.Proofs.Ytananonjomfpkaa.fnNodesJoinsRowP
open Go.ChangeShapes Go.WideShapes Go.ChangeAt Go.RowKit
set_option linter.unusedVariables false
theorem own : ownKnob Try.prog.godebug = none := by kernel_rfl
theorem laidOut : laidOutB Try.prog = true := by kernel_rfl
set_option maxRecDepth 100000 in
set_option maxHeartbeats 1000000 in
theorem lifted (os : Os) (started : os.Started) (H : Type) (enc : TypeId × Value → H) :
   ReturnsInHanded {} Try.checked os 12 .any (Rows.fnNodesJoinsSpec.pre6 enc Try.prog Try.f12 Rows.fnNodesJoinsRow.domain false) (Rows.fnNodesJoinsSpec.post enc Try.prog Try.f12 false true false false) := by
 refine returnsInHanded_of_change (C := Try.checked) own started (by kernel_rfl) Try.func12
   (ChangeSpec.witness6 (enc := enc) (C := Try.checked) false ⟨#[], #[.slice none 0 0], []⟩ 8 (by kernel_rfl) (by kernel_rfl) (by kernel_rfl) (by kernel_rfl)) ?_
 intro W base args ds gs before hval0 hW hcnd _
 have hval : ∀ (j : Nat) t v, Try.f12.params[j]? = some t → args[j]? = some v → Value.okWide Try.prog W .any base t v := hval0
 have hW' := hW
 obtain ⟨p, q, hA0, hV, rfl, hfz, hnd⟩ := hW
 have hA : DataW.TrodAll enc Try.prog W 0 (fun _ => true) true Try.f12.params.toList args.toList ds p := hA0
 rw [Try.params12] at hA hval
 obtain ⟨v0, vs0, d0, ds0, p0, q0, hargs, rfl, rfl, h0, r0⟩ := trodAll_cons hA
 obtain ⟨rfl, rfl, rfl⟩ := trodAll_nil r0
 obtain rfl : args = #[v0] := by cases args; simp_all
 obtain ⟨rfl, rfl⟩ := trodVars_none hV
 obtain ⟨a0, len0, cap0, rfl⟩ := okWide_slice Try.underlying22 (hval 0 22 v0 rfl rfl)
 have k0 := h0
 have lt0 : ∀ x ∈ p0, x.block < W.heap.size := by obtain ⟨m, hm⟩ := k0; exact DataW.trod_lt m _ _ _ hm
 obtain ⟨bs0, hb0⟩ : ∃ bs, BytesIn W W.heap.size (.slice a0 len0 cap0) bs := by
   obtain ⟨fuel, hf⟩ := h0
   exact bytes_of_trod fuel (fun _ => rfl) hf
 clear hA0 hval0
 refine (fnNodesJoins_c hb0).mono fun e W' ⟨he, bel⟩ => ?_
 subst he
 exact ⟨_, rfl, _, _, _, [], _, [], hW', trodAll_mk1 (shut_bool Try.underlying4 _), (trodAll_cons_mk (Below.trod laidOut (by kernel_rfl) (of_decide_eq_true (by kernel_rfl)) k0 bel lt0) trodAll_mk0), rfl, bel.frame _, fun h => by cases h⟩
theorem closed : joinedFacts Try.prog 12 Try.f12 Rows.fnNodesJoinsSpec Rows.fnNodesJoinsRow = true := by
 unfold joinedFacts
 exact band (band (band (band (band (band (band (by kernel_rfl) fact_enter) fact_lifts) fact_make) (by kernel_rfl)) (by kernel_rfl)) (by kernel_rfl)) (by kernel_rfl)
theorem over : Rows.fnNodesJoinsRow.holds Try.pinned (OpenSpec.ofChange Rows.fnNodesJoinsSpec) :=
 OpenClaim.holds_of_wide 12 Try.f12 rfl rfl rfl rfl rfl rfl rfl ⟨rfl, rfl, rfl, rfl, rfl⟩ rfl rfl rfl rfl rfl (by kernel_rfl) Try.func12 closed
   (of_decide_eq_true (by kernel_rfl)) (by unfold Func.isWrapper; first | (rw [if_pos (by decide +kernel)]; kernel_rfl) | (rw [if_neg (by decide +kernel)]; exact ⟨rfl, rfl⟩))
   (fun os started H enc _ => lifted os started H enc)
end Go.Proofs.Ytananonjomfpkaa.fnNodesJoinsRowP
/- For every slice of bytes, the law on nodes and joins returns true and leaves its arguments as they were; no conditions. -/
namespace Go.Proofs.Ytananonjomfpkaa
theorem nodes_joins_said : Rows.FnNodesJoinsSaid := fnNodesJoinsRowP.over
end Go.Proofs.Ytananonjomfpkaa
