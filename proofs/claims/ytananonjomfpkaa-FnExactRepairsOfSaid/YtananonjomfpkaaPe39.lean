/- For every tree in memory, any int and any list of ints in memory, the law on RepairsOf returns true and leaves its arguments as they were; no conditions. -/
import Derived.Test.YtananonjomfpkaaProg
import Derived.Test.YtananonjomfpkaaPe0
import Derived.Test.YtananonjomfpkaaPe5
import Derived.Test.YtananonjomfpkaaTo
import Derived.Test.YtananonjomfpkaaPe6
import Derived.Test.YtananonjomfpkaaRepBy
import Derived.Test.YtananonjomfpkaaRepOf
import Derived.Test.YtananonjomfpkaaPe35
import Derived.Deep.RegionHeld3
import Derived.Test.YtananonjomfpkaaRows
import Derived.Test.YtananonjomfpkaaFacts
import Derived.Test.YtananonjomfpkaaPe22
import Derived.WalkKit
import Derived.ProofKit
import Derived.OpenShut
import Derived.ChangeOld
import Derived.Below

/- The law on RepairsOf: the walk over the contracts. -/
namespace Go.Proofs.Ytananonjomfpkaa
open Go.RowKit

/-- What the program's RepairsOf is to do. -/
def ImplRepairsOf : Prop := ∀ (w0 : World) (B : Nat) (kv cv v : Value) (t : Tr) (ks : List Int) (n : Int), TreeIn w0 B kv cv t → t.weight ≤ 1048576 → IntsIn w0 B v ks → -9223372036854775808 ≤ n → n ≤ 9223372036854775807 → w0.heap.size ≤ B → ∀ w', Below B w0 w' → B ≤ w'.heap.size →
  Calls Try.prog 38 #[.agg #[kv, cv], .int .i64 n, v] w' fun e w'' => e = .returned (.tuple #[repV (Tr.repOf n t ks), .bool (Tr.askAll n t ks)]) ∧ Below w'.heap.size w' w''

set_option maxHeartbeats 2000000 in
set_option maxRecDepth 100000 in
theorem exRepairsOf_c {kv cv v : Value} {t : Tr} {ks : List Int} (w : World) (ht : TreeIn w w.heap.size kv cv t) (hk : IntsIn w w.heap.size v ks) (n : Int) (hd1 : -9223372036854775808 ≤ n) (hd2 : n ≤ 9223372036854775807)
    (hI : ImplRepairsOf) :
    Calls Try.prog 7 #[.agg #[kv, cv], .int .i64 n, v] w fun e w' => e = .returned (.bool true) ∧ Below w.heap.size w w' := by
  have HK := Lib.hid hk
  obtain ⟨av, cpv, rfl, -, hcap, -, -⟩ := hk
  unfold maxLen at hcap
  obtain ⟨W1, hW1⟩ : ∃ W1, W1 = w.alloc (.cells #[kv, cv] 43) := ⟨_, rfl⟩
  have hs1 : W1.heap.size = w.heap.size + 1 := by rw [hW1]; simp
  have hb1 : Below w.heap.size w W1 := by rw [hW1]; exact (Below.refl _ _).alloc (Nat.le_refl _) _
  have kb : W1.heap[w.heap.size]? = some (.cells #[kv, cv] 43 (0, 0)) := by rw [hW1, new_blk]
  obtain ⟨x1, x2, x3, x4⟩ := box2 kb
  have HW1 := Lib.hid hW1
  have HT := Lib.hid ht
  have H1 := Lib.hid (And.intro hb1 kb)
  clear hW1 hb1 kb ht
  by_cases hlen : ks.length ≤ 1048576
  case neg =>
    have hc1' : ((ks.length : Int) > 1048576) := by omega
    go_enter Try.func7, Try.ntmps7
    go_wp2_with fail
    go_ret
    exact ⟨rfl, by rw [← HW1.out]; exact H1.out.1⟩
  have hc1' : ¬ ((ks.length : Int) > 1048576) := by omega
  go_enter Try.func7, Try.ntmps7
  go_wp2_with fail
  rw [← HW1.out]
  refine (szTree_c HT.out W1 1048576 H1.out.1 (by omega) (by omega) (by omega)).mono ?_
  rintro e w2 ⟨rfl, hb2⟩
  have hs2 := hb2.size
  have kb2 := (hb2.block w.heap.size (by omega)).trans H1.out.2
  have hb2' := H1.out.1.trans (hb2.mono (by omega))
  clear x1 x2 x3 x4
  obtain ⟨x1, x2, x3, x4⟩ := box2 kb2
  have H2 := Lib.hid (And.intro hb2' kb2)
  clear hb2 hb2' kb2
  by_cases hwt : t.weight ≤ 1048576
  · rw [leftOf_ge (by omega)]
    have hnn : ¬ ((1048576 : Int) - (t.weight : Int) < 0) := by omega
    go_wp2_with fail
    -- the first copy, for the model
    refine (toTree_c HT.out hwt w2 H2.out.1 (by omega)).mono ?_
    rintro e w3 ⟨k3, c3, rfl, hn3, hb3⟩
    have hs3 := hb3.size
    have kb3 := (hb3.block w.heap.size (by omega)).trans H2.out.2
    have hb3' := H2.out.1.trans (hb3.mono (by omega))
    clear x1 x2 x3 x4
    obtain ⟨x1, x2, x3, x4⟩ := box2 kb3
    have H3 := Lib.hid (And.intro hb3' kb3)
    have HN3 := Lib.hid (hn3.tree hwt)
    clear hb3 hb3' kb3 hn3
    go_wp2_with fail
    refine (toIntS_c ks _ w3 w.heap.size (by omega) (HK.out.later H3.out.1 (Nat.le_refl _)) hlen).mono ?_
    rintro e w3b ⟨g3, rfl, hg3, hr3, hb3b⟩
    have hs3b := hb3b.size
    have kb3b := (hb3b.block w.heap.size (by omega)).trans H3.out.2
    have hb3b' := H3.out.1.trans (hb3b.mono (by omega))
    have HN3b := Lib.hid (And.intro (TreeIn.wider (TreeIn.later HN3.out hb3b (Nat.le_refl _)) hs3b) (rowIn hr3 hlen hr3.lt))
    have H3b := Lib.hid (And.intro hb3b' kb3b)
    clear hb3b hb3b' kb3b hr3 x1 x2 x3 x4
    obtain ⟨x1, x2, x3, x4⟩ := box2 H3b.out.2
    go_wp2_with fail
    refine (specRepairsOf_c HN3b.out.1 hwt HN3b.out.2 n w3b (Below.refl _ _) (Nat.le_refl _) (Nat.le_refl _)).mono ?_
    rintro e w4 ⟨rfl, hb4⟩
    have hs4 := hb4.size
    have kb4 := (hb4.block w.heap.size (by omega)).trans H3b.out.2
    have hb4' := H3b.out.1.trans (hb4.mono (by omega))
    clear x1 x2 x3 x4
    obtain ⟨x1, x2, x3, x4⟩ := box2 kb4
    have H4 := Lib.hid (And.intro hb4' kb4)
    clear hb4 hb4' kb4
    obtain ⟨⟨rb, rj, rs⟩, hr⟩ : ∃ r, r = Tr.repOf n t ks := ⟨_, rfl⟩
    rw [← hr]
    obtain ⟨ok, hok⟩ : ∃ ok, ok = Tr.askAll n t ks := ⟨_, rfl⟩
    rw [← hok]
    have HR := Lib.hid (And.intro hr hok)
    clear hr hok
    unfold repV
    dsimp only
    obtain ⟨W4, hW4⟩ : ∃ W4, W4 = w4.alloc (.cells #[.int .i64 (rb : Int), .int .i64 (rj : Int), .bool rs] 52) := ⟨_, rfl⟩
    have hs4b : W4.heap.size = w4.heap.size + 1 := by rw [hW4]; simp
    have hb4b : Below w4.heap.size w4 W4 := by rw [hW4]; exact (Below.refl _ _).alloc (Nat.le_refl _) _
    have kr4 : W4.heap[w4.heap.size]? = some (.cells #[.int .i64 (rb : Int), .int .i64 (rj : Int), .bool rs] 52 (0, 0)) := by rw [hW4, new_blk]
    have kb4b := (hb4b.block w.heap.size (by omega)).trans H4.out.2
    have H4b := Lib.hid (And.intro (H4.out.1.trans (hb4b.mono (by omega))) (And.intro kb4b kr4))
    have HW4 := Lib.hid hW4
    clear hW4 hb4b kb4b kr4
    go_upto_region 8 with (fail)
    rw [← HW4.out]
    clear x1 x2 x3 x4
    obtain ⟨x1, x2, x3, x4⟩ := box2 H4b.out.2.1
    go_wp2_with fail
    -- the second copy, for the program
    refine (toTree_c HT.out hwt W4 H4b.out.1 (by omega)).mono ?_
    rintro e w5 ⟨k5, c5, rfl, hn5, hb5⟩
    obtain ⟨g5, h5, n5, m5, rfl, rfl⟩ := hn5.slices
    have hs5 := hb5.size
    have kb5 := (hb5.block w.heap.size (by omega)).trans H4b.out.2.1
    have kr5 := (hb5.block w4.heap.size (by omega)).trans H4b.out.2.2
    have hb5' := H4b.out.1.trans (hb5.mono (by omega))
    clear x1 x2 x3 x4
    obtain ⟨x1, x2, x3, x4⟩ := box2 kb5
    have H5 := Lib.hid (And.intro hb5' kb5)
    have KR5 := Lib.hid kr5
    clear kr5
    have HN5 := Lib.hid (hn5.tree hwt)
    clear hb5 hb5' kb5 hn5
    go_wp2_with fail
    obtain ⟨W6, hW6⟩ : ∃ W6, W6 = w5.alloc (.cells #[.slice (some ⟨g5, 0, none⟩) n5 n5, .slice (some ⟨h5, 0, none⟩) m5 m5] 26) := ⟨_, rfl⟩
    rw [← hW6]
    have hs6 : W6.heap.size = w5.heap.size + 1 := by rw [hW6]; simp
    have hb6 : Below w5.heap.size w5 W6 := by rw [hW6]; exact (Below.refl _ _).alloc (Nat.le_refl _) _
    have kx6 : W6.heap[w5.heap.size]? = some (.cells #[.slice (some ⟨g5, 0, none⟩) n5 n5, .slice (some ⟨h5, 0, none⟩) m5 m5] 26 (0, 0)) := by rw [hW6, new_blk]
    have kb6 := (hb6.block w.heap.size (by omega)).trans H5.out.2
    have hb6' := H5.out.1.trans (hb6.mono (by omega))
    clear x1 x2 x3 x4 hW6
    have H6 := Lib.hid (And.intro hb6' (And.intro kb6 (And.intro kx6 hb6)))
    clear hb6' kb6 kx6 hb6
    refine (toIntS_c ks _ W6 w.heap.size (by omega) (HK.out.later H6.out.1 (Nat.le_refl _)) hlen).mono ?_
    rintro e w6 ⟨g6, rfl, hg6, hr6, hb6⟩
    have hs6b := hb6.size
    have hg6' := hr6.lt
    have hb6' := H6.out.1.trans (hb6.mono (by omega))
    have kb6 := (hb6.block w.heap.size (by omega)).trans H6.out.2.1
    have kx6 := (hb6.block w5.heap.size (by omega)).trans H6.out.2.2.1
    have hb56 : Below w5.heap.size w5 w6 := H6.out.2.2.2.trans (hb6.mono (by omega))
    have kr6 := (hb56.block w4.heap.size (by omega)).trans KR5.out
    have HX6 := Lib.hid (And.intro (TreeIn.wider (TreeIn.later HN5.out hb56 (Nat.le_refl _)) hb56.size) (rowIn hr6 hlen hr6.lt))
    have HR6 := Lib.hid hr6
    have H6b := Lib.hid (And.intro hb6' (And.intro kb6 (And.intro kx6 (And.intro hb56 kr6))))
    clear hb6 hb6' kx6 hb56 kr6 hr6
    obtain ⟨x1, x2, x3, x4⟩ := box2 H6b.out.2.2.1
    obtain ⟨v1, v2, v3, v4⟩ := box2 kb6
    clear kb6
    go_wp2_with fail
    clear x1 x2 x3 x4 v1 v2 v3 v4
    refine (hI _ _ _ _ _ _ _ n HX6.out.1 hwt HX6.out.2 hd1 hd2 (Nat.le_refl _) w6 (Below.refl _ _) (Nat.le_refl _)).mono ?_
    rintro e w7 ⟨rfl, hb7⟩
    rw [← HR.out.1, ← HR.out.2]
    unfold repV
    dsimp only
    have hs7 := hb7.size
    have kb7 := (hb7.block w.heap.size (by omega)).trans H6b.out.2.1
    have kx7 := (hb7.block w5.heap.size (by omega)).trans H6b.out.2.2.1
    have kr7 := (hb7.block w4.heap.size (by omega)).trans H6b.out.2.2.2.2
    have hb7' := H6b.out.1.trans (hb7.mono (by omega))
    have hb57 : Below w5.heap.size w5 w7 := H6b.out.2.2.2.1.trans (hb7.mono (by omega))
    have hr7 := HR6.out.of_block (hb7.block g6 hg6')
    obtain ⟨W8, hW8⟩ : ∃ W8, W8 = w7.alloc (.cells #[.int .i64 (rb : Int), .int .i64 (rj : Int), .bool rs] 52) := ⟨_, rfl⟩
    have hs8 : W8.heap.size = w7.heap.size + 1 := by rw [hW8]; simp
    have hb8 : Below w7.heap.size w7 W8 := by rw [hW8]; exact (Below.refl _ _).alloc (Nat.le_refl _) _
    have kr8 : W8.heap[w7.heap.size]? = some (.cells #[.int .i64 (rb : Int), .int .i64 (rj : Int), .bool rs] 52 (0, 0)) := by rw [hW8, new_blk]
    have kb8 := (hb8.block w.heap.size (by omega)).trans kb7
    have kx8 := (hb8.block w5.heap.size (by omega)).trans kx7
    have ks8 := (hb8.block w4.heap.size (by omega)).trans kr7
    have H7 := Lib.hid (And.intro (hb7'.trans (hb8.mono (by omega))) (And.intro kb8 (And.intro kx8 (hb57.trans (hb8.mono (by omega))))))
    have HR8 := Lib.hid (hr7.of_block (hb8.block g6 (by omega)))
    have HW8 := Lib.hid hW8
    have hneq : (ok != ok) = false := by simp
    clear hb7 hb7' kb7 kx7 kr7 hb57 hr7 hW8 hb8
    go_upto_region 11 with (fail)
    rw [← HW8.out]
    obtain ⟨p1, p2, p3, p4, p5, p6⟩ := box3 kr8
    obtain ⟨v1, v2, v3, v4, v5, v6⟩ := box3 ks8
    clear kr8 ks8
    go_wp2_with fail
    refine (eqRepair_c W8 rb rj rs).mono ?_
    rintro e w9 ⟨rfl, hb9⟩
    have hs9 := hb9.size
    have kb9 := (hb9.block w.heap.size (by omega)).trans kb8
    have kx9 := (hb9.block w5.heap.size (by omega)).trans kx8
    have H7' := Lib.hid (And.intro (H7.out.1.trans (hb9.mono (by omega))) (And.intro kb9 (And.intro kx9 (H7.out.2.2.2.trans (hb9.mono (by omega))))))
    have HR9 := Lib.hid (HR8.out.of_block (hb9.block g6 (by omega)))
    clear H7 kb8 kx8 hb9 p1 p2 p3 p4 p5 p6 v1 v2 v3 v4 v5 v6
    have H7 := H7'
    obtain ⟨x1, x2, x3, x4⟩ := box2 kb9
    obtain ⟨y1, y2, y3, y4⟩ := box2 kx9
    clear kb9 kx9
    go_wp2_with fail
    go_region_held3 (fun x => x.cell? ⟨w.heap.size, 0, none⟩ = some kv ∧ x.cell? ⟨w.heap.size, 1, none⟩ = some cv ∧ x.cell? ⟨w5.heap.size, 0, none⟩ = some (.slice (some ⟨g5, 0, none⟩) n5 n5) ∧ x.cell? ⟨w5.heap.size, 1, none⟩ = some (.slice (some ⟨h5, 0, none⟩) m5 m5))
      (first | exact ⟨x1, x2, y1, y2⟩ | exact ⟨z1, z2, u1, u2⟩ | exact ⟨q1, q2, r1, r2⟩ | go_keep)
      (first
        | (go_at_call 28; refine (toTree_c HT.out hwt _ (H7.out.1.drew) (by first | omega | (simp; omega))).mono ?_; rintro e w8 ⟨k8, c8, rfl, hn8, hb8⟩; obtain ⟨g8, h8, n8, m8, rfl, rfl⟩ := hn8.slices; have hs8 : w9.heap.size ≤ w8.heap.size := hb8.size; have HR10 := Lib.hid (HR9.out.of_block (hb8.block g6 (by first | omega | (simp; omega)))); have HN8 := Lib.hid (hn8.tree hwt); have kb8 := (hb8.block w.heap.size (by first | omega | (simp; omega))).trans H7.out.2.1; have kx8 := (hb8.block w5.heap.size (by first | omega | (simp; omega))).trans H7.out.2.2.1; obtain ⟨z1, z2, z3, z4⟩ := box2 kb8; obtain ⟨u1, u2, u3, u4⟩ := box2 kx8; have H8 := Lib.hid (And.intro (H7.out.1.drew.trans (hb8.mono (by first | omega | (simp; omega)))) (And.intro (H7.out.2.2.2.drew.trans (hb8.mono (by first | omega | (simp; omega)))) (And.intro kb8 kx8))); clear hb8 hn8 kb8 kx8)
        | (go_at_call 29; refine (eqTree_c (TreeIn.wider (TreeIn.later HN5.out H8.out.2.1 (Nat.le_refl _)) (by first | omega | (simp at hs8; omega))) _ _ HN8.out _ (Below.refl _ _) (Nat.le_refl _)).mono ?_; rintro e w9 ⟨rfl, hb9⟩; have hs9 : w8.heap.size ≤ w9.heap.size := hb9.size; have HR11 := Lib.hid (HR10.out.of_block (hb9.block g6 (by omega))); obtain ⟨q1, q2, q3, q4⟩ := box2 ((hb9.block w.heap.size (by first | omega | (simp at hs8; omega))).trans H8.out.2.2.1); obtain ⟨r1, r2, r3, r4⟩ := box2 ((hb9.block w5.heap.size (by first | omega | (simp at hs8; omega))).trans H8.out.2.2.2); have H9 := Lib.hid (H8.out.1.trans (hb9.mono (by first | omega | (simp at hs8; omega)))); clear hb9))
    clear x1 x2 x3 x4 y1 y2 y3 y4 z1 z2 z3 z4 u1 u2 u3 u4 q1 q2 q3 q4 r1 r2 r3 r4
    go_wp2_with fail
    refine (toIntS_c ks _ _ w.heap.size H9.out.size (HK.out.later H9.out (Nat.le_refl _)) hlen).mono ?_
    rintro e w12 ⟨g12, rfl, hg12, hr12, hb12⟩
    have hs12 := hb12.size
    have H12 := Lib.hid (And.intro (H9.out.trans (hb12.mono H9.out.size)) (And.intro (rowIn (B := w12.heap.size) (HR11.out.of_block (hb12.block g6 HR11.out.lt)) hlen (by have := HR11.out.lt; omega)) (rowIn hr12 hlen hr12.lt)))
    clear hb12 hr12
    go_wp2_with fail
    refine (eqIntS_c ks _ _ w12 w12.heap.size (Nat.le_refl _) H12.out.2.1 H12.out.2.2).mono ?_
    rintro e w13 ⟨rfl, hb13⟩
    have H13 := Lib.hid (H12.out.1.trans (hb13.mono H12.out.1.size))
    clear hb13
    go_wp2_with fail
    go_ret
    exact ⟨rfl, H13.out⟩
  · rw [leftOf_lt (by omega)]
    go_wp2_with fail
    go_ret
    exact ⟨rfl, H2.out.1⟩
end Go.Proofs.Ytananonjomfpkaa

/- The statement on RepairsOf, from the walk of its law. -/
namespace Go.Proofs.Ytananonjomfpkaa.exRepairsOf
open Go.ChangeShapes Go.WideShapes Go.ChangeAt Go.RowKit
set_option linter.unusedVariables false

theorem own : ownKnob Try.prog.godebug = none := by kernel_rfl
theorem laidOut : laidOutB Try.prog = true := by kernel_rfl

set_option maxRecDepth 100000 in
set_option maxHeartbeats 1000000 in
theorem lifted (hI : ImplRepairsOf) (os : Os) (started : os.Started) (H : Type) (enc : TypeId × Value → H) :
    ReturnsInHanded {} Try.checked os 7 .any (Rows.fnExactRepairsOfSpec.pre6 enc Try.prog Try.f7 Rows.fnExactRepairsOfRow.domain false) (Rows.fnExactRepairsOfSpec.post enc Try.prog Try.f7 false true false false) := by
  refine returnsInHanded_of_change (C := Try.checked) own started (by kernel_rfl) Try.func7
    (ChangeSpec.witness6 (enc := enc) (C := Try.checked) false ⟨#[], #[.agg #[.slice none 0 0, .slice none 0 0], .int .i64 0, .slice none 0 0], []⟩ 8 (by kernel_rfl) (by kernel_rfl) (by kernel_rfl) (by kernel_rfl)) ?_
  intro W base args ds gs before hval0 hW hcnd _
  have hval : ∀ (j : Nat) t v, Try.f7.params[j]? = some t → args[j]? = some v → Value.okWide Try.prog W .any base t v := hval0
  have hW' := hW
  obtain ⟨p, q, hA0, hV, rfl, hfz, hnd⟩ := hW
  have hA : DataW.TrodAll enc Try.prog W 0 (fun _ => true) true Try.f7.params.toList args.toList ds p := hA0
  rw [Try.params7] at hA hval
  obtain ⟨v0, vs0, d0, ds0, p0, q0, hargs, rfl, rfl, h0, r0⟩ := trodAll_cons hA
  obtain ⟨v1, vs1, d1, ds1, p1, q1, rfl, rfl, rfl, h1, r1⟩ := trodAll_cons r0
  obtain ⟨v2, vs2, d2, ds2, p2, q2, rfl, rfl, rfl, h2, r2⟩ := trodAll_cons r1
  obtain ⟨rfl, rfl, rfl⟩ := trodAll_nil r2
  obtain rfl : args = #[v0, v1, v2] := by cases args; simp_all
  obtain ⟨rfl, rfl⟩ := trodVars_none hV
  obtain ⟨cs, rfl, hcs⟩ := okWide_struct Try.underlying43 (hval 0 43 v0 rfl rfl)
  have k0 := h0
  have lt0 : ∀ x ∈ p0, x.block < W.heap.size := by obtain ⟨m, hm⟩ := k0; exact DataW.trod_lt m _ _ _ hm
  obtain ⟨kv, cv, t, hkc, ht, hf⟩ : ∃ kv cv t, cs = #[kv, cv] ∧ TreeIn W W.heap.size kv cv t ∧ Tr.Fit t := by
    obtain ⟨fuel, hf⟩ := h0
    obtain ⟨kv, cv, t, hcl, ht, hft⟩ := tree_of_trod fuel hf
    exact ⟨kv, cv, t, by cases cs; simp_all [Value.cells], ht, hft⟩
  subst hkc
  obtain ⟨n1, rfl, rfl, rfl, wn1⟩ := open_int Try.underlying3 (hval 1 3 v1 rfl rfl) h1
  have hfit1 : -9223372036854775808 ≤ n1 ∧ n1 ≤ 9223372036854775807 := by simpa [Lit.wf, IntKind.min, IntKind.max, IntKind.signed, IntKind.bits] using wn1
  obtain ⟨a2, len2, cap2, rfl⟩ := okWide_slice Try.underlying23 (hval 2 23 v2 rfl rfl)
  have k2 := h2
  have lt2 : ∀ x ∈ p2, x.block < W.heap.size := by obtain ⟨m, hm⟩ := k2; exact DataW.trod_lt m _ _ _ hm
  obtain ⟨ks, hks⟩ : ∃ ks, IntsIn W W.heap.size (.slice a2 len2 cap2) ks := by
    obtain ⟨fuel, hf⟩ := h2
    obtain ⟨v, ks, hv, hin, _⟩ := ints_of_trod hf
    have : v = .slice a2 len2 cap2 := by simpa [Value.cells] using hv.symm
    subst this
    exact ⟨ks, hin⟩
  clear hA0 hval0
  refine (exRepairsOf_c W ht hks n1 hfit1.1 hfit1.2 hI).mono fun e W' ⟨he, bel⟩ => ?_
  subst he
  exact ⟨_, rfl, _, _, _, [], _, [], hW', trodAll_mk1 (shut_bool Try.underlying4 _), (trodAll_cons_mk (Below.trod laidOut (by kernel_rfl) (of_decide_eq_true (by kernel_rfl)) k0 bel lt0) (trodAll_cons_mk (shut_int Try.underlying3 wn1) (trodAll_cons_mk (Below.trod laidOut (by kernel_rfl) (of_decide_eq_true (by kernel_rfl)) k2 bel lt2) trodAll_mk0))), rfl, bel.frame _, fun h => by cases h⟩

theorem closed : joinedFacts Try.prog 7 Try.f7 Rows.fnExactRepairsOfSpec Rows.fnExactRepairsOfRow = true := by
  unfold joinedFacts
  exact band (band (band (band (band (band (band (by kernel_rfl) fact_enter) fact_lifts) fact_make) (by kernel_rfl)) (by kernel_rfl)) (by kernel_rfl)) (by kernel_rfl)

theorem over (hI : ImplRepairsOf) : Rows.fnExactRepairsOfRow.holds Try.pinned (OpenSpec.ofChange Rows.fnExactRepairsOfSpec) :=
  OpenClaim.holds_of_wide 7 Try.f7 rfl rfl rfl rfl rfl rfl rfl ⟨rfl, rfl, rfl, rfl, rfl⟩ rfl rfl rfl rfl rfl (by kernel_rfl) Try.func7 closed
    (of_decide_eq_true (by kernel_rfl)) (by unfold Func.isWrapper; first | (rw [if_pos (by decide +kernel)]; kernel_rfl) | (rw [if_neg (by decide +kernel)]; exact ⟨rfl, rfl⟩))
    (fun os started H enc _ => lifted hI os started H enc)

theorem proved (hI : ImplRepairsOf) : Rows.FnExactRepairsOfSaid := over hI
end Go.Proofs.Ytananonjomfpkaa.exRepairsOf

/- For every tree in memory, any int and any list of ints in memory, the law on RepairsOf returns true and leaves its arguments as they were; no conditions. -/
namespace Go.Proofs.Ytananonjomfpkaa

theorem repairs_of_said : Rows.FnExactRepairsOfSaid := exRepairsOf.proved (fun _ _ _ _ _ _ _ n ht hw hk h1 h2 hB0 w' hb hB => impl_repairsOf ht hw hk n h1 h2 w' hb hB hB0)
end Go.Proofs.Ytananonjomfpkaa
