/- The law on KeysOf: the walk over the contracts. -/
import Derived.Test.YtodcapgmhginoaaProg
import Derived.Test.YtodcapgmhginoaaKyS0
import Derived.Test.YtodcapgmhginoaaKyS26
import Derived.Test.YtodcapgmhginoaaKyS2
import Derived.Test.YtodcapgmhginoaaKyS27
import Derived.Test.YtodcapgmhginoaaKyS1
import Derived.Test.YtodcapgmhginoaaKyS14
import Derived.Test.YtodcapgmhginoaaKyS28
import Derived.Test.YtodcapgmhginoaaKyS29
import Derived.Deep.RegionHeld3
namespace Go.Proofs.Ytodcapgmhginoaa
open Go.RowKit

theorem specKeysOf_c {w : World} {B : Nat} {kv cv : Value} {t : Tr} (ht : TreeIn w B kv cv t) (hw : t.weight ≤ 1048576) (w' : World) (hbw : Below B w w') (hB : B ≤ w'.heap.size) :
    Calls Try.prog 21 #[.agg #[kv, cv]] w' fun e w'' => ∃ v, e = .returned v ∧ IntsOwn w'' w'.heap.size v t.keys ∧ Below w'.heap.size w' w'' := by
  have HB := Lib.hid hbw
  clear hbw
  go_enter Try.func21, Try.ntmps21
  go_wp2_with fail
  have hb1 : Below w'.heap.size w' (w'.alloc (.cells #[kv, cv] 30)) := (Below.refl _ _).alloc (Nat.le_refl _) _
  refine (specKeys_c ht hw _ (HB.out.trans (hb1.mono hB)) (by simp; omega)).mono ?_
  rintro e w1 ⟨v, rfl, hv, hb2⟩
  have HX := Lib.hid (And.intro (hb1.trans (hb2.mono (by simp))) (IntsOwn.lower hv (by simp : w'.heap.size ≤ _)))
  clear hb1 hb2 hv
  go_wp2_with fail
  go_ret
  exact ⟨v, rfl, HX.out.2, HX.out.1⟩
/-- What the program's KeysOf is to do. -/
def ImplKeysOf : Prop := ∀ (w0 : World) (lo : Nat) (kv cv : Value) (t : Tr), TreeNew w0 lo kv cv t → t.weight ≤ 1048576 → ∀ w', Below w0.heap.size w0 w' →
  Calls Try.prog 22 #[.agg #[kv, cv]] w' fun e w'' => ∃ v, e = .returned v ∧ IntsOwn w'' w'.heap.size v (t.keys) ∧ Below w'.heap.size w' w''

set_option maxHeartbeats 4000000 in
set_option maxRecDepth 100000 in
theorem exKeysOf_c {kv cv : Value} {t : Tr} (w : World) (ht : TreeIn w w.heap.size kv cv t) (hI : ImplKeysOf) :
    Calls Try.prog 4 #[.agg #[kv, cv]] w fun e w' => e = .returned (.bool true) ∧ Below w.heap.size w w' := by
  obtain ⟨W1, hW1⟩ : ∃ W1, W1 = w.alloc (.cells #[kv, cv] 25) := ⟨_, rfl⟩
  have hs1 : W1.heap.size = w.heap.size + 1 := by rw [hW1]; simp
  have hb1 : Below w.heap.size w W1 := by rw [hW1]; exact (Below.refl _ _).alloc (Nat.le_refl _) _
  have kb : W1.heap[w.heap.size]? = some (.cells #[kv, cv] 25 (0, 0)) := by rw [hW1, new_blk]
  obtain ⟨x1, x2, x3, x4⟩ := box2 kb
  have HW1 := Lib.hid hW1
  have HT := Lib.hid ht
  have H1 := Lib.hid (And.intro hb1 kb)
  clear hW1 hb1 kb ht
  go_enter Try.func4, Try.ntmps4
  go_wp2_with fail
  rw [← HW1.out]
  refine (szTree_c HT.out W1 1048576 H1.out.1 (by omega) (by omega) (by omega)).mono ?_
  rintro e w2 ⟨rfl, hb2⟩
  have hs2 := hb2.size
  have kb2 := (hb2.block w.heap.size (by omega)).trans H1.out.2
  have hb2' := H1.out.1.trans (hb2.mono (by omega))
  clear x1 x2 x3 x4
  obtain ⟨x1, x2, x3, x4⟩ := box2 kb2
  have H2 := Lib.hid (And.intro hb2' kb2)
  clear hb2 hb2' kb2
  by_cases hwt : t.weight ≤ 1048576
  · rw [leftOf_ge (by omega)]
    have hnn : ¬ ((1048576 : Int) - (t.weight : Int) < 0) := by omega
    go_wp2_with fail
    -- the first copy, for the model
    refine (toTree_c HT.out hwt w2 H2.out.1 (by omega)).mono ?_
    rintro e w3 ⟨k3, c3, rfl, hn3, hb3⟩
    have hs3 := hb3.size
    have kb3 := (hb3.block w.heap.size (by omega)).trans H2.out.2
    have hb3' := H2.out.1.trans (hb3.mono (by omega))
    clear x1 x2 x3 x4
    obtain ⟨x1, x2, x3, x4⟩ := box2 kb3
    have H3 := Lib.hid (And.intro hb3' kb3)
    have HN3 := Lib.hid (hn3.tree hwt)
    clear hb3 hb3' kb3 hn3
    go_wp2_with fail
    refine (specKeysOf_c HN3.out hwt w3 (Below.refl _ _) (Nat.le_refl _)).mono ?_
    rintro e w4 ⟨v4, rfl, ho4, hb4⟩
    obtain ⟨va4, vc4, rfl⟩ := IntsOwn.shown ho4
    have hs4 := hb4.size
    have kb4 := (hb4.block w.heap.size (by omega)).trans H3.out.2
    have hb4' := H3.out.1.trans (hb4.mono (by omega))
    clear x1 x2 x3 x4
    obtain ⟨x1, x2, x3, x4⟩ := box2 kb4
    have H4 := Lib.hid (And.intro hb4' (And.intro kb4 ho4))
    have hreslen : (t.keys).length ≤ 1048576 := by have := Tr.keys_length_le t; omega
    have HRL := Lib.hid hreslen
    clear hb4 hb4' kb4 ho4 hreslen
    generalize hres : t.keys = res at H4 HRL ⊢
    have HRES := Lib.hid hres
    clear hres
    go_wp2_with fail
    -- the second copy, for the program
    refine (toTree_c HT.out hwt w4 H4.out.1 (by omega)).mono ?_
    rintro e w5 ⟨k5, c5, rfl, hn5, hb5⟩
    obtain ⟨g5, h5, n5, m5, rfl, rfl⟩ := hn5.slices
    have hs5 := hb5.size
    have kb5 := (hb5.block w.heap.size (by omega)).trans H4.out.2.1
    have hb5' := H4.out.1.trans (hb5.mono (by omega))
    clear x1 x2 x3 x4
    obtain ⟨x1, x2, x3, x4⟩ := box2 kb5
    have H5 := Lib.hid (And.intro hb5' (And.intro kb5 hb5))
    have HM5 := Lib.hid hn5.mem
    have HN5 := Lib.hid (hn5.tree hwt)
    have HT5 := Lib.hid hn5
    clear hb5 hb5' kb5 hn5
    go_wp2_with fail
    obtain ⟨W6, hW6⟩ : ∃ W6, W6 = w5.alloc (.cells #[.slice (some ⟨g5, 0, none⟩) n5 n5, .slice (some ⟨h5, 0, none⟩) m5 m5] 30) := ⟨_, rfl⟩
    rw [← hW6]
    have hs6 : W6.heap.size = w5.heap.size + 1 := by rw [hW6]; simp
    have hb6 : Below w5.heap.size w5 W6 := by rw [hW6]; exact (Below.refl _ _).alloc (Nat.le_refl _) _
    have kx6 : W6.heap[w5.heap.size]? = some (.cells #[.slice (some ⟨g5, 0, none⟩) n5 n5, .slice (some ⟨h5, 0, none⟩) m5 m5] 30 (0, 0)) := by rw [hW6, new_blk]
    have kb6 := (hb6.block w.heap.size (by omega)).trans H5.out.2.1
    have hb6' := H5.out.1.trans (hb6.mono (by omega))
    clear x1 x2 x3 x4 hW6
    refine (hI _ _ _ _ _ HT5.out hwt  W6 hb6).mono ?_
    rintro e w7 ⟨v7, rfl, ho7, hb7⟩
    rw [HRES.out] at ho7
    obtain ⟨va7, vc7, rfl⟩ := IntsOwn.shown ho7
    have hs7 := hb7.size
    have kb7 := (hb7.block w.heap.size (by omega)).trans kb6
    have kx7 := (hb7.block w5.heap.size (by omega)).trans kx6
    have hb7' := hb6'.trans (hb7.mono (by omega))
    have hb57 : Below w5.heap.size w5 w7 := hb6.trans (hb7.mono (by omega))
    obtain ⟨x1, x2, x3, x4⟩ := box2 kb7
    obtain ⟨y1, y2, y3, y4⟩ := box2 kx7
    have H7 := Lib.hid (And.intro hb7' (And.intro kb7 (And.intro kx7 (And.intro hb57 ho7))))
    -- the model's answer, still there
    have HV7 := Lib.hid (IntsOwn.later H4.out.2.2 (H5.out.2.2.trans (hb57.mono (by omega))) (Nat.le_refl _))
    clear hb7 hb7' kb7 kx7 kb6 kx6 hb6 hb6' hb57 ho7
    go_wp2_with fail
    refine (eqIntS_c _ _ _ w7 w7.heap.size (Nat.le_refl _) (IntsOwn.inB H7.out.2.2.2.2 (Nat.le_refl _)) (IntsOwn.inB HV7.out (Nat.le_refl _))).mono ?_
    rintro e w8 ⟨rfl, hb8⟩
    have hs8 := hb8.size
    have kb8 := (hb8.block w.heap.size (by omega)).trans H7.out.2.1
    have kx8 := (hb8.block w5.heap.size (by omega)).trans H7.out.2.2.1
    clear x1 x2 x3 x4 y1 y2 y3 y4
    obtain ⟨x1, x2, x3, x4⟩ := box2 kb8
    obtain ⟨y1, y2, y3, y4⟩ := box2 kx8
    have H8 := Lib.hid (And.intro (H7.out.1.trans (hb8.mono (by omega))) (And.intro kb8 (And.intro kx8 (And.intro (H7.out.2.2.2.1.trans (hb8.mono (by omega))) hb8))))
    clear kb8 kx8 hb8
    go_wp2_with fail
    go_region_held3 (fun x => x.cell? ⟨w.heap.size, 0, none⟩ = some kv ∧ x.cell? ⟨w.heap.size, 1, none⟩ = some cv ∧ x.cell? ⟨w5.heap.size, 0, none⟩ = some (.slice (some ⟨g5, 0, none⟩) n5 n5) ∧ x.cell? ⟨w5.heap.size, 1, none⟩ = some (.slice (some ⟨h5, 0, none⟩) m5 m5))
      (first | exact ⟨x1, x2, y1, y2⟩ | exact ⟨z1, z2, u1, u2⟩ | exact ⟨q1, q2, r1, r2⟩ | go_keep)
      (first
        | (go_at_call 18; refine (toTree_c HT.out hwt _ (H8.out.1.drew) (by simp; omega)).mono ?_; rintro e w9 ⟨k9, c9, rfl, hn9, hb9⟩; obtain ⟨g9, h9, n9, m9, rfl, rfl⟩ := hn9.slices; have hs9 := hb9.size; have HN9 := Lib.hid (hn9.tree hwt); have kb9 := (hb9.block w.heap.size (by simp; omega)).trans H8.out.2.1; have kx9 := (hb9.block w5.heap.size (by simp; omega)).trans H8.out.2.2.1; obtain ⟨z1, z2, z3, z4⟩ := box2 kb9; obtain ⟨u1, u2, u3, u4⟩ := box2 kx9; have H9 := Lib.hid (And.intro (H8.out.1.drew.trans (hb9.mono (by simp; omega))) (And.intro (H8.out.2.2.2.1.drew.trans (hb9.mono (by simp; omega))) (And.intro kb9 (And.intro kx9 (H8.out.2.2.2.2.drew.trans (hb9.mono (by simp; omega))))))); clear hb9 hn9 kb9 kx9)
        | (go_at_call 20; refine (eqTree_c (TreeIn.wider (TreeIn.later HN5.out H9.out.2.1 (Nat.le_refl _)) (by simp at hs9; omega)) _ _ HN9.out _ (Below.refl _ _) (Nat.le_refl _)).mono ?_; rintro e w10 ⟨rfl, hb10⟩; have hs10 := hb10.size; have kb10 := (hb10.block w.heap.size (by simp at hs9; omega)).trans H9.out.2.2.1; have kx10 := (hb10.block w5.heap.size (by simp at hs9; omega)).trans H9.out.2.2.2.1; obtain ⟨q1, q2, q3, q4⟩ := box2 kb10; obtain ⟨r1, r2, r3, r4⟩ := box2 kx10; have H10 := Lib.hid (And.intro (H9.out.1.trans (hb10.mono (by simp at hs9; omega))) (And.intro (H9.out.2.1.trans (hb10.mono (by simp at hs9; omega))) (And.intro kb10 (And.intro kx10 (H9.out.2.2.2.2.trans (hb10.mono (by simp at hs9; omega))))))); clear hb10 kb10 kx10))
    have hs9' : w8.heap.size ≤ w9.heap.size := by simpa using hs9
    clear hs9
    go_wp2_with fail
    -- the program's argument is marked
    refine (markTree_c (HM5.out.touch (Touch.of_below H10.out.2.1 (Nat.le_refl _))) hwt (by omega) 1 (by omega) (by omega)).mono ?_
    rintro e w11 ⟨m11, rfl, hm11, hsp⟩
    have hs11 := hsp.size
    have kb11 := (hsp.block w.heap.size (by omega) (.inl (by omega))).trans H10.out.2.2.1
    have ho11 := IntsOwn.span (IntsOwn.later H7.out.2.2.2.2 H10.out.2.2.2.2 (Nat.le_refl _)) hsp (by omega)
    have hb11 : Below w.heap.size w w11 := H10.out.1.trans ((hsp.below (by omega)).mono (by omega))
    have hv11 : Below w4.heap.size w4 w11 := (H5.out.2.2.trans (H10.out.2.1.mono (by omega))).trans (hsp.below (by omega))
    have hm' : ¬ (m11 < 0) := by omega
    have H11 := Lib.hid (And.intro hb11 (And.intro kb11 (And.intro ho11 (IntsOwn.later H4.out.2.2 hv11 (Nat.le_refl _)))))
    have HV11 := Lib.hid hv11
    clear kb11 ho11 hb11 hv11 hsp
    go_wp2_with fail
    refine (eqIntS_c _ _ _ w11 w11.heap.size (Nat.le_refl _) (IntsOwn.inB H11.out.2.2.1 (Nat.le_refl _)) (IntsOwn.inB H11.out.2.2.2 (Nat.le_refl _))).mono ?_
    rintro e w12 ⟨rfl, hb12⟩
    have hs12 := hb12.size
    have H12 := Lib.hid (And.intro (H11.out.1.trans (hb12.mono (by omega))) (And.intro ((hb12.block w.heap.size (by omega)).trans H11.out.2.1) (And.intro (IntsOwn.later H11.out.2.2.1 hb12 (Nat.le_refl _)) (HV11.out.trans (hb12.mono (by omega))))))
    clear hb12
    go_wp2_with fail
    -- the program's answer is marked
    refine (markOwn_c H12.out.2.2.1 (by omega) HRL.out 1 (by omega) (by omega)).mono ?_
    rintro e w13 ⟨rfl, ho13, hb13⟩
    have hs13 := hb13.size
    have kb13 := (hb13.block w.heap.size (by omega)).trans H12.out.2.1
    have H13 := Lib.hid (And.intro (H12.out.1.trans (hb13.mono (by omega))) (And.intro kb13 (And.intro ho13 (H12.out.2.2.2.trans (hb13.mono (by omega))))))
    have hne : (((1 : Int) + (res.length : Int)) != 1 + (res.length : Int)) = false := by simp
    have hn13 : ¬ ((1 : Int) + (res.length : Int) < 0) := by omega
    have hrl := HRL.out
    clear hb13 ho13 kb13
    go_wp2_with fail
    refine (held_c res.length _ 1 w13 (IntsIn.at (IntsOwn.in H13.out.2.2.1)) hrl (by omega) (by omega)).mono ?_
    rintro e w13' ⟨rfl, rfl⟩
    obtain ⟨z1, z2, z3, z4⟩ := box2 H13.out.2.1
    go_wp2_with fail
    -- once more
    refine (toTree_c HT.out hwt w13 H13.out.1 (by omega)).mono ?_
    rintro e w14 ⟨k14, c14, rfl, hn14, hb14⟩
    have hs14 := hb14.size
    have H14 := Lib.hid (And.intro (H13.out.1.trans (hb14.mono (by omega))) (And.intro hb14 hn14))
    clear hb14 hn14
    go_wp2_with fail
    refine (hI _ _ _ _ _ H14.out.2.2 hwt  w14 (Below.refl _ _)).mono ?_
    rintro e w15 ⟨v15, rfl, ho15, hb15⟩
    rw [HRES.out] at ho15
    obtain ⟨va15, vc15, rfl⟩ := IntsOwn.shown ho15
    have hs15 := hb15.size
    have H15 := Lib.hid (And.intro (H14.out.1.trans (hb15.mono (by omega))) (And.intro (H14.out.2.1.trans (hb15.mono (by omega))) ho15))
    clear hb15 ho15
    go_wp2_with fail
    refine (eqIntS_c _ _ _ w15 w15.heap.size (Nat.le_refl _) (IntsOwn.inB H15.out.2.2 (Nat.le_refl _)) (IntsOwn.inB (IntsOwn.later H4.out.2.2 (H13.out.2.2.2.trans (H15.out.2.1.mono (by omega))) (Nat.le_refl _)) (Nat.le_refl _))).mono ?_
    rintro e w16 ⟨rfl, hb16⟩
    have hs16 := hb16.size
    have H16 := Lib.hid (And.intro (H15.out.1.trans (hb16.mono (by omega))) (IntsOwn.later H13.out.2.2.1 (H15.out.2.1.trans (hb16.mono (by omega))) (Nat.le_refl _)))
    clear hb16
    go_wp2_with fail
    refine (held_c res.length _ 1 w16 (IntsIn.at (IntsOwn.in H16.out.2)) hrl (by omega) (by omega)).mono ?_
    rintro e w17 ⟨rfl, rfl⟩
    go_wp2_with fail
    go_ret
    exact ⟨rfl, H16.out.1⟩
  · rw [leftOf_lt (by omega)]
    go_wp2_with fail
    go_ret
    exact ⟨rfl, H2.out.1⟩
end Go.Proofs.Ytodcapgmhginoaa
