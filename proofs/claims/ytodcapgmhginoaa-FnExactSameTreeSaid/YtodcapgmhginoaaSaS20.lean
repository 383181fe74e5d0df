/- The law on SameTree: the walk over the contracts. -/
import Derived.Test.YtodcapgmhginoaaProg
import Derived.Test.YtodcapgmhginoaaSaS0
import Derived.Test.YtodcapgmhginoaaSaS17
import Derived.Test.YtodcapgmhginoaaSaS2
import Derived.Test.YtodcapgmhginoaaSaS18
import Derived.Test.YtodcapgmhginoaaSaS19
import Derived.Lib.SliceRun
import Derived.Deep.RegionWith
import Derived.Deep.Cut
import Derived.Deep.CutRange
namespace Go.Proofs.Ytodcapgmhginoaa
open Go.RowKit

/-- What the program's SameTree is to do. -/
def ImplSameTree : Prop := ∀ (w0 : World) (lo : Nat) (kv cv kv' cv' : Value) (t t' : Tr), TreeNew w0 lo kv cv t → t.weight ≤ 1048576 → TreeIn w0 w0.heap.size kv' cv' t' → ∀ w', Below w0.heap.size w0 w' →
  Calls Try.prog 34 #[.agg #[kv, cv], .agg #[kv', cv']] w' fun e w'' => e = .returned (.bool (t.sameB t')) ∧ Below w'.heap.size w' w''

/-- The law's two boxes, and nothing ahead of them changed. -/
def Two (w W : World) (kA cA kB cB : Value) : Prop := Below w.heap.size w W ∧ W.heap[w.heap.size]? = some (.cells #[kA, cA] 25 (0, 0)) ∧ W.heap[w.heap.size + 1]? = some (.cells #[kB, cB] 25 (0, 0)) ∧ w.heap.size + 2 ≤ W.heap.size
theorem Two.later {w W W' : World} {kA cA kB cB : Value} {C : Nat} (h : Two w W kA cA kB cB) (hb : Below C W W') (hC : w.heap.size + 2 ≤ C) : Two w W' kA cA kB cB := by
  obtain ⟨h1, h2, h3, h4⟩ := h
  have := hb.size
  exact ⟨h1.trans (hb.mono (by omega)), (hb.block _ (by omega)).trans h2, (hb.block _ (by omega)).trans h3, by omega⟩
theorem Two.a {w W : World} {kA cA kB cB : Value} (h : Two w W kA cA kB cB) : W.cell? ⟨w.heap.size, 0, none⟩ = some kA ∧ W.cell? ⟨w.heap.size, 1, none⟩ = some cA := ⟨(box2 h.2.1).1, (box2 h.2.1).2.1⟩
theorem Two.b {w W : World} {kA cA kB cB : Value} (h : Two w W kA cA kB cB) : W.cell? ⟨w.heap.size + 1, 0, none⟩ = some kB ∧ W.cell? ⟨w.heap.size + 1, 1, none⟩ = some cB := ⟨(box2 h.2.2.1).1, (box2 h.2.2.1).2.1⟩

set_option maxHeartbeats 4000000 in
set_option maxRecDepth 100000 in
theorem exSameTree_c {kA cA kB cB : Value} {t u : Tr} (w : World) (ht : TreeIn w w.heap.size kA cA t) (hu : TreeIn w w.heap.size kB cB u) (hI : ImplSameTree) :
    Calls Try.prog 8 #[.agg #[kA, cA], .agg #[kB, cB]] w fun e w' => e = .returned (.bool true) ∧ Below w.heap.size w w' := by
  obtain ⟨W1, hW1⟩ : ∃ W1, W1 = (w.alloc (.cells #[kA, cA] 25)).alloc (.cells #[kB, cB] 25) := ⟨_, rfl⟩
  have T1 : Two w W1 kA cA kB cB := by
    refine ⟨by rw [hW1]; exact ((Below.refl _ _).alloc (Nat.le_refl _) _).alloc (by simp) _, by rw [hW1, old_blk _ _ _ (by simp), new_blk], ?_, by rw [hW1]; simp⟩
    rw [hW1, show w.heap.size + 1 = (w.alloc (.cells #[kA, cA] 25)).heap.size by simp, new_blk]
  obtain ⟨x1, x2⟩ := T1.a
  have hz1 := T1.2.2.2
  have HW1 := Lib.hid hW1
  have HA := Lib.hid ht
  have HB := Lib.hid hu
  have H1 := Lib.hid T1
  clear hW1 ht hu T1
  go_enter Try.func8, Try.ntmps8
  go_wp2_with fail
  rw [← HW1.out]
  refine (szTree_c HA.out W1 1048576 H1.out.1 (by omega) (by omega) (by omega)).mono ?_
  rintro e w2 ⟨rfl, hb2⟩
  have H2 := Lib.hid (H1.out.later hb2 (by omega))
  have hz2 := H2.out.2.2.2
  clear hb2 x1 x2
  obtain ⟨y1, y2⟩ := H2.out.b
  by_cases hwt : t.weight ≤ 1048576
  · rw [leftOf_ge (by omega)]
    have hnn : ¬ ((1048576 : Int) - (t.weight : Int) < 0) := by omega
    go_wp2_with fail
    refine (szTree_c HB.out w2 _ H2.out.1 (by omega) (by omega) (by omega)).mono ?_
    rintro e w3 ⟨rfl, hb3⟩
    have H3 := Lib.hid (H2.out.later hb3 (by omega))
    have hz3 := H3.out.2.2.2
    clear hb3 y1 y2
    obtain ⟨x1, x2⟩ := H3.out.a
    obtain ⟨y1, y2⟩ := H3.out.b
    by_cases hwu : (u.weight : Int) ≤ 1048576 - (t.weight : Int)
    · rw [leftOf_ge hwu]
      have hnn2 : ¬ ((1048576 : Int) - (t.weight : Int) - (u.weight : Int) < 0) := by omega
      have hwu' : u.weight ≤ 1048576 := by omega
      go_upto_region 8 with (fail)
      go_cut [6] from 20 to 24 (fun s6 wx => s6 = .bool (t.sameB u) ∧ Two w wx kA cA kB cB)
      case first =>
        go_region_with (first
          | (go_at_call 18; (with_reducible show Calls _ _ #[Value.agg #[kA, cA]] _ _); refine (toTree_c HA.out hwt _ (H3.out.1.drew) (by simp; omega)).mono ?_; rintro e w4 ⟨k4, c4, rfl, hn4, hb4⟩; have H4 := Lib.hid (H3.out.later (W' := w4) (C := w3.heap.size) ⟨hb4.os, hb4.tape, hb4.output, hb4.size, hb4.block⟩ (by omega)); have hz4 := H4.out.2.2.2; have HN4 := Lib.hid hn4; obtain ⟨z1, z2⟩ := H4.out.a; obtain ⟨u1, u2⟩ := H4.out.b; clear hb4 hn4)
          | (go_at_call 18; (with_reducible show Calls _ _ #[Value.agg #[kB, cB]] _ _); refine (toTree_c HB.out hwu' _ (H4.out.1) (by omega)).mono ?_; rintro e w5 ⟨k5, c5, rfl, hn5, hb5⟩; have H5 := Lib.hid (H4.out.later hb5 (by omega)); have hz5 := H5.out.2.2.2; have HN5 := Lib.hid (And.intro ((HN4.out.later hb5 (Nat.le_refl _)).tree hwt) (hn5.tree hwu')); obtain ⟨q1, q2⟩ := H5.out.a; obtain ⟨r1, r2⟩ := H5.out.b; clear hb5 hn5)
          | (go_at_call 33; refine (specSame_c HN5.out.1 _ _ _ HN5.out.2 _ (Below.refl _ _) (Nat.le_refl _)).mono ?_; rintro e w6 ⟨rfl, hb6⟩; have H6 := Lib.hid (H5.out.later hb6 (by omega)); clear hb6))
        all_goals (
          go_wp2_with fail
          go_meet
          exact ⟨rfl, H6.out⟩)
      case rest =>
        obtain ⟨rfl, h8⟩ := hcut
        clear x1 x2 y1 y2
        have hz8 := h8.2.2.2
        obtain ⟨x1, x2⟩ := h8.a
        have H8 := Lib.hid h8
        clear h8
        go_wp2_with fail
        -- the program's trees
        refine (toTree_c HA.out hwt wc H8.out.1 (by omega)).mono ?_
        rintro e w9 ⟨k9, c9, rfl, hn9, hb9⟩
        obtain ⟨g9, h9, n9, m9, rfl, rfl⟩ := hn9.slices
        have t9 := H8.out.later hb9 (by omega)
        have hz9 := t9.2.2.2
        obtain ⟨W10, hW10⟩ : ∃ W10, W10 = w9.alloc (.cells #[.slice (some ⟨g9, 0, none⟩) n9 n9, .slice (some ⟨h9, 0, none⟩) m9 m9] 30) := ⟨_, rfl⟩
        have hs10 : W10.heap.size = w9.heap.size + 1 := by rw [hW10]; simp
        have hb10 : Below w9.heap.size w9 W10 := by rw [hW10]; exact (Below.refl _ _).alloc (Nat.le_refl _) _
        have kx10 : W10.heap[w9.heap.size]? = some (.cells #[.slice (some ⟨g9, 0, none⟩) n9 n9, .slice (some ⟨h9, 0, none⟩) m9 m9] 30 (0, 0)) := by rw [hW10, new_blk]
        have hn10 := hn9.later hb10 (Nat.le_refl _)
        have t10 := t9.later hb10 (by omega)
        clear x1 x2
        obtain ⟨y1', y2'⟩ := t9.b
        have y1 := Lib.cell?_alloc_some (.cells #[.slice (some ⟨g9, 0, none⟩) n9 n9, .slice (some ⟨h9, 0, none⟩) m9 m9] 30) y1'
        have y2 := Lib.cell?_alloc_some (.cells #[.slice (some ⟨g9, 0, none⟩) n9 n9, .slice (some ⟨h9, 0, none⟩) m9 m9] 30) y2'
        clear y1' y2'
        have H10 := Lib.hid (And.intro t10 (And.intro hn10 kx10))
        have HW10 := Lib.hid hW10
        clear hb9 t9 hb10 hn10 hn9 t10 kx10 hW10
        go_wp2_with fail
        rw [← HW10.out]
        refine (toTree_c HB.out hwu' W10 H10.out.1.1 (by omega)).mono ?_
        rintro e w11 ⟨k11, c11, rfl, hn11, hb11⟩
        obtain ⟨g11, h11, n11, m11, rfl, rfl⟩ := hn11.slices
        have hs11 := hb11.size
        have t11 := H10.out.1.later hb11 (by omega)
        have kx11 := (hb11.block w9.heap.size (by omega)).trans H10.out.2.2
        have hnA := H10.out.2.1.later hb11 (Nat.le_refl _)
        obtain ⟨W12, hW12⟩ : ∃ W12, W12 = w11.alloc (.cells #[.slice (some ⟨g11, 0, none⟩) n11 n11, .slice (some ⟨h11, 0, none⟩) m11 m11] 30) := ⟨_, rfl⟩
        have hs12 : W12.heap.size = w11.heap.size + 1 := by rw [hW12]; simp
        have hb12 : Below w11.heap.size w11 W12 := by rw [hW12]; exact (Below.refl _ _).alloc (Nat.le_refl _) _
        have ky12 : W12.heap[w11.heap.size]? = some (.cells #[.slice (some ⟨g11, 0, none⟩) n11 n11, .slice (some ⟨h11, 0, none⟩) m11 m11] 30 (0, 0)) := by rw [hW12, new_blk]
        have kx12 := (hb12.block w9.heap.size (by omega)).trans kx11
        have t12 := t11.later hb12 (by omega)
        have hz11 := t11.2.2.2
        clear y1 y2
        obtain ⟨a1', a2', _, _⟩ := box2 kx11
        have a1 := Lib.cell?_alloc_some (.cells #[.slice (some ⟨g11, 0, none⟩) n11 n11, .slice (some ⟨h11, 0, none⟩) m11 m11] 30) a1'
        have a2 := Lib.cell?_alloc_some (.cells #[.slice (some ⟨g11, 0, none⟩) n11 n11, .slice (some ⟨h11, 0, none⟩) m11 m11] 30) a2'
        clear a1' a2'
        have HN := Lib.hid (And.intro hnA (hn11.tree hwu'))
        have H12 := Lib.hid (And.intro t12 (And.intro kx12 (And.intro ky12 hb12)))
        have HW12 := Lib.hid hW12
        clear hb11 t11 kx11 hnA hb12 ky12 kx12 t12 hn11 hW12
        go_wp2_with fail
        rw [← HW12.out]
        refine (hI w11 _ _ _ _ _ t u HN.out.1 hwt HN.out.2 W12 H12.out.2.2.2).mono ?_
        rintro e w13 ⟨rfl, hb13⟩
        have hs13 := hb13.size
        have hne : (t.sameB u != t.sameB u) = false := by simp
        have kx13 := (hb13.block w9.heap.size (by omega)).trans H12.out.2.1
        have ky13 := (hb13.block w11.heap.size (by omega)).trans H12.out.2.2.1
        have t13 := H12.out.1.later hb13 (by omega)
        have hb1113 : Below w11.heap.size w11 w13 := H12.out.2.2.2.trans (hb13.mono (by omega))
        clear a1 a2
        obtain ⟨x1, x2⟩ := t13.a
        obtain ⟨a1, a2, _, _⟩ := box2 kx13
        have HNA := Lib.hid (And.intro ((HN.out.1.tree hwt).later hb1113 (Nat.le_refl _)) (HN.out.2.later hb1113 (Nat.le_refl _)))
        have H13 := Lib.hid (And.intro t13 (And.intro kx13 ky13))
        have hz13 := t13.2.2.2
        clear hb13 t13 kx13 ky13 hb1113
        go_upto_region 14 with (fail)
        go_cut [39] from 35 to 38 (fun s39 wx => s39 = .bool false ∧ Below w13.heap.size w13 wx)
        case first =>
          go_region_with (first
            | (go_at_call 18; (with_reducible show Calls _ _ #[Value.agg #[kA, cA]] _ _); refine (toTree_c HA.out hwt _ (H13.out.1.1.drew) (by simp; omega)).mono ?_; rintro e w14 ⟨k14, c14, rfl, hn14, hb14⟩; have hs14 : w13.heap.size ≤ w14.heap.size := hb14.size; have hc14 : Below w13.heap.size w13 w14 := ⟨hb14.os, hb14.tape, hb14.output, hb14.size, hb14.block⟩; have HN14 := Lib.hid (And.intro ((HNA.out.1.later hc14 (by omega)).wider (show w11.heap.size ≤ w14.heap.size by omega)) (hn14.tree hwt)); obtain ⟨c1, c2, _, _⟩ := box2 ((hc14.block w9.heap.size (by omega)).trans H13.out.2.1); have H14 := Lib.hid hc14; clear hb14 hn14 hc14)
            | (go_at_call 20; refine (eqTree_c HN14.out.1 _ _ HN14.out.2 _ (Below.refl _ _) (Nat.le_refl _)).mono ?_; rintro e w15 ⟨rfl, hb15⟩; have H15 := Lib.hid (H14.out.trans (hb15.mono (by omega))); clear hb15))
          all_goals (
            go_wp2_with fail
            go_meet
            exact ⟨rfl, H15.out⟩)
        case rest =>
          obtain ⟨rfl, h15⟩ := hcut
          have hs15 := h15.size
          have t15 := H13.out.1.later h15 (by omega)
          have ky15 := (h15.block w11.heap.size (by omega)).trans H13.out.2.2
          clear x1 x2 a1 a2
          obtain ⟨y1, y2⟩ := t15.b
          obtain ⟨b1, b2, _, _⟩ := box2 ky15
          have HNB := Lib.hid ((HNA.out.2.later h15 (by omega)))
          have H15 := Lib.hid (And.intro t15 ky15)
          clear h15 t15 ky15
          go_upto_region 16 with (fail)
          go_cut [44] from 40 to 43 (fun s44 wx => s44 = .bool false ∧ Below w.heap.size w wx)
          case first =>
            go_region_with (first
              | (go_at_call 18; (with_reducible show Calls _ _ #[Value.agg #[kB, cB]] _ _); refine (toTree_c HB.out hwu' _ (H15.out.1.1.drew) (by simp; omega)).mono ?_; rintro e w16 ⟨k16, c16, rfl, hn16, hb16⟩; have hs16 : wc.heap.size ≤ w16.heap.size := hb16.size; have hc16 : Below wc.heap.size wc w16 := ⟨hb16.os, hb16.tape, hb16.output, hb16.size, hb16.block⟩; have HN16 := Lib.hid (And.intro ((HNB.out.later hc16 (by omega)).wider (show w11.heap.size ≤ w16.heap.size by omega)) (hn16.tree hwu')); obtain ⟨c1, c2, _, _⟩ := box2 ((hc16.block w11.heap.size (by omega)).trans H15.out.2); have H16 := Lib.hid (H15.out.1.1.trans (hc16.mono (by omega))); clear hb16 hn16 hc16)
              | (go_at_call 20; refine (eqTree_c HN16.out.1 _ _ HN16.out.2 _ (Below.refl _ _) (Nat.le_refl _)).mono ?_; rintro e w17 ⟨rfl, hb17⟩; have H17 := Lib.hid (H16.out.trans (hb17.mono (by omega))); clear hb17))
            all_goals (
              go_wp2_with fail
              go_meet
              exact ⟨rfl, H17.out⟩)
          case rest =>
            obtain ⟨rfl, h17⟩ := hcut
            have HX := Lib.hid h17
            clear h17
            go_wp2_with fail
            go_ret
            exact ⟨rfl, HX.out⟩
    · rw [leftOf_lt (by omega)]
      go_wp2_with fail
      go_ret
      exact ⟨rfl, H3.out.1⟩
  · rw [leftOf_lt (by omega)]
    go_wp2_with fail
    go_ret
    exact ⟨rfl, H2.out.1⟩
end Go.Proofs.Ytodcapgmhginoaa
