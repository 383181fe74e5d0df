/- The law on CursorKey: the walk over the contracts. -/
import Derived.Test.YtbdamminjbaaoaaDoorProg
import Derived.Test.YtbdamminjbaaoaaDoorCkS1
import Derived.Test.YtbdamminjbaaoaaDoorCkS2
import Derived.Test.YtbdamminjbaaoaaDoorCkS4
import Derived.Test.YtbdamminjbaaoaaDoorCkS5
import Derived.Test.YtbdamminjbaaoaaDoorCkS6
import Derived.Test.YtbdamminjbaaoaaDoorCkS42
import Derived.Test.YtbdamminjbaaoaaDoorCkS41
import Derived.Deep.RegionHeld3
namespace Go.Proofs.YtbdamminjbaaoaaDoor
open Go.RowKit

theorem rowInts {w : World} {g : Nat} {ks : List Int} (h : w.rowIs g 3 ks.length (fun i => .int .i64 (ks.getD i 0))) (hl : ks.length ≤ 1048576) {B : Nat} (hB : g < B) : IntsIn w B (.slice (some ⟨g, 0, none⟩) ks.length ks.length) ks := by
  obtain ⟨c, hb, hn, hc⟩ := h
  exact ⟨some ⟨g, 0, none⟩, ks.length, rfl, Nat.le_refl _, by unfold maxLen; omega, (fun h => by cases h), .inr ⟨g, 0, rfl, hB, fun i hi => by simpa [World.cell?, hb] using hc i hi⟩⟩

set_option maxHeartbeats 4000000 in
set_option maxRecDepth 100000 in
theorem exCurK_c {kv cv v : Value} {t : Tr} {ks : List Int} (a : Int) (s : Addr) (w : World) (ht : TreeIn w w.heap.size kv cv t) (hk : IntsIn w w.heap.size v ks)
    (hV : w.cell? ⟨0, 0, none⟩ = some (.iface 181 (.pointer (some s)))) (h0 : 0 < w.heap.size) :
    Calls Tryd.prog 9 #[.agg #[kv, cv], .agg #[v, .int .i64 a]] w fun e w' => e = .returned (.bool true) ∧ Below w.heap.size w w' := by
  have HT := Lib.hid ht
  have HK := Lib.hid hk
  obtain ⟨g1, g2, g3, g4, g5, g6, rfl, rfl⟩ := ht.slices
  obtain ⟨va, vcap, rfl, hv1, hv2, -, -⟩ := hk
  unfold maxLen at hv2
  obtain ⟨W2, hW2⟩ : ∃ W2, W2 = (w.alloc (.cells #[.slice g1 g2 g3, .slice g4 g5 g6] 25)).alloc (.cells #[.slice va ks.length vcap, .int .i64 a] 27) := ⟨_, rfl⟩
  have hb2 : Below w.heap.size w W2 := by rw [hW2]; exact ((Below.refl _ _).alloc (Nat.le_refl _) _).alloc (by simp) _
  have hs2 : W2.heap.size = w.heap.size + 2 := by rw [hW2]; simp
  have hlt2 : w.heap.size < W2.heap.size := by omega
  have k0 : W2.heap[w.heap.size]? = some (.cells #[.slice g1 g2 g3, .slice g4 g5 g6] 25 (0, 0)) := by rw [hW2, old_blk _ _ _ (by simp), new_blk]
  have k1 : W2.heap[w.heap.size + 1]? = some (.cells #[.slice va ks.length vcap, .int .i64 a] 27 (0, 0)) := by
    rw [hW2, show w.heap.size + 1 = (w.alloc (.cells #[.slice g1 g2 g3, .slice g4 g5 g6] 25)).heap.size by simp, new_blk]
  have BOX : Hid (∀ wx : World, Below W2.heap.size W2 wx → wx.heap[w.heap.size]? = some (.cells #[.slice g1 g2 g3, .slice g4 g5 g6] 25 (0, 0)) ∧ wx.heap[w.heap.size + 1]? = some (.cells #[.slice va ks.length vcap, .int .i64 a] 27 (0, 0))) :=
    Lib.hid (fun wx hx => ⟨(hx.block _ (by omega)).trans k0, (hx.block _ (by omega)).trans k1⟩)
  have UP : Hid (∀ wx : World, Below W2.heap.size W2 wx → Below w.heap.size w wx) := Lib.hid (fun wx hx => hb2.trans (hx.mono (by omega)))
  have VAR : Hid (∀ wx : World, Below w.heap.size w wx → wx.cell? ⟨0, 0, none⟩ = some (.iface 181 (.pointer (some s)))) := Lib.hid (fun wx hx => (below_cell hx h0).trans hV)
  rw [hW2] at k0 k1
  obtain ⟨x1, x2, x3, x4⟩ := box2 k0
  obtain ⟨y1, y2, y3, y4⟩ := box2 k1
  have HW2 := Lib.hid hW2
  have HS2 := Lib.hid (And.intro hs2 hb2)
  clear ht hW2 hb2 k0 k1 hs2 hV
  go_enter Tryd.func9, Tryd.ntmps9
  go_wp2_with fail
  rw [← HW2.out]
  refine (szTree_c HT.out W2 1048576 HS2.out.2 (by omega) (by omega) (by omega)).mono ?_
  rintro e w3 ⟨rfl, hb3⟩
  have hs3 := hb3.size
  clear x1 x2 x3 x4 y1 y2 y3 y4
  obtain ⟨y1, y2, y3, y4⟩ := box2 (BOX.out w3 hb3).2
  obtain ⟨x1, x2, x3, x4⟩ := box2 (BOX.out w3 hb3).1
  have H3 := Lib.hid hb3
  clear hb3
  by_cases hwt : t.weight ≤ 1048576
  case neg =>
    rw [leftOf_lt (n := 1048576) (m := t.weight) (by omega)]
    have HL := Lib.hid (UP.out w3 H3.out)
    go_wp2_with fail
    go_ret
    exact ⟨rfl, HL.out⟩
  rw [leftOf_ge (n := 1048576) (m := t.weight) (by omega)]
  obtain ⟨L, hL⟩ : ∃ L : Int, L = 1048576 - (t.weight : Int) := ⟨_, rfl⟩
  rw [← hL]
  have hL0 : ¬ (L < 0) := by omega
  have HLL := Lib.hid hL
  have HWT := Lib.hid hwt
  have HSC := Lib.hid (szCursor_c va ks.length vcap a L w3 (by omega) (by omega) (by omega))
  clear hL hwt
  go_wp2_with fail
  refine HSC.out.mono ?_
  rintro e w4 ⟨rfl, hb4⟩
  have hb4' := H3.out.trans (hb4.mono hs3)
  have hs4 := hb4'.size
  clear x1 x2 x3 x4 y1 y2 y3 y4
  obtain ⟨y1, y2, y3, y4⟩ := box2 (BOX.out w4 hb4').2
  obtain ⟨x1, x2, x3, x4⟩ := box2 (BOX.out w4 hb4').1
  have H4 := Lib.hid hb4'
  clear hb4 hb4'
  by_cases hkl : (ks.length : Int) ≤ L
  case neg =>
    rw [leftOf_lt (n := L) (m := ks.length) (by omega)]
    have HL := Lib.hid (UP.out w4 H4.out)
    go_wp2_with fail
    go_ret
    exact ⟨rfl, HL.out⟩
  rw [leftOf_ge (n := L) (m := ks.length) (by omega)]
  obtain ⟨M, hM⟩ : ∃ M : Int, M = L - (ks.length : Int) := ⟨_, rfl⟩
  rw [← hM]
  have hM0 : ¬ (M < 0) := by omega
  have hkn : ks.length ≤ 1048576 := by have := HLL.out; omega
  have hwt := HWT.out
  have HTT : Hid (∀ wx : World, Below W2.heap.size W2 wx → Calls Tryd.prog 17 #[.agg #[.slice g1 g2 g3, .slice g4 g5 g6]] wx fun e w' => ∃ k' c', e = .returned (.agg #[k', c']) ∧ TreeIn w' w'.heap.size k' c' t ∧ Below wx.heap.size wx w') :=
    Lib.hid (fun wx hx => (toTree_c HT.out hwt wx (UP.out wx hx) (UP.out wx hx).size).mono (fun e w' ⟨k', c', h1, h2, h3⟩ => ⟨k', c', h1, h2.tree hwt, h3⟩))
  have HTC : Hid (∀ wx : World, Below W2.heap.size W2 wx → Calls Tryd.prog 18 #[.agg #[.slice va ks.length vcap, .int .i64 a]] wx fun e w' => ∃ g, e = .returned (.agg #[.slice (some ⟨g, 0, none⟩) ks.length ks.length, .int .i64 a]) ∧ IntsIn w' w'.heap.size (.slice (some ⟨g, 0, none⟩) ks.length ks.length) ks ∧ Below wx.heap.size wx w') :=
    Lib.hid (fun wx hx => (toCursor_c ks _ a wx w.heap.size (UP.out wx hx).size (HK.out.later (UP.out wx hx) (Nat.le_refl _)) hkn).mono (fun e w' ⟨g, h1, _, h2, h3⟩ => ⟨g, h1, rowInts h2 hkn h2.lt, h3⟩))
  have HSP : Hid (∀ (wx wy : World) (k c : Value) (g : Nat), TreeIn wx wx.heap.size k c t → Below wx.heap.size wx wy → IntsIn wy wy.heap.size (.slice (some ⟨g, 0, none⟩) ks.length ks.length) ks → Calls Tryd.prog 35 #[.agg #[k, c], .agg #[.slice (some ⟨g, 0, none⟩) ks.length ks.length, .int .i64 a]] wy fun e w' => e = .returned (.tuple #[.int .i64 (Tr.curK t ks a), .bool (Tr.curB t ks a)]) ∧ Below wy.heap.size wy w') :=
    Lib.hid (fun wx wy k c g h1 h2 h3 => specCursorKey_c ((h1.later h2 (Nat.le_refl _)).wider h2.size) hwt h3 a wy (Below.refl _ _) (Nat.le_refl _))
  clear hM hwt hkl hL0
  go_wp2_with fail
  clear x1 x2 x3 x4 y1 y2 y3 y4
  obtain ⟨x1, x2, x3, x4⟩ := box2 (BOX.out w4 H4.out).1
  obtain ⟨y1, y2, y3, y4⟩ := box2 (BOX.out w4 H4.out).2
  go_region_held3 (fun x => x.cell? ⟨w.heap.size, 0, none⟩ = some (.slice g1 g2 g3) ∧ x.cell? ⟨w.heap.size, 1, none⟩ = some (.slice g4 g5 g6) ∧ x.cell? ⟨w.heap.size + 1, 0, none⟩ = some (.slice va ks.length vcap) ∧ x.cell? ⟨w.heap.size + 1, 1, none⟩ = some (.int .i64 a))
    (first | exact ⟨x1, x2, y1, y2⟩ | exact ⟨z1, z2, z5, z6⟩ | exact ⟨q1, q2, q5, q6⟩ | exact ⟨r1, r2, r5, r6⟩ | go_keep)
    (first
      | (go_at_call 17; refine (HTT.out _ H4.out.drew).mono ?_; rintro e w5 ⟨k5, c5, rfl, ht5, hb5⟩; have hB5 : Below W2.heap.size W2 w5 := H4.out.drew.trans (hb5.mono (by show W2.heap.size ≤ w4.heap.size; exact hs4)); obtain ⟨z1, z2, -, -⟩ := box2 (BOX.out w5 hB5).1; obtain ⟨z5, z6, -, -⟩ := box2 (BOX.out w5 hB5).2; have HB5 := Lib.hid (And.intro hB5 ht5); clear hb5 hB5 ht5)
      | (go_at_call 18; refine (HTC.out w5 HB5.out.1).mono ?_; rintro e w6 ⟨g6', rfl, hi6, hb6⟩; have hB6 : Below W2.heap.size W2 w6 := HB5.out.1.trans (hb6.mono HB5.out.1.size); obtain ⟨q1, q2, -, -⟩ := box2 (BOX.out w6 hB6).1; obtain ⟨q5, q6, -, -⟩ := box2 (BOX.out w6 hB6).2; have HB6 := Lib.hid (And.intro hB6 (And.intro hi6 hb6)); clear hb6 hB6 hi6)
      | (go_at_call 35; refine (HSP.out w5 w6 _ _ _ HB5.out.2 HB6.out.2.2 HB6.out.2.1).mono ?_; rintro e w7 ⟨rfl, hb7⟩; have hB7 : Below W2.heap.size W2 w7 := HB6.out.1.trans (hb7.mono HB6.out.1.size); obtain ⟨r1, r2, -, -⟩ := box2 (BOX.out w7 hB7).1; obtain ⟨r5, r6, -, -⟩ := box2 (BOX.out w7 hB7).2; have HB7 := Lib.hid hB7; clear hb7 hB7))
  clear x1 x2 x3 x4 y1 y2 y3 y4 z1 z2 z5 z6 q1 q2 q5 q6 r1 r2 r5 r6
  have hs7 := HB7.out.size
  obtain ⟨x1, x2, x3, x4⟩ := box2 (BOX.out w7 HB7.out).1
  go_wp2_with fail
  refine (HTT.out w7 HB7.out).mono ?_
  rintro e w8 ⟨k8, c8, rfl, ht8, hb8⟩
  obtain ⟨a1, a2, a3, a4, a5, a6, rfl, rfl⟩ := ht8.slices
  have hb8' := HB7.out.trans (hb8.mono hs7)
  have hs8 := hb8'.size
  -- the program's tree lies in a box
  obtain ⟨W9, hW9⟩ : ∃ W9, W9 = w8.alloc (.cells #[.slice a1 a2 a3, .slice a4 a5 a6] 33) := ⟨_, rfl⟩
  have hs9 : w8.heap.size < W9.heap.size := by rw [hW9]; simp
  have hb9 : Below w8.heap.size w8 W9 := by rw [hW9]; exact (Below.refl _ _).alloc (Nat.le_refl _) _
  have hx9 : W9.heap[w8.heap.size]? = some (.cells #[.slice a1 a2 a3, .slice a4 a5 a6] 33 (0, 0)) := by rw [hW9, new_blk]
  have hb29 : Below W2.heap.size W2 W9 := hb8'.trans (hb9.mono hs8)
  have ht9 := (ht8.later hb9 (Nat.le_refl _)).wider hb9.size
  obtain ⟨y1, y2, y3, y4⟩ := box2 (BOX.out W9 hb29).2
  rw [hW9] at y1 y2 y3 y4
  have H9 := Lib.hid (And.intro hb29 (And.intro hx9 ht9))
  have HW9 := Lib.hid hW9
  clear x1 x2 x3 x4 ht8 hb8 hb8' hb9 hx9 hb29 ht9 hW9
  go_wp2_with fail
  rw [← HW9.out]
  refine (HTC.out W9 H9.out.1).mono ?_
  rintro e w10 ⟨g10, rfl, hi10, hb10⟩
  have hs10 := hb10.size
  have hb210 := H9.out.1.trans (hb10.mono H9.out.1.size)
  obtain ⟨W11, hW11⟩ : ∃ W11, W11 = w10.alloc (.cells #[.slice (some ⟨g10, 0, none⟩) ks.length ks.length, .int .i64 a] 35) := ⟨_, rfl⟩
  have hs11 : w10.heap.size < W11.heap.size := by rw [hW11]; simp
  have hb11 : Below w10.heap.size w10 W11 := by rw [hW11]; exact (Below.refl _ _).alloc (Nat.le_refl _) _
  have hx11 : W11.heap[w10.heap.size]? = some (.cells #[.slice (some ⟨g10, 0, none⟩) ks.length ks.length, .int .i64 a] 35 (0, 0)) := by rw [hW11, new_blk]
  have hb211 : Below W2.heap.size W2 W11 := hb210.trans (hb11.mono hb210.size)
  have hx9' : W11.heap[w8.heap.size]? = some (.cells #[.slice a1 a2 a3, .slice a4 a5 a6] 33 (0, 0)) := (hb11.block _ (by omega)).trans ((hb10.block _ (by omega)).trans H9.out.2.1)
  have ht11 : TreeIn W11 W11.heap.size (.slice a1 a2 a3) (.slice a4 a5 a6) t := ((H9.out.2.2.later (hb10.trans (hb11.mono hs10)) (Nat.le_refl _))).wider (by omega)
  have hi11 : IntsIn W11 W11.heap.size (.slice (some ⟨g10, 0, none⟩) ks.length ks.length) ks := (hi10.later hb11 (Nat.le_refl _)).wider (by omega)
  have HIM := Lib.hid (impl_cursorKey ht11 HWT.out hi11 a s W11 (Below.refl _ _) (Nat.le_refl _) (fun wx hx => VAR.out wx ((UP.out W11 hb211).trans (hx.mono (UP.out W11 hb211).size))))
  have hx9x := hx9'
  have hx11x := hx11
  rw [hW11] at hx9x hx11x
  obtain ⟨x1, x2, x3, x4⟩ := box2 hx9x
  obtain ⟨z1, z2, z3, z4⟩ := box2 hx11x
  have H11 := Lib.hid (And.intro hb211 (And.intro hx9' (And.intro hx11 (And.intro ht11 hi11))))
  have HW11 := Lib.hid hW11
  clear y1 y2 y3 y4 hi10 hb10 hb210 hb11 hx11 hb211 hx9' ht11 hi11 hx9x hx11x hW11
  go_wp2_with fail
  rw [← HW11.out]
  refine HIM.out.mono ?_
  rintro e w12 ⟨rfl, hb12⟩
  have hb212 := H11.out.1.trans (hb12.mono H11.out.1.size)
  have hs12 := hb12.size
  obtain ⟨R, hR⟩ : ∃ R, R = Tr.curB t ks a := ⟨_, rfl⟩
  rw [← hR]
  have hne : (R != R) = false := by simp
  obtain ⟨KK, hKK⟩ : ∃ KK, KK = Tr.curK t ks a := ⟨_, rfl⟩
  rw [← hKK]
  have hnk : (KK != KK) = false := by simp
  have H12 := Lib.hid (And.intro hb12 hb212)
  clear x1 x2 x3 x4 z1 z2 z3 z4 hb12 hb212 hR hKK
  go_wp2_with fail
  have HX9 : Hid (∀ wx : World, Below w12.heap.size w12 wx → wx.heap[w8.heap.size]? = some (.cells #[.slice a1 a2 a3, .slice a4 a5 a6] 33 (0, 0)) ∧ wx.heap[w10.heap.size]? = some (.cells #[.slice (some ⟨g10, 0, none⟩) ks.length ks.length, .int .i64 a] 35 (0, 0)) ∧ TreeIn wx w12.heap.size (.slice a1 a2 a3) (.slice a4 a5 a6) t ∧ IntsIn wx w12.heap.size (.slice (some ⟨g10, 0, none⟩) ks.length ks.length) ks) :=
    Lib.hid (fun wx hx => by
      have hb := H12.out.1.trans (hx.mono hs12)
      exact ⟨(hb.block _ (by omega)).trans H11.out.2.1, (hb.block _ (by omega)).trans H11.out.2.2.1, (H11.out.2.2.2.1.later hb (Nat.le_refl _)).wider hs12, (H11.out.2.2.2.2.later hb (Nat.le_refl _)).wider hs12⟩)
  have B12 : Hid (∀ wx : World, Below w12.heap.size w12 wx → Below W2.heap.size W2 wx) := Lib.hid (fun wx hx => H12.out.2.trans (hx.mono H12.out.2.size))
  have HEQ : Hid (∀ (wx wy : World) (k c : Value), Below w12.heap.size w12 wx → TreeIn wx wx.heap.size k c t → wx = wy → Calls Tryd.prog 20 #[.agg #[.slice a1 a2 a3, .slice a4 a5 a6], .agg #[k, c]] wy fun e w' => e = .returned (.bool true) ∧ Below wy.heap.size wy w') :=
    Lib.hid (fun wx wy k c hx h1 he => by
      subst he
      exact eqTree_c ((HX9.out wx hx).2.2.1.wider hx.size) _ _ h1 wx (Below.refl _ _) (Nat.le_refl _))
  have HEC : Hid (∀ (wx wy : World) (g : Nat), Below w12.heap.size w12 wx → IntsIn wx wx.heap.size (.slice (some ⟨g, 0, none⟩) ks.length ks.length) ks → wx = wy → Calls Tryd.prog 21 #[.agg #[.slice (some ⟨g10, 0, none⟩) ks.length ks.length, .int .i64 a], .agg #[.slice (some ⟨g, 0, none⟩) ks.length ks.length, .int .i64 a]] wy fun e w' => e = .returned (.bool true) ∧ Below wy.heap.size wy w') :=
    Lib.hid (fun wx wy g hx h1 he => by
      subst he
      exact eqCursor_c ks _ _ a wx wx.heap.size (Nat.le_refl _) ((HX9.out wx hx).2.2.2.wider hx.size) h1)
  obtain ⟨x1, x2, -, -⟩ := box2 (BOX.out w12 H12.out.2).1
  obtain ⟨x5, x6, -, -⟩ := box2 (HX9.out w12 (Below.refl _ _)).1
  go_region_held3 (fun x => x.cell? ⟨w.heap.size, 0, none⟩ = some (.slice g1 g2 g3) ∧ x.cell? ⟨w.heap.size, 1, none⟩ = some (.slice g4 g5 g6) ∧ x.cell? ⟨w8.heap.size, 0, none⟩ = some (.slice a1 a2 a3) ∧ x.cell? ⟨w8.heap.size, 1, none⟩ = some (.slice a4 a5 a6))
    (first | exact ⟨x1, x2, x5, x6⟩ | exact ⟨z1, z2, z5, z6⟩ | exact ⟨q1, q2, q5, q6⟩ | go_keep)
    (first
      | (go_at_call 17; refine (HTT.out _ H12.out.2.drew).mono ?_; rintro e w13 ⟨k13, c13, rfl, ht13, hb13⟩; have hB13 : Below w12.heap.size w12 w13 := ((Below.refl _ _).drew).trans hb13; obtain ⟨z1, z2, -, -⟩ := box2 (BOX.out w13 (B12.out w13 hB13)).1; obtain ⟨z5, z6, -, -⟩ := box2 (HX9.out w13 hB13).1; have HB13 := Lib.hid (And.intro hB13 ht13); clear hb13 hB13 ht13)
      | (go_at_call 20; refine (HEQ.out w13 _ _ _ HB13.out.1 HB13.out.2 rfl).mono ?_; rintro e w14 ⟨rfl, hb14⟩; have hB14 : Below w12.heap.size w12 w14 := HB13.out.1.trans (hb14.mono HB13.out.1.size); obtain ⟨q1, q2, -, -⟩ := box2 (BOX.out w14 (B12.out w14 hB14)).1; obtain ⟨q5, q6, -, -⟩ := box2 (HX9.out w14 hB14).1; have HB14 := Lib.hid hB14; clear hb14 hB14))
  clear x1 x2 x5 x6 z1 z2 z5 z6 q1 q2 q5 q6
  go_wp2_with fail
  obtain ⟨x1, x2, -, -⟩ := box2 (BOX.out w14 (B12.out w14 HB14.out)).2
  obtain ⟨x5, x6, -, -⟩ := box2 (HX9.out w14 HB14.out).2.1
  go_region_held3 (fun x => x.cell? ⟨w.heap.size + 1, 0, none⟩ = some (.slice va ks.length vcap) ∧ x.cell? ⟨w.heap.size + 1, 1, none⟩ = some (.int .i64 a) ∧ x.cell? ⟨w10.heap.size, 0, none⟩ = some (.slice (some ⟨g10, 0, none⟩) ks.length ks.length) ∧ x.cell? ⟨w10.heap.size, 1, none⟩ = some (.int .i64 a))
    (first | exact ⟨x1, x2, x5, x6⟩ | exact ⟨z1, z2, z5, z6⟩ | exact ⟨q1, q2, q5, q6⟩ | go_keep)
    (first
      | (go_at_call 18; refine (HTC.out _ (B12.out w14 HB14.out).drew).mono ?_; rintro e w15 ⟨g15, rfl, hi15, hb15⟩; have hB15 : Below w12.heap.size w12 w15 := (HB14.out.drew).trans (hb15.mono (by show w12.heap.size ≤ w14.heap.size; exact HB14.out.size)); obtain ⟨z1, z2, -, -⟩ := box2 (BOX.out w15 (B12.out w15 hB15)).2; obtain ⟨z5, z6, -, -⟩ := box2 (HX9.out w15 hB15).2.1; have HB15 := Lib.hid (And.intro hB15 hi15); clear hb15 hB15 hi15)
      | (go_at_call 21; refine (HEC.out w15 _ _ HB15.out.1 HB15.out.2 rfl).mono ?_; rintro e w16 ⟨rfl, hb16⟩; have hB16 : Below w12.heap.size w12 w16 := HB15.out.1.trans (hb16.mono HB15.out.1.size); obtain ⟨q1, q2, -, -⟩ := box2 (BOX.out w16 (B12.out w16 hB16)).2; obtain ⟨q5, q6, -, -⟩ := box2 (HX9.out w16 hB16).2.1; have HB16 := Lib.hid hB16; clear hb16 hB16))
  clear x1 x2 x5 x6 z1 z2 z5 z6 q1 q2 q5 q6
  have HL := Lib.hid (UP.out w16 (B12.out w16 HB16.out))
  go_wp2_with fail
  go_ret
  exact ⟨rfl, HL.out⟩
end Go.Proofs.YtbdamminjbaaoaaDoor
