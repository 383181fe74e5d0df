/- The law on SeekCursor: the walk over the contracts. -/
import Derived.Test.YticfkfjijnfcbaaDoorProg
import Derived.Test.YticfkfjijnfcbaaDoorSh0
import Derived.Test.YticfkfjijnfcbaaDoorSh1
import Derived.Test.YticfkfjijnfcbaaDoorSh17
import Derived.Test.YticfkfjijnfcbaaDoorCurKit2
import Derived.Test.YticfkfjijnfcbaaDoorCurMark
import Derived.Test.YticfkfjijnfcbaaDoorSh15
import Derived.Test.YticfkfjijnfcbaaDoorCurEq
import Derived.Deep.RegionHeld3
namespace Go.Proofs.YticfkfjijnfcbaaDoor
open Go.RowKit

set_option maxHeartbeats 4000000 in
set_option maxRecDepth 100000 in
theorem exSeekCursor_c {kv cv : Value} {t : Tr} (key : Int) (s s2 : Addr) (w : World) (ht : TreeIn w w.heap.size kv cv t)
    (hV : w.cell? ⟨0, 0, none⟩ = some (.iface 174 (.pointer (some s))) ∧ w.cell? ⟨1, 0, none⟩ = some (.iface 174 (.pointer (some s2)))) (h0 : 1 < w.heap.size) :
    Calls Tryd.prog 5 #[.agg #[kv, cv], .int .i64 key] w fun e w' => e = .returned (.bool true) ∧ Below w.heap.size w w' := by
  have VAR : Hid (∀ wx : World, Below w.heap.size w wx → wx.cell? ⟨0, 0, none⟩ = some (.iface 174 (.pointer (some s))) ∧ wx.cell? ⟨1, 0, none⟩ = some (.iface 174 (.pointer (some s2)))) :=
    Lib.hid (fun wx hx => ⟨(below_cell hx (by show 0 < _; omega)).trans hV.1, (below_cell hx (by show 1 < _; omega)).trans hV.2⟩)
  obtain ⟨r, hr⟩ : ∃ r, r = Tr.walkB t [] 0 (fun _ => Tr.goF key t []) := ⟨_, rfl⟩
  have hrl : r.1.length ≤ 1048576 := by rw [hr]; have := (Tr.walk_short (t := t) (ks := []) (a := 0) (c := key)).2.2.1; omega
  have HSPEC : Hid (t.weight ≤ 1048576 → ∀ (kv cv : Value) (w0 : World), TreeIn w0 w0.heap.size kv cv t → Calls Tryd.prog 26 #[.agg #[kv, cv], .int .i64 key] w0 (Told w0 r)) := Lib.hid (fun hw kv cv w0 ht0 => by
    rw [hr, Tr.seek_eq]; exact specSeek_c ht0 hw key w0 (Below.refl _ _) (Nat.le_refl _))
  have HIMPL : Hid (t.weight ≤ 1048576 → ∀ (kv cv : Value) (w0 w1 : World), TreeIn w0 w0.heap.size kv cv t → Below w0.heap.size w0 w1 → Below w.heap.size w w1 → Calls Tryd.prog 27 #[.agg #[kv, cv], .int .i64 key] w1 (Walked w1 r)) := Lib.hid (fun hw kv cv w0 w1 ht0 hb hbw => by
    rw [hr]; exact impl_seek_c ht0 hw key s s2 w1 hb hb.size (fun wx hx => VAR.out wx (hbw.trans (hx.mono hbw.size))))
  clear hr hV
  obtain ⟨W1, hW1⟩ : ∃ W1, W1 = w.alloc (.cells #[kv, cv] 25) := ⟨_, rfl⟩
  have hs1 : W1.heap.size = w.heap.size + 1 := by rw [hW1]; simp
  have hb1 : Below w.heap.size w W1 := by rw [hW1]; exact (Below.refl _ _).alloc (Nat.le_refl _) _
  have kb : W1.heap[w.heap.size]? = some (.cells #[kv, cv] 25 (0, 0)) := by rw [hW1, new_blk]
  obtain ⟨x1, x2, x3, x4⟩ := box2 kb
  have HW1 := Lib.hid hW1
  have HT := Lib.hid ht
  have H1 := Lib.hid (And.intro hb1 kb)
  clear hW1 hb1 kb ht
  obtain ⟨P, a, ok⟩ := r
  simp only at hrl
  go_enter Tryd.func5, Tryd.ntmps5
  go_wp2_with fail
  rw [← HW1.out]
  refine (szTree_c HT.out W1 1048576 H1.out.1 (by omega) (by omega) (by omega)).mono ?_
  rintro e w2 ⟨rfl, hb2⟩
  have hs2 := hb2.size
  have kb2 := (hb2.block w.heap.size (by omega)).trans H1.out.2
  have hb2' := H1.out.1.trans (hb2.mono (by omega))
  clear x1 x2 x3 x4
  obtain ⟨x1, x2, x3, x4⟩ := box2 kb2
  have H2 := Lib.hid (And.intro hb2' kb2)
  clear hb2 hb2' kb2
  by_cases hwt : t.weight ≤ 1048576
  case neg =>
    rw [leftOf_lt (by omega)]
    go_wp2_with fail
    go_ret
    exact ⟨rfl, H2.out.1⟩
  rw [leftOf_ge (by omega)]
  have hnn : ¬ ((1048576 : Int) - (t.weight : Int) < 0) := by omega
  go_wp2_with fail
  -- the first copy, for the model
  refine (toTree_c HT.out hwt w2 H2.out.1 (by omega)).mono ?_
  rintro e w3 ⟨k3, c3, rfl, hn3, hb3⟩
  have hs3 := hb3.size
  have kb3 := (hb3.block w.heap.size (by omega)).trans H2.out.2
  have hb3' := H2.out.1.trans (hb3.mono (by omega))
  clear x1 x2 x3 x4
  obtain ⟨x1, x2, x3, x4⟩ := box2 kb3
  have H3 := Lib.hid (And.intro hb3' kb3)
  have HN3 := Lib.hid (hn3.tree hwt)
  clear hb3 hb3' kb3 hn3
  go_wp2_with fail
  refine (HSPEC.out hwt _ _ w3 HN3.out).mono ?_
  rintro e w4 ⟨v4, rfl, ho4, hb4⟩
  obtain ⟨va4, vc4, rfl⟩ := IntsOwn.shown ho4
  have hs4 := hb4.size
  obtain ⟨W4, hW4⟩ : ∃ W4, W4 = w4.alloc (.cells #[.slice va4 P.length vc4, .int .i64 a] 28) := ⟨_, rfl⟩
  have hz4 : W4.heap.size = w4.heap.size + 1 := by rw [hW4]; simp
  have hbb4 : Below w4.heap.size w4 W4 := by rw [hW4]; exact (Below.refl _ _).alloc (Nat.le_refl _) _
  have kb4 := (hbb4.block w.heap.size (by omega)).trans ((hb4.block w.heap.size (by omega)).trans H3.out.2)
  have kw4 : W4.heap[w4.heap.size]? = some (.cells #[.slice va4 P.length vc4, .int .i64 a] 28 (0, 0)) := by rw [hW4, new_blk]
  have hb4' := H3.out.1.trans ((hb4.mono (by omega)).trans (hbb4.mono (by omega)))
  have ho4' : IntsOwn W4 w3.heap.size (.slice va4 P.length vc4) P := ho4.later hbb4 (Nat.le_refl _)
  clear x1 x2 x3 x4
  obtain ⟨x1, x2, x3, x4⟩ := box2 kb4
  rw [hW4] at x1 x2 x3 x4
  have hlt4 : w4.heap.size < W4.heap.size := by omega
  have H4 := Lib.hid (And.intro hb4' (And.intro kb4 (And.intro ho4' kw4)))
  have HW4 := Lib.hid hW4
  clear hb4 hb4' kb4 ho4 ho4' hW4 hbb4 kw4 hz4
  go_wp2_with fail
  rw [← HW4.out]
  -- the second copy, for the program
  refine (toTree_c HT.out hwt W4 H4.out.1 (by omega)).mono ?_
  rintro e w5 ⟨k5, c5, rfl, hn5, hb5⟩
  obtain ⟨g5, h5, n5, m5, rfl, rfl⟩ := hn5.slices
  have hs5 := hb5.size
  obtain ⟨W6, hW6⟩ : ∃ W6, W6 = w5.alloc (.cells #[.slice (some ⟨g5, 0, none⟩) n5 n5, .slice (some ⟨h5, 0, none⟩) m5 m5] 33) := ⟨_, rfl⟩
  have hz6 : W6.heap.size = w5.heap.size + 1 := by rw [hW6]; simp
  have hb6 : Below w5.heap.size w5 W6 := by rw [hW6]; exact (Below.refl _ _).alloc (Nat.le_refl _) _
  have kx6 : W6.heap[w5.heap.size]? = some (.cells #[.slice (some ⟨g5, 0, none⟩) n5 n5, .slice (some ⟨h5, 0, none⟩) m5 m5] 33 (0, 0)) := by rw [hW6, new_blk]
  have kb6 := (hb6.block w.heap.size (by omega)).trans ((hb5.block w.heap.size (by omega)).trans H4.out.2.1)
  have kw6 := (hb6.block w4.heap.size (by omega)).trans ((hb5.block w4.heap.size (by omega)).trans H4.out.2.2.2)
  have hbw6 := H4.out.1.trans ((hb5.mono (by omega)).trans (hb6.mono (by omega)))
  have hb46 : Below W4.heap.size W4 W6 := hb5.trans (hb6.mono (by omega))
  have HM5 := Lib.hid hn5.mem
  have HN5 := Lib.hid (hn5.tree hwt)
  clear x1 x2 x3 x4
  have kx6x := kx6
  rw [hW6] at kx6x
  obtain ⟨x1, x2, x3, x4⟩ := box2 kx6x
  have hlt6 : w5.heap.size < W6.heap.size := by omega
  have H6 := Lib.hid (And.intro hbw6 (And.intro kb6 (And.intro kw6 (And.intro kx6 (And.intro hb46 hb6)))))
  have HW6 := Lib.hid hW6
  clear hn5 hb5 hW6 hz6 hb6 kx6 kb6 kw6 hbw6 hb46 kx6x
  go_wp2_with fail
  rw [← HW6.out]
  refine (HIMPL.out hwt _ _ w5 W6 HN5.out H6.out.2.2.2.2.2 H6.out.1).mono ?_
  rintro e w7 ⟨v7, rfl, ho7, hb7⟩
  obtain ⟨va7, vc7, rfl⟩ := IntsOwn.shown ho7
  have hs7 := hb7.size
  obtain ⟨W7, hW7⟩ : ∃ W7, W7 = w7.alloc (.cells #[.slice va7 P.length vc7, .int .i64 a] 28) := ⟨_, rfl⟩
  have hz7 : W7.heap.size = w7.heap.size + 1 := by rw [hW7]; simp
  have hbb7 : Below w7.heap.size w7 W7 := by rw [hW7]; exact (Below.refl _ _).alloc (Nat.le_refl _) _
  have hb67 : Below W6.heap.size W6 W7 := hb7.trans (hbb7.mono (by omega))
  have kg7 : W7.heap[w7.heap.size]? = some (.cells #[.slice va7 P.length vc7, .int .i64 a] 28 (0, 0)) := by rw [hW7, new_blk]
  have hown7 : ∀ g, (Value.slice va7 P.length vc7).ownBlock = some g → W6.heap.size ≤ g ∧ g < w7.heap.size := fun g hg => by
    have := ho7.lt g hg
    omega
  have HOB := Lib.hid hown7
  have hwx7 : Below W4.heap.size W4 W7 := H6.out.2.2.2.2.1.trans (hb67.mono (by omega))
  -- the boxes, from here on
  have BOX7 : Hid (∀ wx : World, Below W7.heap.size W7 wx → wx.heap[w.heap.size]? = some (.cells #[kv, cv] 25 (0, 0)) ∧ wx.heap[w4.heap.size]? = some (.cells #[.slice va4 P.length vc4, .int .i64 a] 28 (0, 0)) ∧
      wx.heap[w5.heap.size]? = some (.cells #[.slice (some ⟨g5, 0, none⟩) n5 n5, .slice (some ⟨h5, 0, none⟩) m5 m5] 33 (0, 0)) ∧ wx.heap[w7.heap.size]? = some (.cells #[.slice va7 P.length vc7, .int .i64 a] 28 (0, 0)) ∧
      Below w.heap.size w wx ∧ Below w5.heap.size w5 wx ∧ Below W4.heap.size W4 wx ∧ IntsOwn wx W6.heap.size (.slice va7 P.length vc7) P ∧ IntsOwn wx w3.heap.size (.slice va4 P.length vc4) P) := Lib.hid (fun wx hx =>
    ⟨(hx.block _ (by omega)).trans ((hb67.block _ (by omega)).trans H6.out.2.1), (hx.block _ (by omega)).trans ((hb67.block _ (by omega)).trans H6.out.2.2.1), (hx.block _ (by omega)).trans ((hb67.block _ hlt6).trans H6.out.2.2.2.1), (hx.block _ (by omega)).trans kg7,
      H6.out.1.trans ((hb67.mono (by omega)).trans (hx.mono (by omega))), H6.out.2.2.2.2.2.trans ((hb67.mono (by omega)).trans (hx.mono (by omega))), hwx7.trans (hx.mono (by omega)), (ho7.later hbb7 (Nat.le_refl _)).later hx (Nat.le_refl _), H4.out.2.2.1.later (hwx7.trans (hx.mono (by omega))) (Nat.le_refl _)⟩)
  have hb0 := BOX7.out W7 (Below.refl _ _)
  clear x1 x2 x3 x4
  obtain ⟨x1, x2, -, -⟩ := box2 hb0.2.1
  obtain ⟨y1, y2, -, -⟩ := box2 hb0.2.2.2.1
  rw [hW7] at x1 x2 y1 y2
  have HW7 := Lib.hid hW7
  have hlt7 : w7.heap.size < W7.heap.size := by omega
  have hneb : (ok != ok) = false := by simp
  clear hb0 ho7 hb7 hW7 hz7 hbb7 hb67 kg7 hown7 hwx7
  go_wp2_with fail
  rw [← HW7.out]
  refine (eqCursor_c P _ _ a W7 W7.heap.size (Nat.le_refl _) (IntsOwn.inB (BOX7.out W7 (Below.refl _ _)).2.2.2.2.2.2.2.1 (Nat.le_refl _)) (IntsOwn.inB (BOX7.out W7 (Below.refl _ _)).2.2.2.2.2.2.2.2 (Nat.le_refl _))).mono ?_
  rintro e w8 ⟨rfl, hb8⟩
  have hs8 := hb8.size
  have hb0 := BOX7.out w8 hb8
  clear x1 x2 y1 y2
  obtain ⟨x1, x2, -, -⟩ := box2 hb0.1
  obtain ⟨y1, y2, -, -⟩ := box2 hb0.2.2.1
  have H8 := Lib.hid hb8
  clear hb0 hb8
  go_wp2_with fail
  go_region_held3 (fun x => x.cell? ⟨w.heap.size, 0, none⟩ = some kv ∧ x.cell? ⟨w.heap.size, 1, none⟩ = some cv ∧ x.cell? ⟨w5.heap.size, 0, none⟩ = some (.slice (some ⟨g5, 0, none⟩) n5 n5) ∧ x.cell? ⟨w5.heap.size, 1, none⟩ = some (.slice (some ⟨h5, 0, none⟩) m5 m5))
    (first | exact ⟨x1, x2, y1, y2⟩ | exact ⟨z1, z2, u1, u2⟩ | exact ⟨q1, q2, r1, r2⟩ | go_keep)
    (first
      | (go_at_call 17; refine (toTree_c HT.out hwt _ ((BOX7.out w8 H8.out).2.2.2.2.1.drew) (by simp; omega)).mono ?_; rintro e w9 ⟨k9, c9, rfl, hn9, hb9⟩; obtain ⟨g9, h9, n9, m9, rfl, rfl⟩ := hn9.slices; have hs9 : w8.heap.size ≤ w9.heap.size := hb9.size; have HN9 := Lib.hid (hn9.tree hwt); have hbb9 : Below W7.heap.size W7 w9 := H8.out.drew.trans (hb9.mono (by simp; omega)); have hk9 := BOX7.out w9 hbb9; obtain ⟨z1, z2, z3, z4⟩ := box2 hk9.1; obtain ⟨u1, u2, u3, u4⟩ := box2 hk9.2.2.1; have H9 := Lib.hid hbb9; clear hb9 hn9 hbb9 hk9)
      | (go_at_call 20; refine (eqTree_c (TreeIn.wider (TreeIn.later HN5.out (BOX7.out w9 H9.out).2.2.2.2.2.1 (Nat.le_refl _)) (by omega)) _ _ HN9.out _ (Below.refl _ _) (Nat.le_refl _)).mono ?_; rintro e w10 ⟨rfl, hb10⟩; have hs10 := hb10.size; have hbb10 : Below W7.heap.size W7 w10 := H9.out.trans (hb10.mono (by omega)); have hk10 := BOX7.out w10 hbb10; obtain ⟨q1, q2, q3, q4⟩ := box2 hk10.1; obtain ⟨r1, r2, r3, r4⟩ := box2 hk10.2.2.1; have H10 := Lib.hid hbb10; clear hb10 hbb10 hk10))
  go_wp2_with fail
  -- the program's argument is marked
  refine (markTree_c (HM5.out.touch (Touch.of_below (BOX7.out w10 H10.out).2.2.2.2.2.1 (Nat.le_refl _))) hwt (by omega) 1 (by omega) (by omega)).mono ?_
  rintro e w11 ⟨m11, rfl, hm11, hsp⟩
  have hs11 := hsp.size
  have hm' : ¬ (m11 < 0) := by omega
  have hk10 := BOX7.out w10 H10.out
  have BOX11 : Hid (∀ wx : World, Below w11.heap.size w11 wx → wx.heap[w.heap.size]? = some (.cells #[kv, cv] 25 (0, 0)) ∧ wx.heap[w4.heap.size]? = some (.cells #[.slice va4 P.length vc4, .int .i64 a] 28 (0, 0)) ∧
      wx.heap[w7.heap.size]? = some (.cells #[.slice va7 P.length vc7, .int .i64 a] 28 (0, 0)) ∧ Below w.heap.size w wx ∧ IntsOwn wx W6.heap.size (.slice va7 P.length vc7) P ∧ IntsOwn wx w3.heap.size (.slice va4 P.length vc4) P ∧ Below W4.heap.size W4 wx) := Lib.hid (fun wx hx =>
    ⟨(hx.block _ (by omega)).trans ((hsp.block _ (by omega) (.inl (by omega))).trans hk10.1), (hx.block _ (by omega)).trans ((hsp.block _ (by omega) (.inl (by omega))).trans hk10.2.1), (hx.block _ (by omega)).trans ((hsp.block _ (by omega) (.inr (by omega))).trans hk10.2.2.2.1),
      hk10.2.2.2.2.1.trans (((hsp.below (by omega)).mono (by omega)).trans (hx.mono (by omega))), (hk10.2.2.2.2.2.2.2.1.span hsp (by omega)).later hx (Nat.le_refl _), H4.out.2.2.1.later (hk10.2.2.2.2.2.2.1.trans ((hsp.below (by omega)).trans (hx.mono (by omega)))) (Nat.le_refl _), hk10.2.2.2.2.2.2.1.trans ((hsp.below (by omega)).trans (hx.mono (by omega)))⟩)
  have hb0 := BOX11.out w11 (Below.refl _ _)
  clear x1 x2 y1 y2 z1 z2 z3 z4 u1 u2 u3 u4 q1 q2 q3 q4 r1 r2 r3 r4
  obtain ⟨x1, x2, -, -⟩ := box2 hb0.2.1
  obtain ⟨y1, y2, -, -⟩ := box2 hb0.2.2.1
  clear hb0 hsp hk10
  go_wp2_with fail
  refine (eqCursor_c P _ _ a w11 w11.heap.size (Nat.le_refl _) (IntsOwn.inB (BOX11.out w11 (Below.refl _ _)).2.2.2.2.1 (Nat.le_refl _)) (IntsOwn.inB (BOX11.out w11 (Below.refl _ _)).2.2.2.2.2.1 (Nat.le_refl _))).mono ?_
  rintro e w12 ⟨rfl, hb12⟩
  have hs12 := hb12.size
  have hb0 := BOX11.out w12 hb12
  clear x1 x2 y1 y2
  obtain ⟨y1, y2, -, -⟩ := box2 hb0.2.2.1
  have H12 := Lib.hid hb12
  clear hb0 hb12
  go_wp2_with fail
  -- the program's answer is marked
  refine (markCursor_c (BOX11.out w12 H12.out).2.2.2.2.1 (by omega) hrl a 1 (by omega) (by omega)).mono ?_
  rintro e w13 ⟨rfl, ho13, hb13, hoth⟩
  have hs13 := hb13.size
  have hk12 := BOX11.out w12 H12.out
  have hno : ∀ k, k < W6.heap.size → some k ≠ (Value.slice va7 P.length vc7).ownBlock := fun k hk e => by have := (HOB.out k e.symm).1; omega
  have hno2 : some w7.heap.size ≠ (Value.slice va7 P.length vc7).ownBlock := fun e => by have := (HOB.out _ e.symm).2; omega
  have BOX13 : Hid (∀ wx : World, Below w13.heap.size w13 wx → wx.heap[w.heap.size]? = some (.cells #[kv, cv] 25 (0, 0)) ∧ wx.heap[w4.heap.size]? = some (.cells #[.slice va4 P.length vc4, .int .i64 a] 28 (0, 0)) ∧
      wx.heap[w7.heap.size]? = some (.cells #[.slice va7 P.length vc7, .int .i64 a] 28 (0, 0)) ∧ Below w.heap.size w wx ∧ IntsOwn wx W6.heap.size (.slice va7 P.length vc7) (marks 1 P.length) ∧ IntsOwn wx w3.heap.size (.slice va4 P.length vc4) P) := Lib.hid (fun wx hx =>
    ⟨(hx.block _ (by omega)).trans ((hoth _ (by omega) (hno _ (by omega))).trans hk12.1), (hx.block _ (by omega)).trans ((hoth _ (by omega) (hno _ (by omega))).trans hk12.2.1), (hx.block _ (by omega)).trans ((hoth _ (by omega) hno2).trans hk12.2.2.1),
      hk12.2.2.2.1.trans ((hb13.mono (by omega)).trans (hx.mono (by omega))), ho13.later hx (Nat.le_refl _), H4.out.2.2.1.later (hk12.2.2.2.2.2.2.trans ((hb13.mono (by omega)).trans (hx.mono (by omega)))) (Nat.le_refl _)⟩)
  have hne : (((1 : Int) + (P.length : Int)) != 1 + (P.length : Int)) = false := by simp
  have hn13 : ¬ ((1 : Int) + (P.length : Int) < 0) := by omega
  have hb0 := BOX13.out w13 (Below.refl _ _)
  clear y1 y2
  obtain ⟨y1, y2, -, -⟩ := box2 hb0.2.2.1
  clear hb0 hb13 ho13 hoth hk12 hno hno2
  go_wp2_with fail
  refine (heldCursor_c (n := P.length) (IntsIn.at (IntsOwn.in (BOX13.out w13 (Below.refl _ _)).2.2.2.2.1)) ⟨_, _, rfl⟩ (fun wx hx => IntsIn.at (IntsOwn.in (BOX13.out wx hx).2.2.2.2.1)) hrl a (by omega) (by omega)).mono ?_
  rintro e w14 ⟨rfl, hb14⟩
  have hs14 := hb14.size
  have hb0 := BOX13.out w14 hb14
  clear y1 y2
  obtain ⟨x1, x2, -, -⟩ := box2 hb0.1
  have H14 := Lib.hid hb14
  clear hb0 hb14
  go_wp2_with fail
  -- once more
  refine (toTree_c HT.out hwt w14 (BOX13.out w14 H14.out).2.2.2.1 (by omega)).mono ?_
  rintro e w15 ⟨k15, c15, rfl, hn15, hb15⟩
  have hs15 := hb15.size
  have h15 : Below w13.heap.size w13 w15 := H14.out.trans (hb15.mono hs14)
  have H15 := Lib.hid (And.intro h15 (hn15.tree hwt))
  clear hn15 hb15 h15
  go_wp2_with fail
  refine (HIMPL.out hwt _ _ w15 w15 H15.out.2 (Below.refl _ _) (BOX13.out w15 H15.out.1).2.2.2.1).mono ?_
  rintro e w16 ⟨v16, rfl, ho16, hb16⟩
  obtain ⟨va16, vc16, rfl⟩ := IntsOwn.shown ho16
  have hs16 := hb16.size
  obtain ⟨W16, hW16⟩ : ∃ W16, W16 = w16.alloc (.cells #[.slice va16 P.length vc16, .int .i64 a] 28) := ⟨_, rfl⟩
  have hz16 : W16.heap.size = w16.heap.size + 1 := by rw [hW16]; simp
  have hbb16 : Below w16.heap.size w16 W16 := by rw [hW16]; exact (Below.refl _ _).alloc (Nat.le_refl _) _
  have kh16 : W16.heap[w16.heap.size]? = some (.cells #[.slice va16 P.length vc16, .int .i64 a] 28 (0, 0)) := by rw [hW16, new_blk]
  have h1316 : Below w13.heap.size w13 W16 := H15.out.1.trans ((hb16.mono (by omega)).trans (hbb16.mono (by omega)))
  have ho16' := ho16.later hbb16 (Nat.le_refl _)
  have hb0 := BOX13.out W16 h1316
  clear x1 x2
  obtain ⟨x1, x2, -, -⟩ := box2 hb0.2.1
  obtain ⟨y1, y2, -, -⟩ := box2 kh16
  rw [hW16] at x1 x2 y1 y2
  have H16 := Lib.hid (And.intro h1316 ho16')
  have HW16 := Lib.hid hW16
  clear hb0 ho16 ho16' hb16 hW16 hz16 hbb16 kh16 h1316
  go_wp2_with fail
  rw [← HW16.out]
  refine (eqCursor_c P _ _ a W16 W16.heap.size (Nat.le_refl _) (IntsOwn.inB H16.out.2 (Nat.le_refl _)) (IntsOwn.inB (BOX13.out W16 H16.out.1).2.2.2.2.2 (Nat.le_refl _))).mono ?_
  rintro e w17 ⟨rfl, hb17⟩
  have hs17 := hb17.size
  have h17 : Below w13.heap.size w13 w17 := H16.out.1.trans (hb17.mono (H16.out.1.size))
  have hb0 := BOX13.out w17 h17
  clear x1 x2 y1 y2
  obtain ⟨y1, y2, -, -⟩ := box2 hb0.2.2.1
  have H17 := Lib.hid h17
  clear hb0 hb17 h17
  go_wp2_with fail
  refine (heldCursor_c (n := P.length) (IntsIn.at (IntsOwn.in (BOX13.out w17 H17.out).2.2.2.2.1)) ⟨_, _, rfl⟩ (fun wx hx => IntsIn.at (IntsOwn.in (BOX13.out wx (H17.out.trans (hx.mono H17.out.size))).2.2.2.2.1)) hrl a (by omega) (by omega)).mono ?_
  rintro e w18 ⟨rfl, hb18⟩
  have H18 := Lib.hid (BOX13.out w18 (H17.out.trans (hb18.mono H17.out.size))).2.2.2.1
  clear hb18
  go_wp2_with fail
  go_ret
  exact ⟨rfl, H18.out⟩
end Go.Proofs.YticfkfjijnfcbaaDoor
