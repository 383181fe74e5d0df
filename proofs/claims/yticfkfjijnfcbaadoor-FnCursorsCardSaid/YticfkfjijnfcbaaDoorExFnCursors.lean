/- The law on cursors that go through all keys: the walk over the contracts. -/
import Derived.Test.YticfkfjijnfcbaaDoorProg
import Derived.Test.YticfkfjijnfcbaaDoorSh0
import Derived.Test.YticfkfjijnfcbaaDoorSh18
import Derived.Test.YticfkfjijnfcbaaDoorSh19
import Derived.Test.YticfkfjijnfcbaaDoorDrawFmt
import Derived.Test.YticfkfjijnfcbaaDoorSh24
import Derived.Test.YticfkfjijnfcbaaDoorSh9
import Derived.Test.YticfkfjijnfcbaaDoorFtCursor
import Derived.Test.YticfkfjijnfcbaaDoorSh10
import Derived.Test.YticfkfjijnfcbaaDoorSh15
import Derived.Test.YticfkfjijnfcbaaDoorCurEq
import Derived.Test.YticfkfjijnfcbaaDoorSh16
namespace Go.Proofs.YticfkfjijnfcbaaDoor
open Go.RowKit

set_option maxHeartbeats 4000000 in
set_option maxRecDepth 100000 in
theorem fnCursors_c {w : World} {v : Value} {bs : List Nat} (h : BytesIn w w.heap.size v bs) (s s2 : Addr)
    (hV : w.cell? ⟨0, 0, none⟩ = some (.iface 174 (.pointer (some s))) ∧ w.cell? ⟨1, 0, none⟩ = some (.iface 174 (.pointer (some s2)))) (h0 : 1 < w.heap.size) :
    Calls Tryd.prog 8 #[v] w fun e w' => e = .returned (.bool true) ∧ Below w.heap.size w w' := by
  have VAR : Hid (∀ wx : World, Below w.heap.size w wx → wx.cell? ⟨0, 0, none⟩ = some (.iface 174 (.pointer (some s))) ∧ wx.cell? ⟨1, 0, none⟩ = some (.iface 174 (.pointer (some s2)))) :=
    Lib.hid (fun wx hx => ⟨(below_cell hx (by show 0 < _; omega)).trans hV.1, (below_cell hx (by show 1 < _; omega)).trans hV.2⟩)
  have H := Lib.hid h
  obtain ⟨a1, c1, rfl, -⟩ := h
  clear hV
  by_cases hc1 : bs.length ≤ 1048576
  case neg =>
    have hc1' : ((bs.length : Int) > 1048576) := by omega
    go_enter Tryd.func8, Tryd.ntmps8
    go_wp2_with fail
    go_ret
    exact ⟨rfl, Below.refl _ _⟩
  have hc1' : ¬ ((bs.length : Int) > 1048576) := by omega
  have HD := Lib.hid (drawFirst_c H.out w (Below.refl _ _) (Nat.le_refl _))
  go_enter Tryd.func8, Tryd.ntmps8
  go_wp2_with fail
  refine HD.out.mono ?_
  rintro e w2 ⟨k2, d2, t, rfl, ht2, hw2, hb2⟩
  obtain ⟨b1, b2, b3, b4, b5, b6, rfl, rfl⟩ := ht2.slices
  have hs2 := hb2.size
  obtain ⟨W3, hW3⟩ : ∃ W3, W3 = w2.alloc (.cells #[.slice b1 b2 b3, .slice b4 b5 b6] 33) := ⟨_, rfl⟩
  have hs3 : w2.heap.size < W3.heap.size := by rw [hW3]; simp
  have hb3 : Below w2.heap.size w2 W3 := by rw [hW3]; exact (Below.refl _ _).alloc (Nat.le_refl _) _
  have hx3 : W3.heap[w2.heap.size]? = some (.cells #[.slice b1 b2 b3, .slice b4 b5 b6] 33 (0, 0)) := by rw [hW3, new_blk]
  have hta3 : TreeA W3 (.slice b1 b2 b3) (.slice b4 b5 b6) t := (ht2.a (fun k hk => hk.2)).later hb3 (Nat.le_refl _)
  have hwt : t.weight ≤ 1048576 := by omega
  have HF : Hid (∀ wx : World, Below W3.heap.size W3 wx → Below w.heap.size w wx) := Lib.hid (fun wx hx => (hb2.trans (hb3.mono (by omega))).trans (hx.mono (by omega)))
  obtain ⟨r1, hr1⟩ : ∃ r, r = Tr.walkB t [] 0 (fun _ => Tr.goF 0 t []) := ⟨_, rfl⟩
  obtain ⟨r2, hr2⟩ : ∃ r, r = Tr.walkB t [] 0 (fun _ => Tr.goB 100 t []) := ⟨_, rfl⟩
  have HC1 : Hid (∀ wx : World, Below W3.heap.size W3 wx → Calls Tryd.prog 18 #[.agg #[.slice b1 b2 b3, .slice b4 b5 b6]] wx (Walked wx r1)) := Lib.hid (fun wx hx => by
    rw [hr1]; exact impl_first_c hta3.tree hwt s s2 wx hx hx.size (fun wy hy => VAR.out wy (HF.out wy (hx.trans (hy.mono hx.size)))))
  have HC2 : Hid (∀ wx : World, Below W3.heap.size W3 wx → Calls Tryd.prog 16 #[.agg #[.slice b1 b2 b3, .slice b4 b5 b6]] wx (Told wx r1)) := Lib.hid (fun wx hx => by
    rw [hr1, Tr.first_eq]; exact specFirst_c hta3.tree hwt wx hx hx.size)
  have HC3 : Hid (∀ wx : World, Below W3.heap.size W3 wx → Calls Tryd.prog 25 #[.agg #[.slice b1 b2 b3, .slice b4 b5 b6]] wx (Walked wx r2)) := Lib.hid (fun wx hx => by
    rw [hr2]; exact impl_last_c hta3.tree hwt s s2 wx hx hx.size (fun wy hy => VAR.out wy (HF.out wy (hx.trans (hy.mono hx.size)))))
  have HC4 : Hid (∀ wx : World, Below W3.heap.size W3 wx → Calls Tryd.prog 24 #[.agg #[.slice b1 b2 b3, .slice b4 b5 b6]] wx (Told wx r2)) := Lib.hid (fun wx hx => by
    rw [hr2, Tr.last_eq]; exact specLast_c hta3.tree hwt wx hx hx.size)
  have HC5 : Hid (∀ wx : World, Below W3.heap.size W3 wx → Calls Tryd.prog 36 #[.agg #[.slice b1 b2 b3, .slice b4 b5 b6]] wx fun e w'' => ∃ v, e = .returned v ∧ IntsOwn w'' wx.heap.size v t.keys ∧ Below wx.heap.size wx w'') :=
    Lib.hid (fun wx hx => impl_keys_a (hta3.later hx (Nat.le_refl _)) hwt)
  have HC6 : Hid (∀ (wx : World) (v : Value) (P : List Int) (A : Int), Below W3.heap.size W3 wx → IntsIn wx wx.heap.size v P → Calls Tryd.prog 37 #[.agg #[.slice b1 b2 b3, .slice b4 b5 b6], .agg #[v, .int .i64 A]] wx fun e w'' => e = .returned (.tuple #[.int .i64 (Tr.curK t P A), .bool (Tr.curB t P A)]) ∧ Below wx.heap.size wx w'') :=
    Lib.hid (fun wx v P A hx hi => impl_cursorKey ((hta3.later hx (Nat.le_refl _)).tree) hwt hi A s wx (Below.refl _ _) (Nat.le_refl _) (fun wy hy => (VAR.out wy (HF.out wy (hx.trans (hy.mono hx.size)))).1))
  have HC7 : Hid (∀ (wx : World) (v : Value) (P : List Int) (A : Int), Below W3.heap.size W3 wx → IntsIn wx wx.heap.size v P → Calls Tryd.prog 31 #[.agg #[.slice b1 b2 b3, .slice b4 b5 b6], .agg #[v, .int .i64 A]] wx (Walked wx (Tr.walkB t P A (fun K => Tr.goF (K + 1) t P)))) :=
    Lib.hid (fun wx v P A hx hi => impl_forward_c ((hta3.later hx (Nat.le_refl _)).tree) hwt hi A s s2 wx (Below.refl _ _) (Nat.le_refl _) (fun wy hy => VAR.out wy (HF.out wy (hx.trans (hy.mono hx.size)))))
  rw [Tr.whole_first] at hr1
  rw [Tr.whole_last] at hr2
  have hok : r1.2.2 = r2.2.2 ∧ (r1.2.2 = true → t.someB = true ∧ 0 < t.keys.length ∧ r1 = Tr.curAt t 0 ∧ r2 = Tr.curAt t (t.keys.length - 1)) := by
    by_cases hh : t.someB = true ∧ 0 < t.keys.length
    · rw [if_pos hh] at hr1 hr2
      rw [hr1, hr2, (Tr.curAt_facts hh.1 hh.2).2.2.1, (Tr.curAt_facts hh.1 (show t.keys.length - 1 < t.keys.length by omega)).2.2.1]
      exact ⟨rfl, fun _ => ⟨hh.1, hh.2, rfl, rfl⟩⟩
    · rw [if_neg hh] at hr1 hr2
      rw [hr1, hr2]
      exact ⟨rfl, fun h => by cases h⟩
  have BOX : Hid (∀ wx : World, Below W3.heap.size W3 wx → wx.heap[w2.heap.size]? = some (.cells #[.slice b1 b2 b3, .slice b4 b5 b6] 33 (0, 0))) := Lib.hid (fun wx hx => (hx.block _ (by omega)).trans hx3)
  have HOK := Lib.hid hok
  have hx3x := hx3
  rw [hW3] at hx3x
  obtain ⟨x1, x2, x3, x4⟩ := box2 hx3x
  have HW3 := Lib.hid hW3
  obtain ⟨P1, A1, ok⟩ := r1
  obtain ⟨P2, A2, ok2⟩ := r2
  obtain rfl : ok = ok2 := hok.1
  clear ht2 hb2 hW3 hb3 hx3 hx3x hta3 hr1 hr2 hok
  go_wp2_with fail
  rw [← HW3.out]
  -- the first cursor
  refine (HC1.out W3 (Below.refl _ _)).mono ?_
  rintro e w4 ⟨v4, rfl, ho4, hb4⟩
  obtain ⟨va4, vc4, rfl⟩ := IntsOwn.shown ho4
  have hs4 := hb4.size
  obtain ⟨W4, hW4⟩ : ∃ W4, W4 = w4.alloc (.cells #[.slice va4 P1.length vc4, .int .i64 A1] 28) := ⟨_, rfl⟩
  have hz4 : w4.heap.size < W4.heap.size := by rw [hW4]; simp
  have hbb4 : Below w4.heap.size w4 W4 := by rw [hW4]; exact (Below.refl _ _).alloc (Nat.le_refl _) _
  have kc4 : W4.heap[w4.heap.size]? = some (.cells #[.slice va4 P1.length vc4, .int .i64 A1] 28 (0, 0)) := by rw [hW4, new_blk]
  have h34 : Below W3.heap.size W3 W4 := hb4.trans (hbb4.mono hs4)
  have HNE : Hid ((Value.slice va4 P1.length vc4).ownBlock ≠ some w4.heap.size) := Lib.hid (fun e => by have := (ho4.lt _ e).2; omega)
  clear x1 x2 x3 x4
  obtain ⟨x1, x2, x3, x4⟩ := box2 (BOX.out W4 h34)
  rw [hW4] at x1 x2 x3 x4
  have H4 := Lib.hid (And.intro h34 (And.intro kc4 (ho4.later hbb4 (Nat.le_refl _))))
  have HW4 := Lib.hid hW4
  clear ho4 hb4 hW4 hbb4 kc4 h34
  go_wp2_with fail
  rw [← HW4.out]
  refine (HC2.out W4 H4.out.1).mono ?_
  rintro e w5 ⟨v5, rfl, ho5, hb5⟩
  obtain ⟨va5, vc5, rfl⟩ := IntsOwn.shown ho5
  have hs5 := hb5.size
  obtain ⟨W5, hW5⟩ : ∃ W5, W5 = w5.alloc (.cells #[.slice va5 P1.length vc5, .int .i64 A1] 28) := ⟨_, rfl⟩
  have hz5 : w5.heap.size < W5.heap.size := by rw [hW5]; simp
  have hbb5 : Below w5.heap.size w5 W5 := by rw [hW5]; exact (Below.refl _ _).alloc (Nat.le_refl _) _
  have kc5 : W5.heap[w5.heap.size]? = some (.cells #[.slice va5 P1.length vc5, .int .i64 A1] 28 (0, 0)) := by rw [hW5, new_blk]
  have h45 : Below W4.heap.size W4 W5 := hb5.trans (hbb5.mono hs5)
  have h35 := H4.out.1.trans (h45.mono H4.out.1.size)
  clear x1 x2 x3 x4
  obtain ⟨x1, x2, x3, x4⟩ := box2 (BOX.out W5 h35)
  rw [hW5] at x1 x2 x3 x4
  have H5 := Lib.hid (And.intro h35 (And.intro h45 (And.intro kc5 (ho5.later hbb5 (Nat.le_refl _)))))
  have HW5 := Lib.hid hW5
  clear ho5 hb5 hW5 hbb5 kc5 h45 h35
  go_wp2_with fail
  rw [← HW5.out]
  -- the last cursor
  refine (HC3.out W5 H5.out.1).mono ?_
  rintro e w6 ⟨v6, rfl, ho6, hb6⟩
  obtain ⟨va6, vc6, rfl⟩ := IntsOwn.shown ho6
  have hs6 := hb6.size
  obtain ⟨W6, hW6⟩ : ∃ W6, W6 = w6.alloc (.cells #[.slice va6 P2.length vc6, .int .i64 A2] 28) := ⟨_, rfl⟩
  have hz6 : w6.heap.size < W6.heap.size := by rw [hW6]; simp
  have hbb6 : Below w6.heap.size w6 W6 := by rw [hW6]; exact (Below.refl _ _).alloc (Nat.le_refl _) _
  have kc6 : W6.heap[w6.heap.size]? = some (.cells #[.slice va6 P2.length vc6, .int .i64 A2] 28 (0, 0)) := by rw [hW6, new_blk]
  have h56 : Below W5.heap.size W5 W6 := hb6.trans (hbb6.mono hs6)
  have h36 := H5.out.1.trans (h56.mono H5.out.1.size)
  clear x1 x2 x3 x4
  obtain ⟨x1, x2, x3, x4⟩ := box2 (BOX.out W6 h36)
  rw [hW6] at x1 x2 x3 x4
  have H6 := Lib.hid (And.intro h36 (And.intro h56 (And.intro kc6 (ho6.later hbb6 (Nat.le_refl _)))))
  have HW6 := Lib.hid hW6
  clear ho6 hb6 hW6 hbb6 kc6 h56 h36
  go_wp2_with fail
  rw [← HW6.out]
  refine (HC4.out W6 H6.out.1).mono ?_
  rintro e w7 ⟨v7, rfl, ho7, hb7⟩
  obtain ⟨va7, vc7, rfl⟩ := IntsOwn.shown ho7
  have hs7 := hb7.size
  obtain ⟨W7, hW7⟩ : ∃ W7, W7 = w7.alloc (.cells #[.slice va7 P2.length vc7, .int .i64 A2] 28) := ⟨_, rfl⟩
  have hz7 : w7.heap.size < W7.heap.size := by rw [hW7]; simp
  have hbb7 : Below w7.heap.size w7 W7 := by rw [hW7]; exact (Below.refl _ _).alloc (Nat.le_refl _) _
  have kc7 : W7.heap[w7.heap.size]? = some (.cells #[.slice va7 P2.length vc7, .int .i64 A2] 28 (0, 0)) := by rw [hW7, new_blk]
  have h67 : Below W6.heap.size W6 W7 := hb7.trans (hbb7.mono hs7)
  -- all boxes, from here on
  have B7 : Hid (∀ wx : World, Below W7.heap.size W7 wx → Below W3.heap.size W3 wx ∧ wx.heap[w4.heap.size]? = some (.cells #[.slice va4 P1.length vc4, .int .i64 A1] 28 (0, 0)) ∧ wx.heap[w5.heap.size]? = some (.cells #[.slice va5 P1.length vc5, .int .i64 A1] 28 (0, 0)) ∧
      wx.heap[w6.heap.size]? = some (.cells #[.slice va6 P2.length vc6, .int .i64 A2] 28 (0, 0)) ∧ wx.heap[w7.heap.size]? = some (.cells #[.slice va7 P2.length vc7, .int .i64 A2] 28 (0, 0)) ∧
      IntsOwn wx W3.heap.size (.slice va4 P1.length vc4) P1 ∧ IntsOwn wx W4.heap.size (.slice va5 P1.length vc5) P1 ∧ IntsOwn wx W5.heap.size (.slice va6 P2.length vc6) P2 ∧ IntsOwn wx W6.heap.size (.slice va7 P2.length vc7) P2) := Lib.hid (fun wx hx => by
    have g6 : Below W6.heap.size W6 wx := h67.trans (hx.mono (by omega))
    have g5 : Below W5.heap.size W5 wx := H6.out.2.1.trans (g6.mono (by omega))
    have g4 : Below W4.heap.size W4 wx := H5.out.2.1.trans (g5.mono (by omega))
    exact ⟨H4.out.1.trans (g4.mono (by omega)), (g4.block _ hz4).trans H4.out.2.1, (g5.block _ hz5).trans H5.out.2.2.1, (g6.block _ hz6).trans H6.out.2.2.1, (hx.block _ hz7).trans kc7,
      H4.out.2.2.later g4 (Nat.le_refl _), H5.out.2.2.2.later g5 (Nat.le_refl _), H6.out.2.2.2.later g6 (Nat.le_refl _), (ho7.later hbb7 (Nat.le_refl _)).later hx (Nat.le_refl _)⟩)
  have hbx := B7.out W7 (Below.refl _ _)
  clear x1 x2 x3 x4
  obtain ⟨x1, x2, -, -⟩ := box2 hbx.2.1
  obtain ⟨y1, y2, -, -⟩ := box2 hbx.2.2.1
  rw [hW7] at x1 x2 y1 y2
  have HW7 := Lib.hid hW7
  have hneb : (ok != ok) = false := by simp
  have heqb : (ok == ok) = true := by simp
  clear hbx ho7 hb7 hW7 hbb7 kc7 h67
  go_wp2_with fail
  rw [← HW7.out]
  refine (ftCursor_c P1 _ _ A1 W7 W7.heap.size (Nat.le_refl _) (B7.out W7 (Below.refl _ _)).2.2.2.2.2.1.in (B7.out W7 (Below.refl _ _)).2.2.2.2.2.2.1.in).mono ?_
  rintro e w8 ⟨rfl, hb8⟩
  have hbx := B7.out w8 hb8
  have hs8 := hb8.size
  clear x1 x2 y1 y2
  obtain ⟨x1, x2, -, -⟩ := box2 hbx.2.2.2.1
  obtain ⟨y1, y2, -, -⟩ := box2 hbx.2.2.2.2.1
  have H8 := Lib.hid hb8
  clear hb8 hbx
  go_wp2_with fail
  refine (ftCursor_c P2 _ _ A2 w8 w8.heap.size (Nat.le_refl _) (B7.out w8 H8.out).2.2.2.2.2.2.2.1.in (B7.out w8 H8.out).2.2.2.2.2.2.2.2.in).mono ?_
  rintro e w9 ⟨rfl, hb9⟩
  have h79 := H8.out.trans (hb9.mono hs8)
  have hs9 := h79.size
  have hbx := B7.out w9 h79
  clear x1 x2 y1 y2
  have H9 := Lib.hid h79
  clear hb9 h79
  cases hok : ok with
  | false =>
    subst hok
    obtain ⟨x1, x2, -, -⟩ := box2 hbx.2.1
    obtain ⟨y1, y2, -, -⟩ := box2 hbx.2.2.1
    clear hbx
    go_wp2_with fail
    refine (ftCursor_c P1 _ _ A1 w9 w9.heap.size (Nat.le_refl _) (B7.out w9 H9.out).2.2.2.2.2.1.in (B7.out w9 H9.out).2.2.2.2.2.2.1.in).mono ?_
    rintro e w10 ⟨rfl, hb10⟩
    have h710 := H9.out.trans (hb10.mono hs9)
    have hs10 := h710.size
    have hbx := B7.out w10 h710
    clear x1 x2 y1 y2
    obtain ⟨x1, x2, -, -⟩ := box2 hbx.2.2.2.1
    obtain ⟨y1, y2, -, -⟩ := box2 hbx.2.2.2.2.1
    have H10 := Lib.hid h710
    clear hb10 h710 hbx
    go_wp2_with fail
    refine (ftCursor_c P2 _ _ A2 w10 w10.heap.size (Nat.le_refl _) (B7.out w10 H10.out).2.2.2.2.2.2.2.1.in (B7.out w10 H10.out).2.2.2.2.2.2.2.2.in).mono ?_
    rintro e w11 ⟨rfl, hb11⟩
    have H11 := Lib.hid (HF.out w11 (B7.out w11 (H10.out.trans (hb11.mono hs10))).1)
    clear hb11
    go_wp2_with fail
    go_ret
    exact ⟨rfl, H11.out⟩
  | true =>
    subst hok
    obtain ⟨hsome, hlen, he1, he2⟩ := HOK.out.2 rfl
    obtain ⟨x1, x2, -, -⟩ := box2 (BOX.out w9 hbx.1)
    have HSM := Lib.hid (And.intro hsome (And.intro he1 he2))
    clear hbx hsome he1 he2
    go_wp2_with fail
    -- all keys
    refine (HC5.out w9 (B7.out w9 H9.out).1).mono ?_
    rintro e w12 ⟨v12, rfl, ho12, hb12⟩
    obtain ⟨va12, vc12, rfl⟩ := IntsOwn.shown ho12
    have h712 := H9.out.trans (hb12.mono hs9)
    have hs12 := h712.size
    have H12 := Lib.hid (And.intro h712 ho12)
    clear hb12 h712 ho12 x1 x2
    obtain ⟨K, hK⟩ : ∃ K, K = t.keys := ⟨_, rfl⟩
    rw [← hK] at hlen
    have HKF : Hid (∀ j, j < K.length → Tr.curB t (Tr.curAt t j).1 (Tr.curAt t j).2.1 = true ∧ Tr.curK t (Tr.curAt t j).1 (Tr.curAt t j).2.1 = K.getD j 0 ∧ (Tr.curAt t j).2.2 = true ∧ (Tr.curAt t j).1.length ≤ 5 ∧
      Tr.walkB t (Tr.curAt t j).1 (Tr.curAt t j).2.1 (fun K' => Tr.goF (K' + 1) t (Tr.curAt t j).1) = (if j + 1 < K.length then Tr.curAt t (j + 1) else ([], 0, false))) := Lib.hid (fun j hj => by rw [hK] at hj ⊢; exact Tr.curAt_facts HSM.out.1 hj)
    have H12' := Lib.hid (show Below W7.heap.size W7 w12 ∧ IntsOwn w12 w9.heap.size (.slice va12 K.length vc12) K by rw [hK]; exact H12.out)
    have hKm : K.length ≤ 9223372036854775807 := by
      obtain ⟨_, _, _, g1, g2, -⟩ := H12'.out.2.in
      unfold maxLen at g2
      omega
    have HK := Lib.hid hK
    rw [← hK]
    have hlt49 : w4.heap.size < w9.heap.size := by omega
    have hbc := (B7.out w12 H12'.out.1)
    have hbase3 : W3.heap.size ≤ w4.heap.size := hs4
    have hfirst : Tr.curAt t 0 = (P1, A1, true) := HSM.out.2.1.symm
    have HB12 := Lib.hid (And.intro hbc.2.1 (And.intro hbc.2.2.2.2.2.1 hfirst))
    have HLAST := Lib.hid (show Tr.curAt t (K.length - 1) = (P2, A2, true) by rw [hK]; exact HSM.out.2.2.symm)
    clear hK hbc hfirst H12
    go_wp2_with fail
    go_loopw [13, 14, 15, 16, 17, 18, 90] (fun _ _ _ _ _ _ s90 wr => ∃ (j : Nat) (P : List Int) (A : Int) (va : Option Addr) (vc : Nat), j ≤ K.length ∧ s90 = .int .i64 (j : Int) ∧ wr.heap[w4.heap.size]? = some (.cells #[.slice va P.length vc, .int .i64 A] 28 (0, 0)) ∧
      Hid (IntsOwn wr W3.heap.size (.slice va P.length vc) P) ∧ Hid ((Value.slice va P.length vc).ownBlock ≠ some w4.heap.size) ∧ Hid (j < K.length → Tr.curAt t j = (P, A, true)) ∧ Hid (Only w12.heap.size w4.heap.size w12 wr)) (fun _ _ _ _ _ _ s90 _ => K.length - (intOf s90).toNat)
    case atStart => exact ⟨0, P1, A1, va4, vc4, Nat.zero_le _, rfl, HB12.out.1, Lib.hid HB12.out.2.1, HNE, Lib.hid (fun _ => HB12.out.2.2), Lib.hid (Only.refl _ _ _)⟩
    case round =>
      obtain ⟨j, P, A, va, vc, hj, rfl, hcx, HCI, HCN, HCA, HON⟩ := hrel
      have hrs := HON.out.size
      -- the world ahead of the round, by what it keeps
      have h3r : Below W3.heap.size W3 wr := (B7.out w12 H12'.out.1).1.trans (HON.out.below (B := W3.heap.size) (by omega) (by omega))
      have hFr := HF.out wr h3r
      by_cases hlt : j < K.length
      · have hca := HCA.out hlt
        obtain ⟨f1, f2, -, f4, f5⟩ := HKF.out j hlt
        rw [hca] at f1 f2 f4 f5
        simp only at f1 f2 f4 f5
        have hkeys := H12'.out.2.only HON.out (Nat.le_refl _) hlt49
        obtain ⟨_, _, hve, -, -, -, h3⟩ := hkeys.in
        simp only [Value.slice.injEq] at hve
        obtain ⟨rfl, -, rfl⟩ := hve
        rcases h3 with hh | ⟨kb, ko, rfl, hkb, hkc⟩
        · rw [hh] at hlt; simp at hlt
        have hkj := hkc j hlt
        obtain ⟨x, hx⟩ : ∃ x, x = K.getD j 0 := ⟨_, rfl⟩
        rw [← hx] at hkj f2
        have hjl : (j : Int) < (K.length : Int) := by omega
        obtain ⟨x1, x2, x3, x4⟩ := box2 (BOX.out wr h3r)
        obtain ⟨y1, y2, y3, y4⟩ := box2 hcx
        have HCK := Lib.hid (HC6.out wr (.slice va P.length vc) P A h3r HCI.out.in)
        rw [f1, f2] at HCK
        obtain ⟨r', hr'⟩ : ∃ r', r' = (if j + 1 < K.length then Tr.curAt t (j + 1) else ([], 0, false)) := ⟨_, rfl⟩
        rw [← hr'] at f5
        have HFW : Hid (∀ (wx : World), Below wr.heap.size wr wx → Calls Tryd.prog 31 #[.agg #[.slice b1 b2 b3, .slice b4 b5 b6], .agg #[.slice va P.length vc, .int .i64 A]] wx (Walked wx r')) := Lib.hid (fun wx hx => by
          have h3x : Below W3.heap.size W3 wx := h3r.trans (hx.mono h3r.size)
          have := HC7.out wx (.slice va P.length vc) P A h3x (HCI.out.later hx (Nat.le_refl _)).in
          rw [f5] at this
          exact this)
        have HR' := Lib.hid hr'
        have HR3 := Lib.hid (And.intro h3r (And.intro hcx hca))
        have hnex : (x != x) = false := by simp
        clear h3r hFr hca f1 f2 f4 f5 hkeys hkc hx hr' hcx hkb
        go_wp2_with fail
        refine HCK.out.mono ?_
        rintro e w13 ⟨rfl, hb13⟩
        have hs13 := hb13.size
        have h3x := HR3.out.1.trans (hb13.mono HR3.out.1.size)
        have hwc := Array.getElem?_eq_some_iff.1 HR3.out.2.1
        have hcx := (hb13.block w4.heap.size hwc.1).trans HR3.out.2.1
        clear x1 x2 x3 x4 y1 y2 y3 y4
        obtain ⟨x1, x2, x3, x4⟩ := box2 (BOX.out w13 h3x)
        obtain ⟨y1, y2, y3, y4⟩ := box2 hcx
        have H13 := Lib.hid hb13
        clear hb13 h3x hcx hwc
        go_wp2_with fail
        refine (HFW.out w13 H13.out).mono ?_
        rintro e w14 ⟨v14, rfl, ho14, hb14⟩
        obtain ⟨P', A', ok'⟩ := r'
        obtain ⟨va14, vc14, rfl⟩ := IntsOwn.shown ho14
        have hs14 := hb14.size
        obtain ⟨W15, hW15⟩ : ∃ W15, W15 = w14.alloc (.cells #[.slice va14 P'.length vc14, .int .i64 A'] 28) := ⟨_, rfl⟩
        have hz15 : w14.heap.size < W15.heap.size := by rw [hW15]; simp
        have hbb15 : Below w14.heap.size w14 W15 := by rw [hW15]; exact (Below.refl _ _).alloc (Nat.le_refl _) _
        have kn15 : W15.heap[w14.heap.size]? = some (.cells #[.slice va14 P'.length vc14, .int .i64 A'] 28 (0, 0)) := by rw [hW15, new_blk]
        have hr15 : Below wr.heap.size wr W15 := H13.out.trans ((hb14.mono hs13).trans (hbb15.mono (by omega)))
        have ho15 := ho14.later hbb15 (Nat.le_refl _)
        have hcw := (Array.getElem?_eq_some_iff.1 HR3.out.2.1).1
        have hcx := (hr15.block w4.heap.size hcw).trans HR3.out.2.1
        have hlx : W15.heap[w6.heap.size]? = some (.cells #[.slice va6 P2.length vc6, .int .i64 A2] 28 (0, 0)) :=
          (hr15.block w6.heap.size (by omega)).trans ((HON.out.block w6.heap.size (by omega) (by omega)).trans (B7.out w12 H12'.out.1).2.2.2.1)
        have hne14 : (Value.slice va14 P'.length vc14).ownBlock ≠ some w4.heap.size := fun e => by have := (ho14.lt _ e).1; omega
        clear x1 x2 x3 x4 y1 y2 y3 y4
        obtain ⟨x1, x2, x3, x4⟩ := box2 hcx
        obtain ⟨y1, y2, y3, y4⟩ := box2 hlx
        obtain ⟨z1, z2, z3, z4⟩ := box2 kn15
        rw [hW15] at x1 x2 x3 x4 y1 y2 y3 y4 z1 z2 z3 z4
        have H15 := Lib.hid (And.intro hr15 (And.intro ho15 (And.intro hcx (And.intro kn15 hne14))))
        have HW15 := Lib.hid hW15
        have hKw : IntKind.i64.wrap ((K.length : Int) - 1) = (K.length : Int) - 1 := by rw [IntKind.wrap_i64]; omega
        -- what the round leaves, whichever way
        have HEND : Hid (∀ wy : World, Below W15.heap.size W15 wy → j + 1 ≤ K.length ∧
            ((wy.setCell ⟨w4.heap.size, 0, none⟩ (.slice va14 P'.length vc14)).setCell ⟨w4.heap.size, 1, none⟩ (.int .i64 A')).heap[w4.heap.size]? = some (.cells #[.slice va14 P'.length vc14, .int .i64 A'] 28 (0, 0)) ∧
            IntsOwn ((wy.setCell ⟨w4.heap.size, 0, none⟩ (.slice va14 P'.length vc14)).setCell ⟨w4.heap.size, 1, none⟩ (.int .i64 A')) W3.heap.size (.slice va14 P'.length vc14) P' ∧
            Only w12.heap.size w4.heap.size w12 ((wy.setCell ⟨w4.heap.size, 0, none⟩ (.slice va14 P'.length vc14)).setCell ⟨w4.heap.size, 1, none⟩ (.int .i64 A'))) := Lib.hid (fun wy hy => by
          have hry : Below wr.heap.size wr wy := hr15.trans (hy.mono hr15.size)
          have hoy := ho15.later hy (Nat.le_refl _)
          refine ⟨by omega, set_blk (o := 1) _ (set_blk (o := 0) _ ((hry.block w4.heap.size hcw).trans HR3.out.2.1)), ?_, ?_⟩
          · exact (hoy.only (w' := (wy.setCell ⟨w4.heap.size, 0, none⟩ (.slice va14 P'.length vc14)).setCell ⟨w4.heap.size, 1, none⟩ (.int .i64 A')) (C := wy.heap.size) (r := w4.heap.size) ⟨rfl, rfl, rfl, by simp, fun k _ hne => by rw [set_other _ _ _ _ _ hne, set_other _ _ _ _ _ hne]⟩ (Nat.le_refl _) (by omega)).lower (by omega)
          · have ho := HON.out
            exact ⟨hry.os.trans ho.os, hry.tape.trans ho.tape, hry.output.trans ho.output, by have := hry.size; simp; omega, fun k h1 hne => by
              rw [set_other _ _ _ _ _ hne, set_other _ _ _ _ _ hne]; exact (hry.block k (by omega)).trans (ho.block k h1 hne)⟩)
        clear ho14 hb14 hbb15 hcx hlx kn15 hr15 ho15 hne14 hW15 hcw
        by_cases hj1 : j + 1 < K.length
        · have hr2 : (P', A', ok') = Tr.curAt t (j + 1) := by rw [HR'.out, if_pos hj1]
          have hok' : ok' = true := by have := (HKF.out (j + 1) hj1).2.2.1; rw [← hr2] at this; exact this
          subst hok'
          have HN := Lib.hid hr2
          have hjl1 : (j : Int) < (K.length : Int) - 1 := by omega
          clear hr2
          go_wp2_with fail
          rw [← HW15.out]
          go_roundw
          case rel =>
            obtain ⟨e1, e2, e3, e4⟩ := HEND.out W15 (Below.refl _ _)
            exact ⟨j + 1, P', A', va14, vc14, e1, by go_num, e2, Lib.hid e3, Lib.hid H15.out.2.2.2.2, Lib.hid (fun _ => HN.out.symm), Lib.hid e4⟩
          case measure => simp [intOf]; omega
        · have hr2 : (P', A', ok') = ([], 0, false) := by rw [HR'.out, if_neg hj1]
          have hok' : ok' = false := by have := congrArg (fun z => z.2.2) hr2; exact this
          subst hok'
          have hjl1 : ¬ (j : Int) < (K.length : Int) - 1 := by omega
          have hje : j = K.length - 1 := by omega
          have hcl : (P, A, true) = (P2, A2, true) := by rw [← HR3.out.2.2, hje]; exact HLAST.out
          obtain ⟨rfl, rfl⟩ : P = P2 ∧ A = A2 := by simp only [Prod.mk.injEq] at hcl; exact ⟨hcl.1, hcl.2.1⟩
          have hlo : IntsOwn wr W5.heap.size (.slice va6 P.length vc6) P := ((B7.out w12 H12'.out.1).2.2.2.2.2.2.2.1).only HON.out (Nat.le_refl _) (by omega)
          have HFT := Lib.hid (ftCursor_c P _ _ A W15 W15.heap.size (Nat.le_refl _) ((HCI.out.later H15.out.1 (Nat.le_refl _)).in) ((hlo.later H15.out.1 (Nat.le_refl _)).in))
          clear hr2 hcl hlo hje
          go_wp2_with fail
          rw [← HW15.out]
          refine HFT.out.mono ?_
          rintro e w16 ⟨rfl, hb16⟩
          have hs16 := hb16.size
          have hcx := (hb16.block w4.heap.size (by have := (Array.getElem?_eq_some_iff.1 H15.out.2.2.1).1; omega)).trans H15.out.2.2.1
          have hnx := (hb16.block w14.heap.size hz15).trans H15.out.2.2.2.1
          clear x1 x2 x3 x4 y1 y2 y3 y4 z1 z2 z3 z4
          obtain ⟨x1, x2, x3, x4⟩ := box2 hcx
          obtain ⟨z1, z2, z3, z4⟩ := box2 hnx
          have H16 := Lib.hid hb16
          clear hb16 hcx hnx
          go_wp2_with fail
          go_roundw
          case rel =>
            obtain ⟨e1, e2, e3, e4⟩ := HEND.out w16 H16.out
            exact ⟨j + 1, P', A', va14, vc14, e1, by go_num, e2, Lib.hid e3, Lib.hid H15.out.2.2.2.2, Lib.hid (fun hh => absurd hh hj1), Lib.hid e4⟩
          case measure => simp [intOf]; omega
      · have hjl : ¬ (j : Int) < (K.length : Int) := by omega
        have HFE := Lib.hid hFr
        clear h3r hFr hcx
        go_wp2_with fail
        go_ret
        exact ⟨rfl, HFE.out⟩
end Go.Proofs.YticfkfjijnfcbaaDoor
