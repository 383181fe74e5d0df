/- The law on cursors that go back from the last key: the walk over the contracts. -/
import Derived.Test.YticfkfjijnfcbaaDoorProg
import Derived.Test.YticfkfjijnfcbaaDoorSh0
import Derived.Test.YticfkfjijnfcbaaDoorSh18
import Derived.Test.YticfkfjijnfcbaaDoorSh19
import Derived.Test.YticfkfjijnfcbaaDoorDrawFmt
import Derived.Test.YticfkfjijnfcbaaDoorSh24
import Derived.Test.YticfkfjijnfcbaaDoorSh9
import Derived.Test.YticfkfjijnfcbaaDoorDepthA
import Derived.Test.YticfkfjijnfcbaaDoorSh10
import Derived.Test.YticfkfjijnfcbaaDoorSh15
import Derived.Test.YticfkfjijnfcbaaDoorCurEq
import Derived.Test.YticfkfjijnfcbaaDoorCurBack
import Derived.Test.YticfkfjijnfcbaaDoorSh16
import Derived.Deep.RegionHeld3
namespace Go.Proofs.YticfkfjijnfcbaaDoor
open Go.RowKit

set_option maxHeartbeats 4000000 in
set_option maxRecDepth 100000 in
theorem fnCursorBack_c {w : World} {v : Value} {bs : List Nat} (h : BytesIn w w.heap.size v bs) (s s2 : Addr)
    (hV : w.cell? ⟨0, 0, none⟩ = some (.iface 174 (.pointer (some s))) ∧ w.cell? ⟨1, 0, none⟩ = some (.iface 174 (.pointer (some s2)))) (h0 : 1 < w.heap.size) :
    Calls Tryd.prog 12 #[v] w fun e w' => e = .returned (.bool true) ∧ Below w.heap.size w w' := by
  have VAR : Hid (∀ wx : World, Below w.heap.size w wx → wx.cell? ⟨0, 0, none⟩ = some (.iface 174 (.pointer (some s))) ∧ wx.cell? ⟨1, 0, none⟩ = some (.iface 174 (.pointer (some s2)))) :=
    Lib.hid (fun wx hx => ⟨(below_cell hx (by show 0 < _; omega)).trans hV.1, (below_cell hx (by show 1 < _; omega)).trans hV.2⟩)
  have H := Lib.hid h
  obtain ⟨a1, c1, rfl, -⟩ := h
  clear hV
  by_cases hc1 : bs.length ≤ 1048576
  case neg =>
    have hc1' : ((bs.length : Int) > 1048576) := by omega
    go_enter Tryd.func12, Tryd.ntmps12
    go_wp2_with fail
    go_ret
    exact ⟨rfl, Below.refl _ _⟩
  have hc1' : ¬ ((bs.length : Int) > 1048576) := by omega
  have HD := Lib.hid (drawLast_c H.out w (Below.refl _ _) (Nat.le_refl _))
  go_enter Tryd.func12, Tryd.ntmps12
  go_wp2_with fail
  refine HD.out.mono ?_
  rintro e w2 ⟨k2, d2, t, rfl, ht2, hw2, hb2⟩
  obtain ⟨b1, b2, b3, b4, b5, b6, rfl, rfl⟩ := ht2.slices
  have hs2 := hb2.size
  obtain ⟨W3, hW3⟩ : ∃ W3, W3 = w2.alloc (.cells #[.slice b1 b2 b3, .slice b4 b5 b6] 33) := ⟨_, rfl⟩
  have hs3 : w2.heap.size < W3.heap.size := by rw [hW3]; simp
  have hb3 : Below w2.heap.size w2 W3 := by rw [hW3]; exact (Below.refl _ _).alloc (Nat.le_refl _) _
  have hx3 : W3.heap[w2.heap.size]? = some (.cells #[.slice b1 b2 b3, .slice b4 b5 b6] 33 (0, 0)) := by rw [hW3, new_blk]
  have hta3 : TreeA W3 (.slice b1 b2 b3) (.slice b4 b5 b6) t := (ht2.a (fun k hk => hk.2)).later hb3 (Nat.le_refl _)
  have hwt : t.weight ≤ 1048576 := by omega
  have HF : Hid (∀ wx : World, Below W3.heap.size W3 wx → Below w.heap.size w wx) := Lib.hid (fun wx hx => (hb2.trans (hb3.mono (by omega))).trans (hx.mono (by omega)))
  obtain ⟨r2, hr2⟩ : ∃ r, r = Tr.walkB t [] 0 (fun _ => Tr.goB 100 t []) := ⟨_, rfl⟩
  have HC3 : Hid (∀ wx : World, Below W3.heap.size W3 wx → Calls Tryd.prog 25 #[.agg #[.slice b1 b2 b3, .slice b4 b5 b6]] wx (Walked wx r2)) := Lib.hid (fun wx hx => by
    rw [hr2]; exact impl_last_c hta3.tree hwt s s2 wx hx hx.size (fun wy hy => VAR.out wy (HF.out wy (hx.trans (hy.mono hx.size)))))
  have HC4 : Hid (∀ wx : World, Below W3.heap.size W3 wx → Calls Tryd.prog 24 #[.agg #[.slice b1 b2 b3, .slice b4 b5 b6]] wx (Told wx r2)) := Lib.hid (fun wx hx => by
    rw [hr2, Tr.last_eq]; exact specLast_c hta3.tree hwt wx hx hx.size)
  have HC5 : Hid (∀ wx : World, Below W3.heap.size W3 wx → Calls Tryd.prog 36 #[.agg #[.slice b1 b2 b3, .slice b4 b5 b6]] wx fun e w'' => ∃ v, e = .returned v ∧ IntsOwn w'' wx.heap.size v t.keys ∧ Below wx.heap.size wx w'') :=
    Lib.hid (fun wx hx => impl_keys_a (hta3.later hx (Nat.le_refl _)) hwt)
  have HC6 : Hid (∀ (wx : World) (v : Value) (P : List Int) (A : Int), Below W3.heap.size W3 wx → IntsIn wx wx.heap.size v P → Calls Tryd.prog 37 #[.agg #[.slice b1 b2 b3, .slice b4 b5 b6], .agg #[v, .int .i64 A]] wx fun e w'' => e = .returned (.tuple #[.int .i64 (Tr.curK t P A), .bool (Tr.curB t P A)]) ∧ Below wx.heap.size wx w'') :=
    Lib.hid (fun wx v P A hx hi => impl_cursorKey ((hta3.later hx (Nat.le_refl _)).tree) hwt hi A s wx (Below.refl _ _) (Nat.le_refl _) (fun wy hy => (VAR.out wy (HF.out wy (hx.trans (hy.mono hx.size)))).1))
  have HC7 : Hid (∀ (wx : World) (v : Value) (P : List Int) (A : Int), Below W3.heap.size W3 wx → IntsIn wx wx.heap.size v P → Calls Tryd.prog 33 #[.agg #[.slice b1 b2 b3, .slice b4 b5 b6], .agg #[v, .int .i64 A]] wx (Walked wx (Tr.walkB t P A (fun K => Tr.goB K t P)))) :=
    Lib.hid (fun wx v P A hx hi => impl_backward_c ((hta3.later hx (Nat.le_refl _)).tree) hwt hi A s s2 wx (Below.refl _ _) (Nat.le_refl _) (fun wy hy => VAR.out wy (HF.out wy (hx.trans (hy.mono hx.size)))))
  have HC8 : Hid (∀ wx : World, Below W3.heap.size W3 wx → Calls Tryd.prog 50 #[.agg #[.slice b1 b2 b3, .slice b4 b5 b6]] wx fun e w'' => e = .returned (.int .i64 t.depth) ∧ Below wx.heap.size wx w'') :=
    Lib.hid (fun wx hx => impl_depth_a (hta3.later hx (Nat.le_refl _)) hwt)
  rw [Tr.whole_last] at hr2
  have hok : r2.2.2 = true → t.someB = true ∧ 0 < t.keys.length ∧ r2 = Tr.curAt t (t.keys.length - 1) := by
    by_cases hh : t.someB = true ∧ 0 < t.keys.length
    · rw [if_pos hh] at hr2
      exact fun _ => ⟨hh.1, hh.2, hr2⟩
    · rw [if_neg hh] at hr2
      rw [hr2]
      exact fun h => by cases h
  have BOX : Hid (∀ wx : World, Below W3.heap.size W3 wx → wx.heap[w2.heap.size]? = some (.cells #[.slice b1 b2 b3, .slice b4 b5 b6] 33 (0, 0))) := Lib.hid (fun wx hx => (hx.block _ (by omega)).trans hx3)
  have HOK := Lib.hid hok
  have hx3x := hx3
  rw [hW3] at hx3x
  obtain ⟨x1, x2, x3, x4⟩ := box2 hx3x
  have HW3 := Lib.hid hW3
  obtain ⟨P1, A1, ok⟩ := r2
  clear ht2 hb2 hW3 hb3 hx3 hx3x hta3 hr2 hok
  go_wp2_with fail
  rw [← HW3.out]
  -- the last cursor
  refine (HC3.out W3 (Below.refl _ _)).mono ?_
  rintro e w4 ⟨v4, rfl, ho4, hb4⟩
  obtain ⟨va4, vc4, rfl⟩ := IntsOwn.shown ho4
  have hs4 := hb4.size
  obtain ⟨W4, hW4⟩ : ∃ W4, W4 = w4.alloc (.cells #[.slice va4 P1.length vc4, .int .i64 A1] 28) := ⟨_, rfl⟩
  have hz4 : w4.heap.size < W4.heap.size := by rw [hW4]; simp
  have hbb4 : Below w4.heap.size w4 W4 := by rw [hW4]; exact (Below.refl _ _).alloc (Nat.le_refl _) _
  have kc4 : W4.heap[w4.heap.size]? = some (.cells #[.slice va4 P1.length vc4, .int .i64 A1] 28 (0, 0)) := by rw [hW4, new_blk]
  have h34 : Below W3.heap.size W3 W4 := hb4.trans (hbb4.mono hs4)
  have HNE : Hid ((Value.slice va4 P1.length vc4).ownBlock ≠ some w4.heap.size) := Lib.hid (fun e => by have := (ho4.lt _ e).2; omega)
  clear x1 x2 x3 x4
  obtain ⟨x1, x2, x3, x4⟩ := box2 (BOX.out W4 h34)
  rw [hW4] at x1 x2 x3 x4
  have H4 := Lib.hid (And.intro h34 (And.intro kc4 (ho4.later hbb4 (Nat.le_refl _))))
  have HW4 := Lib.hid hW4
  clear ho4 hb4 hW4 hbb4 kc4 h34
  go_wp2_with fail
  rw [← HW4.out]
  refine (HC4.out W4 H4.out.1).mono ?_
  rintro e w5 ⟨v5, rfl, ho5, hb5⟩
  obtain ⟨va5, vc5, rfl⟩ := IntsOwn.shown ho5
  have hs5 := hb5.size
  obtain ⟨W7, hW7⟩ : ∃ W5, W5 = w5.alloc (.cells #[.slice va5 P1.length vc5, .int .i64 A1] 28) := ⟨_, rfl⟩
  have hz5 : w5.heap.size < W7.heap.size := by rw [hW7]; simp
  have hbb5 : Below w5.heap.size w5 W7 := by rw [hW7]; exact (Below.refl _ _).alloc (Nat.le_refl _) _
  have h45 : Below W4.heap.size W4 W7 := hb5.trans (hbb5.mono hs5)
  have B7 : Hid (∀ wx : World, Below W7.heap.size W7 wx → Below W3.heap.size W3 wx ∧ wx.heap[w4.heap.size]? = some (.cells #[.slice va4 P1.length vc4, .int .i64 A1] 28 (0, 0)) ∧ IntsOwn wx W3.heap.size (.slice va4 P1.length vc4) P1) := Lib.hid (fun wx hx => by
    have g4 : Below W4.heap.size W4 wx := h45.trans (hx.mono (by omega))
    exact ⟨H4.out.1.trans (g4.mono (by omega)), (g4.block _ hz4).trans H4.out.2.1, H4.out.2.2.later g4 (Nat.le_refl _)⟩)
  have hbx := B7.out W7 (Below.refl _ _)
  have HW7 := Lib.hid hW7
  have hneb : (ok != ok) = false := by simp
  clear x1 x2 x3 x4
  obtain ⟨x1, x2, -, -⟩ := box2 (BOX.out W7 hbx.1)
  rw [hW7] at x1 x2
  have HFW7 := Lib.hid (HF.out W7 hbx.1)
  clear hbx ho5 hb5 hW7 hbb5 h45
  cases hok : ok with
  | false =>
    subst hok
    go_wp2_with fail
    rw [← HW7.out]
    go_ret
    exact ⟨rfl, HFW7.out⟩
  | true =>
    subst hok
    obtain ⟨hsome, hlen, he2⟩ := HOK.out rfl
    have HSM := Lib.hid (And.intro hsome he2)
    clear hsome he2
    go_wp2_with fail
    rw [← HW7.out]
    -- all keys
    refine (HC5.out W7 (B7.out W7 (Below.refl _ _)).1).mono ?_
    rintro e w12 ⟨v12, rfl, ho12, hb12⟩
    obtain ⟨va12, vc12, rfl⟩ := IntsOwn.shown ho12
    have hs12 := hb12.size
    have H12 := Lib.hid (And.intro hb12 ho12)
    clear hb12 ho12 x1 x2
    obtain ⟨K, hK⟩ : ∃ K, K = t.keys := ⟨_, rfl⟩
    rw [← hK] at hlen
    have HKF : Hid (∀ j, j < K.length → Tr.curB t (Tr.curAt t j).1 (Tr.curAt t j).2.1 = true ∧ Tr.curK t (Tr.curAt t j).1 (Tr.curAt t j).2.1 = K.getD j 0 ∧ (Tr.curAt t j).2.2 = true ∧ (Tr.curAt t j).1.length < t.depth ∧
      Tr.walkB t (Tr.curAt t j).1 (Tr.curAt t j).2.1 (fun K' => Tr.goB K' t (Tr.curAt t j).1) = (if 0 < j then Tr.curAt t (j - 1) else ([], 0, false))) := Lib.hid (fun j hj => by
        rw [hK] at hj ⊢
        have h := Tr.curAt_facts HSM.out.1 hj
        exact ⟨h.1, h.2.1, h.2.2.1, Tr.curAt_deep HSM.out.1 hj, Tr.curAt_back HSM.out.1 hj⟩)
    have H12' := Lib.hid (show Below W7.heap.size W7 w12 ∧ IntsOwn w12 W7.heap.size (.slice va12 K.length vc12) K by rw [hK]; exact H12.out)
    have hKm : K.length ≤ 9223372036854775807 := by
      obtain ⟨_, _, _, g1, g2, -⟩ := H12'.out.2.in
      unfold maxLen at g2
      omega
    have hdw := Tr.depth_le_weight t
    have HK := Lib.hid hK
    rw [← hK]
    have hlt49 : w4.heap.size < W7.heap.size := by omega
    have hbc := (B7.out w12 H12'.out.1)
    have hbase3 : W3.heap.size ≤ w4.heap.size := hs4
    have HB12 := Lib.hid (And.intro hbc.2.1 (And.intro hbc.2.2 (show Tr.curAt t (K.length - 1) = (P1, A1, true) by rw [hK]; exact HSM.out.2.symm)))
    have hKw : IntKind.i64.wrap ((K.length : Int) - 1) = (K.length : Int) - 1 := by rw [IntKind.wrap_i64]; omega
    clear hK hbc H12
    go_wp2_with fail
    go_loopw [9, 10, 11, 12, 13] (fun s9 _ _ _ _ wr => ∃ (m : Nat) (x : Int) (P : List Int) (A : Int) (va : Option Addr) (vc : Nat), m ≤ K.length ∧ s9 = .int .i64 x ∧ x = (m : Int) - 1 ∧ wr.heap[w4.heap.size]? = some (.cells #[.slice va P.length vc, .int .i64 A] 28 (0, 0)) ∧
      Hid (IntsOwn wr W3.heap.size (.slice va P.length vc) P) ∧ Hid ((Value.slice va P.length vc).ownBlock ≠ some w4.heap.size) ∧ Hid (0 < m → Tr.curAt t (m - 1) = (P, A, true)) ∧ Hid (Only w12.heap.size w4.heap.size w12 wr)) (fun s9 _ _ _ _ _ => (intOf s9 + 1).toNat)
    case atStart => exact ⟨K.length, (K.length : Int) - 1, P1, A1, va4, vc4, Nat.le_refl _, rfl, rfl, HB12.out.1, Lib.hid HB12.out.2.1, HNE, Lib.hid (fun _ => HB12.out.2.2), Lib.hid (Only.refl _ _ _)⟩
    case round =>
      obtain ⟨m, x0, P, A, va, vc, hm, rfl, hx0, hcx, HCI, HCN, HCA, HON⟩ := hrel
      have hrs := HON.out.size
      have h3r : Below W3.heap.size W3 wr := (B7.out w12 H12'.out.1).1.trans (HON.out.below (B := W3.heap.size) (by omega) (by omega))
      have hFr := HF.out wr h3r
      cases m with
      | zero =>
        have hneg : ¬ (x0 ≥ 0) := by omega
        have HFE := Lib.hid hFr
        clear h3r hFr hcx hx0
        go_wp2_with fail
        go_ret
        exact ⟨rfl, HFE.out⟩
      | succ j =>
        have hlt : j < K.length := by omega
        obtain rfl : x0 = (j : Int) := by omega
        have hca := HCA.out (Nat.succ_pos j)
        rw [Nat.add_sub_cancel] at hca
        obtain ⟨f1, f2, -, f4, f5⟩ := HKF.out j hlt
        rw [hca] at f1 f2 f4 f5
        simp only at f1 f2 f4 f5
        have hkeys := H12'.out.2.only HON.out (Nat.le_refl _) hlt49
        obtain ⟨_, _, hve, -, -, -, h3⟩ := hkeys.in
        simp only [Value.slice.injEq] at hve
        obtain ⟨rfl, -, rfl⟩ := hve
        rcases h3 with hh | ⟨kb, ko, rfl, hkb, hkc⟩
        · rw [hh] at hlt; simp at hlt
        have hkj := hkc j hlt
        obtain ⟨x, hx⟩ : ∃ x, x = K.getD j 0 := ⟨_, rfl⟩
        rw [← hx] at hkj f2
        have hjl : (j : Int) < (K.length : Int) := by omega
        have hj0 : (0 : Int) ≤ (j : Int) := by omega
        have hjg : (j : Int) ≥ 0 := hj0
        obtain ⟨x1, x2, x3, x4⟩ := box2 (BOX.out wr h3r)
        obtain ⟨y1, y2, y3, y4⟩ := box2 hcx
        have HCK := Lib.hid (HC6.out wr (.slice va P.length vc) P A h3r HCI.out.in)
        rw [f1, f2] at HCK
        obtain ⟨r', hr'⟩ : ∃ r', r' = (if 0 < j then Tr.curAt t (j - 1) else ([], 0, false)) := ⟨_, rfl⟩
        rw [← hr'] at f5
        have HFW : Hid (∀ (wx : World), Below wr.heap.size wr wx → Calls Tryd.prog 33 #[.agg #[.slice b1 b2 b3, .slice b4 b5 b6], .agg #[.slice va P.length vc, .int .i64 A]] wx (Walked wx r')) := Lib.hid (fun wx hx => by
          have h3x : Below W3.heap.size W3 wx := h3r.trans (hx.mono h3r.size)
          have := HC7.out wx (.slice va P.length vc) P A h3x (HCI.out.later hx (Nat.le_refl _)).in
          rw [f5] at this
          exact this)
        have HR' := Lib.hid hr'
        have HR3 := Lib.hid (And.intro h3r (And.intro hcx (And.intro hca (And.intro hkb hkj))))
        have hnex : (x != x) = false := by simp
        have hdeep : ¬ ((P.length : Int) ≥ (t.depth : Int)) := by omega
        clear h3r hFr hca f1 f2 f4 f5 hkeys hkc hx hr' hcx hkj hx0
        go_wp2_with fail
        refine HCK.out.mono ?_
        rintro e w13 ⟨rfl, hb13⟩
        have hs13 := hb13.size
        have hwc := (Array.getElem?_eq_some_iff.1 HR3.out.2.1).1
        -- what holds as long as the round reads
        have RB : Hid (∀ wx : World, Below wr.heap.size wr wx → wx.cell? ⟨w2.heap.size, 0, none⟩ = some (.slice b1 b2 b3) ∧ wx.cell? ⟨w2.heap.size, 1, none⟩ = some (.slice b4 b5 b6) ∧ wx.cell? ⟨w4.heap.size, 0, none⟩ = some (.slice va P.length vc) ∧ wx.cell? ⟨kb, ko + j, none⟩ = some (.int .i64 x) ∧ wx.cell? ⟨w4.heap.size, 1, none⟩ = some (.int .i64 A)) := Lib.hid (fun wx hx => by
          obtain ⟨g1, g2, -, -⟩ := box2 (BOX.out wx (HR3.out.1.trans (hx.mono HR3.out.1.size)))
          obtain ⟨g3, g4, -, -⟩ := box2 ((hx.block w4.heap.size hwc).trans HR3.out.2.1)
          exact ⟨g1, g2, g3, by rw [below_cell hx HR3.out.2.2.2.1]; exact HR3.out.2.2.2.2, g4⟩)
        have H13 := Lib.hid hb13
        obtain ⟨e1, e2, e3, e4, -⟩ := RB.out w13 hb13
        clear hb13 x1 x2 x3 x4 y1 y2 y3 y4
        go_wp2_with fail
        go_region_held3 (fun z => z.cell? ⟨w2.heap.size, 0, none⟩ = some (.slice b1 b2 b3) ∧ z.cell? ⟨w2.heap.size, 1, none⟩ = some (.slice b4 b5 b6) ∧ z.cell? ⟨w4.heap.size, 0, none⟩ = some (.slice va P.length vc) ∧ z.cell? ⟨kb, ko + j, none⟩ = some (.int .i64 x))
          (first | exact ⟨e1, e2, e3, e4⟩ | exact ⟨e5, e6, e7, e8⟩ | go_keep)
          (first
            | (go_at_call 50; refine (HC8.out _ (HR3.out.1.trans (H13.out.drew.mono HR3.out.1.size))).mono ?_; rintro e w14 ⟨rfl, hb14⟩; have h14 := H13.out.drew.trans (hb14.mono H13.out.drew.size); obtain ⟨e5, e6, e7, e8, e9⟩ := RB.out w14 h14; have H14 := Lib.hid h14; clear h14 hb14))
        go_wp2_with fail
        refine (HFW.out w14 H14.out).mono ?_
        rintro e w15 ⟨v15, rfl, ho15, hb15⟩
        obtain ⟨P', A', ok'⟩ := r'
        obtain ⟨va15, vc15, rfl⟩ := IntsOwn.shown ho15
        have hs15 := hb15.size
        have hs14 := H14.out.size
        obtain ⟨W15, hW15⟩ : ∃ W15, W15 = w15.alloc (.cells #[.slice va15 P'.length vc15, .int .i64 A'] 28) := ⟨_, rfl⟩
        have hz15 : w15.heap.size < W15.heap.size := by rw [hW15]; simp
        have hbb15 : Below w15.heap.size w15 W15 := by rw [hW15]; exact (Below.refl _ _).alloc (Nat.le_refl _) _
        have kn15 : W15.heap[w15.heap.size]? = some (.cells #[.slice va15 P'.length vc15, .int .i64 A'] 28 (0, 0)) := by rw [hW15, new_blk]
        have hr15 : Below wr.heap.size wr W15 := H14.out.trans ((hb15.mono hs14).trans (hbb15.mono (by omega)))
        have ho15 := ho15.later hbb15 (Nat.le_refl _)
        have hcw := (Array.getElem?_eq_some_iff.1 HR3.out.2.1).1
        have hcx := (hr15.block w4.heap.size hcw).trans HR3.out.2.1
        have hne15 : (Value.slice va15 P'.length vc15).ownBlock ≠ some w4.heap.size := fun e => by have := (ho15.lt _ e).1; omega
        clear e1 e2 e3 e4 e5 e6 e7 e8 e9
        obtain ⟨x1, x2, x3, x4⟩ := box2 hcx
        obtain ⟨z1, z2, z3, z4⟩ := box2 kn15
        rw [hW15] at x1 x2 x3 x4 z1 z2 z3 z4
        have H15 := Lib.hid (And.intro hr15 (And.intro ho15 (And.intro hcx (And.intro kn15 hne15))))
        have HW15 := Lib.hid hW15
        have hJw : IntKind.i64.wrap ((j : Int) - 1) = (j : Int) - 1 := by rw [IntKind.wrap_i64]; omega
        -- what the round leaves, whichever way
        have HEND : Hid (∀ wy : World, Below W15.heap.size W15 wy → 
            ((wy.setCell ⟨w4.heap.size, 0, none⟩ (.slice va15 P'.length vc15)).setCell ⟨w4.heap.size, 1, none⟩ (.int .i64 A')).heap[w4.heap.size]? = some (.cells #[.slice va15 P'.length vc15, .int .i64 A'] 28 (0, 0)) ∧
            IntsOwn ((wy.setCell ⟨w4.heap.size, 0, none⟩ (.slice va15 P'.length vc15)).setCell ⟨w4.heap.size, 1, none⟩ (.int .i64 A')) W3.heap.size (.slice va15 P'.length vc15) P' ∧
            Only w12.heap.size w4.heap.size w12 ((wy.setCell ⟨w4.heap.size, 0, none⟩ (.slice va15 P'.length vc15)).setCell ⟨w4.heap.size, 1, none⟩ (.int .i64 A'))) := Lib.hid (fun wy hy => by
          have hry : Below wr.heap.size wr wy := hr15.trans (hy.mono hr15.size)
          have hoy := ho15.later hy (Nat.le_refl _)
          refine ⟨set_blk (o := 1) _ (set_blk (o := 0) _ ((hry.block w4.heap.size hcw).trans HR3.out.2.1)), ?_, ?_⟩
          · exact (hoy.only (w' := (wy.setCell ⟨w4.heap.size, 0, none⟩ (.slice va15 P'.length vc15)).setCell ⟨w4.heap.size, 1, none⟩ (.int .i64 A')) (C := wy.heap.size) (r := w4.heap.size) ⟨rfl, rfl, rfl, by simp, fun k _ hne => by rw [set_other _ _ _ _ _ hne, set_other _ _ _ _ _ hne]⟩ (Nat.le_refl _) (by omega)).lower (by omega)
          · have ho := HON.out
            exact ⟨hry.os.trans ho.os, hry.tape.trans ho.tape, hry.output.trans ho.output, by have := hry.size; simp; omega, fun k h1 hne => by
              rw [set_other _ _ _ _ _ hne, set_other _ _ _ _ _ hne]; exact (hry.block k (by omega)).trans (ho.block k h1 hne)⟩)
        clear ho15 hb15 hbb15 hcx kn15 hr15 hne15 hW15 hcw
        by_cases hj1 : 0 < j
        · have hr2 : (P', A', ok') = Tr.curAt t (j - 1) := by rw [HR'.out, if_pos hj1]
          have hok' : ok' = true := by have := (HKF.out (j - 1) (by omega)).2.2.1; rw [← hr2] at this; exact this
          subst hok'
          have HN := Lib.hid hr2
          have hjl1 : (j : Int) > 0 := by omega
          have hjl2 : (0 : Int) < (j : Int) := by omega
          clear hr2
          go_wp2_with fail
          rw [← HW15.out]
          go_roundw
          case rel =>
            obtain ⟨e2, e3, e4⟩ := HEND.out W15 (Below.refl _ _)
            exact ⟨j, (j : Int) - 1, P', A', va15, vc15, by omega, by go_num, by omega, e2, Lib.hid e3, Lib.hid H15.out.2.2.2.2, Lib.hid (fun _ => HN.out.symm), Lib.hid e4⟩
          case measure => simp [intOf]
        · have hr2 : (P', A', ok') = ([], 0, false) := by rw [HR'.out, if_neg hj1]
          have hok' : ok' = false := by have := congrArg (fun z => z.2.2) hr2; exact this
          subst hok'
          have hjl1 : ¬ (j : Int) > 0 := by omega
          have hjl2 : ¬ (0 : Int) < (j : Int) := by omega
          clear hr2
          go_wp2_with fail
          rw [← HW15.out]
          go_roundw
          case rel =>
            obtain ⟨e2, e3, e4⟩ := HEND.out W15 (Below.refl _ _)
            exact ⟨j, (j : Int) - 1, P', A', va15, vc15, by omega, by go_num, by omega, e2, Lib.hid e3, Lib.hid H15.out.2.2.2.2, Lib.hid (fun hh => absurd hh hj1), Lib.hid e4⟩
          case measure => simp [intOf]
end Go.Proofs.YticfkfjijnfcbaaDoor
