/- The law on seeking: the walk over the contracts. -/
import Derived.Test.YticfkfjijnfcbaaDoorProg
import Derived.Test.YticfkfjijnfcbaaDoorSh0
import Derived.Test.YticfkfjijnfcbaaDoorSh18
import Derived.Test.YticfkfjijnfcbaaDoorSh19
import Derived.Test.YticfkfjijnfcbaaDoorSh32
import Derived.Test.YticfkfjijnfcbaaDoorSh24
import Derived.Test.YticfkfjijnfcbaaDoorSh9
import Derived.Test.YticfkfjijnfcbaaDoorSh10
import Derived.Test.YticfkfjijnfcbaaDoorSh15
import Derived.Test.YticfkfjijnfcbaaDoorCurEq
import Derived.Test.YticfkfjijnfcbaaDoorSh26
import Derived.Test.YticfkfjijnfcbaaDoorFtCursor
import Derived.Test.YticfkfjijnfcbaaDoorSh27
import Derived.Test.YticfkfjijnfcbaaDoorImRank
import Derived.Test.YticfkfjijnfcbaaDoorImKeyAt
import Derived.Test.YticfkfjijnfcbaaDoorSh16
import Derived.Deep.RegionHeld3
namespace Go.Proofs.YticfkfjijnfcbaaDoor
open Go.RowKit

set_option maxHeartbeats 4000000 in
set_option maxRecDepth 100000 in
theorem fnSeek_c {w : World} {v : Value} {bs : List Nat} (h : BytesIn w w.heap.size v bs) (s s2 : Addr)
    (hV : w.cell? ⟨0, 0, none⟩ = some (.iface 174 (.pointer (some s))) ∧ w.cell? ⟨1, 0, none⟩ = some (.iface 174 (.pointer (some s2)))) (h0 : 1 < w.heap.size) :
    Calls Tryd.prog 10 #[v] w fun e w' => e = .returned (.bool true) ∧ Below w.heap.size w w' := by
  have VAR : Hid (∀ wx : World, Below w.heap.size w wx → wx.cell? ⟨0, 0, none⟩ = some (.iface 174 (.pointer (some s))) ∧ wx.cell? ⟨1, 0, none⟩ = some (.iface 174 (.pointer (some s2)))) :=
    Lib.hid (fun wx hx => ⟨(below_cell hx (by show 0 < _; omega)).trans hV.1, (below_cell hx (by show 1 < _; omega)).trans hV.2⟩)
  have H := Lib.hid h
  obtain ⟨a1, c1, rfl, -⟩ := h
  clear hV
  by_cases hc1 : bs.length ≤ 1048576
  case neg =>
    have hc1' : ((bs.length : Int) > 1048576) := by omega
    go_enter Tryd.func10, Tryd.ntmps10
    go_wp2_with fail
    go_ret
    exact ⟨rfl, Below.refl _ _⟩
  have hc1' : ¬ ((bs.length : Int) > 1048576) := by omega
  have HD := Lib.hid (drawSeek_c H.out w (Below.refl _ _) (Nat.le_refl _))
  go_enter Tryd.func10, Tryd.ntmps10
  go_wp2_with fail
  refine HD.out.mono ?_
  rintro e w2 ⟨k2, d2, t, key, rfl, ht2, hw2, -, hb2⟩
  obtain ⟨b1, b2, b3, b4, b5, b6, rfl, rfl⟩ := ht2.slices
  have hs2 := hb2.size
  obtain ⟨W3, hW3⟩ : ∃ W3, W3 = w2.alloc (.cells #[.slice b1 b2 b3, .slice b4 b5 b6] 33) := ⟨_, rfl⟩
  have hs3 : w2.heap.size < W3.heap.size := by rw [hW3]; simp
  have hb3 : Below w2.heap.size w2 W3 := by rw [hW3]; exact (Below.refl _ _).alloc (Nat.le_refl _) _
  have hx3 : W3.heap[w2.heap.size]? = some (.cells #[.slice b1 b2 b3, .slice b4 b5 b6] 33 (0, 0)) := by rw [hW3, new_blk]
  have hta3 : TreeA W3 (.slice b1 b2 b3) (.slice b4 b5 b6) t := (ht2.a (fun k hk => hk.2)).later hb3 (Nat.le_refl _)
  have hwt : t.weight ≤ 1048576 := by omega
  have HF : Hid (∀ wx : World, Below W3.heap.size W3 wx → Below w.heap.size w wx) := Lib.hid (fun wx hx => (hb2.trans (hb3.mono (by omega))).trans (hx.mono (by omega)))
  obtain ⟨r, hr⟩ : ∃ r, r = Tr.walkB t [] 0 (fun _ => Tr.goF key t []) := ⟨_, rfl⟩
  obtain ⟨rk, hrk⟩ : ∃ rk, rk = t.rankB key := ⟨_, rfl⟩
  obtain ⟨hs, hhs⟩ : ∃ hs, hs = (t.pathB key).2 := ⟨_, rfl⟩
  have HC1 : Hid (∀ wx : World, Below W3.heap.size W3 wx → Calls Tryd.prog 27 #[.agg #[.slice b1 b2 b3, .slice b4 b5 b6], .int .i64 key] wx (Walked wx r)) := Lib.hid (fun wx hx => by
    rw [hr]; exact impl_seek_c hta3.tree hwt key s s2 wx hx hx.size (fun wy hy => VAR.out wy (HF.out wy (hx.trans (hy.mono hx.size)))))
  have HC2 : Hid (∀ wx : World, Below W3.heap.size W3 wx → Calls Tryd.prog 26 #[.agg #[.slice b1 b2 b3, .slice b4 b5 b6], .int .i64 key] wx (Told wx r)) := Lib.hid (fun wx hx => by
    rw [hr, Tr.seek_eq]; exact specSeek_c hta3.tree hwt key wx hx hx.size)
  have HC5 : Hid (∀ wx : World, Below W3.heap.size W3 wx → Calls Tryd.prog 36 #[.agg #[.slice b1 b2 b3, .slice b4 b5 b6]] wx fun e w'' => ∃ v, e = .returned v ∧ IntsOwn w'' wx.heap.size v t.keys ∧ Below wx.heap.size wx w'') :=
    Lib.hid (fun wx hx => impl_keys_a (hta3.later hx (Nat.le_refl _)) hwt)
  have HC6 : Hid (∀ (wx : World) (v : Value) (P : List Int) (A : Int), Below W3.heap.size W3 wx → IntsIn wx wx.heap.size v P → Calls Tryd.prog 37 #[.agg #[.slice b1 b2 b3, .slice b4 b5 b6], .agg #[v, .int .i64 A]] wx fun e w'' => e = .returned (.tuple #[.int .i64 (Tr.curK t P A), .bool (Tr.curB t P A)]) ∧ Below wx.heap.size wx w'') :=
    Lib.hid (fun wx v P A hx hi => impl_cursorKey ((hta3.later hx (Nat.le_refl _)).tree) hwt hi A s wx (Below.refl _ _) (Nat.le_refl _) (fun wy hy => (VAR.out wy (HF.out wy (hx.trans (hy.mono hx.size)))).1))
  have HC7 : Hid (∀ (wx : World) (v : Value) (P : List Int) (A : Int), Below W3.heap.size W3 wx → IntsIn wx wx.heap.size v P → Calls Tryd.prog 43 #[.agg #[.slice b1 b2 b3, .slice b4 b5 b6], .agg #[v, .int .i64 A]] wx fun e w'' => e = .returned (.bool (Tr.curB t P A)) ∧ Below wx.heap.size wx w'') :=
    Lib.hid (fun wx v P A hx hi => impl_cursorValid ((hta3.later hx (Nat.le_refl _)).tree) hwt hi A s wx (Below.refl _ _) (Nat.le_refl _) (fun wy hy => (VAR.out wy (HF.out wy (hx.trans (hy.mono hx.size)))).1))
  have HC8 : Hid (∀ wx : World, Below W3.heap.size W3 wx → Calls Tryd.prog 41 #[.agg #[.slice b1 b2 b3, .slice b4 b5 b6], .int .i64 key] wx fun e w'' => e = .returned (.int .i64 rk) ∧ Below wx.heap.size wx w'') :=
    Lib.hid (fun wx hx => by rw [hrk]; exact impl_rank (hta3.later hx (Nat.le_refl _)).tree hwt key wx (Below.refl _ _) (Nat.le_refl _))
  have HC9 : Hid (∀ wx : World, Below W3.heap.size W3 wx → Calls Tryd.prog 44 #[.agg #[.slice b1 b2 b3, .slice b4 b5 b6], .int .i64 key] wx fun e w'' => e = .returned (.bool hs) ∧ Below wx.heap.size wx w'') :=
    Lib.hid (fun wx hx => by rw [hhs]; exact impl_has (hta3.later hx (Nat.le_refl _)).tree hwt key wx (Below.refl _ _) (Nat.le_refl _))
  have HC10 : Hid (∀ wx : World, rk ≤ 9223372036854775807 → Below W3.heap.size W3 wx → Calls Tryd.prog 42 #[.agg #[.slice b1 b2 b3, .slice b4 b5 b6], .int .i64 rk] wx fun e w'' => e = .returned (.tuple #[.int .i64 (t.keyAtB rk).1, .bool (t.keyAtB rk).2]) ∧ Below wx.heap.size wx w'') :=
    Lib.hid (fun wx hm hx => impl_keyAt (hta3.later hx (Nat.le_refl _)).tree hwt rk hm wx (Below.refl _ _) (Nat.le_refl _))
  obtain ⟨K, hK⟩ : ∃ K, K = t.keys := ⟨_, rfl⟩
  rw [Tr.whole_seek, ← hK] at hr
  rw [← hK] at HC5
  -- the three ways
  have hways : (r.2.2 = true → ∃ x, Tr.curB t r.1 r.2.1 = true ∧ Tr.curK t r.1 r.2.1 = x ∧ rk ≤ 9223372036854775807 ∧ t.keyAtB rk = (x, true) ∧ key ≤ x ∧ (x = key ↔ hs = true)) ∧
      (r.2.2 = false → rk = -1 ∨ rk = (K.length : Int)) := by
    by_cases hh : t.someB = true ∧ place key K < K.length
    · rw [if_pos hh] at hr
      rw [hK] at hh hr
      obtain ⟨f1, f2, f3, -, -⟩ := Tr.curAt_facts hh.1 hh.2
      obtain ⟨g1, g2, g3, g4⟩ := Tr.seek_facts hh.1 hh.2
      have hkw := Tr.keys_length_le t
      rw [hr, hrk, hhs]
      exact ⟨fun _ => ⟨_, f1, f2, by rw [g1]; omega, g2, g3, g4⟩, fun h => by rw [f3] at h; cases h⟩
    · rw [if_neg hh] at hr
      rw [hr, hrk]
      refine ⟨(fun h => by cases h), fun _ => ?_⟩
      by_cases hs0 : t.someB = true
      · exact .inr (by rw [Tr.rank_end hs0 (by rw [← hK]; exact fun h => hh ⟨hs0, h⟩), hK])
      · exact .inl (Tr.rank_none hs0 key)
  have BOX : Hid (∀ wx : World, Below W3.heap.size W3 wx → wx.heap[w2.heap.size]? = some (.cells #[.slice b1 b2 b3, .slice b4 b5 b6] 33 (0, 0))) := Lib.hid (fun wx hx => (hx.block _ (by omega)).trans hx3)
  have HWY := Lib.hid hways
  have hx3x := hx3
  rw [hW3] at hx3x
  obtain ⟨x1, x2, x3, x4⟩ := box2 hx3x
  have HW3 := Lib.hid hW3
  obtain ⟨P1, A1, ok⟩ := r
  clear ht2 hb2 hW3 hb3 hx3 hx3x hta3 hr hrk hhs hK hways
  go_wp2_with fail
  rw [← HW3.out]
  -- the cursor
  refine (HC1.out W3 (Below.refl _ _)).mono ?_
  rintro e w4 ⟨v4, rfl, ho4, hb4⟩
  obtain ⟨va4, vc4, rfl⟩ := IntsOwn.shown ho4
  have hs4 := hb4.size
  obtain ⟨W4, hW4⟩ : ∃ W4, W4 = w4.alloc (.cells #[.slice va4 P1.length vc4, .int .i64 A1] 28) := ⟨_, rfl⟩
  have hz4 : w4.heap.size < W4.heap.size := by rw [hW4]; simp
  have hbb4 : Below w4.heap.size w4 W4 := by rw [hW4]; exact (Below.refl _ _).alloc (Nat.le_refl _) _
  have kc4 : W4.heap[w4.heap.size]? = some (.cells #[.slice va4 P1.length vc4, .int .i64 A1] 28 (0, 0)) := by rw [hW4, new_blk]
  have h34 : Below W3.heap.size W3 W4 := hb4.trans (hbb4.mono hs4)
  have HNE : Hid ((Value.slice va4 P1.length vc4).ownBlock ≠ some w4.heap.size) := Lib.hid (fun e => by have := (ho4.lt _ e).2; omega)
  clear x1 x2 x3 x4
  obtain ⟨x1, x2, x3, x4⟩ := box2 (BOX.out W4 h34)
  rw [hW4] at x1 x2 x3 x4
  have H4 := Lib.hid (And.intro h34 (And.intro kc4 (ho4.later hbb4 (Nat.le_refl _))))
  have HW4 := Lib.hid hW4
  clear ho4 hb4 hW4 hbb4 kc4 h34
  go_wp2_with fail
  rw [← HW4.out]
  refine (HC2.out W4 H4.out.1).mono ?_
  rintro e w5 ⟨v5, rfl, ho5, hb5⟩
  obtain ⟨va5, vc5, rfl⟩ := IntsOwn.shown ho5
  have hs5 := hb5.size
  obtain ⟨W7, hW7⟩ : ∃ W5, W5 = w5.alloc (.cells #[.slice va5 P1.length vc5, .int .i64 A1] 28) := ⟨_, rfl⟩
  have hz5 : w5.heap.size < W7.heap.size := by rw [hW7]; simp
  have hbb5 : Below w5.heap.size w5 W7 := by rw [hW7]; exact (Below.refl _ _).alloc (Nat.le_refl _) _
  have kc5 : W7.heap[w5.heap.size]? = some (.cells #[.slice va5 P1.length vc5, .int .i64 A1] 28 (0, 0)) := by rw [hW7, new_blk]
  have h45 : Below W4.heap.size W4 W7 := hb5.trans (hbb5.mono hs5)
  have B7 : Hid (∀ wx : World, Below W7.heap.size W7 wx → Below W3.heap.size W3 wx ∧ wx.heap[w4.heap.size]? = some (.cells #[.slice va4 P1.length vc4, .int .i64 A1] 28 (0, 0)) ∧ IntsOwn wx W3.heap.size (.slice va4 P1.length vc4) P1 ∧ wx.heap[w5.heap.size]? = some (.cells #[.slice va5 P1.length vc5, .int .i64 A1] 28 (0, 0)) ∧ IntsOwn wx W4.heap.size (.slice va5 P1.length vc5) P1) := Lib.hid (fun wx hx => by
    have g4 : Below W4.heap.size W4 wx := h45.trans (hx.mono (by omega))
    exact ⟨H4.out.1.trans (g4.mono (by omega)), (g4.block _ hz4).trans H4.out.2.1, H4.out.2.2.later g4 (Nat.le_refl _), (hx.block _ hz5).trans kc5, (ho5.later hbb5 (Nat.le_refl _)).later hx (Nat.le_refl _)⟩)
  have hbx := B7.out W7 (Below.refl _ _)
  have HW7 := Lib.hid hW7
  have hneb : (ok != ok) = false := by simp
  clear x1 x2 x3 x4
  obtain ⟨x1, x2, -, -⟩ := box2 hbx.2.1
  obtain ⟨y1, y2, -, -⟩ := box2 hbx.2.2.2.1
  rw [hW7] at x1 x2 y1 y2
  clear hbx ho5 hb5 hW7 hbb5 h45 kc5
  go_wp2_with fail
  rw [← HW7.out]
  refine (ftCursor_c P1 _ _ A1 W7 W7.heap.size (Nat.le_refl _) (B7.out W7 (Below.refl _ _)).2.2.1.in (B7.out W7 (Below.refl _ _)).2.2.2.2.in).mono ?_
  rintro e w8 ⟨rfl, hb8⟩
  have hs8 := hb8.size
  -- what all reads find, from here on
  have RB : Hid (∀ wx : World, Below W7.heap.size W7 wx → wx.cell? ⟨w2.heap.size, 0, none⟩ = some (.slice b1 b2 b3) ∧ wx.cell? ⟨w2.heap.size, 1, none⟩ = some (.slice b4 b5 b6) ∧ wx.cell? ⟨w4.heap.size, 0, none⟩ = some (.slice va4 P1.length vc4) ∧ wx.cell? ⟨w4.heap.size, 1, none⟩ = some (.int .i64 A1) ∧
      wx.cell? ⟨w5.heap.size, 0, none⟩ = some (.slice va5 P1.length vc5) ∧ wx.cell? ⟨w5.heap.size, 1, none⟩ = some (.int .i64 A1)) := Lib.hid (fun wx hx => by
    obtain ⟨g1, g2, g3, g4, g5⟩ := B7.out wx hx
    obtain ⟨q1, q2, -, -⟩ := box2 (BOX.out wx g1)
    obtain ⟨q3, q4, -, -⟩ := box2 g2
    obtain ⟨q5, q6, -, -⟩ := box2 g4
    exact ⟨q1, q2, q3, q4, q5, q6⟩)
  obtain ⟨e1, e2, e3, e4, e5, e6⟩ := RB.out w8 hb8
  have heqb : (ok == ok) = true := by simp
  have HB := Lib.hid hb8
  clear x1 x2 y1 y2 hb8
  cases hok : ok with
  | true =>
    subst hok
    obtain ⟨x, f1, f2, f3, f4, f5, f6⟩ := HWY.out.1 rfl
    have hkge : x ≥ key := f5
    have HCK := Lib.hid (HC6.out w8 _ P1 A1 (B7.out w8 HB.out).1 (B7.out w8 HB.out).2.2.1.in)
    rw [f1, f2] at HCK
    have HKA := Lib.hid (fun wx hx => HC10.out wx f3 hx)
    rw [f4] at HKA
    have HF6 := Lib.hid f6
    have HC7' : Hid (∀ (wx : World), Below W3.heap.size W3 wx → IntsIn wx wx.heap.size (.slice va4 P1.length vc4) P1 → Calls Tryd.prog 43 #[.agg #[.slice b1 b2 b3, .slice b4 b5 b6], .agg #[.slice va4 P1.length vc4, .int .i64 A1]] wx fun e w'' => e = .returned (.bool true) ∧ Below wx.heap.size wx w'') :=
      Lib.hid (fun wx hx hi => by have := HC7.out wx _ P1 A1 hx hi; rw [f1] at this; exact this)
    clear f1 f2 f3 f4 f5 f6
    go_wp2_with fail
    refine HCK.out.mono ?_
    rintro e w9 ⟨rfl, hb9⟩
    have hn := HB.out.trans (hb9.mono HB.out.size)
    clear HB e1 e2 e3 e4 e5 e6
    obtain ⟨e1, e2, e3, e4, e5, e6⟩ := RB.out w9 hn
    have HB := Lib.hid hn
    clear hn hb9
    go_wp2_with fail
    go_region_held3 (fun z => z.cell? ⟨w2.heap.size, 0, none⟩ = some (.slice b1 b2 b3) ∧ z.cell? ⟨w2.heap.size, 1, none⟩ = some (.slice b4 b5 b6) ∧ z.cell? ⟨w4.heap.size, 0, none⟩ = some (.slice va4 P1.length vc4) ∧ z.cell? ⟨w4.heap.size, 1, none⟩ = some (.int .i64 A1) ∧ z.cell? ⟨w5.heap.size, 0, none⟩ = some (.slice va5 P1.length vc5) ∧ z.cell? ⟨w5.heap.size, 1, none⟩ = some (.int .i64 A1))
      (first | exact ⟨e1, e2, e3, e4, e5, e6⟩ | go_keep)
      (first
        | (go_at_call 42; refine (HKA.out _ (by first | exact (B7.out _ HB.out).1 | exact (B7.out _ HB.out.drew).1)).mono ?_; rintro e wn ⟨rfl, hbn⟩; have hn : Below W7.heap.size W7 wn := (by first | exact HB.out.trans (hbn.mono HB.out.size) | exact HB.out.drew.trans (hbn.mono HB.out.drew.size)); clear HB e1 e2 e3 e4 e5 e6; obtain ⟨e1, e2, e3, e4, e5, e6⟩ := RB.out wn hn; have HB := Lib.hid hn; clear hn hbn)
        | (go_at_call 41; refine (HC8.out _ (by first | exact (B7.out _ HB.out).1 | exact (B7.out _ HB.out.drew).1)).mono ?_; rintro e wn ⟨rfl, hbn⟩; have hn : Below W7.heap.size W7 wn := (by first | exact HB.out.trans (hbn.mono HB.out.size) | exact HB.out.drew.trans (hbn.mono HB.out.drew.size)); clear HB e1 e2 e3 e4 e5 e6; obtain ⟨e1, e2, e3, e4, e5, e6⟩ := RB.out wn hn; have HB := Lib.hid hn; clear hn hbn)
        | fail)
    have heq : (x == x) = true := by simp
    by_cases hxk : x = key
    · have hh : hs = true := HF6.out.1 hxk
      subst hh
      subst hxk
      go_wp2_with fail
      refine (HC7'.out wn (B7.out wn HB.out).1 (B7.out wn HB.out).2.2.1.in).mono ?_
      rintro e w11 ⟨rfl, hb11⟩
      have hn := HB.out.trans (hb11.mono HB.out.size)
      clear HB e1 e2 e3 e4 e5 e6
      obtain ⟨e1, e2, e3, e4, e5, e6⟩ := RB.out w11 hn
      have HB := Lib.hid hn
      clear hn hb11
      go_wp2_with fail
      refine (HC9.out w11 (B7.out w11 HB.out).1).mono ?_
      rintro e w12 ⟨rfl, hb12⟩
      have HB' := Lib.hid (HB.out.trans (hb12.mono HB.out.size))
      clear hb12
      go_wp2_with fail
      go_ret
      exact ⟨rfl, HF.out _ (B7.out _ HB'.out).1⟩
    · have hh : hs = false := by cases hs; rfl; exact absurd (HF6.out.2 rfl) hxk
      subst hh
      have hxk' : (x == key) = false := by simpa using hxk
      go_wp2_with fail
      refine (HC7'.out wn (B7.out wn HB.out).1 (B7.out wn HB.out).2.2.1.in).mono ?_
      rintro e w11 ⟨rfl, hb11⟩
      have hn := HB.out.trans (hb11.mono HB.out.size)
      clear HB e1 e2 e3 e4 e5 e6
      obtain ⟨e1, e2, e3, e4, e5, e6⟩ := RB.out w11 hn
      have HB := Lib.hid hn
      clear hn hb11
      go_wp2_with fail
      refine (HC9.out w11 (B7.out w11 HB.out).1).mono ?_
      rintro e w12 ⟨rfl, hb12⟩
      have HB' := Lib.hid (HB.out.trans (hb12.mono HB.out.size))
      clear hb12
      go_wp2_with fail
      go_ret
      exact ⟨rfl, HF.out _ (B7.out _ HB'.out).1⟩
  | false =>
    subst hok
    rcases HWY.out.2 rfl with hrk | hrk
    · subst hrk
      go_wp2_with fail
      refine wp_region_held_drew (S := (fun z => z.cell? ⟨w2.heap.size, 0, none⟩ = some (.slice b1 b2 b3) ∧ z.cell? ⟨w2.heap.size, 1, none⟩ = some (.slice b4 b5 b6) ∧ z.cell? ⟨w4.heap.size, 0, none⟩ = some (.slice va4 P1.length vc4) ∧ z.cell? ⟨w4.heap.size, 1, none⟩ = some (.int .i64 A1) ∧ z.cell? ⟨w5.heap.size, 0, none⟩ = some (.slice va5 P1.length vc5) ∧ z.cell? ⟨w5.heap.size, 1, none⟩ = some (.int .i64 A1))) (by kernel_rfl) ?_ (fun hHeld => ?_)
      · exact ⟨e1, e2, e3, e4, e5, e6⟩
      refine wpAnyH_take (i := 0) (oi := { dst := some 46, op := Op.load 28 (Operand.tmp 5), type := 28, pos := "laws.go:1323", after := #[], guard := none }) (v := ?_) rfl (by kernel_rfl) (by kernel_rfl) (by kernel_rfl) (fun _ _ _ h => h) (Or.inl ⟨by rfl, ?_⟩) (by assumption) ?_
      rotate_left
      · (intro w hSw; (try dsimp only at hSw); (try obtain ⟨s1, s2, s3, s4, s5, s6⟩ := hSw); go_simp; try with_reducible rfl)
      (try dsimp only [Act.put]); (try simp only [Act.put, List.setIfInBounds_toArray, List.set_cons_zero, List.set_cons_succ])
      refine wpAnyH_take (i := 1) (oi := { dst := some 47, op := Op.load 28 (Operand.tmp 7), type := 28, pos := "laws.go:1323", after := #[], guard := none }) (v := ?_) rfl (by kernel_rfl) (by kernel_rfl) (by kernel_rfl) (fun _ _ _ h => h) (Or.inl ⟨by rfl, ?_⟩) (by assumption) ?_
      rotate_left
      · (intro w hSw; (try dsimp only at hSw); (try obtain ⟨s1, s2, s3, s4, s5, s6⟩ := hSw); go_simp; try with_reducible rfl)
      (try dsimp only [Act.put]); (try simp only [Act.put, List.setIfInBounds_toArray, List.set_cons_zero, List.set_cons_succ])
      refine wpAnyH_ready (rs := [2]) (by kernel_rfl) (by simp) ?_
      refine AllReadyH.cons (o := { dst := some 48, op := Op.call { callee := Callee.value (Operand.func 35), args := #[Operand.tmp 46, Operand.tmp 47], argTypes := #[28, 28] }, type := 4, pos := "laws.go:1323", after := #[{ on := 0, ground := Ground.data }, { on := 1, ground := Ground.data }], guard := none }) rfl (fun K hK => ?_) AllReadyH.nil
      go_simp
      (go_at_call 35; refine (ftCursor_c P1 _ _ A1 _ _ (Nat.le_refl _) (by first | exact (B7.out _ HB.out).2.2.1.in | exact (B7.out _ HB.out.drew).2.2.1.in) (by first | exact (B7.out _ HB.out).2.2.2.2.in | exact (B7.out _ HB.out.drew).2.2.2.2.in)).mono ?_; rintro e wn ⟨rfl, hbn⟩; have hn : Below W7.heap.size W7 wn := (by first | exact HB.out.trans (hbn.mono HB.out.size) | exact HB.out.drew.trans (hbn.mono HB.out.drew.size)); clear HB e1 e2 e3 e4 e5 e6; obtain ⟨e1, e2, e3, e4, e5, e6⟩ := RB.out wn hn; have HB := Lib.hid hn; clear hn hbn)
      try dsimp only
      refine hK.out _ _ ⟨e1, e2, e3, e4, e5, e6⟩ (fun hHeld => ?_)
      clear hK K
      (try dsimp only [Act.put]); (try simp only [Act.put, List.setIfInBounds_toArray, List.set_cons_zero, List.set_cons_succ])
      refine wpAnyH_take (i := 3) (oi := { dst := some 49, op := Op.move (Operand.tmp 48), type := 4, pos := "laws.go:1323", after := #[{ on := 2, ground := Ground.data }, { on := 2, ground := Ground.chain }], guard := none }) (v := ?_) rfl (by kernel_rfl) (by kernel_rfl) (by kernel_rfl) (fun _ _ _ h => h) (Or.inl ⟨by rfl, ?_⟩) (by assumption) ?_
      rotate_left
      · (intro w hSw; (try dsimp only at hSw); (try obtain ⟨s1, s2, s3, s4, s5, s6⟩ := hSw); go_simp; try with_reducible rfl)
      (try dsimp only [Act.put]); (try simp only [Act.put, List.setIfInBounds_toArray, List.set_cons_zero, List.set_cons_succ])
      refine wpAnyH_take (i := 4) (oi := { dst := some 50, op := Op.move (Operand.tmp 6), type := 4, pos := "laws.go:1323", after := #[{ on := 3, ground := Ground.guard }], guard := some (3, true) }) (v := ?_) rfl (by kernel_rfl) (by kernel_rfl) (by kernel_rfl) (fun _ _ _ h => h) (Or.inl ⟨by rfl, ?_⟩) (by assumption) ?_
      rotate_left
      · (intro w hSw; (try dsimp only at hSw); (try obtain ⟨s1, s2, s3, s4, s5, s6⟩ := hSw); go_simp; try with_reducible rfl)
      (try dsimp only [Act.put]); (try simp only [Act.put, List.setIfInBounds_toArray, List.set_cons_zero, List.set_cons_succ])
      refine wpAnyH_take (i := 5) (oi := { dst := some 51, op := Op.move (Operand.tmp 8), type := 4, pos := "laws.go:1323", after := #[{ on := 3, ground := Ground.guard }], guard := some (3, true) }) (v := ?_) rfl (by kernel_rfl) (by kernel_rfl) (by kernel_rfl) (fun _ _ _ h => h) (Or.inl ⟨by rfl, ?_⟩) (by assumption) ?_
      rotate_left
      · (intro w hSw; (try dsimp only at hSw); (try obtain ⟨s1, s2, s3, s4, s5, s6⟩ := hSw); go_simp; try with_reducible rfl)
      (try dsimp only [Act.put]); (try simp only [Act.put, List.setIfInBounds_toArray, List.set_cons_zero, List.set_cons_succ])
      refine wpAnyH_take (i := 6) (oi := { dst := some 52, op := Op.binOp BinOp.eql 4 (Operand.tmp 50) (Operand.tmp 51) 4, type := 4, pos := "laws.go:1323", after := #[{ on := 4, ground := Ground.data }, { on := 5, ground := Ground.data }, { on := 3, ground := Ground.guard }], guard := some (3, true) }) (v := ?_) rfl (by kernel_rfl) (by kernel_rfl) (by kernel_rfl) (fun _ _ _ h => h) (Or.inl ⟨by rfl, ?_⟩) (by assumption) ?_
      rotate_left
      · (intro w hSw; (try dsimp only at hSw); (try obtain ⟨s1, s2, s3, s4, s5, s6⟩ := hSw); go_simp; try with_reducible rfl)
      (try dsimp only [Act.put]); (try simp only [Act.put, List.setIfInBounds_toArray, List.set_cons_zero, List.set_cons_succ])
      refine wpAnyH_take (i := 7) (oi := { dst := some 53, op := Op.pick (Operand.tmp 49) (Operand.tmp 52) (Operand.const (Value.bool false)), type := 4, pos := "laws.go:1323", after := #[{ on := 3, ground := Ground.data }, { on := 6, ground := Ground.data }], guard := none }) (v := ?_) rfl (by kernel_rfl) (by kernel_rfl) (by kernel_rfl) (fun _ _ _ h => h) (Or.inl ⟨by rfl, ?_⟩) (by assumption) ?_
      rotate_left
      · (intro w hSw; (try dsimp only at hSw); (try obtain ⟨s1, s2, s3, s4, s5, s6⟩ := hSw); go_simp; try with_reducible rfl)
      (try dsimp only [Act.put]); (try simp only [Act.put, List.setIfInBounds_toArray, List.set_cons_zero, List.set_cons_succ])
      refine wpAnyH_take (i := 8) (oi := { dst := some 54, op := Op.move (Operand.tmp 53), type := 4, pos := "laws.go:1323", after := #[{ on := 7, ground := Ground.data }, { on := 3, ground := Ground.chain }], guard := none }) (v := ?_) rfl (by kernel_rfl) (by kernel_rfl) (by kernel_rfl) (fun _ _ _ h => h) (Or.inl ⟨by rfl, ?_⟩) (by assumption) ?_
      rotate_left
      · (intro w hSw; (try dsimp only at hSw); (try obtain ⟨s1, s2, s3, s4, s5, s6⟩ := hSw); go_simp; try with_reducible rfl)
      (try dsimp only [Act.put]); (try simp only [Act.put, List.setIfInBounds_toArray, List.set_cons_zero, List.set_cons_succ])
      refine wpAnyH_take (i := 9) (oi := { dst := some 55, op := Op.load 33 (Operand.tmp 3), type := 33, pos := "laws.go:1323", after := #[{ on := 8, ground := Ground.guard }], guard := some (8, true) }) (v := ?_) rfl (by kernel_rfl) (by kernel_rfl) (by kernel_rfl) (fun _ _ _ h => h) (Or.inl ⟨by rfl, ?_⟩) (by assumption) ?_
      rotate_left
      · (intro w hSw; (try dsimp only at hSw); (try obtain ⟨s1, s2, s3, s4, s5, s6⟩ := hSw); go_simp; try with_reducible rfl)
      (try dsimp only [Act.put]); (try simp only [Act.put, List.setIfInBounds_toArray, List.set_cons_zero, List.set_cons_succ])
      refine wpAnyH_take (i := 10) (oi := { dst := some 56, op := Op.move (Operand.tmp 4), type := 3, pos := "laws.go:1323", after := #[{ on := 8, ground := Ground.guard }], guard := some (8, true) }) (v := ?_) rfl (by kernel_rfl) (by kernel_rfl) (by kernel_rfl) (fun _ _ _ h => h) (Or.inl ⟨by rfl, ?_⟩) (by assumption) ?_
      rotate_left
      · (intro w hSw; (try dsimp only at hSw); (try obtain ⟨s1, s2, s3, s4, s5, s6⟩ := hSw); go_simp; try with_reducible rfl)
      (try dsimp only [Act.put]); (try simp only [Act.put, List.setIfInBounds_toArray, List.set_cons_zero, List.set_cons_succ])
      refine wpAnyH_ready (rs := [11]) (by kernel_rfl) (by simp) ?_
      refine AllReadyH.cons (o := { dst := some 57, op := Op.call { callee := Callee.value (Operand.func 41), args := #[Operand.tmp 55, Operand.tmp 56], argTypes := #[33, 3] }, type := 3, pos := "laws.go:1323", after := #[{ on := 9, ground := Ground.data }, { on := 10, ground := Ground.data }, { on := 8, ground := Ground.chain }, { on := 8, ground := Ground.guard }], guard := some (8, true) }) rfl (fun K hK => ?_) AllReadyH.nil
      go_simp
      (go_at_call 41; refine (HC8.out _ (by first | exact (B7.out _ HB.out).1 | exact (B7.out _ HB.out.drew).1)).mono ?_; rintro e wn ⟨rfl, hbn⟩; have hn : Below W7.heap.size W7 wn := (by first | exact HB.out.trans (hbn.mono HB.out.size) | exact HB.out.drew.trans (hbn.mono HB.out.drew.size)); clear HB e1 e2 e3 e4 e5 e6; obtain ⟨e1, e2, e3, e4, e5, e6⟩ := RB.out wn hn; have HB := Lib.hid hn; clear hn hbn)
      try dsimp only
      refine hK.out _ _ ⟨e1, e2, e3, e4, e5, e6⟩ (fun hHeld => ?_)
      clear hK K
      (try dsimp only [Act.put]); (try simp only [Act.put, List.setIfInBounds_toArray, List.set_cons_zero, List.set_cons_succ])
      refine wpAnyH_take (i := 12) (oi := { dst := some 58, op := Op.binOp BinOp.lss 3 (Operand.tmp 57) (Operand.const (Value.int IntKind.i64 0)) 3, type := 4, pos := "laws.go:1323", after := #[{ on := 11, ground := Ground.data }, { on := 8, ground := Ground.guard }], guard := some (8, true) }) (v := ?_) rfl (by kernel_rfl) (by kernel_rfl) (by kernel_rfl) (fun _ _ _ h => h) (Or.inl ⟨by rfl, ?_⟩) (by assumption) ?_
      rotate_left
      · (intro w hSw; (try dsimp only at hSw); (try obtain ⟨s1, s2, s3, s4, s5, s6⟩ := hSw); go_simp; try with_reducible rfl)
      (try dsimp only [Act.put]); (try simp only [Act.put, List.setIfInBounds_toArray, List.set_cons_zero, List.set_cons_succ])
      refine wpAnyH_take (i := 13) (oi := { dst := some 59, op := Op.move (Operand.tmp 58), type := 4, pos := "laws.go:1323", after := #[{ on := 12, ground := Ground.data }, { on := 11, ground := Ground.chain }, { on := 8, ground := Ground.guard }], guard := some (8, true) }) (v := ?_) rfl (by kernel_rfl) (by kernel_rfl) (by kernel_rfl) (fun _ _ _ h => h) (Or.inl ⟨by rfl, ?_⟩) (by assumption) ?_
      rotate_left
      · (intro w hSw; (try dsimp only at hSw); (try obtain ⟨s1, s2, s3, s4, s5, s6⟩ := hSw); go_simp; try with_reducible rfl)
      (try dsimp only [Act.put]); (try simp only [Act.put, List.setIfInBounds_toArray, List.set_cons_zero, List.set_cons_succ])
      refine wpAnyH_take (i := 14) (oi := { dst := some 60, op := Op.load 33 (Operand.tmp 3), type := 33, pos := "laws.go:1323", after := #[{ on := 13, ground := Ground.guard }], guard := some (13, false) }) (v := undef) rfl (by kernel_rfl) (by kernel_rfl) (by kernel_rfl) (fun _ _ _ h => h) (Or.inr ⟨by rfl, rfl⟩) (by assumption) ?_
      (try dsimp only [Act.put]); (try simp only [Act.put, List.setIfInBounds_toArray, List.set_cons_zero, List.set_cons_succ])
      refine wpAnyH_take (i := 15) (oi := { dst := some 61, op := Op.move (Operand.tmp 4), type := 3, pos := "laws.go:1323", after := #[{ on := 13, ground := Ground.guard }], guard := some (13, false) }) (v := undef) rfl (by kernel_rfl) (by kernel_rfl) (by kernel_rfl) (fun _ _ _ h => h) (Or.inr ⟨by rfl, rfl⟩) (by assumption) ?_
      (try dsimp only [Act.put]); (try simp only [Act.put, List.setIfInBounds_toArray, List.set_cons_zero, List.set_cons_succ])
      refine wpAnyH_take (i := 17) (oi := { dst := some 63, op := Op.load 33 (Operand.tmp 3), type := 33, pos := "laws.go:1323", after := #[{ on := 13, ground := Ground.guard }], guard := some (13, false) }) (v := undef) rfl (by kernel_rfl) (by kernel_rfl) (by kernel_rfl) (fun _ _ _ h => h) (Or.inr ⟨by rfl, rfl⟩) (by assumption) ?_
      (try dsimp only [Act.put]); (try simp only [Act.put, List.setIfInBounds_toArray, List.set_cons_zero, List.set_cons_succ])
      refine wpAnyH_ready (rs := [16]) (by kernel_rfl) (by simp) ?_
      refine AllReadyH.cons (o := { dst := some 62, op := Op.call { callee := Callee.value (Operand.func 41), args := #[Operand.tmp 60, Operand.tmp 61], argTypes := #[33, 3] }, type := 3, pos := "laws.go:1323", after := #[{ on := 14, ground := Ground.data }, { on := 15, ground := Ground.data }, { on := 13, ground := Ground.chain }, { on := 13, ground := Ground.guard }], guard := some (13, false) }) rfl (fun K hK => ?_) AllReadyH.nil
      go_simp
      refine hK.out _ _ (by assumption) (fun _ => ?_)
      clear hK K
      (try dsimp only [Act.put]); (try simp only [Act.put, List.setIfInBounds_toArray, List.set_cons_zero, List.set_cons_succ])
      refine wpAnyH_ready (rs := [18]) (by kernel_rfl) (by simp) ?_
      refine AllReadyH.cons (o := { dst := some 64, op := Op.call { callee := Callee.value (Operand.func 36), args := #[Operand.tmp 63], argTypes := #[33] }, type := 22, pos := "laws.go:1323", after := #[{ on := 17, ground := Ground.data }, { on := 16, ground := Ground.chain }, { on := 13, ground := Ground.guard }], guard := some (13, false) }) rfl (fun K hK => ?_) AllReadyH.nil
      go_simp
      refine hK.out _ _ (by assumption) (fun _ => ?_)
      clear hK K
      (try dsimp only [Act.put]); (try simp only [Act.put, List.setIfInBounds_toArray, List.set_cons_zero, List.set_cons_succ])
      refine wpAnyH_take (i := 19) (oi := { dst := some 65, op := Op.call { callee := Callee.builtin Builtin.len, args := #[Operand.tmp 64], argTypes := #[22] }, type := 3, pos := "laws.go:1323", after := #[{ on := 18, ground := Ground.data }, { on := 13, ground := Ground.guard }], guard := some (13, false) }) (v := undef) rfl (by kernel_rfl) (by kernel_rfl) (by kernel_rfl) (fun _ _ _ h => h) (Or.inr ⟨by rfl, rfl⟩) (by assumption) ?_
      (try dsimp only [Act.put]); (try simp only [Act.put, List.setIfInBounds_toArray, List.set_cons_zero, List.set_cons_succ])
      refine wpAnyH_take (i := 20) (oi := { dst := some 66, op := Op.binOp BinOp.eql 3 (Operand.tmp 62) (Operand.tmp 65) 3, type := 4, pos := "laws.go:1323", after := #[{ on := 16, ground := Ground.data }, { on := 19, ground := Ground.data }, { on := 13, ground := Ground.guard }], guard := some (13, false) }) (v := undef) rfl (by kernel_rfl) (by kernel_rfl) (by kernel_rfl) (fun _ _ _ h => h) (Or.inr ⟨by rfl, rfl⟩) (by assumption) ?_
      (try dsimp only [Act.put]); (try simp only [Act.put, List.setIfInBounds_toArray, List.set_cons_zero, List.set_cons_succ])
      refine wpAnyH_take (i := 21) (oi := { dst := some 67, op := Op.pick (Operand.tmp 59) (Operand.const (Value.bool true)) (Operand.tmp 66), type := 4, pos := "laws.go:1323", after := #[{ on := 13, ground := Ground.data }, { on := 20, ground := Ground.data }, { on := 8, ground := Ground.guard }], guard := some (8, true) }) (v := ?_) rfl (by kernel_rfl) (by kernel_rfl) (by kernel_rfl) (fun _ _ _ h => h) (Or.inl ⟨by rfl, ?_⟩) (by assumption) ?_
      rotate_left
      · (intro w hSw; (try dsimp only at hSw); (try obtain ⟨s1, s2, s3, s4, s5, s6⟩ := hSw); go_simp; try with_reducible rfl)
      (try dsimp only [Act.put]); (try simp only [Act.put, List.setIfInBounds_toArray, List.set_cons_zero, List.set_cons_succ])
      refine wpAnyH_take (i := 22) (oi := { dst := some 68, op := Op.pick (Operand.tmp 54) (Operand.tmp 67) (Operand.const (Value.bool false)), type := 4, pos := "laws.go:1323", after := #[{ on := 8, ground := Ground.data }, { on := 21, ground := Ground.data }], guard := none }) (v := ?_) rfl (by kernel_rfl) (by kernel_rfl) (by kernel_rfl) (fun _ _ _ h => h) (Or.inl ⟨by rfl, ?_⟩) (by assumption) ?_
      rotate_left
      · (intro w hSw; (try dsimp only at hSw); (try obtain ⟨s1, s2, s3, s4, s5, s6⟩ := hSw); go_simp; try with_reducible rfl)
      (try dsimp only [Act.put]); (try simp only [Act.put, List.setIfInBounds_toArray, List.set_cons_zero, List.set_cons_succ])
      refine wpAnyH_take (i := 23) (oi := { dst := some 2, op := Op.assign (Operand.tmp 68), type := 4, pos := "laws.go:1323", after := #[{ on := 22, ground := Ground.data }, { on := 18, ground := Ground.chain }, { on := 0, ground := Ground.phase }, { on := 1, ground := Ground.phase }, { on := 2, ground := Ground.phase }, { on := 3, ground := Ground.phase }, { on := 4, ground := Ground.phase }, { on := 5, ground := Ground.phase }, { on := 6, ground := Ground.phase }, { on := 7, ground := Ground.phase }, { on := 8, ground := Ground.phase }, { on := 9, ground := Ground.phase }, { on := 10, ground := Ground.phase }, { on := 11, ground := Ground.phase }, { on := 12, ground := Ground.phase }, { on := 13, ground := Ground.phase }, { on := 14, ground := Ground.phase }, { on := 15, ground := Ground.phase }, { on := 16, ground := Ground.phase }, { on := 17, ground := Ground.phase }, { on := 18, ground := Ground.phase }, { on := 19, ground := Ground.phase }, { on := 20, ground := Ground.phase }, { on := 21, ground := Ground.phase }, { on := 22, ground := Ground.phase }], guard := none }) (v := ?_) rfl (by kernel_rfl) (by kernel_rfl) (by kernel_rfl) (fun _ _ _ h => h) (Or.inl ⟨by rfl, ?_⟩) (by assumption) ?_
      rotate_left
      · (intro w hSw; (try dsimp only at hSw); (try obtain ⟨s1, s2, s3, s4, s5, s6⟩ := hSw); go_simp; try with_reducible rfl)
      (try dsimp only [Act.put]); (try simp only [Act.put, List.setIfInBounds_toArray, List.set_cons_zero, List.set_cons_succ])
      refine wpAnyH_done (by kernel_rfl) ?_ _
      go_wp2_with fail
      go_ret
      exact ⟨rfl, HF.out _ (B7.out _ HB.out).1⟩
    · subst hrk
      have hnn : ¬ ((K.length : Int) < 0) := by omega
      go_wp2_with fail
      go_region_held3 (fun z => z.cell? ⟨w2.heap.size, 0, none⟩ = some (.slice b1 b2 b3) ∧ z.cell? ⟨w2.heap.size, 1, none⟩ = some (.slice b4 b5 b6) ∧ z.cell? ⟨w4.heap.size, 0, none⟩ = some (.slice va4 P1.length vc4) ∧ z.cell? ⟨w4.heap.size, 1, none⟩ = some (.int .i64 A1) ∧ z.cell? ⟨w5.heap.size, 0, none⟩ = some (.slice va5 P1.length vc5) ∧ z.cell? ⟨w5.heap.size, 1, none⟩ = some (.int .i64 A1))
        (first | exact ⟨e1, e2, e3, e4, e5, e6⟩ | go_keep)
        (first
          | (go_at_call 36; refine (HC5.out _ (by first | exact (B7.out _ HB.out).1 | exact (B7.out _ HB.out.drew).1)).mono ?_; rintro e wn ⟨vn, rfl, hon, hbn⟩; obtain ⟨van, vcn, rfl⟩ := IntsOwn.shown hon; clear hon; have hn : Below W7.heap.size W7 wn := (by first | exact HB.out.trans (hbn.mono HB.out.size) | exact HB.out.drew.trans (hbn.mono HB.out.drew.size)); clear HB e1 e2 e3 e4 e5 e6; obtain ⟨e1, e2, e3, e4, e5, e6⟩ := RB.out wn hn; have HB := Lib.hid hn; clear hn hbn)
          | (go_at_call 41; refine (HC8.out _ (by first | exact (B7.out _ HB.out).1 | exact (B7.out _ HB.out.drew).1)).mono ?_; rintro e wn ⟨rfl, hbn⟩; have hn : Below W7.heap.size W7 wn := (by first | exact HB.out.trans (hbn.mono HB.out.size) | exact HB.out.drew.trans (hbn.mono HB.out.drew.size)); clear HB e1 e2 e3 e4 e5 e6; obtain ⟨e1, e2, e3, e4, e5, e6⟩ := RB.out wn hn; have HB := Lib.hid hn; clear hn hbn)
          | (go_at_call 35; refine (ftCursor_c P1 _ _ A1 _ _ (Nat.le_refl _) (by first | exact (B7.out _ HB.out).2.2.1.in | exact (B7.out _ HB.out.drew).2.2.1.in) (by first | exact (B7.out _ HB.out).2.2.2.2.in | exact (B7.out _ HB.out.drew).2.2.2.2.in)).mono ?_; rintro e wn ⟨rfl, hbn⟩; have hn : Below W7.heap.size W7 wn := (by first | exact HB.out.trans (hbn.mono HB.out.size) | exact HB.out.drew.trans (hbn.mono HB.out.drew.size)); clear HB e1 e2 e3 e4 e5 e6; obtain ⟨e1, e2, e3, e4, e5, e6⟩ := RB.out wn hn; have HB := Lib.hid hn; clear hn hbn)
          | fail)
      go_wp2_with fail
      go_ret
      exact ⟨rfl, HF.out _ (B7.out _ HB.out).1⟩
end Go.Proofs.YticfkfjijnfcbaaDoor
