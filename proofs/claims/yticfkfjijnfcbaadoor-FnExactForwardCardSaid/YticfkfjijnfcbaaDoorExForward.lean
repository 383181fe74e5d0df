/- The law on Forward: the walk over the contracts. -/
import Derived.Test.YticfkfjijnfcbaaDoorProg
import Derived.Test.YticfkfjijnfcbaaDoorSh0
import Derived.Test.YticfkfjijnfcbaaDoorSh1
import Derived.Test.YticfkfjijnfcbaaDoorSh17
import Derived.Test.YticfkfjijnfcbaaDoorCurKit2
import Derived.Test.YticfkfjijnfcbaaDoorCurMark
import Derived.Test.YticfkfjijnfcbaaDoorMarkTop
import Derived.Test.YticfkfjijnfcbaaDoorSh15
import Derived.Test.YticfkfjijnfcbaaDoorCurEq
import Derived.Deep.RegionHeld3
import Derived.Deep.CutRange
namespace Go.Proofs.YticfkfjijnfcbaaDoor
open Go.RowKit

theorem rowInts' {w : World} {g : Nat} {ks : List Int} (h : w.rowIs g 3 ks.length (fun i => .int .i64 (ks.getD i 0))) (hl : ks.length ≤ 1048576) : IntsIn w w.heap.size (.slice (some ⟨g, 0, none⟩) ks.length ks.length) ks := by
  obtain ⟨c, hb, hn, hc⟩ := h
  exact ⟨some ⟨g, 0, none⟩, ks.length, rfl, Nat.le_refl _, by unfold maxLen; omega, (fun h => by cases h), .inr ⟨g, 0, rfl, (Array.getElem?_eq_some_iff.1 hb).1, fun i hi => by simpa [World.cell?, hb] using hc i hi⟩⟩

theorem rowOwn' {w : World} {g lo : Nat} {ks : List Int} (h : w.rowIs g 3 ks.length (fun i => .int .i64 (ks.getD i 0))) (hl : ks.length ≤ 1048576) (hlo : lo ≤ g) : IntsOwn w lo (.slice (some ⟨g, 0, none⟩) ks.length ks.length) ks := by
  obtain ⟨c, hb, hn, hc⟩ := h
  refine ⟨by simp, .inr ⟨g, ks.length, c, rfl, hlo, hb, Nat.le_refl _, by unfold maxLen; omega, by omega, ?_⟩⟩
  apply List.ext_getElem?
  intro i
  rw [Nat.mul_one]
  by_cases hi : i < ks.length
  · rw [List.getElem?_take_of_lt hi]
    have := hc i hi
    simp [hi, this]
  · rw [List.getElem?_eq_none (by simp; omega), List.getElem?_eq_none (by simp; omega)]
theorem ownOther' {w w' : World} {lo : Nat} {v : Value} {ks : List Int} (h : IntsOwn w lo v ks) (hb : ∀ k, some k = v.ownBlock → w'.heap[k]? = w.heap[k]?) : IntsOwn w' lo v ks := by
  obtain ⟨h1, h2 | ⟨g, cap, cur, hv, hbb, hg, hr⟩⟩ := h
  · exact ⟨h1, .inl h2⟩
  · exact ⟨h1, .inr ⟨g, cap, cur, hv, hbb, (hb g (by rw [hv]; rfl)).trans hg, hr⟩⟩

set_option maxHeartbeats 4000000 in
set_option maxRecDepth 100000 in
theorem exForward_c {kv cv v : Value} {t : Tr} {ks : List Int} (at' : Int) (s s2 : Addr) (w : World) (ht : TreeIn w w.heap.size kv cv t) (hk : IntsIn w w.heap.size v ks)
    (hV : w.cell? ⟨0, 0, none⟩ = some (.iface 174 (.pointer (some s))) ∧ w.cell? ⟨1, 0, none⟩ = some (.iface 174 (.pointer (some s2)))) (h0 : 1 < w.heap.size) :
    Calls Tryd.prog 6 #[.agg #[kv, cv], .agg #[v, .int .i64 at']] w fun e w' => e = .returned (.bool true) ∧ Below w.heap.size w w' := by
  have VAR : Hid (∀ wx : World, Below w.heap.size w wx → wx.cell? ⟨0, 0, none⟩ = some (.iface 174 (.pointer (some s))) ∧ wx.cell? ⟨1, 0, none⟩ = some (.iface 174 (.pointer (some s2)))) :=
    Lib.hid (fun wx hx => ⟨(below_cell hx (by show 0 < _; omega)).trans hV.1, (below_cell hx (by show 1 < _; omega)).trans hV.2⟩)
  obtain ⟨r, hr⟩ : ∃ r, r = Tr.walkB t ks at' (fun K => Tr.goF (K + 1) t ks) := ⟨_, rfl⟩
  have hrl : r.1.length ≤ 1048576 := by rw [hr]; have := (Tr.walk_short (t := t) (ks := ks) (a := at') (c := 1)).1; omega
  have HSPEC : Hid (t.weight ≤ 1048576 → ∀ (kv cv v : Value) (w0 : World), TreeIn w0 w0.heap.size kv cv t → IntsIn w0 w0.heap.size v ks → Calls Tryd.prog 29 #[.agg #[kv, cv], .agg #[v, .int .i64 at']] w0 (Told w0 r)) := Lib.hid (fun hw kv cv v w0 ht0 hk0 => by
    rw [hr, Tr.forward_eq]; exact specForward_c ht0 hw hk0 at' w0 (Below.refl _ _) (Nat.le_refl _))
  have HIMPL : Hid (t.weight ≤ 1048576 → ∀ (kv cv v : Value) (w0 w1 : World), TreeIn w0 w0.heap.size kv cv t → IntsIn w0 w0.heap.size v ks → Below w0.heap.size w0 w1 → Below w.heap.size w w1 → Calls Tryd.prog 31 #[.agg #[kv, cv], .agg #[v, .int .i64 at']] w1 (Walked w1 r)) := Lib.hid (fun hw kv cv v w0 w1 ht0 hk0 hb hbw => by
    rw [hr]; exact impl_forward_c ht0 hw hk0 at' s s2 w1 hb hb.size (fun wx hx => VAR.out wx (hbw.trans (hx.mono hbw.size))))
  have HIM2 : Hid (t.weight ≤ 1048576 → ∀ (kv cv v : Value) (w0 : World), TreeIn w0 w0.heap.size kv cv t → IntsIn w0 w0.heap.size v ks → Below w.heap.size w w0 → Calls Tryd.prog 31 #[.agg #[kv, cv], .agg #[v, .int .i64 at']] w0 (Walked w0 r)) :=
    Lib.hid (fun hw kv cv v w0 ht0 hk0 hbw => HIMPL.out hw kv cv v w0 w0 ht0 hk0 (Below.refl _ _) hbw)
  have HK := Lib.hid hk
  obtain ⟨va, vcap, rfl, hv1, hv2, -, -⟩ := hk
  unfold maxLen at hv2
  clear hr hV
  obtain ⟨W1, hW1⟩ : ∃ W1, W1 = (w.alloc (.cells #[kv, cv] 25)).alloc (.cells #[.slice va ks.length vcap, .int .i64 at'] 42) := ⟨_, rfl⟩
  have hs1 : W1.heap.size = w.heap.size + 2 := by rw [hW1]; simp
  have hb1 : Below w.heap.size w W1 := by rw [hW1]; exact ((Below.refl _ _).alloc (Nat.le_refl _) _).alloc (by simp) _
  have kb : W1.heap[w.heap.size]? = some (.cells #[kv, cv] 25 (0, 0)) := by rw [hW1, old_blk _ _ _ (by simp), new_blk]
  have kc : W1.heap[w.heap.size + 1]? = some (.cells #[.slice va ks.length vcap, .int .i64 at'] 42 (0, 0)) := by
    rw [hW1, show w.heap.size + 1 = (w.alloc (.cells #[kv, cv] 25)).heap.size by simp, new_blk]
  have BOX1 : Hid (∀ wx : World, Below W1.heap.size W1 wx → wx.heap[w.heap.size]? = some (.cells #[kv, cv] 25 (0, 0)) ∧ wx.heap[w.heap.size + 1]? = some (.cells #[.slice va ks.length vcap, .int .i64 at'] 42 (0, 0)) ∧ Below w.heap.size w wx) :=
    Lib.hid (fun wx hx => ⟨(hx.block _ (by omega)).trans kb, (hx.block _ (by omega)).trans kc, hb1.trans (hx.mono (by omega))⟩)
  have LIMB : Hid (∀ wx : World, Below W1.heap.size W1 wx → wx.cell? ⟨w.heap.size, 0, none⟩ = some kv ∧ wx.cell? ⟨w.heap.size, 1, none⟩ = some cv ∧ wx.cell? ⟨w.heap.size + 1, 0, none⟩ = some (.slice va ks.length vcap) ∧ wx.cell? ⟨w.heap.size + 1, 1, none⟩ = some (.int .i64 at')) :=
    Lib.hid (fun wx hx => by
      obtain ⟨e1, e2, -, -⟩ := box2 ((hx.block w.heap.size (by omega)).trans kb)
      obtain ⟨e3, e4, -, -⟩ := box2 ((hx.block (w.heap.size + 1) (by omega)).trans kc)
      exact ⟨e1, e2, e3, e4⟩)
  have kbx := kb
  have kcx := kc
  rw [hW1] at kbx kcx
  obtain ⟨x1, x2, x3, x4⟩ := box2 kbx
  obtain ⟨y1, y2, y3, y4⟩ := box2 kcx
  have HW1 := Lib.hid hW1
  have HT := Lib.hid ht
  have hlt1 : w.heap.size + 1 < W1.heap.size := by omega
  clear hW1 hb1 kb kc kbx kcx ht hs1
  obtain ⟨P, a, ok⟩ := r
  simp only at hrl
  go_enter Tryd.func6, Tryd.ntmps6
  go_wp2_with fail
  rw [← HW1.out]
  refine (szTree_c HT.out W1 1048576 (BOX1.out W1 (Below.refl _ _)).2.2 (by omega) (by omega) (by omega)).mono ?_
  rintro e w2 ⟨rfl, hb2⟩
  have hs2 := hb2.size
  clear x1 x2 x3 x4 y1 y2 y3 y4
  obtain ⟨x1, x2, x3, x4⟩ := box2 (BOX1.out w2 hb2).1
  obtain ⟨y1, y2, y3, y4⟩ := box2 (BOX1.out w2 hb2).2.1
  have H2 := Lib.hid hb2
  clear hb2
  by_cases hwt : t.weight ≤ 1048576
  case neg =>
    rw [leftOf_lt (by omega)]
    go_wp2_with fail
    go_ret
    exact ⟨rfl, (BOX1.out w2 H2.out).2.2⟩
  rw [leftOf_ge (by omega)]
  obtain ⟨LL, hLL⟩ : ∃ L : Int, L = 1048576 - (t.weight : Int) := ⟨_, rfl⟩
  rw [← hLL]
  have hL0 : ¬ (LL < 0) := by omega
  have HLL := Lib.hid hLL
  have HSC := Lib.hid (szCursor_c va ks.length vcap at' LL w2 (by omega) (by omega) (by omega))
  clear hLL
  go_wp2_with fail
  refine HSC.out.mono ?_
  rintro e w2b ⟨rfl, hb2b⟩
  have h2b : Below W1.heap.size W1 w2b := H2.out.trans (hb2b.mono hs2)
  have hs2b := h2b.size
  clear x1 x2 x3 x4 y1 y2 y3 y4
  obtain ⟨x1, x2, x3, x4⟩ := box2 (BOX1.out w2b h2b).1
  obtain ⟨y1, y2, y3, y4⟩ := box2 (BOX1.out w2b h2b).2.1
  have H2B := Lib.hid h2b
  clear hb2b h2b
  by_cases hkl : (ks.length : Int) ≤ LL
  case neg =>
    rw [leftOf_lt (n := LL) (m := ks.length) (by omega)]
    go_wp2_with fail
    go_ret
    exact ⟨rfl, (BOX1.out w2b H2B.out).2.2⟩
  rw [leftOf_ge (n := LL) (m := ks.length) (by omega)]
  have hkn : ks.length ≤ 1048576 := by have := HLL.out; omega
  have hnn : ¬ (LL - (ks.length : Int) < 0) := by omega
  obtain ⟨L2, hL2⟩ : ∃ L : Int, L = LL - (ks.length : Int) := ⟨_, rfl⟩
  rw [← hL2] at hnn ⊢
  have HKL := Lib.hid (And.intro hL2 hkl)
  clear hL2 hkl
  go_wp2_with fail
  -- the first copies, for the model
  go_cut [6, 7] from 27 to 34 (fun s6 s7 wx => ∃ (q : Nat) (va4 : Option Addr) (vc4 : Nat), s6 = .pointer (some ⟨q, 0, none⟩) ∧ s7 = .bool ok ∧ q < wx.heap.size ∧ W1.heap.size ≤ q ∧ wx.heap[q]? = some (.cells #[.slice va4 P.length vc4, .int .i64 a] 28 (0, 0)) ∧ IntsOwn wx W1.heap.size (.slice va4 P.length vc4) P ∧ Below W1.heap.size W1 wx)
  case first =>
    go_region_held3 (fun x => x.cell? ⟨w.heap.size, 0, none⟩ = some kv ∧ x.cell? ⟨w.heap.size, 1, none⟩ = some cv ∧ x.cell? ⟨w.heap.size + 1, 0, none⟩ = some (.slice va ks.length vcap) ∧ x.cell? ⟨w.heap.size + 1, 1, none⟩ = some (.int .i64 at'))
      (first | exact ⟨x1, x2, y1, y2⟩ | exact LIMB.out _ ((H4.out.2.1.setCell (by exact hwq) _).setCell (by exact hwq) _) | exact LIMB.out _ (H4.out.2.1.alloc H4.out.2.1.size _) | exact LIMB.out _ H4.out.2.1 | exact LIMB.out _ (HTC.out.2.2.1.alloc HTC.out.2.2.1.size _) | exact LIMB.out _ HTC.out.2.2.1 | exact LIMB.out _ (HTT.out.2.1.alloc HTT.out.2.1.size _) | exact LIMB.out _ HTT.out.2.1 | exact LIMB.out _ (H2B.out.drew.alloc H2B.out.drew.size _) | exact LIMB.out _ H2B.out.drew | go_keep)
      (first
        | (go_at_call 29; refine (HSPEC.out hwt _ _ _ _ (by first | exact HTC.out.2.1 | exact (HTC.out.2.1.later ((Below.refl w3c.heap.size w3c).alloc (Nat.le_refl _) _) (Nat.le_refl _)).wider (by simp)) (by first | exact HTC.out.1 | exact (HTC.out.1.later ((Below.refl w3c.heap.size w3c).alloc (Nat.le_refl _) _) (Nat.le_refl _)).wider (by simp))).mono ?_; rintro e w4 ⟨v4, rfl, ho4, hb4⟩; obtain ⟨va4, vc4, rfl⟩ := IntsOwn.shown ho4; have h40 : Below W1.heap.size W1 w4 := (by first | exact HTC.out.2.2.1.trans (hb4.mono HTC.out.2.2.1.size) | exact (HTC.out.2.2.1.alloc HTC.out.2.2.1.size _).trans (hb4.mono (HTC.out.2.2.1.alloc HTC.out.2.2.1.size _).size)); have hlo4 : IntsOwn w4 W1.heap.size (.slice va4 P.length vc4) P := (by first | exact ho4.lower HTC.out.2.2.1.size | exact ho4.lower (HTC.out.2.2.1.alloc HTC.out.2.2.1.size _).size); (first | (have hzq := (hb4.block w3c.heap.size (by simp)).trans (new_blk w3c _); have hwq : W1.heap.size ≤ w3c.heap.size := HTC.out.2.2.1.size; have hqo : ∀ k, some k = (Value.slice va4 P.length vc4).ownBlock → k ≠ w3c.heap.size := (fun k hk => by have h9 := (ho4.lt k hk.symm).1; simp at h9; omega); obtain ⟨j1, j2, j3, j4⟩ := box2 hzq) | (have hzq := (hb4.block w3.heap.size (by have h9 := HR3C.out.size; simp at h9; omega)).trans ((HR3C.out.block w3.heap.size (by simp)).trans (new_blk w3 _)); have hwq : W1.heap.size ≤ w3.heap.size := HTT.out.2.1.size; have hqo : ∀ k, some k = (Value.slice va4 P.length vc4).ownBlock → k ≠ w3.heap.size := (fun k hk => by have h9 := (ho4.lt k hk.symm).1; have h8 := HR3C.out.size; simp at h8; omega); obtain ⟨j1, j2, j3, j4⟩ := box2 hzq) | (have hzq : w4.heap[w2b.heap.size]? = some (.cells #[.slice none 0 0, .int .i64 0] 28 (0, 0)) := (hb4.block w2b.heap.size (by have h9 := HR3C.out.size; have h8 := HR3.out.size; simp at h8; omega)).trans ((HR3C.out.block w2b.heap.size (by have h8 := HR3.out.size; simp at h8; omega)).trans ((HR3.out.block w2b.heap.size (by simp)).trans (new_blk w2b.drew _))); have hwq : W1.heap.size ≤ w2b.heap.size := H2B.out.drew.size; have hqo : ∀ k, some k = (Value.slice va4 P.length vc4).ownBlock → k ≠ w2b.heap.size := (fun k hk => by have h9 := (ho4.lt k hk.symm).1; have h8 := HR3C.out.size; have h7 := HR3.out.size; simp at h7; omega); obtain ⟨j1, j2, j3, j4⟩ := box2 hzq) | skip); have H4 := Lib.hid (And.intro hlo4 (And.intro h40 (True.intro))); clear ho4 hb4 h40 hlo4)
        | (go_at_call 17; refine (toTree_c HT.out hwt _ (by first | exact (BOX1.out _ H2B.out.drew).2.2 | exact (BOX1.out _ (H2B.out.drew.alloc H2B.out.drew.size _)).2.2) (by simp; omega)).mono ?_; rintro e w3 ⟨k3, c3, rfl, hn3, hb3⟩; have h30 : Below W1.heap.size W1 w3 := (by first | exact H2B.out.drew.trans (hb3.mono H2B.out.drew.size) | exact (H2B.out.drew.alloc H2B.out.drew.size _).trans (hb3.mono (H2B.out.drew.alloc H2B.out.drew.size _).size)); have HTT := Lib.hid (And.intro (hn3.tree hwt) (And.intro h30 (True.intro))); have HR3 := Lib.hid hb3; clear hn3 hb3 h30)
        | (go_at_call 30; refine (toCursor_c ks _ at' _ w.heap.size (by have h9 := HTT.out.2.1.size; first | omega | (simp; omega)) (by first | exact HK.out.later (BOX1.out _ HTT.out.2.1).2.2 (Nat.le_refl _) | exact HK.out.later (BOX1.out _ (HTT.out.2.1.alloc HTT.out.2.1.size _)).2.2 (Nat.le_refl _)) hkn).mono ?_; rintro e w3c ⟨g3, rfl, hg3, hrow3, hb3c⟩; have h3c0 : Below W1.heap.size W1 w3c := (by first | exact HTT.out.2.1.trans (hb3c.mono HTT.out.2.1.size) | exact (HTT.out.2.1.alloc HTT.out.2.1.size _).trans (hb3c.mono (HTT.out.2.1.alloc HTT.out.2.1.size _).size)); have hi3 : IntsIn w3c w3c.heap.size (.slice (some ⟨g3, 0, none⟩) ks.length ks.length) ks := rowInts' hrow3 hkn; have hb33 : Below w3.heap.size w3 w3c := (by first | exact hb3c | exact ((Below.refl w3.heap.size w3).alloc (Nat.le_refl _) _).trans (hb3c.mono (by simp))); have htr3 : TreeIn w3c w3c.heap.size k3 c3 t := (HTT.out.1.later hb33 (Nat.le_refl _)).wider hb33.size; have HTC := Lib.hid (And.intro hi3 (And.intro htr3 (And.intro h3c0 (True.intro)))); have HR3C := Lib.hid hb3c; clear hrow3 hb3c h3c0 hi3 hb33 htr3)
        | fail)
    all_goals (
      go_wp2_with fail
      go_meet
      first
        | exact ⟨w4.heap.size, va4, vc4, rfl, rfl, by simp, H4.out.2.1.size, by rw [new_blk], IntsOwn.alloc' H4.out.1 _, H4.out.2.1.alloc H4.out.2.1.size _⟩
        | exact ⟨_, va4, vc4, rfl, rfl, by simp; exact (Array.getElem?_eq_some_iff.1 hzq).1, hwq, set_blk (o := 1) _ (set_blk (o := 0) _ hzq), ownOther' H4.out.1 (fun k hk => by rw [set_other _ _ _ _ _ (hqo k hk), set_other _ _ _ _ _ (hqo k hk)]), (H4.out.2.1.setCell (by exact hwq) _).setCell (by exact hwq) _⟩)
  case rest =>
    obtain ⟨q4, va4, vc4, rfl, rfl, hq1, hq2, hq3, ho4, hb4⟩ := hcut
    have hsc := hb4.size
    have hkc := BOX1.out wc hb4
    clear x1 x2 x3 x4 y1 y2 y3 y4
    obtain ⟨x1, x2, x3, x4⟩ := box2 hkc.1
    have HWC := Lib.hid (And.intro hb4 (And.intro hq3 ho4))
    clear hb4 hq3 ho4 hkc
    go_wp2_with fail
    -- the second copies, for the program
    refine (toTree_c HT.out hwt wc (BOX1.out wc HWC.out.1).2.2 (by omega)).mono ?_
    rintro e w5 ⟨k5, c5, rfl, hn5, hb5⟩
    obtain ⟨g5, h5, n5, m5, rfl, rfl⟩ := hn5.slices
    have hs5 := hb5.size
    obtain ⟨W5, hW5⟩ : ∃ W5, W5 = w5.alloc (.cells #[.slice (some ⟨g5, 0, none⟩) n5 n5, .slice (some ⟨h5, 0, none⟩) m5 m5] 33) := ⟨_, rfl⟩
    have hz5 : W5.heap.size = w5.heap.size + 1 := by rw [hW5]; simp
    have hbb5 : Below w5.heap.size w5 W5 := by rw [hW5]; exact (Below.refl _ _).alloc (Nat.le_refl _) _
    have kx5 : W5.heap[w5.heap.size]? = some (.cells #[.slice (some ⟨g5, 0, none⟩) n5 n5, .slice (some ⟨h5, 0, none⟩) m5 m5] 33 (0, 0)) := by rw [hW5, new_blk]
    have h15 : Below W1.heap.size W1 W5 := HWC.out.1.trans ((hb5.mono hsc).trans (hbb5.mono (by omega)))
    have hc5 : Below wc.heap.size wc W5 := hb5.trans (hbb5.mono hs5)
    have HM5 := Lib.hid hn5.mem
    have HN5 := Lib.hid (hn5.tree hwt)
    have hk5 := BOX1.out W5 h15
    clear x1 x2 x3 x4
    obtain ⟨y1, y2, y3, y4⟩ := box2 hk5.2.1
    rw [hW5] at y1 y2 y3 y4
    have hlt5 : w5.heap.size < W5.heap.size := by omega
    have H5 := Lib.hid (And.intro h15 (And.intro kx5 (And.intro hbb5 hc5)))
    have HW5 := Lib.hid hW5
    clear hn5 hb5 hW5 hz5 hbb5 kx5 h15 hk5 hc5
    go_wp2_with fail
    rw [← HW5.out]
    refine (toCursor_c ks _ at' W5 w.heap.size (by omega) (HK.out.later (BOX1.out W5 H5.out.1).2.2 (Nat.le_refl _)) hkn).mono ?_
    rintro e w6 ⟨g6, rfl, hg6, hrow6, hb6⟩
    have hs6 := hb6.size
    have hi6 : IntsIn w6 w6.heap.size (.slice (some ⟨g6, 0, none⟩) ks.length ks.length) ks := rowInts' hrow6 hkn
    have ho6 : IntsOwn w6 W5.heap.size (.slice (some ⟨g6, 0, none⟩) ks.length ks.length) ks := rowOwn' hrow6 hkn hg6
    have hg6l : g6 < w6.heap.size := by obtain ⟨c, hb, -, -⟩ := hrow6; exact (Array.getElem?_eq_some_iff.1 hb).1
    obtain ⟨W6, hW6⟩ : ∃ W6, W6 = w6.alloc (.cells #[.slice (some ⟨g6, 0, none⟩) ks.length ks.length, .int .i64 at'] 28) := ⟨_, rfl⟩
    have hz6 : W6.heap.size = w6.heap.size + 1 := by rw [hW6]; simp
    have hbb6 : Below w6.heap.size w6 W6 := by rw [hW6]; exact (Below.refl _ _).alloc (Nat.le_refl _) _
    have ky6 : W6.heap[w6.heap.size]? = some (.cells #[.slice (some ⟨g6, 0, none⟩) ks.length ks.length, .int .i64 at'] 28 (0, 0)) := by rw [hW6, new_blk]
    have h56 : Below W5.heap.size W5 W6 := hb6.trans (hbb6.mono hs6)
    have kx6 := (h56.block w5.heap.size (by omega)).trans H5.out.2.1
    have htr6 : TreeIn w6 w6.heap.size (.slice (some ⟨g5, 0, none⟩) n5 n5) (.slice (some ⟨h5, 0, none⟩) m5 m5) t := (TreeIn.later HN5.out (H5.out.2.2.1.trans (hb6.mono (by omega))) (Nat.le_refl _)).wider (by omega)
    have hw6 : Below w.heap.size w W6 := (BOX1.out W6 (H5.out.1.trans (h56.mono H5.out.1.size))).2.2
    have HI := Lib.hid (HIMPL.out hwt _ _ _ w6 W6 htr6 hi6 hbb6 hw6)
    clear y1 y2 y3 y4
    have kx6x := kx6
    have ky6x := ky6
    rw [hW6] at kx6x ky6x
    obtain ⟨x1, x2, x3, x4⟩ := box2 kx6x
    obtain ⟨y1, y2, y3, y4⟩ := box2 ky6x
    have hlt6 : w6.heap.size < W6.heap.size := by omega
    have H6 := Lib.hid (And.intro h56 (And.intro kx6 (And.intro ky6 (ho6.later hbb6 (Nat.le_refl _)))))
    have HW6 := Lib.hid hW6
    clear hb6 hrow6 hi6 ho6 hW6 hz6 hbb6 ky6 h56 kx6 htr6 hw6 kx6x ky6x
    go_wp2_with fail
    rw [← HW6.out]
    refine HI.out.mono ?_
    rintro e w7 ⟨v7, rfl, ho7, hb7⟩
    obtain ⟨va7, vc7, rfl⟩ := IntsOwn.shown ho7
    have hs7 := hb7.size
    obtain ⟨W7, hW7⟩ : ∃ W7, W7 = w7.alloc (.cells #[.slice va7 P.length vc7, .int .i64 a] 28) := ⟨_, rfl⟩
    have hz7 : W7.heap.size = w7.heap.size + 1 := by rw [hW7]; simp
    have hbb7 : Below w7.heap.size w7 W7 := by rw [hW7]; exact (Below.refl _ _).alloc (Nat.le_refl _) _
    have h67 : Below W6.heap.size W6 W7 := hb7.trans (hbb7.mono hs7)
    have kg7 : W7.heap[w7.heap.size]? = some (.cells #[.slice va7 P.length vc7, .int .i64 a] 28 (0, 0)) := by rw [hW7, new_blk]
    have HOB : Hid (∀ g, (Value.slice va7 P.length vc7).ownBlock = some g → W6.heap.size ≤ g ∧ g < w7.heap.size) := Lib.hid (fun g hg => by have := ho7.lt g hg; omega)
    have h57 : Below W5.heap.size W5 W7 := H6.out.1.trans (h67.mono (by omega))
    have hc7 : Below wc.heap.size wc W7 := H5.out.2.2.2.trans (h57.mono (by omega))
    have BOX7 : Hid (∀ wx : World, Below W7.heap.size W7 wx → wx.heap[w.heap.size]? = some (.cells #[kv, cv] 25 (0, 0)) ∧ wx.heap[w.heap.size + 1]? = some (.cells #[.slice va ks.length vcap, .int .i64 at'] 42 (0, 0)) ∧
        wx.heap[q4]? = some (.cells #[.slice va4 P.length vc4, .int .i64 a] 28 (0, 0)) ∧ wx.heap[w5.heap.size]? = some (.cells #[.slice (some ⟨g5, 0, none⟩) n5 n5, .slice (some ⟨h5, 0, none⟩) m5 m5] 33 (0, 0)) ∧
        wx.heap[w6.heap.size]? = some (.cells #[.slice (some ⟨g6, 0, none⟩) ks.length ks.length, .int .i64 at'] 28 (0, 0)) ∧ wx.heap[w7.heap.size]? = some (.cells #[.slice va7 P.length vc7, .int .i64 a] 28 (0, 0)) ∧
        Below w.heap.size w wx ∧ Below w5.heap.size w5 wx ∧ IntsOwn wx W6.heap.size (.slice va7 P.length vc7) P ∧ IntsOwn wx W1.heap.size (.slice va4 P.length vc4) P ∧ IntsOwn wx W5.heap.size (.slice (some ⟨g6, 0, none⟩) ks.length ks.length) ks ∧ Below wc.heap.size wc wx) := Lib.hid (fun wx hx => by
      have hb1 := BOX1.out wx (HWC.out.1.trans ((hc7.mono hsc).trans (hx.mono (by omega))))
      have hcx : Below wc.heap.size wc wx := hc7.trans (hx.mono (by omega))
      have h5x : Below W5.heap.size W5 wx := h57.trans (hx.mono (by omega))
      have h6x : Below W6.heap.size W6 wx := h67.trans (hx.mono (by omega))
      exact ⟨hb1.1, hb1.2.1, (hcx.block _ hq1).trans HWC.out.2.1, (h5x.block _ hlt5).trans H5.out.2.1, (h6x.block _ hlt6).trans H6.out.2.2.1, (hx.block _ (by omega)).trans kg7, hb1.2.2,
        H5.out.2.2.1.trans (h5x.mono (by omega)), (ho7.later hbb7 (Nat.le_refl _)).later hx (Nat.le_refl _), HWC.out.2.2.later hcx (Nat.le_refl _), H6.out.2.2.2.later h6x (Nat.le_refl _), hcx⟩)
    have hb0 := BOX7.out W7 (Below.refl _ _)
    clear x1 x2 x3 x4 y1 y2 y3 y4
    obtain ⟨x1, x2, -, -⟩ := box2 hb0.2.2.1
    obtain ⟨y1, y2, -, -⟩ := box2 hb0.2.2.2.2.2.1
    rw [hW7] at x1 x2 y1 y2
    have HW7 := Lib.hid hW7
    have hlt7 : w7.heap.size < W7.heap.size := by omega
    have hneb : (ok != ok) = false := by simp
    clear hb0 ho7 hb7 hW7 hz7 hbb7 h67 kg7 h57 hc7
    go_wp2_with fail
    rw [← HW7.out]
    refine (eqCursor_c P _ _ a W7 W7.heap.size (Nat.le_refl _) (IntsOwn.inB (BOX7.out W7 (Below.refl _ _)).2.2.2.2.2.2.2.2.1 (Nat.le_refl _)) (IntsOwn.inB (BOX7.out W7 (Below.refl _ _)).2.2.2.2.2.2.2.2.2.1 (Nat.le_refl _))).mono ?_
    rintro e w8 ⟨rfl, hb8⟩
    have hs8 := hb8.size
    have hb0 := BOX7.out w8 hb8
    clear x1 x2 y1 y2
    obtain ⟨x1, x2, -, -⟩ := box2 hb0.1
    obtain ⟨y1, y2, -, -⟩ := box2 hb0.2.2.2.1
    have H8 := Lib.hid hb8
    clear hb0 hb8
    go_wp2_with fail
    go_region_held3 (fun x => x.cell? ⟨w.heap.size, 0, none⟩ = some kv ∧ x.cell? ⟨w.heap.size, 1, none⟩ = some cv ∧ x.cell? ⟨w5.heap.size, 0, none⟩ = some (.slice (some ⟨g5, 0, none⟩) n5 n5) ∧ x.cell? ⟨w5.heap.size, 1, none⟩ = some (.slice (some ⟨h5, 0, none⟩) m5 m5))
      (first | exact ⟨x1, x2, y1, y2⟩ | exact ⟨z1, z2, u1, u2⟩ | exact ⟨q1, q2, r1, r2⟩ | go_keep)
      (first
        | (go_at_call 17; refine (toTree_c HT.out hwt _ ((BOX7.out w8 H8.out).2.2.2.2.2.2.1.drew) (by simp; omega)).mono ?_; rintro e w9 ⟨k9, c9, rfl, hn9, hb9⟩; obtain ⟨g9, h9, n9, m9, rfl, rfl⟩ := hn9.slices; have hs9 : w8.heap.size ≤ w9.heap.size := hb9.size; have HN9 := Lib.hid (hn9.tree hwt); have hbb9 : Below W7.heap.size W7 w9 := H8.out.drew.trans (hb9.mono (by simp; omega)); have hk9 := BOX7.out w9 hbb9; obtain ⟨z1, z2, z3, z4⟩ := box2 hk9.1; obtain ⟨u1, u2, u3, u4⟩ := box2 hk9.2.2.2.1; have H9 := Lib.hid hbb9; clear hb9 hn9 hbb9 hk9)
        | (go_at_call 20; refine (eqTree_c (TreeIn.wider (TreeIn.later HN5.out (BOX7.out w9 H9.out).2.2.2.2.2.2.2.1 (Nat.le_refl _)) (by omega)) _ _ HN9.out _ (Below.refl _ _) (Nat.le_refl _)).mono ?_; rintro e w10 ⟨rfl, hb10⟩; have hs10 := hb10.size; have hbb10 : Below W7.heap.size W7 w10 := H9.out.trans (hb10.mono (by omega)); have hk10 := BOX7.out w10 hbb10; obtain ⟨q1, q2, q3, q4'⟩ := box2 hk10.1; obtain ⟨r1, r2, r3, r4⟩ := box2 hk10.2.2.2.1; have H10 := Lib.hid hbb10; clear hb10 hbb10 hk10))
    clear x1 x2 y1 y2 z1 z2 z3 z4 u1 u2 u3 u4 q1 q2 q3 q4' r1 r2 r3 r4
    have hb0 := BOX7.out w10 H10.out
    obtain ⟨x1, x2, -, -⟩ := box2 hb0.2.1
    obtain ⟨y1, y2, -, -⟩ := box2 hb0.2.2.2.2.1
    clear hb0
    go_wp2_with fail
    go_region_held3 (fun x => x.cell? ⟨w.heap.size + 1, 0, none⟩ = some (.slice va ks.length vcap) ∧ x.cell? ⟨w.heap.size + 1, 1, none⟩ = some (.int .i64 at') ∧ x.cell? ⟨w6.heap.size, 0, none⟩ = some (.slice (some ⟨g6, 0, none⟩) ks.length ks.length) ∧ x.cell? ⟨w6.heap.size, 1, none⟩ = some (.int .i64 at'))
      (first | exact ⟨x1, x2, y1, y2⟩ | exact ⟨z1, z2, u1, u2⟩ | exact ⟨q1, q2, r1, r2⟩ | go_keep)
      (first
        | (go_at_call 30; refine (toCursor_c ks _ at' _ w.heap.size (by simp; omega) (HK.out.later ((BOX7.out w10 H10.out).2.2.2.2.2.2.1.drew) (Nat.le_refl _)) hkn).mono ?_; rintro e w9b ⟨g9b, rfl, hg9b, hrow9, hb9⟩; have hs9b : w10.heap.size ≤ w9b.heap.size := hb9.size; have hi9 : IntsIn w9b w9b.heap.size (.slice (some ⟨g9b, 0, none⟩) ks.length ks.length) ks := rowInts' hrow9 hkn; have HI9 := Lib.hid hi9; have hbb9 : Below W7.heap.size W7 w9b := H10.out.drew.trans (hb9.mono (by simp; omega)); have hk9 := BOX7.out w9b hbb9; obtain ⟨z1, z2, z3, z4⟩ := box2 hk9.2.1; obtain ⟨u1, u2, u3, u4⟩ := box2 hk9.2.2.2.2.1; have H9B := Lib.hid hbb9; clear hb9 hrow9 hbb9 hk9 hi9 hg9b)
        | (go_at_call 19; refine (eqCursor_c ks _ _ at' w9b w9b.heap.size (Nat.le_refl _) (IntsOwn.inB (BOX7.out w9b H9B.out).2.2.2.2.2.2.2.2.2.2.1 (Nat.le_refl _)) HI9.out).mono ?_; rintro e w10b ⟨rfl, hb10⟩; have hs10b := hb10.size; have hbb10 : Below W7.heap.size W7 w10b := H9B.out.trans (hb10.mono (by omega)); have hk10 := BOX7.out w10b hbb10; obtain ⟨q1, q2, q3, q4'⟩ := box2 hk10.2.1; obtain ⟨r1, r2, r3, r4⟩ := box2 hk10.2.2.2.2.1; have H10B := Lib.hid hbb10; clear hb10 hbb10 hk10))
    clear x1 x2 y1 y2 z1 z2 z3 z4 u1 u2 u3 u4 q1 q2 q3 q4' r1 r2 r3 r4
    have hb0 := BOX7.out w10b H10B.out
    obtain ⟨x1, x2, -, -⟩ := box2 hb0.2.2.2.1
    clear hb0
    go_wp2_with fail
    -- the program's arguments are marked
    refine (markTree_up (HM5.out.touch (Touch.of_below (BOX7.out w10b H10B.out).2.2.2.2.2.2.2.1 (Nat.le_refl _))) hwt (by omega) 1 (by omega) (by omega)).mono ?_
    rintro e w11 ⟨m11, rfl, hm11, hm11u, hsp⟩
    have hs11 := hsp.size
    have hk10 := BOX7.out w10b H10B.out
    have BOX11 : Hid (∀ wx : World, Below w11.heap.size w11 wx → wx.heap[w.heap.size]? = some (.cells #[kv, cv] 25 (0, 0)) ∧ wx.heap[w.heap.size + 1]? = some (.cells #[.slice va ks.length vcap, .int .i64 at'] 42 (0, 0)) ∧
        wx.heap[q4]? = some (.cells #[.slice va4 P.length vc4, .int .i64 a] 28 (0, 0)) ∧
        wx.heap[w6.heap.size]? = some (.cells #[.slice (some ⟨g6, 0, none⟩) ks.length ks.length, .int .i64 at'] 28 (0, 0)) ∧ wx.heap[w7.heap.size]? = some (.cells #[.slice va7 P.length vc7, .int .i64 a] 28 (0, 0)) ∧
        Below w.heap.size w wx ∧ IntsOwn wx W6.heap.size (.slice va7 P.length vc7) P ∧ IntsOwn wx W1.heap.size (.slice va4 P.length vc4) P ∧ IntsOwn wx W5.heap.size (.slice (some ⟨g6, 0, none⟩) ks.length ks.length) ks ∧ Below wc.heap.size wc wx) := Lib.hid (fun wx hx => by
      have hcx : Below wc.heap.size wc wx := hk10.2.2.2.2.2.2.2.2.2.2.2.trans ((hsp.below (by omega)).trans (hx.mono (by omega)))
      have hb1 := BOX1.out wx (HWC.out.1.trans (hcx.mono hsc))
      exact ⟨hb1.1, hb1.2.1, (hcx.block _ hq1).trans HWC.out.2.1, (hx.block _ (by omega)).trans ((hsp.block _ (by omega) (.inr (by omega))).trans hk10.2.2.2.2.1), (hx.block _ (by omega)).trans ((hsp.block _ (by omega) (.inr (by omega))).trans hk10.2.2.2.2.2.1), hb1.2.2,
        (hk10.2.2.2.2.2.2.2.2.1.span hsp (by omega)).later hx (Nat.le_refl _), HWC.out.2.2.later hcx (Nat.le_refl _), (hk10.2.2.2.2.2.2.2.2.2.2.1.span hsp (by omega)).later hx (Nat.le_refl _), hcx⟩)
    have hb0 := BOX11.out w11 (Below.refl _ _)
    clear x1 x2
    obtain ⟨x1, x2, -, -⟩ := box2 hb0.2.2.2.1
    clear hb0 hsp hk10
    go_wp2_with fail
    refine (markCursor_c (BOX11.out w11 (Below.refl _ _)).2.2.2.2.2.2.2.2.1 (by omega) hkn at' m11 (by omega) (by omega)).mono ?_
    rintro e w11b ⟨rfl, -, hb11b, hoth11⟩
    have hs11b := hb11b.size
    have hm' : ¬ (m11 + (ks.length : Int) < 0) := by omega
    have hk11 := BOX11.out w11 (Below.refl _ _)
    have hn6 : ∀ k, k ≠ g6 → some k ≠ (Value.slice (some ⟨g6, 0, none⟩) ks.length ks.length).ownBlock := fun k hk e => hk (by simpa [Value.ownBlock] using e)
    have BOX12 : Hid (∀ wx : World, Below w11b.heap.size w11b wx → wx.heap[w.heap.size]? = some (.cells #[kv, cv] 25 (0, 0)) ∧ wx.heap[w.heap.size + 1]? = some (.cells #[.slice va ks.length vcap, .int .i64 at'] 42 (0, 0)) ∧
        wx.heap[q4]? = some (.cells #[.slice va4 P.length vc4, .int .i64 a] 28 (0, 0)) ∧ wx.heap[w7.heap.size]? = some (.cells #[.slice va7 P.length vc7, .int .i64 a] 28 (0, 0)) ∧
        Below w.heap.size w wx ∧ IntsOwn wx W6.heap.size (.slice va7 P.length vc7) P ∧ IntsOwn wx W1.heap.size (.slice va4 P.length vc4) P ∧ Below wc.heap.size wc wx) := Lib.hid (fun wx hx => by
      have hcx : Below wc.heap.size wc wx := hk11.2.2.2.2.2.2.2.2.2.trans ((hb11b.mono (by omega)).trans (hx.mono (by omega)))
      have hb1 := BOX1.out wx (HWC.out.1.trans (hcx.mono hsc))
      have hown : IntsOwn w11b W6.heap.size (.slice va7 P.length vc7) P := ownOther' hk11.2.2.2.2.2.2.1 (fun k hk => hoth11 k (hk11.2.2.2.2.2.2.1.lt k hk.symm).2 (hn6 k (by have := (HOB.out k hk.symm).1; omega)))
      exact ⟨hb1.1, hb1.2.1, (hcx.block _ hq1).trans HWC.out.2.1, (hx.block _ (by omega)).trans ((hoth11 _ (by omega) (hn6 _ (by omega))).trans hk11.2.2.2.2.1), hb1.2.2, hown.later hx (Nat.le_refl _), HWC.out.2.2.later hcx (Nat.le_refl _), hcx⟩)
    have hb0 := BOX12.out w11b (Below.refl _ _)
    clear x1 x2
    obtain ⟨x1, x2, -, -⟩ := box2 hb0.2.2.1
    obtain ⟨y1, y2, -, -⟩ := box2 hb0.2.2.2.1
    clear hb0 hb11b hoth11 hk11 hn6
    go_wp2_with fail
    refine (eqCursor_c P _ _ a w11b w11b.heap.size (Nat.le_refl _) (IntsOwn.inB (BOX12.out w11b (Below.refl _ _)).2.2.2.2.2.1 (Nat.le_refl _)) (IntsOwn.inB (BOX12.out w11b (Below.refl _ _)).2.2.2.2.2.2.1 (Nat.le_refl _))).mono ?_
    rintro e w12 ⟨rfl, hb12⟩
    have hs12 := hb12.size
    have hb0 := BOX12.out w12 hb12
    clear x1 x2 y1 y2
    obtain ⟨y1, y2, -, -⟩ := box2 hb0.2.2.2.1
    have H12 := Lib.hid hb12
    clear hb0 hb12
    go_wp2_with fail
    -- the program's answer is marked
    refine (markCursor_c (BOX12.out w12 H12.out).2.2.2.2.2.1 (by omega) hrl a 1 (by omega) (by omega)).mono ?_
    rintro e w13 ⟨rfl, ho13, hb13, hoth⟩
    have hs13 := hb13.size
    have hk12 := BOX12.out w12 H12.out
    have hno2 : some w7.heap.size ≠ (Value.slice va7 P.length vc7).ownBlock := fun e => by have := (HOB.out _ e.symm).2; omega
    have BOX13 : Hid (∀ wx : World, Below w13.heap.size w13 wx → wx.heap[w.heap.size]? = some (.cells #[kv, cv] 25 (0, 0)) ∧ wx.heap[w.heap.size + 1]? = some (.cells #[.slice va ks.length vcap, .int .i64 at'] 42 (0, 0)) ∧
        wx.heap[q4]? = some (.cells #[.slice va4 P.length vc4, .int .i64 a] 28 (0, 0)) ∧ wx.heap[w7.heap.size]? = some (.cells #[.slice va7 P.length vc7, .int .i64 a] 28 (0, 0)) ∧
        Below w.heap.size w wx ∧ IntsOwn wx W6.heap.size (.slice va7 P.length vc7) (marks 1 P.length) ∧ IntsOwn wx W1.heap.size (.slice va4 P.length vc4) P ∧ Below W1.heap.size W1 wx) := Lib.hid (fun wx hx => by
      have hcx : Below wc.heap.size wc wx := hk12.2.2.2.2.2.2.2.trans ((hb13.mono (by omega)).trans (hx.mono (by omega)))
      have h1x := HWC.out.1.trans (hcx.mono hsc)
      have hb1 := BOX1.out wx h1x
      exact ⟨hb1.1, hb1.2.1, (hcx.block _ hq1).trans HWC.out.2.1, (hx.block _ (by omega)).trans ((hoth _ (by omega) hno2).trans hk12.2.2.2.1), hb1.2.2, ho13.later hx (Nat.le_refl _), HWC.out.2.2.later hcx (Nat.le_refl _), h1x⟩)
    have hne : (((1 : Int) + (P.length : Int)) != 1 + (P.length : Int)) = false := by simp
    have hn13 : ¬ ((1 : Int) + (P.length : Int) < 0) := by omega
    have hb0 := BOX13.out w13 (Below.refl _ _)
    clear y1 y2
    obtain ⟨y1, y2, -, -⟩ := box2 hb0.2.2.2.1
    clear hb0 hb13 ho13 hoth hk12 hno2
    go_wp2_with fail
    refine (heldCursor_c (n := P.length) (IntsIn.at (IntsOwn.in (BOX13.out w13 (Below.refl _ _)).2.2.2.2.2.1)) ⟨_, _, rfl⟩ (fun wx hx => IntsIn.at (IntsOwn.in (BOX13.out wx hx).2.2.2.2.2.1)) hrl a (by omega) (by omega)).mono ?_
    rintro e w14 ⟨rfl, hb14⟩
    have hs14 := hb14.size
    have H14 := Lib.hid (BOX13.out w14 hb14).2.2.2.2.2.2.2
    have H14B := Lib.hid hb14
    obtain ⟨x1, x2, y1', y2'⟩ := LIMB.out w14 H14.out
    clear y1 y2 hb14
    go_wp2_with fail
    go_cut [15, 16] from 94 to 101 (fun s6 s7 wx => ∃ (q : Nat) (va4 : Option Addr) (vc4 : Nat), s6 = .pointer (some ⟨q, 0, none⟩) ∧ s7 = .bool ok ∧ q < wx.heap.size ∧ W1.heap.size ≤ q ∧ wx.heap[q]? = some (.cells #[.slice va4 P.length vc4, .int .i64 a] 28 (0, 0)) ∧ IntsOwn wx W1.heap.size (.slice va4 P.length vc4) P ∧ Below W1.heap.size W1 wx ∧ Below w13.heap.size w13 wx)
    case first =>
      go_region_held3 (fun x => x.cell? ⟨w.heap.size, 0, none⟩ = some kv ∧ x.cell? ⟨w.heap.size, 1, none⟩ = some cv ∧ x.cell? ⟨w.heap.size + 1, 0, none⟩ = some (.slice va ks.length vcap) ∧ x.cell? ⟨w.heap.size + 1, 1, none⟩ = some (.int .i64 at'))
        (first | exact ⟨x1, x2, y1', y2'⟩ | exact LIMB.out _ ((H4.out.2.1.setCell (by exact hwq) _).setCell (by exact hwq) _) | exact LIMB.out _ (H4.out.2.1.alloc H4.out.2.1.size _) | exact LIMB.out _ H4.out.2.1 | exact LIMB.out _ (HTC.out.2.2.1.alloc HTC.out.2.2.1.size _) | exact LIMB.out _ HTC.out.2.2.1 | exact LIMB.out _ (HTT.out.2.1.alloc HTT.out.2.1.size _) | exact LIMB.out _ HTT.out.2.1 | exact LIMB.out _ (H14.out.drew.alloc H14.out.drew.size _) | exact LIMB.out _ H14.out.drew | go_keep)
        (first
          | (go_at_call 31; refine (HIM2.out hwt _ _ _ _ (by first | exact HTC.out.2.1 | exact (HTC.out.2.1.later ((Below.refl w3c.heap.size w3c).alloc (Nat.le_refl _) _) (Nat.le_refl _)).wider (by simp)) (by first | exact HTC.out.1 | exact (HTC.out.1.later ((Below.refl w3c.heap.size w3c).alloc (Nat.le_refl _) _) (Nat.le_refl _)).wider (by simp)) (by first | exact (BOX1.out _ HTC.out.2.2.1).2.2 | exact (BOX1.out _ (HTC.out.2.2.1.alloc HTC.out.2.2.1.size _)).2.2)).mono ?_; rintro e w4 ⟨v4, rfl, ho4, hb4⟩; obtain ⟨va4, vc4, rfl⟩ := IntsOwn.shown ho4; have h40 : Below W1.heap.size W1 w4 := (by first | exact HTC.out.2.2.1.trans (hb4.mono HTC.out.2.2.1.size) | exact (HTC.out.2.2.1.alloc HTC.out.2.2.1.size _).trans (hb4.mono (HTC.out.2.2.1.alloc HTC.out.2.2.1.size _).size)); have h41 : Below w13.heap.size w13 w4 := (by first | exact HTC.out.2.2.2.trans (hb4.mono HTC.out.2.2.2.size) | exact (HTC.out.2.2.2.alloc HTC.out.2.2.2.size _).trans (hb4.mono (HTC.out.2.2.2.alloc HTC.out.2.2.2.size _).size)); have hlo4 : IntsOwn w4 W1.heap.size (.slice va4 P.length vc4) P := (by first | exact ho4.lower HTC.out.2.2.1.size | exact ho4.lower (HTC.out.2.2.1.alloc HTC.out.2.2.1.size _).size); (first | (have hzq := (hb4.block w3c.heap.size (by simp)).trans (new_blk w3c _); have hwq : W1.heap.size ≤ w3c.heap.size := HTC.out.2.2.1.size; have hwq2 : w13.heap.size ≤ w3c.heap.size := HTC.out.2.2.2.size; have hqo : ∀ k, some k = (Value.slice va4 P.length vc4).ownBlock → k ≠ w3c.heap.size := (fun k hk => by have h9 := (ho4.lt k hk.symm).1; simp at h9; omega); obtain ⟨j1, j2, j3, j4⟩ := box2 hzq) | (have hzq := (hb4.block w3.heap.size (by have h9 := HR3C.out.size; simp at h9; omega)).trans ((HR3C.out.block w3.heap.size (by simp)).trans (new_blk w3 _)); have hwq : W1.heap.size ≤ w3.heap.size := HTT.out.2.1.size; have hwq2 : w13.heap.size ≤ w3.heap.size := HTT.out.2.2.size; have hqo : ∀ k, some k = (Value.slice va4 P.length vc4).ownBlock → k ≠ w3.heap.size := (fun k hk => by have h9 := (ho4.lt k hk.symm).1; have h8 := HR3C.out.size; simp at h8; omega); obtain ⟨j1, j2, j3, j4⟩ := box2 hzq) | (have hzq : w4.heap[w14.heap.size]? = some (.cells #[.slice none 0 0, .int .i64 0] 28 (0, 0)) := (hb4.block w14.heap.size (by have h9 := HR3C.out.size; have h8 := HR3.out.size; simp at h8; omega)).trans ((HR3C.out.block w14.heap.size (by have h8 := HR3.out.size; simp at h8; omega)).trans ((HR3.out.block w14.heap.size (by simp)).trans (new_blk w14.drew _))); have hwq : W1.heap.size ≤ w14.heap.size := H14.out.drew.size; have hwq2 : w13.heap.size ≤ w14.heap.size := H14B.out.drew.size; have hqo : ∀ k, some k = (Value.slice va4 P.length vc4).ownBlock → k ≠ w14.heap.size := (fun k hk => by have h9 := (ho4.lt k hk.symm).1; have h8 := HR3C.out.size; have h7 := HR3.out.size; simp at h7; omega); obtain ⟨j1, j2, j3, j4⟩ := box2 hzq) | skip); have H4 := Lib.hid (And.intro hlo4 (And.intro h40 (And.intro h41 (True.intro)))); clear ho4 hb4 h40 h41 hlo4)
          | (go_at_call 17; refine (toTree_c HT.out hwt _ (by first | exact (BOX1.out _ H14.out.drew).2.2 | exact (BOX1.out _ (H14.out.drew.alloc H14.out.drew.size _)).2.2) (by simp; omega)).mono ?_; rintro e w3 ⟨k3, c3, rfl, hn3, hb3⟩; have h30 : Below W1.heap.size W1 w3 := (by first | exact H14.out.drew.trans (hb3.mono H14.out.drew.size) | exact (H14.out.drew.alloc H14.out.drew.size _).trans (hb3.mono (H14.out.drew.alloc H14.out.drew.size _).size)); have h31 : Below w13.heap.size w13 w3 := (by first | exact H14B.out.drew.trans (hb3.mono H14B.out.drew.size) | exact (H14B.out.drew.alloc H14B.out.drew.size _).trans (hb3.mono (H14B.out.drew.alloc H14B.out.drew.size _).size)); have HTT := Lib.hid (And.intro (hn3.tree hwt) (And.intro h30 (h31))); have HR3 := Lib.hid hb3; clear hn3 hb3 h30 h31)
          | (go_at_call 30; refine (toCursor_c ks _ at' _ w.heap.size (by have h9 := HTT.out.2.1.size; first | omega | (simp; omega)) (by first | exact HK.out.later (BOX1.out _ HTT.out.2.1).2.2 (Nat.le_refl _) | exact HK.out.later (BOX1.out _ (HTT.out.2.1.alloc HTT.out.2.1.size _)).2.2 (Nat.le_refl _)) hkn).mono ?_; rintro e w3c ⟨g3, rfl, hg3, hrow3, hb3c⟩; have h3c0 : Below W1.heap.size W1 w3c := (by first | exact HTT.out.2.1.trans (hb3c.mono HTT.out.2.1.size) | exact (HTT.out.2.1.alloc HTT.out.2.1.size _).trans (hb3c.mono (HTT.out.2.1.alloc HTT.out.2.1.size _).size)); have h3c1 : Below w13.heap.size w13 w3c := (by first | exact HTT.out.2.2.trans (hb3c.mono HTT.out.2.2.size) | exact (HTT.out.2.2.alloc HTT.out.2.2.size _).trans (hb3c.mono (HTT.out.2.2.alloc HTT.out.2.2.size _).size)); have hi3 : IntsIn w3c w3c.heap.size (.slice (some ⟨g3, 0, none⟩) ks.length ks.length) ks := rowInts' hrow3 hkn; have hb33 : Below w3.heap.size w3 w3c := (by first | exact hb3c | exact ((Below.refl w3.heap.size w3).alloc (Nat.le_refl _) _).trans (hb3c.mono (by simp))); have htr3 : TreeIn w3c w3c.heap.size k3 c3 t := (HTT.out.1.later hb33 (Nat.le_refl _)).wider hb33.size; have HTC := Lib.hid (And.intro hi3 (And.intro htr3 (And.intro h3c0 (h3c1)))); have HR3C := Lib.hid hb3c; clear hrow3 hb3c h3c0 h3c1 hi3 hb33 htr3)
          | fail)
      all_goals (
        go_wp2_with fail
        go_meet
        first
          | exact ⟨w4.heap.size, va4, vc4, rfl, rfl, by simp, H4.out.2.1.size, by rw [new_blk], IntsOwn.alloc' H4.out.1 _, H4.out.2.1.alloc H4.out.2.1.size _, H4.out.2.2.1.alloc H4.out.2.2.1.size _⟩
          | exact ⟨_, va4, vc4, rfl, rfl, by simp; exact (Array.getElem?_eq_some_iff.1 hzq).1, hwq, set_blk (o := 1) _ (set_blk (o := 0) _ hzq), ownOther' H4.out.1 (fun k hk => by rw [set_other _ _ _ _ _ (hqo k hk), set_other _ _ _ _ _ (hqo k hk)]), (H4.out.2.1.setCell (by exact hwq) _).setCell (by exact hwq) _, (H4.out.2.2.1.setCell (by exact hwq2) _).setCell (by exact hwq2) _⟩)
    case rest =>
      obtain ⟨q15, va15, vc15, rfl, rfl, hq15, -, hx15, ho15, -, hb15⟩ := hcut
      have hs15 := hb15.size
      have hb0 := BOX13.out wc hb15
      clear x1 x2 y1' y2'
      obtain ⟨x1, x2, -, -⟩ := box2 hb0.2.2.1
      obtain ⟨y1, y2, -, -⟩ := box2 hx15
      have HC15 := Lib.hid (And.intro hb15 ho15)
      clear hb0 hx15 ho15 hb15
      go_wp2_with fail
      refine (eqCursor_c P _ _ a wc wc.heap.size (Nat.le_refl _) (IntsOwn.inB HC15.out.2 (Nat.le_refl _)) (IntsOwn.inB (BOX13.out wc HC15.out.1).2.2.2.2.2.2.1 (Nat.le_refl _))).mono ?_
      rintro e w17 ⟨rfl, hb17⟩
      have h17 : Below w13.heap.size w13 w17 := HC15.out.1.trans (hb17.mono HC15.out.1.size)
      have hb0 := BOX13.out w17 h17
      clear x1 x2 y1 y2
      obtain ⟨y1, y2, -, -⟩ := box2 hb0.2.2.2.1
      have H17 := Lib.hid h17
      clear hb0 hb17 h17
      go_wp2_with fail
      refine (heldCursor_c (n := P.length) (IntsIn.at (IntsOwn.in (BOX13.out w17 H17.out).2.2.2.2.2.1)) ⟨_, _, rfl⟩ (fun wx hx => IntsIn.at (IntsOwn.in (BOX13.out wx (H17.out.trans (hx.mono H17.out.size))).2.2.2.2.2.1)) hrl a (by omega) (by omega)).mono ?_
      rintro e w18 ⟨rfl, hb18⟩
      have H18 := Lib.hid (BOX13.out w18 (H17.out.trans (hb18.mono H17.out.size))).2.2.2.2.1
      clear hb18
      go_wp2_with fail
      go_ret
      exact ⟨rfl, H18.out⟩
end Go.Proofs.YticfkfjijnfcbaaDoor
