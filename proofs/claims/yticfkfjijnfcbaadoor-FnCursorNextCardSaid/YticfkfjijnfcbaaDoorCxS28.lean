/- The law on cursors that stand where keys are next: the walk over the contracts. -/
import Derived.Test.YticfkfjijnfcbaaDoorCxS24
import Derived.Test.YticfkfjijnfcbaaDoorCx20
import Derived.Test.YticfkfjijnfcbaaDoorCxS27
import Derived.Test.YticfkfjijnfcbaaDoorCx23
namespace Go.Proofs.YticfkfjijnfcbaaDoor
open Go.RowKit
set_option maxHeartbeats 4000000 in
set_option maxRecDepth 100000 in
theorem fnCursorNext_c {w : World} {v : Value} {bs : List Nat} (h : BytesIn w w.heap.size v bs) (s s2 : Addr)
   (hV : w.cell? ⟨0, 0, none⟩ = some (.iface 174 (.pointer (some s))) ∧ w.cell? ⟨1, 0, none⟩ = some (.iface 174 (.pointer (some s2)))) (h0 : 1 < w.heap.size) :
   Calls Tryd.prog 11 #[v] w fun e w' => e = .returned (.bool true) ∧ Below w.heap.size w w' := by
 have VAR : Hid (∀ wx : World, Below w.heap.size w wx → wx.cell? ⟨0, 0, none⟩ = some (.iface 174 (.pointer (some s))) ∧ wx.cell? ⟨1, 0, none⟩ = some (.iface 174 (.pointer (some s2)))) :=
   Lib.hid (fun wx hx => ⟨(below_cell hx (by show 0 < _; omega)).trans hV.1, (below_cell hx (by show 1 < _; omega)).trans hV.2⟩)
 have H := Lib.hid h
 obtain ⟨a1, c1, rfl, -⟩ := h
 clear hV
 by_cases hc1 : bs.length ≤ 1048576
 case neg =>
   have hc1' : ((bs.length : Int) > 1048576) := by omega
   go_enter Tryd.func11, Tryd.ntmps11
   go_wp2_with fail
   go_ret
   exact ⟨rfl, Below.refl _ _⟩
 have hc1' : ¬ ((bs.length : Int) > 1048576) := by omega
 have HD := Lib.hid (drawCursorKey_c H.out w (Below.refl _ _) (Nat.le_refl _))
 go_enter Tryd.func11, Tryd.ntmps11
 go_wp2_with fail
 refine HD.out.mono ?_
 rintro e w2 ⟨k2, d2, t, v2, P, A, rfl, ht2, hw2, hp2, hb2⟩
 obtain ⟨b1, b2, b3, b4, b5, b6, rfl, rfl⟩ := ht2.slices
 obtain ⟨va, vc, rfl⟩ := IntsOwn.shown hp2
 have hs2 := hb2.size
 obtain ⟨W3, hW3⟩ : ∃ W3, W3 = (w2.alloc (.cells #[.slice b1 b2 b3, .slice b4 b5 b6] 33)).alloc (.cells #[.slice va P.length vc, .int .i64 A] 28) := ⟨_, rfl⟩
 have hs3 : w2.heap.size + 1 < W3.heap.size := by rw [hW3]; simp
 have hb3 : Below w2.heap.size w2 W3 := by rw [hW3]; exact ((Below.refl _ _).alloc (Nat.le_refl _) _).alloc (by simp) _
 have hx3 : W3.heap[w2.heap.size]? = some (.cells #[.slice b1 b2 b3, .slice b4 b5 b6] 33 (0, 0)) := by rw [hW3, old_blk _ _ _ (by simp), new_blk]
 have hc3 : W3.heap[w2.heap.size + 1]? = some (.cells #[.slice va P.length vc, .int .i64 A] 28 (0, 0)) := by
   rw [hW3, show w2.heap.size + 1 = (w2.alloc (.cells #[.slice b1 b2 b3, .slice b4 b5 b6] 33)).heap.size by simp, new_blk]
 have hti3 : TreeIn W3 W3.heap.size (.slice b1 b2 b3) (.slice b4 b5 b6) t := (ht2.same (w' := W3) (Q := fun k => k < W3.heap.size) (fun k hk => hb3.block k hk.2) (fun k hk => by omega)).tree (fun k hk => hk)
 have hoi3 : IntsOwn W3 w.heap.size (.slice va P.length vc) P := hp2.later hb3 (Nat.le_refl _)
 have hwt : t.weight ≤ 1048576 := by omega
 have HF : Hid (∀ wx : World, Below W3.heap.size W3 wx → Below w.heap.size w wx) := Lib.hid (fun wx hx => (hb2.trans (hb3.mono (by omega))).trans (hx.mono (by omega)))
 have HCK : Hid (∀ (wx : World) (v : Value) (P : List Int) (A : Int), Below W3.heap.size W3 wx → IntsIn wx wx.heap.size v P → Calls Tryd.prog 37 #[.agg #[.slice b1 b2 b3, .slice b4 b5 b6], .agg #[v, .int .i64 A]] wx fun e w'' => e = .returned (.tuple #[.int .i64 (Tr.curK t P A), .bool (Tr.curB t P A)]) ∧ Below wx.heap.size wx w'') :=
   Lib.hid (fun wx v P A hx hi => impl_cursorKey ((hti3.later hx (Nat.le_refl _)).wider hx.size) hwt hi A s wx (Below.refl _ _) (Nat.le_refl _) (fun wy hy => (VAR.out wy (HF.out wy (hx.trans (hy.mono hx.size)))).1))
 have HSK : Hid (∀ (wx : World), Below W3.heap.size W3 wx → Calls Tryd.prog 46 #[.agg #[.slice b1 b2 b3, .slice b4 b5 b6], .agg #[.slice va P.length vc, .int .i64 A]] wx fun e w'' => e = .returned (.tuple #[.int .i64 (Tr.curK t P A), .bool (Tr.curB t P A)]) ∧ Below wx.heap.size wx w'') :=
   Lib.hid (fun wx hx => specCursorKey_c ((hti3.later hx (Nat.le_refl _)).wider hx.size) hwt ((hoi3.later hx (by omega)).in) A wx (Below.refl _ _) (Nat.le_refl _))
 obtain ⟨r1, hr1⟩ : ∃ r, r = Tr.walkB t P A (fun K => Tr.goF (K + 1) t P) := ⟨_, rfl⟩
 obtain ⟨r2, hr2⟩ : ∃ r, r = Tr.walkB t P A (fun K => Tr.goB K t P) := ⟨_, rfl⟩
 obtain ⟨k, hk⟩ : ∃ k, k = Tr.curK t P A := ⟨_, rfl⟩
 obtain ⟨n1, hn1⟩ : ∃ n, n = Tr.nextB k t := ⟨_, rfl⟩
 obtain ⟨p1, hp1⟩ : ∃ n, n = Tr.prevB k t := ⟨_, rfl⟩
 have HFW : Hid (∀ (wx : World), Below W3.heap.size W3 wx → Calls Tryd.prog 31 #[.agg #[.slice b1 b2 b3, .slice b4 b5 b6], .agg #[.slice va P.length vc, .int .i64 A]] wx (Walked wx r1)) :=
   Lib.hid (fun wx hx => by rw [hr1]; exact impl_forward_c ((hti3.later hx (Nat.le_refl _)).wider hx.size) hwt ((hoi3.later hx (by omega)).in) A s s2 wx (Below.refl _ _) (Nat.le_refl _) (fun wy hy => VAR.out wy (HF.out wy (hx.trans (hy.mono hx.size)))))
 have HBW : Hid (∀ (wx : World), Below W3.heap.size W3 wx → Calls Tryd.prog 33 #[.agg #[.slice b1 b2 b3, .slice b4 b5 b6], .agg #[.slice va P.length vc, .int .i64 A]] wx (Walked wx r2)) :=
   Lib.hid (fun wx hx => by rw [hr2]; exact impl_backward_c ((hti3.later hx (Nat.le_refl _)).wider hx.size) hwt ((hoi3.later hx (by omega)).in) A s s2 wx (Below.refl _ _) (Nat.le_refl _) (fun wy hy => VAR.out wy (HF.out wy (hx.trans (hy.mono hx.size)))))
 have HNX : Hid (∀ (wx : World), Below W3.heap.size W3 wx → Calls Tryd.prog 47 #[.agg #[.slice b1 b2 b3, .slice b4 b5 b6], .int .i64 k] wx fun e w'' => e = .returned (.tuple #[.int .i64 n1.1, .bool n1.2]) ∧ Below wx.heap.size wx w'') :=
   Lib.hid (fun wx hx => by rw [hn1]; exact impl_next hti3 hwt k wx hx hx.size)
 have HPV : Hid (∀ (wx : World), Below W3.heap.size W3 wx → Calls Tryd.prog 48 #[.agg #[.slice b1 b2 b3, .slice b4 b5 b6], .int .i64 k] wx fun e w'' => e = .returned (.tuple #[.int .i64 p1.1, .bool p1.2]) ∧ Below wx.heap.size wx w'') :=
   Lib.hid (fun wx hx => by rw [hp1]; exact impl_prev hti3 hwt k wx hx hx.size)
 have HDATA : Hid (Tr.curB t P A = true → (r1.2.2 = n1.2 ∧ (r1.2.2 = true → Tr.curK t r1.1 r1.2.1 = n1.1)) ∧ (r2.2.2 = p1.2 ∧ (r2.2.2 = true → Tr.curK t r2.1 r2.2.1 = p1.1))) := Lib.hid (fun hc => by
   rw [hn1, hp1, hk]; exact ⟨Tr.next_at hc hr1, Tr.prev_at hc hr2⟩)
 have BOX : Hid (∀ wx : World, Below W3.heap.size W3 wx → wx.heap[w2.heap.size]? = some (.cells #[.slice b1 b2 b3, .slice b4 b5 b6] 33 (0, 0)) ∧ wx.heap[w2.heap.size + 1]? = some (.cells #[.slice va P.length vc, .int .i64 A] 28 (0, 0)) ∧ IntsIn wx wx.heap.size (.slice va P.length vc) P) :=
   Lib.hid (fun wx hx => ⟨(hx.block _ (by omega)).trans hx3, (hx.block _ hs3).trans hc3, (hoi3.later hx (by omega)).in⟩)
 have hx3x := hx3
 have hc3x := hc3
 rw [hW3] at hx3x hc3x
 obtain ⟨x1, x2, -, -⟩ := box2 hx3x
 obtain ⟨y1, y2, -, -⟩ := box2 hc3x
 have HW3 := Lib.hid hW3
 obtain ⟨cb, hcb⟩ : ∃ cb, cb = Tr.curB t P A := ⟨_, rfl⟩
 have HCB := Lib.hid hcb
 have HKK := Lib.hid hk
 obtain ⟨P1, A1, on⟩ := r1
 obtain ⟨P2, A2, bk⟩ := r2
 obtain ⟨n, nb⟩ := n1
 obtain ⟨p, pb⟩ := p1
 clear ht2 hb2 hp2 hW3 hb3 hx3 hc3 hx3x hc3x hti3 hoi3 hr1 hr2 hn1 hp1 hcb hk
 go_wp2_with fail
 rw [← HW3.out]
 refine (HCK.out W3 _ P A (Below.refl _ _) (BOX.out W3 (Below.refl _ _)).2.2).mono ?_
 rintro e w4 ⟨rfl, hb4⟩
 rw [← HCB.out, ← HKK.out]
 clear x1 x2 y1 y2
 obtain ⟨hx4, hc4, -⟩ := BOX.out w4 hb4
 obtain ⟨x1, x2, -, -⟩ := box2 hx4
 obtain ⟨y1, y2, -, -⟩ := box2 hc4
 have H4 := Lib.hid hb4
 clear hb4 hx4 hc4
 go_wp2_with fail
 refine (HSK.out w4 H4.out).mono ?_
 rintro e w5 ⟨rfl, hb5⟩
 rw [← HCB.out, ← HKK.out]
 have hb35 : Below W3.heap.size W3 w5 := H4.out.trans (hb5.mono H4.out.size)
 clear x1 x2 y1 y2
 obtain ⟨hx5, hc5, -⟩ := BOX.out w5 hb35
 obtain ⟨x1, x2, -, -⟩ := box2 hx5
 obtain ⟨y1, y2, -, -⟩ := box2 hc5
 have H5 := Lib.hid hb35
 have hne : (cb != cb) = false := by simp
 clear hb5 hb35 hx5 hc5
 cases cb with
 | false =>
   have HE := Lib.hid (HF.out w5 H5.out)
   go_wp2_with fail
   go_ret
   exact ⟨rfl, HE.out⟩
 | true =>
   obtain ⟨⟨hon, hk1⟩, hbk, hk2⟩ := HDATA.out HCB.out.symm
   (try simp only at hon hk1 hbk hk2)
   subst hon hbk
   have HK1 := Lib.hid hk1
   have HK2 := Lib.hid hk2
   clear hk1 hk2
   go_wp2_with fail
   refine (HFW.out w5 H5.out).mono ?_
   rintro e w6 ⟨v6, rfl, ho6, hb6⟩
   obtain ⟨va6, vc6, rfl⟩ := IntsOwn.shown ho6
   have hs6 := hb6.size
   have hz5 := H5.out.size
   obtain ⟨W6, hW6⟩ : ∃ W6, W6 = w6.alloc (.cells #[.slice va6 P1.length vc6, .int .i64 A1] 28) := ⟨_, rfl⟩
   have hz6 : w6.heap.size < W6.heap.size := by rw [hW6]; simp
   have hbb6 : Below w6.heap.size w6 W6 := by rw [hW6]; exact (Below.refl _ _).alloc (Nat.le_refl _) _
   have kc6 : W6.heap[w6.heap.size]? = some (.cells #[.slice va6 P1.length vc6, .int .i64 A1] 28 (0, 0)) := by rw [hW6, new_blk]
   have hb36 : Below W3.heap.size W3 W6 := H5.out.trans ((hb6.mono hz5).trans (hbb6.mono (by omega)))
   have B6 : Hid (∀ wx : World, Below W6.heap.size W6 wx → Below W3.heap.size W3 wx ∧ wx.heap[w6.heap.size]? = some (.cells #[.slice va6 P1.length vc6, .int .i64 A1] 28 (0, 0)) ∧ IntsIn wx wx.heap.size (.slice va6 P1.length vc6) P1) := Lib.hid (fun wx hx =>
     ⟨hb36.trans (hx.mono hb36.size), (hx.block _ hz6).trans kc6, ((ho6.later hbb6 (Nat.le_refl _)).later hx (Nat.le_refl _)).in⟩)
   clear x1 x2 y1 y2
   obtain ⟨hx6, hc6, -⟩ := BOX.out W6 hb36
   rw [hW6] at hx6 hc6
   obtain ⟨x1, x2, -, -⟩ := box2 hx6
   obtain ⟨y1, y2, -, -⟩ := box2 hc6
   have HW6 := Lib.hid hW6
   clear ho6 hb6 hW6 hbb6 kc6 hb36 hx6 hc6
   go_wp2_with fail
   rw [← HW6.out]
   refine (HNX.out W6 (B6.out W6 (Below.refl _ _)).1).mono ?_
   rintro e w7 ⟨rfl, hb7⟩
   clear x1 x2 y1 y2
   obtain ⟨hx7, hc7, -⟩ := BOX.out w7 (B6.out w7 hb7).1
   obtain ⟨x1, x2, -, -⟩ := box2 hx7
   obtain ⟨y1, y2, -, -⟩ := box2 hc7
   have H7 := Lib.hid hb7
   have hs7 := hb7.size
   clear hb7 hx7 hc7
   go_wp2_with fail
   refine (HBW.out w7 (B6.out w7 H7.out).1).mono ?_
   rintro e w8 ⟨v8, rfl, ho8, hb8⟩
   obtain ⟨va8, vc8, rfl⟩ := IntsOwn.shown ho8
   have hs8 := hb8.size
   obtain ⟨W8, hW8⟩ : ∃ W8, W8 = w8.alloc (.cells #[.slice va8 P2.length vc8, .int .i64 A2] 28) := ⟨_, rfl⟩
   have hz8 : w8.heap.size < W8.heap.size := by rw [hW8]; simp
   have hbb8 : Below w8.heap.size w8 W8 := by rw [hW8]; exact (Below.refl _ _).alloc (Nat.le_refl _) _
   have kc8 : W8.heap[w8.heap.size]? = some (.cells #[.slice va8 P2.length vc8, .int .i64 A2] 28 (0, 0)) := by rw [hW8, new_blk]
   have hb68 : Below W6.heap.size W6 W8 := H7.out.trans ((hb8.mono hs7).trans (hbb8.mono (by omega)))
   have B8 : Hid (∀ wx : World, Below W8.heap.size W8 wx → Below W6.heap.size W6 wx ∧ wx.heap[w8.heap.size]? = some (.cells #[.slice va8 P2.length vc8, .int .i64 A2] 28 (0, 0)) ∧ IntsIn wx wx.heap.size (.slice va8 P2.length vc8) P2) := Lib.hid (fun wx hx =>
     ⟨hb68.trans (hx.mono hb68.size), (hx.block _ hz8).trans kc8, ((ho8.later hbb8 (Nat.le_refl _)).later hx (Nat.le_refl _)).in⟩)
   clear x1 x2 y1 y2
   obtain ⟨hx8, hc8, -⟩ := BOX.out W8 (B6.out W8 hb68).1
   rw [hW8] at hx8 hc8
   obtain ⟨x1, x2, -, -⟩ := box2 hx8
   obtain ⟨y1, y2, -, -⟩ := box2 hc8
   have HW8 := Lib.hid hW8
   clear ho8 hb8 hW8 hbb8 kc8 hb68 hx8 hc8
   go_wp2_with fail
   rw [← HW8.out]
   refine (HPV.out W8 (B6.out W8 (B8.out W8 (Below.refl _ _)).1).1).mono ?_
   rintro e w9 ⟨rfl, hb9⟩
   have hone : (on != on) = false := by simp
   have hbke : (bk != bk) = false := by simp
   have hnn : (n != n) = false := by simp
   have hpp : (p == p) = true := by simp
   clear x1 x2 y1 y2
   obtain ⟨h69, hk8, hi8⟩ := B8.out w9 hb9
   obtain ⟨h39, hk6, hi6⟩ := B6.out w9 h69
   obtain ⟨hx9, -, -⟩ := BOX.out w9 h39
   obtain ⟨x1, x2, -, -⟩ := box2 hx9
   obtain ⟨y1, y2, -, -⟩ := box2 hk6
   obtain ⟨z1, z2, -, -⟩ := box2 hk8
   have HC6 := Lib.hid (HCK.out w9 _ P1 A1 h39 hi6)
   have H9 := Lib.hid hb9
   have HE9 := Lib.hid (HF.out w9 h39)
   clear hb9 h69 hk8 hi8 h39 hk6 hi6 hx9
   cases on with
   | false =>
     clear HC6
     cases bk with
     | false =>
       go_wp2_with fail
       go_ret
       exact ⟨rfl, HE9.out⟩
     | true =>
       have HC8 := Lib.hid (HCK.out w9 _ P2 A2 (B6.out w9 (B8.out w9 H9.out).1).1 (B8.out w9 H9.out).2.2)
       have hk2 := HK2.out rfl
       go_wp2_with fail
       refine HC8.out.mono ?_
       rintro e w10 ⟨rfl, hb10⟩
       rw [hk2]
       have HE := Lib.hid (HE9.out.trans (hb10.mono HE9.out.size))
       clear hb10 hk2
       go_wp2_with fail
       go_ret
       exact ⟨rfl, HE.out⟩
   | true =>
     have hk1 := HK1.out rfl
     go_wp2_with fail
     refine HC6.out.mono ?_
     rintro e w10 ⟨rfl, hb10⟩
     rw [hk1]
     have h810 := H9.out.trans (hb10.mono H9.out.size)
     have HE := Lib.hid (HE9.out.trans (hb10.mono HE9.out.size))
     clear hk1 x1 x2 y1 y2 z1 z2 hb10
     cases bk with
     | false =>
       go_wp2_with fail
       go_ret
       exact ⟨rfl, HE.out⟩
     | true =>
       obtain ⟨h610, hk8, hi8⟩ := B8.out w10 h810
       obtain ⟨h310, hk6, hi6⟩ := B6.out w10 h610
       obtain ⟨hx10, -, -⟩ := BOX.out w10 h310
       obtain ⟨x1, x2, -, -⟩ := box2 hx10
       obtain ⟨z1, z2, -, -⟩ := box2 hk8
       have HC8 := Lib.hid (HCK.out w10 _ P2 A2 h310 hi8)
       have hk2 := HK2.out rfl
       clear h810 h610 hk8 hi8 h310 hk6 hi6 hx10
       go_wp2_with fail
       refine HC8.out.mono ?_
       rintro e w11 ⟨rfl, hb11⟩
       rw [hk2]
       have HEE := Lib.hid (HE.out.trans (hb11.mono HE.out.size))
       clear hb11 hk2
       go_wp2_with fail
       go_ret
       exact ⟨rfl, HEE.out⟩
end Go.Proofs.YticfkfjijnfcbaaDoor
