/- The law on cursors that go on and back: the walk over the contracts. -/
import Derived.Test.YticfkfjijnfcbaaDoorCwS22
import Derived.Test.YticfkfjijnfcbaaDoorCwS24
import Derived.Test.YticfkfjijnfcbaaDoorCw23
namespace Go.Proofs.YticfkfjijnfcbaaDoor
open Go.RowKit
set_option maxHeartbeats 4000000 in
set_option maxRecDepth 100000 in
theorem fnBack_c {w : World} {v v' : Value} {bs bs' : List Nat} (h : BytesIn w w.heap.size v bs) (h' : BytesIn w w.heap.size v' bs') (s s2 : Addr)
   (hV : w.cell? ⟨0, 0, none⟩ = some (.iface 174 (.pointer (some s))) ∧ w.cell? ⟨1, 0, none⟩ = some (.iface 174 (.pointer (some s2)))) (h0 : 1 < w.heap.size) :
   Calls Tryd.prog 9 #[v, v'] w fun e w' => e = .returned (.bool true) ∧ Below w.heap.size w w' := by
 have VAR : Hid (∀ wx : World, Below w.heap.size w wx → wx.cell? ⟨0, 0, none⟩ = some (.iface 174 (.pointer (some s))) ∧ wx.cell? ⟨1, 0, none⟩ = some (.iface 174 (.pointer (some s2)))) :=
   Lib.hid (fun wx hx => ⟨(below_cell hx (by show 0 < _; omega)).trans hV.1, (below_cell hx (by show 1 < _; omega)).trans hV.2⟩)
 have H := Lib.hid h
 have H' := Lib.hid h'
 obtain ⟨a1, c1, rfl, -⟩ := h
 obtain ⟨a1', c1', rfl, -⟩ := h'
 clear hV
 by_cases hc1 : bs.length ≤ 1048576
 case neg =>
   have hc1' : ((bs.length : Int) > 1048576) := by omega
   go_enter Tryd.func9, Tryd.ntmps9
   go_wp2_with fail
   go_ret
   exact ⟨rfl, Below.refl _ _⟩
 have hc1' : ¬ ((bs.length : Int) > 1048576) := by omega
 by_cases hc2 : bs'.length ≤ 1048576
 case neg =>
   have hc2' : ((bs'.length : Int) > 1048576) := by omega
   go_enter Tryd.func9, Tryd.ntmps9
   go_wp2_with fail
   go_ret
   exact ⟨rfl, Below.refl _ _⟩
 have hc2' : ¬ ((bs'.length : Int) > 1048576) := by omega
 have HD := Lib.hid (drawForward_c H.out w (Below.refl _ _) (Nat.le_refl _))
 go_enter Tryd.func9, Tryd.ntmps9
 go_wp2_with fail
 refine HD.out.mono ?_
 rintro e w2 ⟨k2, d2, t, v2, P, A, rfl, ht2, hw2, hp2, hb2⟩
 obtain ⟨b1, b2, b3, b4, b5, b6, rfl, rfl⟩ := ht2.slices
 obtain ⟨va, vc, rfl⟩ := IntsOwn.shown hp2
 have hs2 := hb2.size
 obtain ⟨W3, hW3⟩ : ∃ W3, W3 = (w2.alloc (.cells #[.slice b1 b2 b3, .slice b4 b5 b6] 33)).alloc (.cells #[.slice va P.length vc, .int .i64 A] 28) := ⟨_, rfl⟩
 have hs3 : w2.heap.size + 1 < W3.heap.size := by rw [hW3]; simp
 have hb3 : Below w2.heap.size w2 W3 := by rw [hW3]; exact ((Below.refl _ _).alloc (Nat.le_refl _) _).alloc (by simp) _
 have hx3 : W3.heap[w2.heap.size]? = some (.cells #[.slice b1 b2 b3, .slice b4 b5 b6] 33 (0, 0)) := by rw [hW3, old_blk _ _ _ (by simp), new_blk]
 have hc3 : W3.heap[w2.heap.size + 1]? = some (.cells #[.slice va P.length vc, .int .i64 A] 28 (0, 0)) := by
   rw [hW3, show w2.heap.size + 1 = (w2.alloc (.cells #[.slice b1 b2 b3, .slice b4 b5 b6] 33)).heap.size by simp, new_blk]
 have hti3 : TreeIn W3 W3.heap.size (.slice b1 b2 b3) (.slice b4 b5 b6) t := (ht2.same (w' := W3) (Q := fun k => k < W3.heap.size) (fun k hk => hb3.block k hk.2) (fun k hk => by omega)).tree (fun k hk => hk)
 have hoi3 : IntsOwn W3 w.heap.size (.slice va P.length vc) P := hp2.later hb3 (Nat.le_refl _)
 have hwt : t.weight ≤ 1048576 := by omega
 have hF3 : Below w.heap.size w W3 := hb2.trans (hb3.mono (by omega))
 have HF : Hid (∀ wx : World, Below W3.heap.size W3 wx → Below w.heap.size w wx) := Lib.hid (fun wx hx => hF3.trans (hx.mono (by omega)))
 obtain ⟨r1, hr1⟩ : ∃ r, r = Tr.walkB t P A (fun K => Tr.goF (K + 1) t P) := ⟨_, rfl⟩
 have HFW : Hid (∀ (wx : World), Below W3.heap.size W3 wx → Calls Tryd.prog 31 #[.agg #[.slice b1 b2 b3, .slice b4 b5 b6], .agg #[.slice va P.length vc, .int .i64 A]] wx (Walked wx r1)) :=
   Lib.hid (fun wx hx => by rw [hr1]; exact impl_forward_c ((hti3.later hx (Nat.le_refl _)).wider hx.size) hwt ((hoi3.later hx (by omega)).in) A s s2 wx (Below.refl _ _) (Nat.le_refl _) (fun wy hy => VAR.out wy (HF.out wy (hx.trans (hy.mono hx.size)))))
 have HSF : Hid (∀ (wx : World), Below W3.heap.size W3 wx → Calls Tryd.prog 29 #[.agg #[.slice b1 b2 b3, .slice b4 b5 b6], .agg #[.slice va P.length vc, .int .i64 A]] wx (Told wx r1)) :=
   Lib.hid (fun wx hx => by rw [hr1, Tr.forward_eq]; exact specForward_c ((hti3.later hx (Nat.le_refl _)).wider hx.size) hwt ((hoi3.later hx (by omega)).in) A wx (Below.refl _ _) (Nat.le_refl _))
 -- and back again
 have HBB : Hid (r1.2.2 = true → ∀ (wx : World) (v : Value), Below W3.heap.size W3 wx → IntsIn wx wx.heap.size v r1.1 → Calls Tryd.prog 33 #[.agg #[.slice b1 b2 b3, .slice b4 b5 b6], .agg #[v, .int .i64 r1.2.1]] wx (Walked wx (P, A, true))) :=
   Lib.hid (fun hok wx v hx hi => by
     rw [← Tr.fwd_bwd hr1 hok]; exact impl_backward_c ((hti3.later hx (Nat.le_refl _)).wider hx.size) hwt hi r1.2.1 s s2 wx (Below.refl _ _) (Nat.le_refl _) (fun wy hy => VAR.out wy (HF.out wy (hx.trans (hy.mono hx.size)))))
 have BOX : Hid (∀ wx : World, Below W3.heap.size W3 wx → wx.heap[w2.heap.size]? = some (.cells #[.slice b1 b2 b3, .slice b4 b5 b6] 33 (0, 0)) ∧ wx.heap[w2.heap.size + 1]? = some (.cells #[.slice va P.length vc, .int .i64 A] 28 (0, 0)) ∧ IntsIn wx wx.heap.size (.slice va P.length vc) P) :=
   Lib.hid (fun wx hx => ⟨(hx.block _ (by omega)).trans hx3, (hx.block _ hs3).trans hc3, (hoi3.later hx (by omega)).in⟩)
 have hx3x := hx3
 have hc3x := hc3
 rw [hW3] at hx3x hc3x
 obtain ⟨x1, x2, -, -⟩ := box2 hx3x
 obtain ⟨y1, y2, -, -⟩ := box2 hc3x
 have HW3 := Lib.hid hW3
 have HF3 := Lib.hid hF3
 obtain ⟨P1, A1, on⟩ := r1
 clear ht2 hb2 hp2 hW3 hb3 hx3 hc3 hx3x hc3x hti3 hoi3 hr1 hF3
 go_wp2_with fail
 rw [← HW3.out]
 refine (HFW.out W3 (Below.refl _ _)).mono ?_
 rintro e w4 ⟨v4, rfl, ho4, hb4⟩
 obtain ⟨va4, vc4, rfl⟩ := IntsOwn.shown ho4
 have hs4 := hb4.size
 obtain ⟨W4, hW4⟩ : ∃ W4, W4 = w4.alloc (.cells #[.slice va4 P1.length vc4, .int .i64 A1] 28) := ⟨_, rfl⟩
 have hz4 : w4.heap.size < W4.heap.size := by rw [hW4]; simp
 have hbb4 : Below w4.heap.size w4 W4 := by rw [hW4]; exact (Below.refl _ _).alloc (Nat.le_refl _) _
 have kc4 : W4.heap[w4.heap.size]? = some (.cells #[.slice va4 P1.length vc4, .int .i64 A1] 28 (0, 0)) := by rw [hW4, new_blk]
 have hb34 : Below W3.heap.size W3 W4 := hb4.trans (hbb4.mono (by omega))
 have B4 : Hid (∀ wx : World, Below W4.heap.size W4 wx → Below W3.heap.size W3 wx ∧ wx.heap[w4.heap.size]? = some (.cells #[.slice va4 P1.length vc4, .int .i64 A1] 28 (0, 0)) ∧ IntsIn wx wx.heap.size (.slice va4 P1.length vc4) P1) := Lib.hid (fun wx hx =>
   ⟨hb34.trans (hx.mono hb34.size), (hx.block _ hz4).trans kc4, ((ho4.later hbb4 (Nat.le_refl _)).later hx (Nat.le_refl _)).in⟩)
 clear x1 x2 y1 y2
 obtain ⟨hx4, hc4, -⟩ := BOX.out W4 hb34
 rw [hW4] at hx4 hc4
 obtain ⟨x1, x2, -, -⟩ := box2 hx4
 obtain ⟨y1, y2, -, -⟩ := box2 hc4
 have HW4 := Lib.hid hW4
 clear ho4 hb4 hW4 hbb4 kc4 hb34 hx4 hc4
 go_wp2_with fail
 rw [← HW4.out]
 refine (HSF.out W4 (B4.out W4 (Below.refl _ _)).1).mono ?_
 rintro e w5 ⟨v5, rfl, ho5, hb5⟩
 obtain ⟨va5, vc5, rfl⟩ := IntsOwn.shown ho5
 have hs5 := hb5.size
 obtain ⟨W5, hW5⟩ : ∃ W5, W5 = w5.alloc (.cells #[.slice va5 P1.length vc5, .int .i64 A1] 28) := ⟨_, rfl⟩
 have hz5 : w5.heap.size < W5.heap.size := by rw [hW5]; simp
 have hbb5 : Below w5.heap.size w5 W5 := by rw [hW5]; exact (Below.refl _ _).alloc (Nat.le_refl _) _
 have kc5 : W5.heap[w5.heap.size]? = some (.cells #[.slice va5 P1.length vc5, .int .i64 A1] 28 (0, 0)) := by rw [hW5, new_blk]
 have hb45 : Below W4.heap.size W4 W5 := hb5.trans (hbb5.mono (by omega))
 have B5 : Hid (∀ wx : World, Below W5.heap.size W5 wx → Below W4.heap.size W4 wx ∧ wx.heap[w5.heap.size]? = some (.cells #[.slice va5 P1.length vc5, .int .i64 A1] 28 (0, 0)) ∧ IntsIn wx wx.heap.size (.slice va5 P1.length vc5) P1) := Lib.hid (fun wx hx =>
   ⟨hb45.trans (hx.mono hb45.size), (hx.block _ hz5).trans kc5, ((ho5.later hbb5 (Nat.le_refl _)).later hx (Nat.le_refl _)).in⟩)
 -- the second tree
 have hF5 : Below w.heap.size w W5 := HF.out W5 (B4.out W5 hb45).1
 have HD2 := Lib.hid (drawBackward_c H'.out W5 hF5 hF5.size)
 have HF5 := Lib.hid hF5
 have HW5 := Lib.hid hW5
 clear x1 x2 y1 y2 ho5 hb5 hW5 hbb5 kc5 hb45 hF5
 go_wp2_with fail
 rw [← HW5.out]
 refine HD2.out.mono ?_
 rintro e w6 ⟨k6, d6, t2, v6, Q, C, rfl, ht6, hw6, hp6, hb6⟩
 obtain ⟨g1, g2, g3, g4, g5, g6, rfl, rfl⟩ := ht6.slices
 obtain ⟨vq, vqc, rfl⟩ := IntsOwn.shown hp6
 have hs6 := hb6.size
 obtain ⟨W7, hW7⟩ : ∃ W3, W3 = (w6.alloc (.cells #[.slice g1 g2 g3, .slice g4 g5 g6] 33)).alloc (.cells #[.slice vq Q.length vqc, .int .i64 C] 28) := ⟨_, rfl⟩
 have hs7 : w6.heap.size + 1 < W7.heap.size := by rw [hW7]; simp
 have hb7 : Below w6.heap.size w6 W7 := by rw [hW7]; exact ((Below.refl _ _).alloc (Nat.le_refl _) _).alloc (by simp) _
 have hx7 : W7.heap[w6.heap.size]? = some (.cells #[.slice g1 g2 g3, .slice g4 g5 g6] 33 (0, 0)) := by rw [hW7, old_blk _ _ _ (by simp), new_blk]
 have hc7 : W7.heap[w6.heap.size + 1]? = some (.cells #[.slice vq Q.length vqc, .int .i64 C] 28 (0, 0)) := by
   rw [hW7, show w6.heap.size + 1 = (w6.alloc (.cells #[.slice g1 g2 g3, .slice g4 g5 g6] 33)).heap.size by simp, new_blk]
 have hti7 : TreeIn W7 W7.heap.size (.slice g1 g2 g3) (.slice g4 g5 g6) t2 := (ht6.same (w' := W7) (Q := fun k => k < W7.heap.size) (fun k hk => hb7.block k hk.2) (fun k hk => by omega)).tree (fun k hk => hk)
 have hoi7 : IntsOwn W7 W5.heap.size (.slice vq Q.length vqc) Q := hp6.later hb7 (Nat.le_refl _)
 have hwt2 : t2.weight ≤ 1048576 := by omega
 have hF7 : Below W5.heap.size W5 W7 := hb6.trans (hb7.mono (by omega))
 have HG : Hid (∀ wx : World, Below W7.heap.size W7 wx → Below W5.heap.size W5 wx) := Lib.hid (fun wx hx => hF7.trans (hx.mono (by omega)))
 have HGF : Hid (∀ wx : World, Below W7.heap.size W7 wx → Below w.heap.size w wx) := Lib.hid (fun wx hx => HF5.out.trans ((HG.out wx hx).mono HF5.out.size))
 obtain ⟨r2, hr2⟩ : ∃ r, r = Tr.walkB t2 Q C (fun K => Tr.goB K t2 Q) := ⟨_, rfl⟩
 have HBW : Hid (∀ (wx : World), Below W7.heap.size W7 wx → Calls Tryd.prog 33 #[.agg #[.slice g1 g2 g3, .slice g4 g5 g6], .agg #[.slice vq Q.length vqc, .int .i64 C]] wx (Walked wx r2)) :=
   Lib.hid (fun wx hx => by rw [hr2]; exact impl_backward_c ((hti7.later hx (Nat.le_refl _)).wider hx.size) hwt2 ((hoi7.later hx (by omega)).in) C s s2 wx (Below.refl _ _) (Nat.le_refl _) (fun wy hy => VAR.out wy (HGF.out wy (hx.trans (hy.mono hx.size)))))
 have HSB : Hid (∀ (wx : World), Below W7.heap.size W7 wx → Calls Tryd.prog 32 #[.agg #[.slice g1 g2 g3, .slice g4 g5 g6], .agg #[.slice vq Q.length vqc, .int .i64 C]] wx (Told wx r2)) :=
   Lib.hid (fun wx hx => by rw [hr2, Tr.backward_eq]; exact specBackward_c ((hti7.later hx (Nat.le_refl _)).wider hx.size) hwt2 ((hoi7.later hx (by omega)).in) C wx (Below.refl _ _) (Nat.le_refl _))
 have HFF : Hid (r2.2.2 = true → ∀ (wx : World) (v : Value), Below W7.heap.size W7 wx → IntsIn wx wx.heap.size v r2.1 → Calls Tryd.prog 31 #[.agg #[.slice g1 g2 g3, .slice g4 g5 g6], .agg #[v, .int .i64 r2.2.1]] wx (Walked wx (Q, C, true))) :=
   Lib.hid (fun hok wx v hx hi => by
     rw [← Tr.bwd_fwd hr2 hok]; exact impl_forward_c ((hti7.later hx (Nat.le_refl _)).wider hx.size) hwt2 hi r2.2.1 s s2 wx (Below.refl _ _) (Nat.le_refl _) (fun wy hy => VAR.out wy (HGF.out wy (hx.trans (hy.mono hx.size)))))
 have BOX2 : Hid (∀ wx : World, Below W7.heap.size W7 wx → wx.heap[w6.heap.size]? = some (.cells #[.slice g1 g2 g3, .slice g4 g5 g6] 33 (0, 0)) ∧ wx.heap[w6.heap.size + 1]? = some (.cells #[.slice vq Q.length vqc, .int .i64 C] 28 (0, 0)) ∧ IntsIn wx wx.heap.size (.slice vq Q.length vqc) Q) :=
   Lib.hid (fun wx hx => ⟨(hx.block _ (by omega)).trans hx7, (hx.block _ hs7).trans hc7, (hoi7.later hx (by omega)).in⟩)
 rw [hW7] at hx7 hc7
 obtain ⟨x1, x2, -, -⟩ := box2 hx7
 obtain ⟨y1, y2, -, -⟩ := box2 hc7
 have HW7 := Lib.hid hW7
 obtain ⟨P2, A2, bk⟩ := r2
 clear ht6 hb6 hp6 hW7 hb7 hx7 hc7 hti7 hoi7 hr2 hF7
 go_wp2_with fail
 rw [← HW7.out]
 refine (HBW.out W7 (Below.refl _ _)).mono ?_
 rintro e w8 ⟨v8, rfl, ho8, hb8⟩
 obtain ⟨va8, vc8, rfl⟩ := IntsOwn.shown ho8
 have hs8 := hb8.size
 obtain ⟨W8, hW8⟩ : ∃ W8, W8 = w8.alloc (.cells #[.slice va8 P2.length vc8, .int .i64 A2] 28) := ⟨_, rfl⟩
 have hz8 : w8.heap.size < W8.heap.size := by rw [hW8]; simp
 have hbb8 : Below w8.heap.size w8 W8 := by rw [hW8]; exact (Below.refl _ _).alloc (Nat.le_refl _) _
 have kc8 : W8.heap[w8.heap.size]? = some (.cells #[.slice va8 P2.length vc8, .int .i64 A2] 28 (0, 0)) := by rw [hW8, new_blk]
 have hb78 : Below W7.heap.size W7 W8 := hb8.trans (hbb8.mono (by omega))
 have B8 : Hid (∀ wx : World, Below W8.heap.size W8 wx → Below W7.heap.size W7 wx ∧ wx.heap[w8.heap.size]? = some (.cells #[.slice va8 P2.length vc8, .int .i64 A2] 28 (0, 0)) ∧ IntsIn wx wx.heap.size (.slice va8 P2.length vc8) P2) := Lib.hid (fun wx hx =>
   ⟨hb78.trans (hx.mono hb78.size), (hx.block _ hz8).trans kc8, ((ho8.later hbb8 (Nat.le_refl _)).later hx (Nat.le_refl _)).in⟩)
 clear x1 x2 y1 y2
 obtain ⟨hx8, hc8, -⟩ := BOX2.out W8 hb78
 rw [hW8] at hx8 hc8
 obtain ⟨x1, x2, -, -⟩ := box2 hx8
 obtain ⟨y1, y2, -, -⟩ := box2 hc8
 have HW8 := Lib.hid hW8
 clear ho8 hb8 hW8 hbb8 kc8 hb78 hx8 hc8
 go_wp2_with fail
 rw [← HW8.out]
 refine (HSB.out W8 (B8.out W8 (Below.refl _ _)).1).mono ?_
 rintro e w9 ⟨v9, rfl, ho9, hb9⟩
 obtain ⟨va9, vc9, rfl⟩ := IntsOwn.shown ho9
 have hs9 := hb9.size
 obtain ⟨W9, hW9⟩ : ∃ W5, W5 = w9.alloc (.cells #[.slice va9 P2.length vc9, .int .i64 A2] 28) := ⟨_, rfl⟩
 have hz9 : w9.heap.size < W9.heap.size := by rw [hW9]; simp
 have hbb9 : Below w9.heap.size w9 W9 := by rw [hW9]; exact (Below.refl _ _).alloc (Nat.le_refl _) _
 have kc9 : W9.heap[w9.heap.size]? = some (.cells #[.slice va9 P2.length vc9, .int .i64 A2] 28 (0, 0)) := by rw [hW9, new_blk]
 have hb89 : Below W8.heap.size W8 W9 := hb9.trans (hbb9.mono (by omega))
 have B9 : Hid (∀ wx : World, Below W9.heap.size W9 wx → Below W8.heap.size W8 wx ∧ wx.heap[w9.heap.size]? = some (.cells #[.slice va9 P2.length vc9, .int .i64 A2] 28 (0, 0)) ∧ IntsIn wx wx.heap.size (.slice va9 P2.length vc9) P2) := Lib.hid (fun wx hx =>
   ⟨hb89.trans (hx.mono hb89.size), (hx.block _ hz9).trans kc9, ((ho9.later hbb9 (Nat.le_refl _)).later hx (Nat.le_refl _)).in⟩)
 have h79 : Hid (∀ wx, Below W9.heap.size W9 wx → Below W7.heap.size W7 wx) := Lib.hid (fun wx hx => (B8.out wx (B9.out wx hx).1).1)
 have h59 : Hid (∀ wx, Below W9.heap.size W9 wx → Below W5.heap.size W5 wx) := Lib.hid (fun wx hx => HG.out wx (h79.out wx hx))
 -- all boxes, as long as nothing below W9 turns
 have ALL : Hid (∀ wx : World, Below W9.heap.size W9 wx →
     (wx.cell? ⟨w2.heap.size, 0, none⟩ = some (.slice b1 b2 b3) ∧ wx.cell? ⟨w2.heap.size, 1, none⟩ = some (.slice b4 b5 b6) ∧ wx.cell? ⟨w2.heap.size + 1, 0, none⟩ = some (.slice va P.length vc) ∧ wx.cell? ⟨w2.heap.size + 1, 1, none⟩ = some (.int .i64 A)) ∧
     (wx.cell? ⟨w4.heap.size, 0, none⟩ = some (.slice va4 P1.length vc4) ∧ wx.cell? ⟨w4.heap.size, 1, none⟩ = some (.int .i64 A1) ∧ wx.cell? ⟨w5.heap.size, 0, none⟩ = some (.slice va5 P1.length vc5) ∧ wx.cell? ⟨w5.heap.size, 1, none⟩ = some (.int .i64 A1)) ∧
     (wx.cell? ⟨w6.heap.size, 0, none⟩ = some (.slice g1 g2 g3) ∧ wx.cell? ⟨w6.heap.size, 1, none⟩ = some (.slice g4 g5 g6) ∧ wx.cell? ⟨w6.heap.size + 1, 0, none⟩ = some (.slice vq Q.length vqc) ∧ wx.cell? ⟨w6.heap.size + 1, 1, none⟩ = some (.int .i64 C)) ∧
     (wx.cell? ⟨w8.heap.size, 0, none⟩ = some (.slice va8 P2.length vc8) ∧ wx.cell? ⟨w8.heap.size, 1, none⟩ = some (.int .i64 A2) ∧ wx.cell? ⟨w9.heap.size, 0, none⟩ = some (.slice va9 P2.length vc9) ∧ wx.cell? ⟨w9.heap.size, 1, none⟩ = some (.int .i64 A2))) := Lib.hid (fun wx hx => by
   have i5 := B5.out wx (h59.out wx hx)
   have i4 := B4.out wx i5.1
   have i3 := BOX.out wx i4.1
   have i7 := BOX2.out wx (h79.out wx hx)
   have i9 := B9.out wx hx
   have i8 := B8.out wx i9.1
   obtain ⟨m1, m2, -, -⟩ := box2 i3.1
   obtain ⟨m3, m4, -, -⟩ := box2 i3.2.1
   obtain ⟨m5, m6, -, -⟩ := box2 i4.2.1
   obtain ⟨m7, m8, -, -⟩ := box2 i5.2.1
   obtain ⟨m9, m10, -, -⟩ := box2 i7.1
   obtain ⟨m11, m12, -, -⟩ := box2 i7.2.1
   obtain ⟨m13, m14, -, -⟩ := box2 i8.2.1
   obtain ⟨m15, m16, -, -⟩ := box2 i9.2.1
   exact ⟨⟨m1, m2, m3, m4⟩, ⟨m5, m6, m7, m8⟩, ⟨m9, m10, m11, m12⟩, ⟨m13, m14, m15, m16⟩⟩)
 have HWID : Hid (∀ wx : World, Below W9.heap.size W9 wx → Below w.heap.size w wx) := Lib.hid (fun wx hx => HGF.out wx (h79.out wx hx))
 have hW9' := ALL.out W9 (Below.refl _ _)
 rw [hW9] at hW9'
 obtain ⟨-, ⟨y1, y2, y3, y4⟩, -, -⟩ := hW9'
 have HW9 := Lib.hid hW9
 have hone : (on != on) = false := by simp
 have hbke : (bk != bk) = false := by simp
 clear x1 x2 ho9 hb9 hW9 hbb9 kc9 hb89
 go_wp2_with fail
 rw [← HW9.out]
 -- what both sides answer is one
 refine (ftCursor_c P1 _ _ A1 W9 W9.heap.size (Nat.le_refl _) (B4.out W9 (B5.out W9 (h59.out W9 (Below.refl _ _))).1).2.2 (B5.out W9 (h59.out W9 (Below.refl _ _))).2.2).mono ?_
 rintro e w10 ⟨rfl, hb10⟩
 have hs10 := hb10.size
 clear y1 y2 y3 y4
 obtain ⟨-, -, -, ⟨y1, y2, y3, y4⟩⟩ := ALL.out w10 hb10
 have H10 := Lib.hid hb10
 clear hb10
 go_wp2_with fail
 refine (ftCursor_c P2 _ _ A2 w10 w10.heap.size (Nat.le_refl _) (B8.out w10 (B9.out w10 H10.out).1).2.2 (B9.out w10 H10.out).2.2).mono ?_
 rintro e w11 ⟨rfl, hb11⟩
 have h911 : Below W9.heap.size W9 w11 := H10.out.trans (hb11.mono hs10)
 have hs11 := h911.size
 clear y1 y2 y3 y4
 obtain ⟨⟨x1, x2, x3, x4⟩, ⟨y1, y2, -, -⟩, -, -⟩ := ALL.out w11 h911
 have H11 := Lib.hid h911
 clear hb11 h911
 cases on with
 | true =>
   have HBC := Lib.hid (HBB.out rfl w11 (.slice va4 P1.length vc4) (B4.out w11 (B5.out w11 (h59.out w11 H11.out)).1).1 (B4.out w11 (B5.out w11 (h59.out w11 H11.out)).1).2.2)
   go_wp2_with fail
   refine HBC.out.mono ?_
   rintro e w12 ⟨v12, rfl, ho12, hb12⟩
   obtain ⟨va12, vc12, rfl⟩ := IntsOwn.shown ho12
   have hs12 := hb12.size
   obtain ⟨W12, hW12⟩ : ∃ W5, W5 = w12.alloc (.cells #[.slice va12 P.length vc12, .int .i64 A] 28) := ⟨_, rfl⟩
   have hz12 : w12.heap.size < W12.heap.size := by rw [hW12]; simp
   have hbb12 : Below w12.heap.size w12 W12 := by rw [hW12]; exact (Below.refl _ _).alloc (Nat.le_refl _) _
   have kc12 : W12.heap[w12.heap.size]? = some (.cells #[.slice va12 P.length vc12, .int .i64 A] 28 (0, 0)) := by rw [hW12, new_blk]
   have h912 : Below W9.heap.size W9 W12 := H11.out.trans ((hb12.mono hs11).trans (hbb12.mono (by omega)))
   have hi12 := ((ho12.later hbb12 (Nat.le_refl _)).later (Below.refl _ W12) (Nat.le_refl _)).in
   have hiP := (BOX.out W12 (B4.out W12 (B5.out W12 (h59.out W12 h912)).1).1).2.2
   clear x1 x2 x3 x4 y1 y2
   obtain ⟨⟨-, -, x3, x4⟩, -, -, -⟩ := ALL.out W12 h912
   obtain ⟨z1, z2, -, -⟩ := box2 kc12
   rw [hW12] at x3 x4 z1 z2
   have H12 := Lib.hid (And.intro h912 (And.intro hi12 hiP))
   have HW12 := Lib.hid hW12
   clear ho12 hb12 hW12 hbb12 kc12 h912 hi12 hiP
   go_wp2_with fail
   rw [← HW12.out]
   refine (ftCursor_c P _ _ A W12 W12.heap.size (Nat.le_refl _) H12.out.2.1 H12.out.2.2).mono ?_
   rintro e w13 ⟨rfl, hb13⟩
   have h913 : Below W9.heap.size W9 w13 := H12.out.1.trans (hb13.mono H12.out.1.size)
   have hs13 := h913.size
   clear x3 x4 z1 z2
   obtain ⟨-, -, ⟨x1, x2, x3, x4⟩, ⟨y1, y2, -, -⟩⟩ := ALL.out w13 h913
   have H13 := Lib.hid h913
   clear hb13 h913
   cases bk with
   | true =>
     have HFC := Lib.hid (HFF.out rfl w13 (.slice va8 P2.length vc8) (h79.out w13 H13.out) (B8.out w13 (B9.out w13 H13.out).1).2.2)
     go_wp2_with fail
     refine HFC.out.mono ?_
     rintro e w14 ⟨v14, rfl, ho14, hb14⟩
     obtain ⟨va14, vc14, rfl⟩ := IntsOwn.shown ho14
     have hs14 := hb14.size
     obtain ⟨W14, hW14⟩ : ∃ W5, W5 = w14.alloc (.cells #[.slice va14 Q.length vc14, .int .i64 C] 28) := ⟨_, rfl⟩
     have hbb14 : Below w14.heap.size w14 W14 := by rw [hW14]; exact (Below.refl _ _).alloc (Nat.le_refl _) _
     have kc14 : W14.heap[w14.heap.size]? = some (.cells #[.slice va14 Q.length vc14, .int .i64 C] 28 (0, 0)) := by rw [hW14, new_blk]
     have h914 : Below W9.heap.size W9 W14 := H13.out.trans ((hb14.mono hs13).trans (hbb14.mono (by omega)))
     have hi14 := ((ho14.later hbb14 (Nat.le_refl _)).later (Below.refl _ W14) (Nat.le_refl _)).in
     have hiQ := (BOX2.out W14 (h79.out W14 h914)).2.2
     clear x1 x2 x3 x4 y1 y2
     obtain ⟨-, -, ⟨-, -, x3, x4⟩, -⟩ := ALL.out W14 h914
     obtain ⟨z1, z2, -, -⟩ := box2 kc14
     rw [hW14] at x3 x4 z1 z2
     have H14 := Lib.hid (And.intro h914 (And.intro hi14 hiQ))
     have HW14 := Lib.hid hW14
     clear ho14 hb14 hW14 hbb14 kc14 h914 hi14 hiQ
     go_wp2_with fail
     rw [← HW14.out]
     refine (ftCursor_c Q _ _ C W14 W14.heap.size (Nat.le_refl _) H14.out.2.1 H14.out.2.2).mono ?_
     rintro e w15 ⟨rfl, hb15⟩
     have HE := Lib.hid (HWID.out w15 (H14.out.1.trans (hb15.mono H14.out.1.size)))
     clear hb15 x3 x4 z1 z2
     go_wp2_with fail
     go_ret
     exact ⟨rfl, HE.out⟩
   | false =>
     have HE := Lib.hid (HWID.out w13 H13.out)
     go_wp2_with fail
     go_ret
     exact ⟨rfl, HE.out⟩
 | false =>
   clear x1 x2 x3 x4 y1 y2
   obtain ⟨-, -, ⟨x1, x2, x3, x4⟩, ⟨y1, y2, -, -⟩⟩ := ALL.out w11 H11.out
   cases bk with
   | true =>
     have HFC := Lib.hid (HFF.out rfl w11 (.slice va8 P2.length vc8) (h79.out w11 H11.out) (B8.out w11 (B9.out w11 H11.out).1).2.2)
     go_wp2_with fail
     refine HFC.out.mono ?_
     rintro e w14 ⟨v14, rfl, ho14, hb14⟩
     obtain ⟨va14, vc14, rfl⟩ := IntsOwn.shown ho14
     have hs14 := hb14.size
     obtain ⟨W14, hW14⟩ : ∃ W5, W5 = w14.alloc (.cells #[.slice va14 Q.length vc14, .int .i64 C] 28) := ⟨_, rfl⟩
     have hbb14 : Below w14.heap.size w14 W14 := by rw [hW14]; exact (Below.refl _ _).alloc (Nat.le_refl _) _
     have kc14 : W14.heap[w14.heap.size]? = some (.cells #[.slice va14 Q.length vc14, .int .i64 C] 28 (0, 0)) := by rw [hW14, new_blk]
     have h914 : Below W9.heap.size W9 W14 := H11.out.trans ((hb14.mono hs11).trans (hbb14.mono (by omega)))
     have hi14 := ((ho14.later hbb14 (Nat.le_refl _)).later (Below.refl _ W14) (Nat.le_refl _)).in
     have hiQ := (BOX2.out W14 (h79.out W14 h914)).2.2
     clear x1 x2 x3 x4 y1 y2
     obtain ⟨-, -, ⟨-, -, x3, x4⟩, -⟩ := ALL.out W14 h914
     obtain ⟨z1, z2, -, -⟩ := box2 kc14
     rw [hW14] at x3 x4 z1 z2
     have H14 := Lib.hid (And.intro h914 (And.intro hi14 hiQ))
     have HW14 := Lib.hid hW14
     clear ho14 hb14 hW14 hbb14 kc14 h914 hi14 hiQ
     go_wp2_with fail
     rw [← HW14.out]
     refine (ftCursor_c Q _ _ C W14 W14.heap.size (Nat.le_refl _) H14.out.2.1 H14.out.2.2).mono ?_
     rintro e w15 ⟨rfl, hb15⟩
     have HE := Lib.hid (HWID.out w15 (H14.out.1.trans (hb15.mono H14.out.1.size)))
     clear hb15 x3 x4 z1 z2
     go_wp2_with fail
     go_ret
     exact ⟨rfl, HE.out⟩
   | false =>
     have HE := Lib.hid (HWID.out w11 H11.out)
     go_wp2_with fail
     go_ret
     exact ⟨rfl, HE.out⟩
end Go.Proofs.YticfkfjijnfcbaaDoor
