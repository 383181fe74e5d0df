/- Finding: wayDown, and the iterator that it returns. -/
import Derived.Test.YticfkfjijnfcbaaDoorCu17
import Derived.Sort.LoopGhostIn
namespace Go.Proofs.YticfkfjijnfcbaaDoor
open Go.RowKit
attribute [local go_sem] Oper.semAt_some
theorem wide_fn (f : Nat) : Fence.wide.fn f = True := rfl
attribute [local go_sem] wide_fn
theorem wayDown_c (b q gf : Nat) (w : World) :
   Calls Tryd.prog 89 #[.pointer (some ⟨b, 0, none⟩), .func (.func gf) #[] #[.pointer (some ⟨q, 0, none⟩)]] w fun e w' => e = .returned (.func (.func 118) #[] #[.pointer (some ⟨w.heap.size, 0, none⟩), .pointer (some ⟨w.heap.size + 1, 0, none⟩)]) ∧
     w' = (w.alloc (.cells #[.pointer (some ⟨b, 0, none⟩)] 99)).alloc (.cells #[.func (.func gf) #[] #[.pointer (some ⟨q, 0, none⟩)]] 86) := by
 go_enter Tryd.func89, Tryd.ntmps89
 go_wp2_with fail
 go_ret
 exact ⟨rfl, rfl⟩
set_option maxRecDepth 100000 in
set_option maxHeartbeats 4000000 in
theorem way_less_iter {w₀ : World} {lo hi b : Nat} {t : Tr} {xs : List (Nat × Tr)} (n c : Int) (hc : Hid (c = n)) (hxs : WayIn w₀ lo hi c b t xs) (hhi : hi ≤ w₀.heap.size) (bn bf q : Nat)
   (hbn : w₀.heap[bn]? = some (.cells #[.pointer (some ⟨b, 0, none⟩)] 99 (0, 0)))
   (hbf : w₀.heap[bf]? = some (.cells #[.func (.func 109) #[] #[.pointer (some ⟨q, 0, none⟩)]] 86 (0, 0)))
   (hq : w₀.heap[q]? = some (.cells #[.int .i64 n] 3 (0, 0))) :
   Iter Tryd.prog 118 #[] #[.pointer (some ⟨bn, 0, none⟩), .pointer (some ⟨bf, 0, none⟩)] (wayEnc c) (fun k => (lo ≤ k ∧ k < hi) ∨ k = bn ∨ k = bf ∨ k = q) xs w₀ := by
 intro l J Jx Pv W hkeep hRd hbnd hJ hJx hY h0
 have l1 := (Array.getElem?_eq_some_iff.1 hbn).1
 have l2 := (Array.getElem?_eq_some_iff.1 hbf).1
 have l3 := (Array.getElem?_eq_some_iff.1 hq).1
 have hbn' := (hkeep.block bn l1 (.inr (.inl rfl))).trans hbn
 obtain ⟨x1, x2⟩ := box1 hbn'
 have HQ := Lib.hid (And.intro hbf hq)
 have HY := Lib.hid hY
 have HXS := Lib.hid hxs
 have HJ := Lib.hid (And.intro hJ hJx)
 have HK := Lib.hid hkeep
 have HRD := Lib.hid hRd
 have HBND := Lib.hid hbnd
 clear hbn hbf hq hbn' hY hxs hkeep hRd hbnd hJ hJx
 show Calls Tryd.prog 118 #[.func (.yield l) #[] #[], .pointer (some ⟨bn, 0, none⟩), .pointer (some ⟨bf, 0, none⟩)] W _
 refine callsIn_wide (n := 9).1 (callsIn_of_wp Tryd.func118 rfl trivial ?_ rfl)
 simp only [Tryd.ntmps118, List.size_toArray, List.length_cons, List.length_nil, Nat.reduceAdd, Nat.reduceSub, Array.replicate_succ, Array.replicate_zero, List.push_toArray, List.append_toArray, List.nil_append, List.cons_append]
 gi_wp2
 gi_loopg [4] xs.length (fun k s4 wr => ∃ (pre : List (Nat × Tr)) (b' : Nat) (t' : Tr) (rest : List (Nat × Tr)), xs = pre ++ rest ∧ WayIn w₀ lo hi c b' t' rest ∧ s4 = .pointer (some ⟨b', 0, none⟩) ∧ rest.length ≤ k ∧ J pre Pv wr ∧ Keep Pv W wr)
 case atStart => exact ⟨[], b, t, xs, rfl, HXS.out, rfl, Nat.le_refl _, h0, Keep.refl _ _⟩
 case round =>
   obtain ⟨pre, b', t', rest, hsplit, hwi, rfl, hlen, hJs, hkp⟩ := hrel
   clear x1 x2 h0
   have hk0 : Keep (fun k => (lo ≤ k ∧ k < hi) ∨ k = bn ∨ k = bf ∨ k = q) w₀ wr := HK.out.trans (hkp.mono (fun k _ h => HRD.out k h))
   obtain ⟨x1, x2⟩ := box1 ((hk0.block bf l2 (.inr (.inr (.inl rfl)))).trans HQ.out.1)
   obtain ⟨x3, x4⟩ := box1 ((hk0.block q l3 (.inr (.inr (.inr rfl)))).trans HQ.out.2)
   have hbl : ∀ k, lo ≤ k → k < hi → wr.heap[k]? = w₀.heap[k]? := fun k h1 h2 => hk0.block k (by omega) (.inl ⟨h1, h2⟩)
   have HBL := Lib.hid hbl
   have HSP := Lib.hid hsplit
   have HLEN := Lib.hid hlen
   have HJS := Lib.hid hJs
   have HKP := Lib.hid hkp
   clear hbl hsplit hlen hk0 hJs hkp
   cases hwi with
   | leaf b' t' kv a cap hs h0 =>
     obtain ⟨ks, cs⟩ := t'
     have hks : IntsR wr lo hi kv ks := hs.keys.same HBL.out
     have hki : IntsIn wr hi kv ks := hks.in
     have hbox := (HBL.out b' hs.low hs.high).trans hs.box
     have hbx0 := hs.box
     have hpw := Tr.Well.keys hs.well
     have hlt0 := hs.light
     have hkl : ks.length ≤ 1048576 := by simp only [Tr.weight] at hlt0; omega
     have hbW : b' < wr.heap.size := (Array.getElem?_eq_some_iff.1 hbox).1
     obtain ⟨ka, kcap, rfl, _⟩ := hks
     simp only [Tr.cs] at hbox h0
     obtain ⟨y1, y2, y3, y4⟩ := box2 hbox
     have hleaf : ((cs.length : Int) == 0) = true := by simp [h0]
     have HKI := Lib.hid hki
     have HPW := Lib.hid hpw
     have HKL := Lib.hid hkl
     have HBOX := Lib.hid hbox
     have HH0 := Lib.hid h0
     have hlow := hs.low
     have hhigh := hs.high
     clear hki hpw hbox hbx0 hs h0 hlt0
     gi_wp2
     gi_quiet ((gi_at_call 102; exact CallsIn.quiet_of_same ((callsIn_wide (n := _)).2 (place_less_d _ hi HKI.out HPW.out HKL.out n c hc q x3 _))))
     obtain ⟨fn, tmps, assign, body, hy, hR⟩ := HY.out pre (b', .mk ks cs) Pv (wr.drewN nq) (HJ.out.1 _ _ _ _ _ HJS.out (Keep.drewN _ _ _) (fun k h => .inl h)) (HKP.out.trans (Keep.drewN _ _ _)) (fun _ h => h) (fun k h => Nat.lt_of_lt_of_le (HBND.out k h) HKP.out.size) (by rw [HSP.out]; exact List.prefix_refl _)
     dsimp only [wayEnc, Tr.ks] at hy
     have HR := Lib.hid hR
     clear hR
     gi_wp2
     refine (HR.out _).mono ?_
     rintro e W3 ⟨hk3, (⟨rfl, hJ3⟩ | ⟨rfl, hJx3⟩)⟩
     · have hk3' : Keep Pv W W3 := (HKP.out.trans (Keep.drewN _ _ _)).trans hk3
       clear y1 y2 y3 y4
       obtain ⟨y1, y2, y3, y4⟩ := box2 ((hk3.block b' hbW (HRD.out b' (.inl ⟨hlow, hhigh⟩))).trans HBOX.out)
       have HJ3 := Lib.hid (And.intro hk3' hJ3)
       clear hk3 hk3' hJ3 hy
       gi_wp2
       refine bodyPost_ret (results_none rfl _ _ _) rfl ?_
       exact ⟨⟨_, rfl⟩, HJ3.out.1, .inl (by rw [HSP.out]; exact HJ3.out.2)⟩
     · have hk3' : Keep Pv W W3 := (HKP.out.trans (Keep.drewN _ _ _)).trans hk3
       have HJ3 := Lib.hid (And.intro hk3' hJx3)
       clear hk3 hk3' hJx3 hy y1 y2 y3 y4
       gi_wp2
       refine bodyPost_ret (results_none rfl _ _ _) rfl ?_
       exact ⟨⟨_, rfl⟩, HJ3.out.1, .inr ⟨_, by rw [HSP.out]; exact List.prefix_refl _, HJ3.out.2⟩⟩
   | inner b' t' kv qb qo cap p u xs' hs h0 q1 q2 hp hr =>
     obtain ⟨ks, cs⟩ := t'
     have hks : IntsR wr lo hi kv ks := hs.keys.same HBL.out
     have hki : IntsIn wr hi kv ks := hks.in
     have hbox := (HBL.out b' hs.low hs.high).trans hs.box
     have hbx0 := hs.box
     have hpw := Tr.Well.keys hs.well
     have hlt0 := hs.light
     have hkl : ks.length ≤ 1048576 := by simp only [Tr.weight] at hlt0; omega
     have hbW : b' < wr.heap.size := (Array.getElem?_eq_some_iff.1 hbox).1
     obtain ⟨ka, kcap, rfl, _⟩ := hks
     simp only [Tr.cs, Tr.ks] at hbox h0 hp
     obtain ⟨y1, y2, y3, y4⟩ := box2 hbox
     have hbq : qb < wr.heap.size := World.block_lt_of_cell? wr _ ((cell_of_blk (HBL.out qb q1 q2)).trans hp)
     have hz : wr.cell? ⟨qb, qo + place c ks, none⟩ = some (.pointer (some ⟨p, 0, none⟩)) := (cell_of_blk (HBL.out qb q1 q2)).trans hp
     have HZ := Lib.hid hz
     have HR' := Lib.hid hr
     have HP := Lib.hid hp
     have hleaf : ((cs.length : Int) == 0) = false := by rw [beq_eq_false_iff_ne]; omega
     have HKI := Lib.hid hki
     have HPW := Lib.hid hpw
     have HKL := Lib.hid hkl
     have HBOX := Lib.hid hbox
     have HH0 := Lib.hid h0
     have hlow := hs.low
     have hhigh := hs.high
     clear hki hpw hbox hbx0 hs h0 hlt0 hz hr hp
     gi_wp2
     gi_quiet ((gi_at_call 102; exact CallsIn.quiet_of_same ((callsIn_wide (n := _)).2 (place_less_d _ hi HKI.out HPW.out HKL.out n c hc q x3 _))))
     obtain ⟨fn, tmps, assign, body, hy, hR⟩ := HY.out pre (b', .mk ks cs) Pv (wr.drewN nq) (HJ.out.1 _ _ _ _ _ HJS.out (Keep.drewN _ _ _) (fun k h => .inl h)) (HKP.out.trans (Keep.drewN _ _ _)) (fun _ h => h) (fun k h => Nat.lt_of_lt_of_le (HBND.out k h) HKP.out.size) (by rw [HSP.out]; exact ⟨xs', by simp⟩)
     dsimp only [wayEnc, Tr.ks] at hy
     have HR := Lib.hid hR
     clear hR
     gi_wp2
     refine (HR.out _).mono ?_
     rintro e W3 ⟨hk3, (⟨rfl, hJ3⟩ | ⟨rfl, hJx3⟩)⟩
     · have hk3' : Keep Pv W W3 := (HKP.out.trans (Keep.drewN _ _ _)).trans hk3
       clear y1 y2 y3 y4
       obtain ⟨y1, y2, y3, y4⟩ := box2 ((hk3.block b' hbW (HRD.out b' (.inl ⟨hlow, hhigh⟩))).trans HBOX.out)
       have hq3 : W3.heap[qb]? = wr.heap[qb]? := hk3.block qb hbq (HRD.out qb (.inl ⟨q1, q2⟩))
       have HJ3 := Lib.hid (And.intro hk3' hJ3)
       clear hk3 hk3' hJ3 hy
       have z1 : W3.cell? ⟨qb, qo + place c ks, none⟩ = some (.pointer (some ⟨p, 0, none⟩)) := (cell_of_blk (hq3 )).trans HZ.out
       have hpl' : (place c ks : Int) < (cs.length : Int) := by have := HH0.out; have := place_le c ks; omega
       clear hq3
       gi_wp2
       gi_roundg xs'.length
       case measure => have := HLEN.out; simp at this; omega
       case rel => exact ⟨pre ++ [(b', .mk ks cs)], p, u, xs', by rw [HSP.out]; simp, HR'.out, rfl, Nat.le_refl _, HJ3.out.2, HJ3.out.1⟩
     · have hk3' : Keep Pv W W3 := (HKP.out.trans (Keep.drewN _ _ _)).trans hk3
       have HJ3 := Lib.hid (And.intro hk3' hJx3)
       clear hk3 hk3' hJx3 hy y1 y2 y3 y4
       gi_wp2
       refine bodyPost_ret (results_none rfl _ _ _) rfl ?_
       exact ⟨⟨_, rfl⟩, HJ3.out.1, .inr ⟨_, by rw [HSP.out]; exact ⟨xs', by simp⟩, HJ3.out.2⟩⟩
set_option maxRecDepth 100000 in
set_option maxHeartbeats 4000000 in
theorem way_upTo_iter {w₀ : World} {lo hi b : Nat} {t : Tr} {xs : List (Nat × Tr)} (n c : Int) (hc : Hid (c = n + 1)) (hxs : WayIn w₀ lo hi c b t xs) (hhi : hi ≤ w₀.heap.size) (bn bf q : Nat)
   (hbn : w₀.heap[bn]? = some (.cells #[.pointer (some ⟨b, 0, none⟩)] 99 (0, 0)))
   (hbf : w₀.heap[bf]? = some (.cells #[.func (.func 121) #[] #[.pointer (some ⟨q, 0, none⟩)]] 86 (0, 0)))
   (hq : w₀.heap[q]? = some (.cells #[.int .i64 n] 3 (0, 0))) :
   Iter Tryd.prog 118 #[] #[.pointer (some ⟨bn, 0, none⟩), .pointer (some ⟨bf, 0, none⟩)] (wayEnc c) (fun k => (lo ≤ k ∧ k < hi) ∨ k = bn ∨ k = bf ∨ k = q) xs w₀ := by
 intro l J Jx Pv W hkeep hRd hbnd hJ hJx hY h0
 have l1 := (Array.getElem?_eq_some_iff.1 hbn).1
 have l2 := (Array.getElem?_eq_some_iff.1 hbf).1
 have l3 := (Array.getElem?_eq_some_iff.1 hq).1
 have hbn' := (hkeep.block bn l1 (.inr (.inl rfl))).trans hbn
 obtain ⟨x1, x2⟩ := box1 hbn'
 have HQ := Lib.hid (And.intro hbf hq)
 have HY := Lib.hid hY
 have HXS := Lib.hid hxs
 have HJ := Lib.hid (And.intro hJ hJx)
 have HK := Lib.hid hkeep
 have HRD := Lib.hid hRd
 have HBND := Lib.hid hbnd
 clear hbn hbf hq hbn' hY hxs hkeep hRd hbnd hJ hJx
 show Calls Tryd.prog 118 #[.func (.yield l) #[] #[], .pointer (some ⟨bn, 0, none⟩), .pointer (some ⟨bf, 0, none⟩)] W _
 refine callsIn_wide (n := 9).1 (callsIn_of_wp Tryd.func118 rfl trivial ?_ rfl)
 simp only [Tryd.ntmps118, List.size_toArray, List.length_cons, List.length_nil, Nat.reduceAdd, Nat.reduceSub, Array.replicate_succ, Array.replicate_zero, List.push_toArray, List.append_toArray, List.nil_append, List.cons_append]
 gi_wp2
 gi_loopg [4] xs.length (fun k s4 wr => ∃ (pre : List (Nat × Tr)) (b' : Nat) (t' : Tr) (rest : List (Nat × Tr)), xs = pre ++ rest ∧ WayIn w₀ lo hi c b' t' rest ∧ s4 = .pointer (some ⟨b', 0, none⟩) ∧ rest.length ≤ k ∧ J pre Pv wr ∧ Keep Pv W wr)
 case atStart => exact ⟨[], b, t, xs, rfl, HXS.out, rfl, Nat.le_refl _, h0, Keep.refl _ _⟩
 case round =>
   obtain ⟨pre, b', t', rest, hsplit, hwi, rfl, hlen, hJs, hkp⟩ := hrel
   clear x1 x2 h0
   have hk0 : Keep (fun k => (lo ≤ k ∧ k < hi) ∨ k = bn ∨ k = bf ∨ k = q) w₀ wr := HK.out.trans (hkp.mono (fun k _ h => HRD.out k h))
   obtain ⟨x1, x2⟩ := box1 ((hk0.block bf l2 (.inr (.inr (.inl rfl)))).trans HQ.out.1)
   obtain ⟨x3, x4⟩ := box1 ((hk0.block q l3 (.inr (.inr (.inr rfl)))).trans HQ.out.2)
   have hbl : ∀ k, lo ≤ k → k < hi → wr.heap[k]? = w₀.heap[k]? := fun k h1 h2 => hk0.block k (by omega) (.inl ⟨h1, h2⟩)
   have HBL := Lib.hid hbl
   have HSP := Lib.hid hsplit
   have HLEN := Lib.hid hlen
   have HJS := Lib.hid hJs
   have HKP := Lib.hid hkp
   clear hbl hsplit hlen hk0 hJs hkp
   cases hwi with
   | leaf b' t' kv a cap hs h0 =>
     obtain ⟨ks, cs⟩ := t'
     have hks : IntsR wr lo hi kv ks := hs.keys.same HBL.out
     have hki : IntsIn wr hi kv ks := hks.in
     have hbox := (HBL.out b' hs.low hs.high).trans hs.box
     have hbx0 := hs.box
     have hpw := Tr.Well.keys hs.well
     have hlt0 := hs.light
     have hkl : ks.length ≤ 1048576 := by simp only [Tr.weight] at hlt0; omega
     have hbW : b' < wr.heap.size := (Array.getElem?_eq_some_iff.1 hbox).1
     obtain ⟨ka, kcap, rfl, _⟩ := hks
     simp only [Tr.cs] at hbox h0
     obtain ⟨y1, y2, y3, y4⟩ := box2 hbox
     have hleaf : ((cs.length : Int) == 0) = true := by simp [h0]
     have HKI := Lib.hid hki
     have HPW := Lib.hid hpw
     have HKL := Lib.hid hkl
     have HBOX := Lib.hid hbox
     have HH0 := Lib.hid h0
     have hlow := hs.low
     have hhigh := hs.high
     clear hki hpw hbox hbx0 hs h0 hlt0
     gi_wp2
     gi_quiet ((gi_at_call 102; exact CallsIn.quiet_of_same ((callsIn_wide (n := _)).2 (place_upTo_d _ hi HKI.out HPW.out HKL.out n c hc q x3 _))))
     obtain ⟨fn, tmps, assign, body, hy, hR⟩ := HY.out pre (b', .mk ks cs) Pv (wr.drewN nq) (HJ.out.1 _ _ _ _ _ HJS.out (Keep.drewN _ _ _) (fun k h => .inl h)) (HKP.out.trans (Keep.drewN _ _ _)) (fun _ h => h) (fun k h => Nat.lt_of_lt_of_le (HBND.out k h) HKP.out.size) (by rw [HSP.out]; exact List.prefix_refl _)
     dsimp only [wayEnc, Tr.ks] at hy
     have HR := Lib.hid hR
     clear hR
     gi_wp2
     refine (HR.out _).mono ?_
     rintro e W3 ⟨hk3, (⟨rfl, hJ3⟩ | ⟨rfl, hJx3⟩)⟩
     · have hk3' : Keep Pv W W3 := (HKP.out.trans (Keep.drewN _ _ _)).trans hk3
       clear y1 y2 y3 y4
       obtain ⟨y1, y2, y3, y4⟩ := box2 ((hk3.block b' hbW (HRD.out b' (.inl ⟨hlow, hhigh⟩))).trans HBOX.out)
       have HJ3 := Lib.hid (And.intro hk3' hJ3)
       clear hk3 hk3' hJ3 hy
       gi_wp2
       refine bodyPost_ret (results_none rfl _ _ _) rfl ?_
       exact ⟨⟨_, rfl⟩, HJ3.out.1, .inl (by rw [HSP.out]; exact HJ3.out.2)⟩
     · have hk3' : Keep Pv W W3 := (HKP.out.trans (Keep.drewN _ _ _)).trans hk3
       have HJ3 := Lib.hid (And.intro hk3' hJx3)
       clear hk3 hk3' hJx3 hy y1 y2 y3 y4
       gi_wp2
       refine bodyPost_ret (results_none rfl _ _ _) rfl ?_
       exact ⟨⟨_, rfl⟩, HJ3.out.1, .inr ⟨_, by rw [HSP.out]; exact List.prefix_refl _, HJ3.out.2⟩⟩
   | inner b' t' kv qb qo cap p u xs' hs h0 q1 q2 hp hr =>
     obtain ⟨ks, cs⟩ := t'
     have hks : IntsR wr lo hi kv ks := hs.keys.same HBL.out
     have hki : IntsIn wr hi kv ks := hks.in
     have hbox := (HBL.out b' hs.low hs.high).trans hs.box
     have hbx0 := hs.box
     have hpw := Tr.Well.keys hs.well
     have hlt0 := hs.light
     have hkl : ks.length ≤ 1048576 := by simp only [Tr.weight] at hlt0; omega
     have hbW : b' < wr.heap.size := (Array.getElem?_eq_some_iff.1 hbox).1
     obtain ⟨ka, kcap, rfl, _⟩ := hks
     simp only [Tr.cs, Tr.ks] at hbox h0 hp
     obtain ⟨y1, y2, y3, y4⟩ := box2 hbox
     have hbq : qb < wr.heap.size := World.block_lt_of_cell? wr _ ((cell_of_blk (HBL.out qb q1 q2)).trans hp)
     have hz : wr.cell? ⟨qb, qo + place c ks, none⟩ = some (.pointer (some ⟨p, 0, none⟩)) := (cell_of_blk (HBL.out qb q1 q2)).trans hp
     have HZ := Lib.hid hz
     have HR' := Lib.hid hr
     have HP := Lib.hid hp
     have hleaf : ((cs.length : Int) == 0) = false := by rw [beq_eq_false_iff_ne]; omega
     have HKI := Lib.hid hki
     have HPW := Lib.hid hpw
     have HKL := Lib.hid hkl
     have HBOX := Lib.hid hbox
     have HH0 := Lib.hid h0
     have hlow := hs.low
     have hhigh := hs.high
     clear hki hpw hbox hbx0 hs h0 hlt0 hz hr hp
     gi_wp2
     gi_quiet ((gi_at_call 102; exact CallsIn.quiet_of_same ((callsIn_wide (n := _)).2 (place_upTo_d _ hi HKI.out HPW.out HKL.out n c hc q x3 _))))
     obtain ⟨fn, tmps, assign, body, hy, hR⟩ := HY.out pre (b', .mk ks cs) Pv (wr.drewN nq) (HJ.out.1 _ _ _ _ _ HJS.out (Keep.drewN _ _ _) (fun k h => .inl h)) (HKP.out.trans (Keep.drewN _ _ _)) (fun _ h => h) (fun k h => Nat.lt_of_lt_of_le (HBND.out k h) HKP.out.size) (by rw [HSP.out]; exact ⟨xs', by simp⟩)
     dsimp only [wayEnc, Tr.ks] at hy
     have HR := Lib.hid hR
     clear hR
     gi_wp2
     refine (HR.out _).mono ?_
     rintro e W3 ⟨hk3, (⟨rfl, hJ3⟩ | ⟨rfl, hJx3⟩)⟩
     · have hk3' : Keep Pv W W3 := (HKP.out.trans (Keep.drewN _ _ _)).trans hk3
       clear y1 y2 y3 y4
       obtain ⟨y1, y2, y3, y4⟩ := box2 ((hk3.block b' hbW (HRD.out b' (.inl ⟨hlow, hhigh⟩))).trans HBOX.out)
       have hq3 : W3.heap[qb]? = wr.heap[qb]? := hk3.block qb hbq (HRD.out qb (.inl ⟨q1, q2⟩))
       have HJ3 := Lib.hid (And.intro hk3' hJ3)
       clear hk3 hk3' hJ3 hy
       have z1 : W3.cell? ⟨qb, qo + place c ks, none⟩ = some (.pointer (some ⟨p, 0, none⟩)) := (cell_of_blk (hq3 )).trans HZ.out
       have hpl' : (place c ks : Int) < (cs.length : Int) := by have := HH0.out; have := place_le c ks; omega
       clear hq3
       gi_wp2
       gi_roundg xs'.length
       case measure => have := HLEN.out; simp at this; omega
       case rel => exact ⟨pre ++ [(b', .mk ks cs)], p, u, xs', by rw [HSP.out]; simp, HR'.out, rfl, Nat.le_refl _, HJ3.out.2, HJ3.out.1⟩
     · have hk3' : Keep Pv W W3 := (HKP.out.trans (Keep.drewN _ _ _)).trans hk3
       have HJ3 := Lib.hid (And.intro hk3' hJx3)
       clear hk3 hk3' hJx3 hy y1 y2 y3 y4
       gi_wp2
       refine bodyPost_ret (results_none rfl _ _ _) rfl ?_
       exact ⟨⟨_, rfl⟩, HJ3.out.1, .inr ⟨_, by rw [HSP.out]; exact ⟨xs', by simp⟩, HJ3.out.2⟩⟩
end Go.Proofs.YticfkfjijnfcbaaDoor
