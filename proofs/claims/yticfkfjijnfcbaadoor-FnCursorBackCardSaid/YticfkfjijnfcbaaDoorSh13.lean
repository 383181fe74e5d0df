/- A walker goes down to a leaf: sink. -/
import Derived.Test.YticfkfjijnfcbaaDoorProg
import Derived.Test.YticfkfjijnfcbaaDoorSh0
import Derived.Test.YticfkfjijnfcbaaDoorSh3
import Derived.Test.YticfkfjijnfcbaaDoorIter
import Derived.Test.YticfkfjijnfcbaaDoorSh7
import Derived.Test.YticfkfjijnfcbaaDoorSh12
import Derived.RangeFuncNested
import Derived.Shelf.RegionOpen
import Derived.WalkKit
import Derived.OwnWalkIn
import Derived.TacticsInMore
import Derived.LoopNIn
import Derived.LoopIn
import Derived.Sort.QuietIn
import Derived.Sort.LoopGhostIn
import Derived.Test.YticfkfjijnfcbaaDoorSh9
import Derived.Test.YticfkfjijnfcbaaDoorSh10
import Derived.Test.YticfkfjijnfcbaaDoorCurWalk
import Derived.Sort.CutIn

/- Finding: wayDown, and the iterator that it returns. -/
namespace Go.Proofs.YticfkfjijnfcbaaDoor
open Go.RowKit
attribute [local go_sem] Oper.semAt_some

theorem wide_fn (f : Nat) : Fence.wide.fn f = True := rfl
attribute [local go_sem] wide_fn

theorem wayDown_c (b q gf : Nat) (w : World) :
    Calls Tryd.prog 89 #[.pointer (some ⟨b, 0, none⟩), .func (.func gf) #[] #[.pointer (some ⟨q, 0, none⟩)]] w fun e w' => e = .returned (.func (.func 118) #[] #[.pointer (some ⟨w.heap.size, 0, none⟩), .pointer (some ⟨w.heap.size + 1, 0, none⟩)]) ∧
      w' = (w.alloc (.cells #[.pointer (some ⟨b, 0, none⟩)] 99)).alloc (.cells #[.func (.func gf) #[] #[.pointer (some ⟨q, 0, none⟩)]] 86) := by
  go_enter Tryd.func89, Tryd.ntmps89
  go_wp2_with fail
  go_ret
  exact ⟨rfl, rfl⟩

set_option maxRecDepth 100000 in
set_option maxHeartbeats 4000000 in
theorem way_less_iter {w₀ : World} {lo hi b : Nat} {t : Tr} {xs : List (Nat × Tr)} (n c : Int) (hc : Hid (c = n)) (hxs : WayIn w₀ lo hi c b t xs) (hhi : hi ≤ w₀.heap.size) (bn bf q : Nat)
    (hbn : w₀.heap[bn]? = some (.cells #[.pointer (some ⟨b, 0, none⟩)] 99 (0, 0)))
    (hbf : w₀.heap[bf]? = some (.cells #[.func (.func 109) #[] #[.pointer (some ⟨q, 0, none⟩)]] 86 (0, 0)))
    (hq : w₀.heap[q]? = some (.cells #[.int .i64 n] 3 (0, 0))) :
    Iter Tryd.prog 118 #[] #[.pointer (some ⟨bn, 0, none⟩), .pointer (some ⟨bf, 0, none⟩)] (wayEnc c) (fun k => (lo ≤ k ∧ k < hi) ∨ k = bn ∨ k = bf ∨ k = q) xs w₀ := by
  intro l J Jx Pv W hkeep hRd hbnd hJ hJx hY h0
  have l1 := (Array.getElem?_eq_some_iff.1 hbn).1
  have l2 := (Array.getElem?_eq_some_iff.1 hbf).1
  have l3 := (Array.getElem?_eq_some_iff.1 hq).1
  have hbn' := (hkeep.block bn l1 (.inr (.inl rfl))).trans hbn
  obtain ⟨x1, x2⟩ := box1 hbn'
  have HQ := Lib.hid (And.intro hbf hq)
  have HY := Lib.hid hY
  have HXS := Lib.hid hxs
  have HJ := Lib.hid (And.intro hJ hJx)
  have HK := Lib.hid hkeep
  have HRD := Lib.hid hRd
  have HBND := Lib.hid hbnd
  clear hbn hbf hq hbn' hY hxs hkeep hRd hbnd hJ hJx
  show Calls Tryd.prog 118 #[.func (.yield l) #[] #[], .pointer (some ⟨bn, 0, none⟩), .pointer (some ⟨bf, 0, none⟩)] W _
  refine callsIn_wide (n := 9).1 (callsIn_of_wp Tryd.func118 rfl trivial ?_ rfl)
  simp only [Tryd.ntmps118, List.size_toArray, List.length_cons, List.length_nil, Nat.reduceAdd, Nat.reduceSub, Array.replicate_succ, Array.replicate_zero, List.push_toArray, List.append_toArray, List.nil_append, List.cons_append]
  gi_wp2
  gi_loopg [4] xs.length (fun k s4 wr => ∃ (pre : List (Nat × Tr)) (b' : Nat) (t' : Tr) (rest : List (Nat × Tr)), xs = pre ++ rest ∧ WayIn w₀ lo hi c b' t' rest ∧ s4 = .pointer (some ⟨b', 0, none⟩) ∧ rest.length ≤ k ∧ J pre Pv wr ∧ Keep Pv W wr)
  case atStart => exact ⟨[], b, t, xs, rfl, HXS.out, rfl, Nat.le_refl _, h0, Keep.refl _ _⟩
  case round =>
    obtain ⟨pre, b', t', rest, hsplit, hwi, rfl, hlen, hJs, hkp⟩ := hrel
    clear x1 x2 h0
    have hk0 : Keep (fun k => (lo ≤ k ∧ k < hi) ∨ k = bn ∨ k = bf ∨ k = q) w₀ wr := HK.out.trans (hkp.mono (fun k _ h => HRD.out k h))
    obtain ⟨x1, x2⟩ := box1 ((hk0.block bf l2 (.inr (.inr (.inl rfl)))).trans HQ.out.1)
    obtain ⟨x3, x4⟩ := box1 ((hk0.block q l3 (.inr (.inr (.inr rfl)))).trans HQ.out.2)
    have hbl : ∀ k, lo ≤ k → k < hi → wr.heap[k]? = w₀.heap[k]? := fun k h1 h2 => hk0.block k (by omega) (.inl ⟨h1, h2⟩)
    have HBL := Lib.hid hbl
    have HSP := Lib.hid hsplit
    have HLEN := Lib.hid hlen
    have HJS := Lib.hid hJs
    have HKP := Lib.hid hkp
    clear hbl hsplit hlen hk0 hJs hkp
    cases hwi with
    | leaf b' t' kv a cap hs h0 =>
      obtain ⟨ks, cs⟩ := t'
      have hks : IntsR wr lo hi kv ks := hs.keys.same HBL.out
      have hki : IntsIn wr hi kv ks := hks.in
      have hbox := (HBL.out b' hs.low hs.high).trans hs.box
      have hbx0 := hs.box
      have hpw := Tr.Well.keys hs.well
      have hlt0 := hs.light
      have hkl : ks.length ≤ 1048576 := by simp only [Tr.weight] at hlt0; omega
      have hbW : b' < wr.heap.size := (Array.getElem?_eq_some_iff.1 hbox).1
      obtain ⟨ka, kcap, rfl, _⟩ := hks
      simp only [Tr.cs] at hbox h0
      obtain ⟨y1, y2, y3, y4⟩ := box2 hbox
      have hleaf : ((cs.length : Int) == 0) = true := by simp [h0]
      have HKI := Lib.hid hki
      have HPW := Lib.hid hpw
      have HKL := Lib.hid hkl
      have HBOX := Lib.hid hbox
      have HH0 := Lib.hid h0
      have hlow := hs.low
      have hhigh := hs.high
      clear hki hpw hbox hbx0 hs h0 hlt0
      gi_wp2
      gi_quiet ((gi_at_call 102; exact CallsIn.quiet_of_same ((callsIn_wide (n := _)).2 (place_less_d _ hi HKI.out HPW.out HKL.out n c hc q x3 _))))
      obtain ⟨fn, tmps, assign, body, hy, hR⟩ := HY.out pre (b', .mk ks cs) Pv (wr.drewN nq) (HJ.out.1 _ _ _ _ _ HJS.out (Keep.drewN _ _ _) (fun k h => .inl h)) (HKP.out.trans (Keep.drewN _ _ _)) (fun _ h => h) (fun k h => Nat.lt_of_lt_of_le (HBND.out k h) HKP.out.size) (by rw [HSP.out]; exact List.prefix_refl _)
      dsimp only [wayEnc, Tr.ks] at hy
      have HR := Lib.hid hR
      clear hR
      gi_wp2
      refine (HR.out _).mono ?_
      rintro e W3 ⟨hk3, (⟨rfl, hJ3⟩ | ⟨rfl, hJx3⟩)⟩
      · have hk3' : Keep Pv W W3 := (HKP.out.trans (Keep.drewN _ _ _)).trans hk3
        clear y1 y2 y3 y4
        obtain ⟨y1, y2, y3, y4⟩ := box2 ((hk3.block b' hbW (HRD.out b' (.inl ⟨hlow, hhigh⟩))).trans HBOX.out)
        have HJ3 := Lib.hid (And.intro hk3' hJ3)
        clear hk3 hk3' hJ3 hy
        gi_wp2
        refine bodyPost_ret (results_none rfl _ _ _) rfl ?_
        exact ⟨⟨_, rfl⟩, HJ3.out.1, .inl (by rw [HSP.out]; exact HJ3.out.2)⟩
      · have hk3' : Keep Pv W W3 := (HKP.out.trans (Keep.drewN _ _ _)).trans hk3
        have HJ3 := Lib.hid (And.intro hk3' hJx3)
        clear hk3 hk3' hJx3 hy y1 y2 y3 y4
        gi_wp2
        refine bodyPost_ret (results_none rfl _ _ _) rfl ?_
        exact ⟨⟨_, rfl⟩, HJ3.out.1, .inr ⟨_, by rw [HSP.out]; exact List.prefix_refl _, HJ3.out.2⟩⟩
    | inner b' t' kv qb qo cap p u xs' hs h0 q1 q2 hp hr =>
      obtain ⟨ks, cs⟩ := t'
      have hks : IntsR wr lo hi kv ks := hs.keys.same HBL.out
      have hki : IntsIn wr hi kv ks := hks.in
      have hbox := (HBL.out b' hs.low hs.high).trans hs.box
      have hbx0 := hs.box
      have hpw := Tr.Well.keys hs.well
      have hlt0 := hs.light
      have hkl : ks.length ≤ 1048576 := by simp only [Tr.weight] at hlt0; omega
      have hbW : b' < wr.heap.size := (Array.getElem?_eq_some_iff.1 hbox).1
      obtain ⟨ka, kcap, rfl, _⟩ := hks
      simp only [Tr.cs, Tr.ks] at hbox h0 hp
      obtain ⟨y1, y2, y3, y4⟩ := box2 hbox
      have hbq : qb < wr.heap.size := World.block_lt_of_cell? wr _ ((cell_of_blk (HBL.out qb q1 q2)).trans hp)
      have hz : wr.cell? ⟨qb, qo + place c ks, none⟩ = some (.pointer (some ⟨p, 0, none⟩)) := (cell_of_blk (HBL.out qb q1 q2)).trans hp
      have HZ := Lib.hid hz
      have HR' := Lib.hid hr
      have HP := Lib.hid hp
      have hleaf : ((cs.length : Int) == 0) = false := by rw [beq_eq_false_iff_ne]; omega
      have HKI := Lib.hid hki
      have HPW := Lib.hid hpw
      have HKL := Lib.hid hkl
      have HBOX := Lib.hid hbox
      have HH0 := Lib.hid h0
      have hlow := hs.low
      have hhigh := hs.high
      clear hki hpw hbox hbx0 hs h0 hlt0 hz hr hp
      gi_wp2
      gi_quiet ((gi_at_call 102; exact CallsIn.quiet_of_same ((callsIn_wide (n := _)).2 (place_less_d _ hi HKI.out HPW.out HKL.out n c hc q x3 _))))
      obtain ⟨fn, tmps, assign, body, hy, hR⟩ := HY.out pre (b', .mk ks cs) Pv (wr.drewN nq) (HJ.out.1 _ _ _ _ _ HJS.out (Keep.drewN _ _ _) (fun k h => .inl h)) (HKP.out.trans (Keep.drewN _ _ _)) (fun _ h => h) (fun k h => Nat.lt_of_lt_of_le (HBND.out k h) HKP.out.size) (by rw [HSP.out]; exact ⟨xs', by simp⟩)
      dsimp only [wayEnc, Tr.ks] at hy
      have HR := Lib.hid hR
      clear hR
      gi_wp2
      refine (HR.out _).mono ?_
      rintro e W3 ⟨hk3, (⟨rfl, hJ3⟩ | ⟨rfl, hJx3⟩)⟩
      · have hk3' : Keep Pv W W3 := (HKP.out.trans (Keep.drewN _ _ _)).trans hk3
        clear y1 y2 y3 y4
        obtain ⟨y1, y2, y3, y4⟩ := box2 ((hk3.block b' hbW (HRD.out b' (.inl ⟨hlow, hhigh⟩))).trans HBOX.out)
        have hq3 : W3.heap[qb]? = wr.heap[qb]? := hk3.block qb hbq (HRD.out qb (.inl ⟨q1, q2⟩))
        have HJ3 := Lib.hid (And.intro hk3' hJ3)
        clear hk3 hk3' hJ3 hy
        have z1 : W3.cell? ⟨qb, qo + place c ks, none⟩ = some (.pointer (some ⟨p, 0, none⟩)) := (cell_of_blk (hq3 )).trans HZ.out
        have hpl' : (place c ks : Int) < (cs.length : Int) := by have := HH0.out; have := place_le c ks; omega
        clear hq3
        gi_wp2
        gi_roundg xs'.length
        case measure => have := HLEN.out; simp at this; omega
        case rel => exact ⟨pre ++ [(b', .mk ks cs)], p, u, xs', by rw [HSP.out]; simp, HR'.out, rfl, Nat.le_refl _, HJ3.out.2, HJ3.out.1⟩
      · have hk3' : Keep Pv W W3 := (HKP.out.trans (Keep.drewN _ _ _)).trans hk3
        have HJ3 := Lib.hid (And.intro hk3' hJx3)
        clear hk3 hk3' hJx3 hy y1 y2 y3 y4
        gi_wp2
        refine bodyPost_ret (results_none rfl _ _ _) rfl ?_
        exact ⟨⟨_, rfl⟩, HJ3.out.1, .inr ⟨_, by rw [HSP.out]; exact ⟨xs', by simp⟩, HJ3.out.2⟩⟩

set_option maxRecDepth 100000 in
set_option maxHeartbeats 4000000 in
theorem way_upTo_iter {w₀ : World} {lo hi b : Nat} {t : Tr} {xs : List (Nat × Tr)} (n c : Int) (hc : Hid (c = n + 1)) (hxs : WayIn w₀ lo hi c b t xs) (hhi : hi ≤ w₀.heap.size) (bn bf q : Nat)
    (hbn : w₀.heap[bn]? = some (.cells #[.pointer (some ⟨b, 0, none⟩)] 99 (0, 0)))
    (hbf : w₀.heap[bf]? = some (.cells #[.func (.func 121) #[] #[.pointer (some ⟨q, 0, none⟩)]] 86 (0, 0)))
    (hq : w₀.heap[q]? = some (.cells #[.int .i64 n] 3 (0, 0))) :
    Iter Tryd.prog 118 #[] #[.pointer (some ⟨bn, 0, none⟩), .pointer (some ⟨bf, 0, none⟩)] (wayEnc c) (fun k => (lo ≤ k ∧ k < hi) ∨ k = bn ∨ k = bf ∨ k = q) xs w₀ := by
  intro l J Jx Pv W hkeep hRd hbnd hJ hJx hY h0
  have l1 := (Array.getElem?_eq_some_iff.1 hbn).1
  have l2 := (Array.getElem?_eq_some_iff.1 hbf).1
  have l3 := (Array.getElem?_eq_some_iff.1 hq).1
  have hbn' := (hkeep.block bn l1 (.inr (.inl rfl))).trans hbn
  obtain ⟨x1, x2⟩ := box1 hbn'
  have HQ := Lib.hid (And.intro hbf hq)
  have HY := Lib.hid hY
  have HXS := Lib.hid hxs
  have HJ := Lib.hid (And.intro hJ hJx)
  have HK := Lib.hid hkeep
  have HRD := Lib.hid hRd
  have HBND := Lib.hid hbnd
  clear hbn hbf hq hbn' hY hxs hkeep hRd hbnd hJ hJx
  show Calls Tryd.prog 118 #[.func (.yield l) #[] #[], .pointer (some ⟨bn, 0, none⟩), .pointer (some ⟨bf, 0, none⟩)] W _
  refine callsIn_wide (n := 9).1 (callsIn_of_wp Tryd.func118 rfl trivial ?_ rfl)
  simp only [Tryd.ntmps118, List.size_toArray, List.length_cons, List.length_nil, Nat.reduceAdd, Nat.reduceSub, Array.replicate_succ, Array.replicate_zero, List.push_toArray, List.append_toArray, List.nil_append, List.cons_append]
  gi_wp2
  gi_loopg [4] xs.length (fun k s4 wr => ∃ (pre : List (Nat × Tr)) (b' : Nat) (t' : Tr) (rest : List (Nat × Tr)), xs = pre ++ rest ∧ WayIn w₀ lo hi c b' t' rest ∧ s4 = .pointer (some ⟨b', 0, none⟩) ∧ rest.length ≤ k ∧ J pre Pv wr ∧ Keep Pv W wr)
  case atStart => exact ⟨[], b, t, xs, rfl, HXS.out, rfl, Nat.le_refl _, h0, Keep.refl _ _⟩
  case round =>
    obtain ⟨pre, b', t', rest, hsplit, hwi, rfl, hlen, hJs, hkp⟩ := hrel
    clear x1 x2 h0
    have hk0 : Keep (fun k => (lo ≤ k ∧ k < hi) ∨ k = bn ∨ k = bf ∨ k = q) w₀ wr := HK.out.trans (hkp.mono (fun k _ h => HRD.out k h))
    obtain ⟨x1, x2⟩ := box1 ((hk0.block bf l2 (.inr (.inr (.inl rfl)))).trans HQ.out.1)
    obtain ⟨x3, x4⟩ := box1 ((hk0.block q l3 (.inr (.inr (.inr rfl)))).trans HQ.out.2)
    have hbl : ∀ k, lo ≤ k → k < hi → wr.heap[k]? = w₀.heap[k]? := fun k h1 h2 => hk0.block k (by omega) (.inl ⟨h1, h2⟩)
    have HBL := Lib.hid hbl
    have HSP := Lib.hid hsplit
    have HLEN := Lib.hid hlen
    have HJS := Lib.hid hJs
    have HKP := Lib.hid hkp
    clear hbl hsplit hlen hk0 hJs hkp
    cases hwi with
    | leaf b' t' kv a cap hs h0 =>
      obtain ⟨ks, cs⟩ := t'
      have hks : IntsR wr lo hi kv ks := hs.keys.same HBL.out
      have hki : IntsIn wr hi kv ks := hks.in
      have hbox := (HBL.out b' hs.low hs.high).trans hs.box
      have hbx0 := hs.box
      have hpw := Tr.Well.keys hs.well
      have hlt0 := hs.light
      have hkl : ks.length ≤ 1048576 := by simp only [Tr.weight] at hlt0; omega
      have hbW : b' < wr.heap.size := (Array.getElem?_eq_some_iff.1 hbox).1
      obtain ⟨ka, kcap, rfl, _⟩ := hks
      simp only [Tr.cs] at hbox h0
      obtain ⟨y1, y2, y3, y4⟩ := box2 hbox
      have hleaf : ((cs.length : Int) == 0) = true := by simp [h0]
      have HKI := Lib.hid hki
      have HPW := Lib.hid hpw
      have HKL := Lib.hid hkl
      have HBOX := Lib.hid hbox
      have HH0 := Lib.hid h0
      have hlow := hs.low
      have hhigh := hs.high
      clear hki hpw hbox hbx0 hs h0 hlt0
      gi_wp2
      gi_quiet ((gi_at_call 102; exact CallsIn.quiet_of_same ((callsIn_wide (n := _)).2 (place_upTo_d _ hi HKI.out HPW.out HKL.out n c hc q x3 _))))
      obtain ⟨fn, tmps, assign, body, hy, hR⟩ := HY.out pre (b', .mk ks cs) Pv (wr.drewN nq) (HJ.out.1 _ _ _ _ _ HJS.out (Keep.drewN _ _ _) (fun k h => .inl h)) (HKP.out.trans (Keep.drewN _ _ _)) (fun _ h => h) (fun k h => Nat.lt_of_lt_of_le (HBND.out k h) HKP.out.size) (by rw [HSP.out]; exact List.prefix_refl _)
      dsimp only [wayEnc, Tr.ks] at hy
      have HR := Lib.hid hR
      clear hR
      gi_wp2
      refine (HR.out _).mono ?_
      rintro e W3 ⟨hk3, (⟨rfl, hJ3⟩ | ⟨rfl, hJx3⟩)⟩
      · have hk3' : Keep Pv W W3 := (HKP.out.trans (Keep.drewN _ _ _)).trans hk3
        clear y1 y2 y3 y4
        obtain ⟨y1, y2, y3, y4⟩ := box2 ((hk3.block b' hbW (HRD.out b' (.inl ⟨hlow, hhigh⟩))).trans HBOX.out)
        have HJ3 := Lib.hid (And.intro hk3' hJ3)
        clear hk3 hk3' hJ3 hy
        gi_wp2
        refine bodyPost_ret (results_none rfl _ _ _) rfl ?_
        exact ⟨⟨_, rfl⟩, HJ3.out.1, .inl (by rw [HSP.out]; exact HJ3.out.2)⟩
      · have hk3' : Keep Pv W W3 := (HKP.out.trans (Keep.drewN _ _ _)).trans hk3
        have HJ3 := Lib.hid (And.intro hk3' hJx3)
        clear hk3 hk3' hJx3 hy y1 y2 y3 y4
        gi_wp2
        refine bodyPost_ret (results_none rfl _ _ _) rfl ?_
        exact ⟨⟨_, rfl⟩, HJ3.out.1, .inr ⟨_, by rw [HSP.out]; exact List.prefix_refl _, HJ3.out.2⟩⟩
    | inner b' t' kv qb qo cap p u xs' hs h0 q1 q2 hp hr =>
      obtain ⟨ks, cs⟩ := t'
      have hks : IntsR wr lo hi kv ks := hs.keys.same HBL.out
      have hki : IntsIn wr hi kv ks := hks.in
      have hbox := (HBL.out b' hs.low hs.high).trans hs.box
      have hbx0 := hs.box
      have hpw := Tr.Well.keys hs.well
      have hlt0 := hs.light
      have hkl : ks.length ≤ 1048576 := by simp only [Tr.weight] at hlt0; omega
      have hbW : b' < wr.heap.size := (Array.getElem?_eq_some_iff.1 hbox).1
      obtain ⟨ka, kcap, rfl, _⟩ := hks
      simp only [Tr.cs, Tr.ks] at hbox h0 hp
      obtain ⟨y1, y2, y3, y4⟩ := box2 hbox
      have hbq : qb < wr.heap.size := World.block_lt_of_cell? wr _ ((cell_of_blk (HBL.out qb q1 q2)).trans hp)
      have hz : wr.cell? ⟨qb, qo + place c ks, none⟩ = some (.pointer (some ⟨p, 0, none⟩)) := (cell_of_blk (HBL.out qb q1 q2)).trans hp
      have HZ := Lib.hid hz
      have HR' := Lib.hid hr
      have HP := Lib.hid hp
      have hleaf : ((cs.length : Int) == 0) = false := by rw [beq_eq_false_iff_ne]; omega
      have HKI := Lib.hid hki
      have HPW := Lib.hid hpw
      have HKL := Lib.hid hkl
      have HBOX := Lib.hid hbox
      have HH0 := Lib.hid h0
      have hlow := hs.low
      have hhigh := hs.high
      clear hki hpw hbox hbx0 hs h0 hlt0 hz hr hp
      gi_wp2
      gi_quiet ((gi_at_call 102; exact CallsIn.quiet_of_same ((callsIn_wide (n := _)).2 (place_upTo_d _ hi HKI.out HPW.out HKL.out n c hc q x3 _))))
      obtain ⟨fn, tmps, assign, body, hy, hR⟩ := HY.out pre (b', .mk ks cs) Pv (wr.drewN nq) (HJ.out.1 _ _ _ _ _ HJS.out (Keep.drewN _ _ _) (fun k h => .inl h)) (HKP.out.trans (Keep.drewN _ _ _)) (fun _ h => h) (fun k h => Nat.lt_of_lt_of_le (HBND.out k h) HKP.out.size) (by rw [HSP.out]; exact ⟨xs', by simp⟩)
      dsimp only [wayEnc, Tr.ks] at hy
      have HR := Lib.hid hR
      clear hR
      gi_wp2
      refine (HR.out _).mono ?_
      rintro e W3 ⟨hk3, (⟨rfl, hJ3⟩ | ⟨rfl, hJx3⟩)⟩
      · have hk3' : Keep Pv W W3 := (HKP.out.trans (Keep.drewN _ _ _)).trans hk3
        clear y1 y2 y3 y4
        obtain ⟨y1, y2, y3, y4⟩ := box2 ((hk3.block b' hbW (HRD.out b' (.inl ⟨hlow, hhigh⟩))).trans HBOX.out)
        have hq3 : W3.heap[qb]? = wr.heap[qb]? := hk3.block qb hbq (HRD.out qb (.inl ⟨q1, q2⟩))
        have HJ3 := Lib.hid (And.intro hk3' hJ3)
        clear hk3 hk3' hJ3 hy
        have z1 : W3.cell? ⟨qb, qo + place c ks, none⟩ = some (.pointer (some ⟨p, 0, none⟩)) := (cell_of_blk (hq3 )).trans HZ.out
        have hpl' : (place c ks : Int) < (cs.length : Int) := by have := HH0.out; have := place_le c ks; omega
        clear hq3
        gi_wp2
        gi_roundg xs'.length
        case measure => have := HLEN.out; simp at this; omega
        case rel => exact ⟨pre ++ [(b', .mk ks cs)], p, u, xs', by rw [HSP.out]; simp, HR'.out, rfl, Nat.le_refl _, HJ3.out.2, HJ3.out.1⟩
      · have hk3' : Keep Pv W W3 := (HKP.out.trans (Keep.drewN _ _ _)).trans hk3
        have HJ3 := Lib.hid (And.intro hk3' hJx3)
        clear hk3 hk3' hJx3 hy y1 y2 y3 y4
        gi_wp2
        refine bodyPost_ret (results_none rfl _ _ _) rfl ?_
        exact ⟨⟨_, rfl⟩, HJ3.out.1, .inr ⟨_, by rw [HSP.out]; exact ⟨xs', by simp⟩, HJ3.out.2⟩⟩

end Go.Proofs.YticfkfjijnfcbaaDoor

/- A walker goes down to a leaf: sink. -/
namespace Go.Proofs.YticfkfjijnfcbaaDoor
open Go.RowKit
attribute [local go_sem] Oper.semAt_some
attribute [local go_sem] wide_fn

/-- A function that tells which keys are ahead of a place. -/
def Ahead (gf : Nat) (n c : Int) : Prop := (gf = 109 ∧ c = n) ∨ (gf = 121 ∧ c = n + 1)

theorem way_iter {gf : Nat} {w₀ : World} {lo hi b : Nat} {t : Tr} {xs : List (Nat × Tr)} (n c : Int) (hg : Ahead gf n c) (hxs : WayIn w₀ lo hi c b t xs) (hhi : hi ≤ w₀.heap.size) (bn bf q : Nat)
    (hbn : w₀.heap[bn]? = some (.cells #[.pointer (some ⟨b, 0, none⟩)] 99 (0, 0)))
    (hbf : w₀.heap[bf]? = some (.cells #[.func (.func gf) #[] #[.pointer (some ⟨q, 0, none⟩)]] 86 (0, 0)))
    (hq : w₀.heap[q]? = some (.cells #[.int .i64 n] 3 (0, 0))) :
    Iter Tryd.prog 118 #[] #[.pointer (some ⟨bn, 0, none⟩), .pointer (some ⟨bf, 0, none⟩)] (wayEnc c) (fun k => (lo ≤ k ∧ k < hi) ∨ k = bn ∨ k = bf ∨ k = q) xs w₀ := by
  rcases hg with ⟨rfl, rfl⟩ | ⟨rfl, rfl⟩
  · exact way_less_iter _ _ (Lib.hid rfl) hxs hhi bn bf q hbn hbf hq
  · exact way_upTo_iter n (n + 1) (Lib.hid rfl) hxs hhi bn bf q hbn hbf hq

set_option maxRecDepth 100000 in
set_option maxHeartbeats 4000000 in
theorem sink_c {w : World} {b p lo hi gf q : Nat} {f : Nat → Value × Int} {t u : Tr} {ks : List Int} {a n c : Int}
    (hW : Walker w b f (ks.length + 1)) (hJ : Joints w lo hi t ks f ks.length) (hfp : f ks.length = (.pointer (some ⟨p, 0, none⟩), a)) (hnd : NodeAt w lo hi p u) (hn : Tr.nodeTo ks t = some u)
    (hwell : Tr.Well u) (hwt : u.weight ≤ 1048576) (hsix : (ks ++ Tr.sink c u).length ≤ 6) (hblo : b < lo) (hhi : hi ≤ w.heap.size) (hg : Ahead gf n c)
    (hq : w.heap[q]? = some (.cells #[.int .i64 n] 3 (0, 0))) (hqb : q ≠ b) :
    Calls Tryd.prog 107 #[.pointer (some ⟨b, 0, none⟩), .func (.func gf) #[] #[.pointer (some ⟨q, 0, none⟩)]] w fun e w' => e = .returned (.tuple #[]) ∧
      (∃ f', Walker w' b f' (ks ++ Tr.sink c u).length ∧ Joints w' lo hi t (ks ++ Tr.sink c u) f' (ks ++ Tr.sink c u).length) ∧ Only w.heap.size b w w' := by
  obtain ⟨C, hx, hC, h12, hat⟩ := hW.blk
  have hlt : b < w.heap.size := (Array.getElem?_eq_some_iff.1 hx).1
  have hqlt : q < w.heap.size := (Array.getElem?_eq_some_iff.1 hq).1
  have hfew : ks.length < 6 := by
    have : 1 ≤ (Tr.sink c u).length := by obtain ⟨k, cs⟩ := u; unfold Tr.sink; rw [Tr.way]; simp
    rw [List.length_append] at hsix; omega
  obtain ⟨D, hD⟩ : ∃ D, D = ks.length := ⟨_, rfl⟩
  rw [← hD] at hfew hfp h12 hat hJ
  have hd := hat D (by omega)
  rw [hfp] at hd
  -- the box, and the depth that is one less
  obtain ⟨W1, hW1⟩ : ∃ W1, W1 = w.alloc (.cells #[.pointer (some ⟨b, 0, none⟩)] 77) := ⟨_, rfl⟩
  have hs1 : W1.heap.size = w.heap.size + 1 := by rw [hW1]; simp
  have k0 : W1.heap[w.heap.size]? = some (.cells #[.pointer (some ⟨b, 0, none⟩)] 77 (0, 0)) := by rw [hW1, new_blk]
  have hold : ∀ k, k < w.heap.size → W1.heap[k]? = w.heap[k]? := fun k hk => by rw [hW1, old_blk _ _ _ hk]
  have hx1 := (hold b hlt).trans hx
  obtain ⟨x1, x2⟩ := box1 k0
  have y1 : W1.cell? ⟨b, 12, none⟩ = some (.int .i64 ((D : Int) + 1)) := by simp [World.cell?, hx1, h12]
  have y2 : W1.frozen? ⟨b, 12, none⟩ = false := by simp [World.frozen?, hx1]
  have hwr : IntKind.i64.wrap ((D : Int) + 1 - 1) = (D : Int) := by rw [IntKind.wrap_i64]; omega
  have hsub : (D : Int) + 1 - 1 = (D : Int) := by omega
  obtain ⟨W2, hW2⟩ : ∃ W2, W2 = W1.setCell ⟨b, 12, none⟩ (.int .i64 (D : Int)) := ⟨_, rfl⟩
  have hs2 : W2.heap.size = w.heap.size + 1 := by rw [hW2]; simp [hs1]
  have hx2 : W2.heap[b]? = some (.cells (C.setIfInBounds 12 (.int .i64 (D : Int))) 127 (0, 0)) := by rw [hW2]; exact set_blk (o := 12) _ hx1
  have hoth : ∀ k, k < w.heap.size → k ≠ b → W2.heap[k]? = w.heap[k]? := fun k hk hne => by rw [hW2, set_other _ _ _ _ _ hne]; exact hold k hk
  have k02 : W2.heap[w.heap.size]? = some (.cells #[.pointer (some ⟨b, 0, none⟩)] 77 (0, 0)) := by rw [hW2, set_other _ _ _ _ _ (by omega)]; exact k0
  have hwk2 : Walker W2 b f D := by
    refine ⟨_, hx2, by simp [hC], ?_, fun i hi => ?_⟩
    · rw [Array.getElem?_setIfInBounds_self_of_lt (by omega)]
    · rw [Array.getElem?_setIfInBounds_ne (by omega), Array.getElem?_setIfInBounds_ne (by omega)]; exact hat i (by omega)
  obtain ⟨z1, z2⟩ := box1 k02
  have z3 : W2.cell? ⟨b, 12, none⟩ = some (.int .i64 (D : Int)) := by
    have : (C.setIfInBounds 12 (.int .i64 (D : Int)))[12]? = some (.int .i64 (D : Int)) := by rw [Array.getElem?_setIfInBounds_self_of_lt (by omega)]
    simp only [World.cell?, hx2, this]
    rfl
  have z4 : W2.cell? ⟨b, D * 2, none⟩ = some (.pointer (some ⟨p, 0, none⟩)) := by
    have : (C.setIfInBounds 12 (.int .i64 (D : Int)))[D * 2]? = some (.pointer (some ⟨p, 0, none⟩)) := by
      rw [Array.getElem?_setIfInBounds_ne (by omega), show D * 2 = 2 * D by omega]; exact hd.1
    simp only [World.cell?, hx2, this]
    rfl
  have hos : W2.os = w.os ∧ W2.tape = w.tape ∧ W2.output = w.output := by rw [hW2, hW1]; exact ⟨rfl, rfl, rfl⟩
  have hDi : (D : Int) < 6 := by omega
  have hD0 : (0 : Int) ≤ (D : Int) := by omega
  have HC := Lib.hid (And.intro hx2 (And.intro k02 (And.intro hoth (And.intro hwk2 hos))))
  have HN := Lib.hid (And.intro hnd (And.intro hJ (And.intro hn (And.intro hwell (And.intro hwt (And.intro hsix (And.intro hg (And.intro hq hD))))))))
  have HW1 := Lib.hid hW1
  have HW2 := Lib.hid hW2
  clear hW hJ hfp hnd hn hwell hwt hsix hg hq hx hC h12 hat hd k0 hold hx1 hx2 hoth k02 hwk2 hos hW1 hW2 hD
  refine (callsIn_wide (n := 9)).1 (callsIn_of_wp_marks Tryd.func107 rfl trivial ?_ rfl)
  simp only [Tryd.ntmps107, List.size_toArray, List.length_cons, List.length_nil, Nat.reduceAdd, Nat.reduceSub, Array.replicate_succ, Array.replicate_zero, List.push_toArray, List.append_toArray, List.nil_append, List.cons_append]
  gi_upto_region 1 with (fail)
  rw [← HW1.out]
  gi_upto_region 2 with (fail)
  rw [← HW2.out]
  obtain ⟨bn, hbn⟩ : ∃ bn, bn = w.heap.size + 1 := ⟨_, rfl⟩
  gi_cut [24] from 13 (fun s24 wc => s24 = .func (.func 118) #[] #[.pointer (some ⟨bn, 0, none⟩), .pointer (some ⟨bn + 1, 0, none⟩)] ∧ wc.heap.size = bn + 2 ∧ (∀ k, k < bn → wc.heap[k]? = W2.heap[k]?) ∧
    wc.heap[bn]? = some (.cells #[.pointer (some ⟨p, 0, none⟩)] 99 (0, 0)) ∧ wc.heap[bn + 1]? = some (.cells #[.func (.func gf) #[] #[.pointer (some ⟨q, 0, none⟩)]] 86 (0, 0)) ∧ wc.os = W2.os ∧ wc.tape = W2.tape ∧ wc.output = W2.output)
  case first =>
    refine wpIn_mono (Q := Exit.then _ (fun _ _ _ => False)) ?_ (fun e a' w' h => by cases e <;> first | exact h | exact h.elim)
    gi_region_with (gi_at_call 89; refine CallsIn.mono ((callsIn_wide (n := _)).2 (wayDown_c _ _ _ _)) ?_; rintro e w10 ⟨rfl, rfl⟩)
    all_goals (
      gi_wp2_with fail
      gi_meet
      rw [← hbn]
      have hsz : W2.heap.size = bn := by omega
      have e1 : (W2.alloc (.cells #[.pointer (some ⟨p, 0, none⟩)] 99)).heap.size = bn + 1 := by simp; omega
      refine ⟨rfl, by simp [World.drew]; omega, fun k hk => ?_, ?_, ?_, rfl, rfl, rfl⟩
      · show ((W2.alloc _).alloc _).heap[k]? = _
        rw [old_blk _ _ _ (by omega), old_blk _ _ _ (by omega)]
      · show ((W2.alloc _).alloc _).heap[bn]? = _
        rw [old_blk _ _ _ (by omega), ← hsz, new_blk]
      · show ((W2.alloc _).alloc _).heap[bn + 1]? = _
        rw [← e1, new_blk])
  case rest =>
    obtain ⟨rfl, hcs, hold, hb1, hb2, ho1, ho2, ho3⟩ := hcut
    have hcw : ∀ k, k < w.heap.size → k ≠ b → wc.heap[k]? = w.heap[k]? := fun k hk hne => (hold k (by omega)).trans (HC.out.2.2.1 k hk hne)
    have hq' := (hcw q hqlt hqb).trans HN.out.2.2.2.2.2.2.2.1
    have hndc : NodeAt wc lo hi p u := HN.out.1.same (fun k h1 h2 => hcw k (by omega) (by omega))
    obtain ⟨xs, hxs, hway⟩ := way_at c hndc HN.out.2.2.2.1 HN.out.2.2.2.2.1
    have hit := way_iter n c HN.out.2.2.2.2.2.2.1 hway (by omega) bn (bn + 1) q hb1 hb2 hq'
    have hst := hway.stops
    have hwkc : Walker wc b f D := by
      obtain ⟨C', h1, h2⟩ := HC.out.2.2.2.1.blk
      exact ⟨C', (hold b (by omega)).trans h1, h2⟩
    have hbox := (hold w.heap.size (by omega)).trans HC.out.2.1
    have HIT := Lib.hid hit
    have HST := Lib.hid hst
    have HXS := Lib.hid hxs
    have HWC := Lib.hid (And.intro hwkc (And.intro hbox (And.intro hcw (And.intro hold (And.intro ho1 (And.intro ho2 ho3))))))
    have hlen : (Tr.sink c u).length = xs.length := by unfold Tr.sink; rw [← hxs]; simp
    have HLEN := Lib.hid hlen
    have hsix : D + xs.length ≤ 6 := by have := HN.out.2.2.2.2.2.1; have := HN.out.2.2.2.2.2.2.2.2; rw [List.length_append] at *; omega
    have hbl : w.heap.size < bn := by omega
    have hcl : bn + 1 < wc.heap.size := by omega
    have HBN := Lib.hid (And.intro hbn hcs)
    clear hit hst hxs hway hwkc hbox hq' hndc hold hb1 hb2 ho1 ho2 ho3 hcw hlen hbn hcs
    gi_wp2_with fail
    refine wp_loop (fb := #[]) (lb := #[.pointer (some ⟨bn, 0, none⟩), .pointer (some ⟨bn + 1, 0, none⟩)]) rfl (enters_of Tryd.func118 (by kernel_rfl) rfl) HIT.out (Keep.refl _ _) (fun x => rfl)
      (fun k => k < wc.heap.size ∧ k ≠ b) (fun k h => by omega) (fun k h => h.1)
      (fun pre Pv W => ¬ Pv b ∧ ∃ f', Walker W b f' (D + pre.length) ∧ (∀ i, i < D → f' i = f i) ∧ ∀ i (h : i < pre.length), f' (D + i) = (.pointer (some ⟨pre[i].1, 0, none⟩), (place c pre[i].2.ks : Int)))
      (fun c pre Pv W => False)
      (fun pre Pv A Pv' B h hk hp => by
        obtain ⟨h1, f', ⟨⟨C', h2, h3⟩⟩, h4⟩ := h
        have q3 := (Array.getElem?_eq_some_iff.1 h2).1
        exact ⟨fun h => (hp _ h).elim h1 (fun h => by omega), f', ⟨⟨C', (hk.block _ q3 h1).trans h2, h3⟩⟩, h4⟩)
      (fun c pre Pv A Pv' B h hk hp => h)
      ⟨by omega, f, HWC.out.1, fun i _ => rfl, fun i h => absurd h (Nat.not_lt_zero i)⟩
      (fun x => { tmps := #[.pointer (some ⟨b, 0, none⟩), .func (.func gf) #[] #[.pointer (some ⟨q, 0, none⟩)], .pointer (some ⟨w.heap.size, 0, none⟩), undef, .pointer (some ⟨x.1, 0, none⟩), .int .i64 (place c x.2.ks),
        .pointer (some ⟨b, 0, none⟩), .pointer (some ⟨b, 0, none⟩), .pointer (some ⟨b, 12, none⟩), .int .i64 ((D : Int) + 1), .int .i64 (D : Int), .pointer (some ⟨b, 0, none⟩), .pointer (some ⟨b, 12, none⟩), u13, u14, u15, u16, u17, u18, u19, u20, u21, u22, u23,
        .func (.func 118) #[] #[.pointer (some ⟨bn, 0, none⟩), .pointer (some ⟨bn + 1, 0, none⟩)], .pointer (some ⟨x.1, 0, none⟩), .int .i64 (place c x.2.ks), u27, u28, u29, u30], defers := [] })
      ?assign ?body ?done ?stop
    case assign =>
      intro l' m x W' K hK
      dsimp only [wayEnc]
      gi_wp2
      exact hK
    case body =>
      intro l' m pre x Pv W' hI hkW hsub hbnd hp
      obtain ⟨xb, xt⟩ := x
      obtain ⟨h1, f', hwk, h3, h4⟩ := hI
      have hpl := hp.length_le
      simp only [List.length_append, List.length_singleton] at hpl
      have hbx := (hkW.block w.heap.size (by omega) ⟨by omega, by omega⟩).trans HWC.out.2.1
      obtain ⟨g1, g2⟩ := box1 hbx
      have HPU := Lib.hid (push_c hwk (by omega) ⟨xb, 0, none⟩ (place c xt.ks : Int))
      have H34 := Lib.hid (And.intro h3 h4)
      have HB1 := Lib.hid h1
      clear h1 h3 h4 hwk hbx hp hkW hsub hbnd
      dsimp only
      gi_wp2
      refine ⟨fun h => (by cases h), ?_⟩
      refine (CallsIn.inRound l' (callsIn_wide.2 HPU.out)).mono ?_
      rintro e w7 ⟨rfl, hwk7, ho7⟩
      gi_wp2
      refine ⟨⟨ho7.os, ho7.tape, ho7.output, ho7.size, fun k h1 h2 => ho7.block k h1 (fun e => HB1.out (e ▸ h2))⟩, HB1.out, _, by rw [List.length_append, List.length_singleton, ← Nat.add_assoc]; exact hwk7, fun i hi => ?_, fun i hi => ?_⟩
      · simp only [if_neg (show i ≠ D + pre.length by omega)]; exact H34.out.1 i hi
      · by_cases e : i = pre.length
        · subst e
          simp
        · have hlt' : i < pre.length := by simp at hi; omega
          simp only [if_neg (show D + i ≠ D + pre.length by omega)]
          rw [H34.out.2 i hlt', List.getElem_append_left hlt']
    case done =>
      intro W3' hk3 hI hlt hD
      obtain ⟨h1, f', hwk, h3, h4⟩ := hI
      have HH := Lib.hid (And.intro hwk (And.intro h3 (And.intro h4 hk3)))
      have HD := Lib.hid hD
      clear h1 hwk h3 h4 hk3 hD
      gi_wp2
      refine ⟨by simp, .inl ⟨_, _, rfl, run_takeDeferred (w := W3') HD.out, ?_⟩⟩
      have hDl : D = ks.length := HN.out.2.2.2.2.2.2.2.2
      have hwcs := HBN.out
      have hsz3 := HH.out.2.2.2.size
      have hend : ∀ k, k < wc.heap.size → k ≠ b → (W3'.putObj wc.heap.size (.deferred none)).heap[k]? = wc.heap[k]? := fun k hk hne => (World.putObj_heap_other (by omega)).trans (HH.out.2.2.2.block k hk ⟨hk, hne⟩)
      have hold : ∀ k, k < w.heap.size → k ≠ b → (W3'.putObj wc.heap.size (.deferred none)).heap[k]? = w.heap[k]? := fun k hk hne => (hend k (by omega) hne).trans (HWC.out.2.2.1 k hk hne)
      have htot : (ks ++ Tr.sink c u).length = D + xs.length := by rw [List.length_append, HLEN.out, hDl]
      refine ⟨.tuple #[], by simp [results, Tryd.results107, go_sem], rfl, ⟨f', ?_, ?_⟩, ?_⟩
      · rw [htot]
        obtain ⟨C', g1, g2⟩ := HH.out.1.blk
        exact ⟨C', (World.putObj_heap_other (by omega)).trans g1, g2⟩
      · rw [htot]
        intro i hi
        by_cases hiD : i < D
        · obtain ⟨p', u', g1, g2, g3⟩ := HN.out.2.1 i hiD
          refine ⟨p', u', ?_, ?_, g3.same (fun k h1 h2 => hold k (by omega) (by omega))⟩
          · rw [HH.out.2.1 i hiD, g1, Tr.getD_left (by omega)]
          · rw [List.take_append_of_le_length (by omega)]; exact g2
        · obtain ⟨j, rfl⟩ : ∃ j, i = D + j := ⟨i - D, by omega⟩
          have hj : j < xs.length := by omega
          have hjw : j < (u.way c).length := by rw [← HXS.out]; simpa using hj
          have hway : xs[j].2 = (u.way c)[j] := by
            have e : (xs.map Prod.snd)[j]'(by simpa using hj) = (u.way c)[j] := by simp only [HXS.out]
            simpa using e
          obtain ⟨kv, ax, capx, hs⟩ := HST.out xs[j] (List.getElem_mem hj)
          refine ⟨xs[j].1, xs[j].2, ?_, ?_, hs.node.same (fun k h1 h2 => hend k (by omega) (by omega))⟩
          · rw [HH.out.2.2.1 j hj, Tr.getD_right (by omega), show D + j - ks.length = j by omega]
            have : (Tr.sink c u).getD j 0 = (place c xs[j].2.ks : Int) := by
              unfold Tr.sink
              rw [List.getD_eq_getElem?_getD, List.getElem?_map, List.getElem?_eq_getElem hjw, hway]; rfl
            rw [this]
          · rw [List.take_append, List.take_of_length_le (by omega), show D + j - ks.length = j by omega, Tr.nodeTo_append, HN.out.2.2.1, hway]
            exact Tr.way_node u.weight u (Nat.le_refl _) HN.out.2.2.2.1 j hjw
      · refine ⟨?_, ?_, ?_, by simp; omega, fun k h1 h2 => hold k h1 h2⟩
        · exact HH.out.2.2.2.os.trans (HWC.out.2.2.2.2.1.trans HC.out.2.2.2.2.1)
        · exact HH.out.2.2.2.tape.trans (HWC.out.2.2.2.2.2.1.trans HC.out.2.2.2.2.2.1)
        · exact HH.out.2.2.2.output.trans (HWC.out.2.2.2.2.2.2.trans HC.out.2.2.2.2.2.2)
    case stop =>
      rintro c pre' W3' hk3 hp hI hlt hD
      exact hI.elim
end Go.Proofs.YticfkfjijnfcbaaDoor
