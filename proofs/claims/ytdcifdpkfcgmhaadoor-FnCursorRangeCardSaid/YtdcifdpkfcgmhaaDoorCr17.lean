/- The contract of hasAt: whether a key is the one at a place of a node. -/
import Derived.Test.YtdcifdpkfcgmhaaDoorProg
import Derived.Test.YtdcifdpkfcgmhaaDoorCr0
import Derived.Test.YtdcifdpkfcgmhaaDoorCr8
import Derived.Test.YtdcifdpkfcgmhaaDoorCrS8
import Derived.Test.YtdcifdpkfcgmhaaDoorCr13
import Derived.Test.YtdcifdpkfcgmhaaDoorCr16
import Derived.RangeFuncNested
import Derived.Shelf.RegionOpen
import Derived.WalkKit
import Derived.OwnWalkIn
import Derived.TacticsInMore
import Derived.LoopNIn
import Derived.LoopIn
import Derived.Sort.QuietIn
import Derived.Sort.LoopGhostIn
import Derived.RangeFuncCalls
import Derived.Deep.QuietTactic
import Derived.BigQuiet
import Derived.StillTailTactics
import Derived.WalkSmall

/- Finding: wayDown, and the iterator that it returns. -/
namespace Go.Proofs.YtdcifdpkfcgmhaaDoor
open Go.RowKit
attribute [local go_sem] Oper.semAt_some

theorem wide_fn (f : Nat) : Fence.wide.fn f = True := rfl
attribute [local go_sem] wide_fn

theorem wayDown_c (b q gf : Nat) (w : World) :
    Calls Tryd.prog 89 #[.pointer (some ⟨b, 0, none⟩), .func (.func gf) #[] #[.pointer (some ⟨q, 0, none⟩)]] w fun e w' => e = .returned (.func (.func 115) #[] #[.pointer (some ⟨w.heap.size, 0, none⟩), .pointer (some ⟨w.heap.size + 1, 0, none⟩)]) ∧
      w' = (w.alloc (.cells #[.pointer (some ⟨b, 0, none⟩)] 99)).alloc (.cells #[.func (.func gf) #[] #[.pointer (some ⟨q, 0, none⟩)]] 86) := by
  go_enter Tryd.func89, Tryd.ntmps89
  go_wp2_with fail
  go_ret
  exact ⟨rfl, rfl⟩

set_option maxRecDepth 100000 in
set_option maxHeartbeats 4000000 in
theorem way_less_iter {w₀ : World} {lo hi b : Nat} {t : Tr} {xs : List (Nat × Tr)} (n c : Int) (hc : Hid (c = n)) (hxs : WayIn w₀ lo hi c b t xs) (hhi : hi ≤ w₀.heap.size) (bn bf q : Nat)
    (hbn : w₀.heap[bn]? = some (.cells #[.pointer (some ⟨b, 0, none⟩)] 99 (0, 0)))
    (hbf : w₀.heap[bf]? = some (.cells #[.func (.func 107) #[] #[.pointer (some ⟨q, 0, none⟩)]] 86 (0, 0)))
    (hq : w₀.heap[q]? = some (.cells #[.int .i64 n] 3 (0, 0))) :
    Iter Tryd.prog 115 #[] #[.pointer (some ⟨bn, 0, none⟩), .pointer (some ⟨bf, 0, none⟩)] (wayEnc c) (fun k => (lo ≤ k ∧ k < hi) ∨ k = bn ∨ k = bf ∨ k = q) xs w₀ := by
  intro l J Jx Pv W hkeep hRd hbnd hJ hJx hY h0
  have l1 := (Array.getElem?_eq_some_iff.1 hbn).1
  have l2 := (Array.getElem?_eq_some_iff.1 hbf).1
  have l3 := (Array.getElem?_eq_some_iff.1 hq).1
  have hbn' := (hkeep.block bn l1 (.inr (.inl rfl))).trans hbn
  obtain ⟨x1, x2⟩ := box1 hbn'
  have HQ := Lib.hid (And.intro hbf hq)
  have HY := Lib.hid hY
  have HXS := Lib.hid hxs
  have HJ := Lib.hid (And.intro hJ hJx)
  have HK := Lib.hid hkeep
  have HRD := Lib.hid hRd
  have HBND := Lib.hid hbnd
  clear hbn hbf hq hbn' hY hxs hkeep hRd hbnd hJ hJx
  show Calls Tryd.prog 115 #[.func (.yield l) #[] #[], .pointer (some ⟨bn, 0, none⟩), .pointer (some ⟨bf, 0, none⟩)] W _
  refine callsIn_wide (n := 9).1 (callsIn_of_wp Tryd.func115 rfl trivial ?_ rfl)
  simp only [Tryd.ntmps115, List.size_toArray, List.length_cons, List.length_nil, Nat.reduceAdd, Nat.reduceSub, Array.replicate_succ, Array.replicate_zero, List.push_toArray, List.append_toArray, List.nil_append, List.cons_append]
  gi_wp2
  gi_loopg [4] xs.length (fun k s4 wr => ∃ (pre : List (Nat × Tr)) (b' : Nat) (t' : Tr) (rest : List (Nat × Tr)), xs = pre ++ rest ∧ WayIn w₀ lo hi c b' t' rest ∧ s4 = .pointer (some ⟨b', 0, none⟩) ∧ rest.length ≤ k ∧ J pre Pv wr ∧ Keep Pv W wr)
  case atStart => exact ⟨[], b, t, xs, rfl, HXS.out, rfl, Nat.le_refl _, h0, Keep.refl _ _⟩
  case round =>
    obtain ⟨pre, b', t', rest, hsplit, hwi, rfl, hlen, hJs, hkp⟩ := hrel
    clear x1 x2 h0
    have hk0 : Keep (fun k => (lo ≤ k ∧ k < hi) ∨ k = bn ∨ k = bf ∨ k = q) w₀ wr := HK.out.trans (hkp.mono (fun k _ h => HRD.out k h))
    obtain ⟨x1, x2⟩ := box1 ((hk0.block bf l2 (.inr (.inr (.inl rfl)))).trans HQ.out.1)
    obtain ⟨x3, x4⟩ := box1 ((hk0.block q l3 (.inr (.inr (.inr rfl)))).trans HQ.out.2)
    have hbl : ∀ k, lo ≤ k → k < hi → wr.heap[k]? = w₀.heap[k]? := fun k h1 h2 => hk0.block k (by omega) (.inl ⟨h1, h2⟩)
    have HBL := Lib.hid hbl
    have HSP := Lib.hid hsplit
    have HLEN := Lib.hid hlen
    have HJS := Lib.hid hJs
    have HKP := Lib.hid hkp
    clear hbl hsplit hlen hk0 hJs hkp
    cases hwi with
    | leaf b' t' kv a cap hs h0 =>
      obtain ⟨ks, cs⟩ := t'
      have hks : IntsR wr lo hi kv ks := hs.keys.same HBL.out
      have hki : IntsIn wr hi kv ks := hks.in
      have hbox := (HBL.out b' hs.low hs.high).trans hs.box
      have hbx0 := hs.box
      have hpw := Tr.Well.keys hs.well
      have hlt0 := hs.light
      have hkl : ks.length ≤ 1048576 := by simp only [Tr.weight] at hlt0; omega
      have hbW : b' < wr.heap.size := (Array.getElem?_eq_some_iff.1 hbox).1
      obtain ⟨ka, kcap, rfl, _⟩ := hks
      simp only [Tr.cs] at hbox h0
      obtain ⟨y1, y2, y3, y4⟩ := box2 hbox
      have hleaf : ((cs.length : Int) == 0) = true := by simp [h0]
      have HKI := Lib.hid hki
      have HPW := Lib.hid hpw
      have HKL := Lib.hid hkl
      have HBOX := Lib.hid hbox
      have HH0 := Lib.hid h0
      have hlow := hs.low
      have hhigh := hs.high
      clear hki hpw hbox hbx0 hs h0 hlt0
      gi_wp2
      gi_quiet ((gi_at_call 100; exact CallsIn.quiet_of_same ((callsIn_wide (n := _)).2 (place_less_d _ hi HKI.out HPW.out HKL.out n c hc q x3 _))))
      obtain ⟨fn, tmps, assign, body, hy, hR⟩ := HY.out pre (b', .mk ks cs) Pv (wr.drewN nq) (HJ.out.1 _ _ _ _ _ HJS.out (Keep.drewN _ _ _) (fun k h => .inl h)) (HKP.out.trans (Keep.drewN _ _ _)) (fun _ h => h) (fun k h => Nat.lt_of_lt_of_le (HBND.out k h) HKP.out.size) (by rw [HSP.out]; exact List.prefix_refl _)
      dsimp only [wayEnc, Tr.ks] at hy
      have HR := Lib.hid hR
      clear hR
      gi_wp2
      refine (HR.out _).mono ?_
      rintro e W3 ⟨hk3, (⟨rfl, hJ3⟩ | ⟨rfl, hJx3⟩)⟩
      · have hk3' : Keep Pv W W3 := (HKP.out.trans (Keep.drewN _ _ _)).trans hk3
        clear y1 y2 y3 y4
        obtain ⟨y1, y2, y3, y4⟩ := box2 ((hk3.block b' hbW (HRD.out b' (.inl ⟨hlow, hhigh⟩))).trans HBOX.out)
        have HJ3 := Lib.hid (And.intro hk3' hJ3)
        clear hk3 hk3' hJ3 hy
        gi_wp2
        refine bodyPost_ret (results_none rfl _ _ _) rfl ?_
        exact ⟨⟨_, rfl⟩, HJ3.out.1, .inl (by rw [HSP.out]; exact HJ3.out.2)⟩
      · have hk3' : Keep Pv W W3 := (HKP.out.trans (Keep.drewN _ _ _)).trans hk3
        have HJ3 := Lib.hid (And.intro hk3' hJx3)
        clear hk3 hk3' hJx3 hy y1 y2 y3 y4
        gi_wp2
        refine bodyPost_ret (results_none rfl _ _ _) rfl ?_
        exact ⟨⟨_, rfl⟩, HJ3.out.1, .inr ⟨_, by rw [HSP.out]; exact List.prefix_refl _, HJ3.out.2⟩⟩
    | inner b' t' kv qb qo cap p u xs' hs h0 q1 q2 hp hr =>
      obtain ⟨ks, cs⟩ := t'
      have hks : IntsR wr lo hi kv ks := hs.keys.same HBL.out
      have hki : IntsIn wr hi kv ks := hks.in
      have hbox := (HBL.out b' hs.low hs.high).trans hs.box
      have hbx0 := hs.box
      have hpw := Tr.Well.keys hs.well
      have hlt0 := hs.light
      have hkl : ks.length ≤ 1048576 := by simp only [Tr.weight] at hlt0; omega
      have hbW : b' < wr.heap.size := (Array.getElem?_eq_some_iff.1 hbox).1
      obtain ⟨ka, kcap, rfl, _⟩ := hks
      simp only [Tr.cs, Tr.ks] at hbox h0 hp
      obtain ⟨y1, y2, y3, y4⟩ := box2 hbox
      have hbq : qb < wr.heap.size := World.block_lt_of_cell? wr _ ((cell_of_blk (HBL.out qb q1 q2)).trans hp)
      have hz : wr.cell? ⟨qb, qo + place c ks, none⟩ = some (.pointer (some ⟨p, 0, none⟩)) := (cell_of_blk (HBL.out qb q1 q2)).trans hp
      have HZ := Lib.hid hz
      have HR' := Lib.hid hr
      have HP := Lib.hid hp
      have hleaf : ((cs.length : Int) == 0) = false := by rw [beq_eq_false_iff_ne]; omega
      have HKI := Lib.hid hki
      have HPW := Lib.hid hpw
      have HKL := Lib.hid hkl
      have HBOX := Lib.hid hbox
      have HH0 := Lib.hid h0
      have hlow := hs.low
      have hhigh := hs.high
      clear hki hpw hbox hbx0 hs h0 hlt0 hz hr hp
      gi_wp2
      gi_quiet ((gi_at_call 100; exact CallsIn.quiet_of_same ((callsIn_wide (n := _)).2 (place_less_d _ hi HKI.out HPW.out HKL.out n c hc q x3 _))))
      obtain ⟨fn, tmps, assign, body, hy, hR⟩ := HY.out pre (b', .mk ks cs) Pv (wr.drewN nq) (HJ.out.1 _ _ _ _ _ HJS.out (Keep.drewN _ _ _) (fun k h => .inl h)) (HKP.out.trans (Keep.drewN _ _ _)) (fun _ h => h) (fun k h => Nat.lt_of_lt_of_le (HBND.out k h) HKP.out.size) (by rw [HSP.out]; exact ⟨xs', by simp⟩)
      dsimp only [wayEnc, Tr.ks] at hy
      have HR := Lib.hid hR
      clear hR
      gi_wp2
      refine (HR.out _).mono ?_
      rintro e W3 ⟨hk3, (⟨rfl, hJ3⟩ | ⟨rfl, hJx3⟩)⟩
      · have hk3' : Keep Pv W W3 := (HKP.out.trans (Keep.drewN _ _ _)).trans hk3
        clear y1 y2 y3 y4
        obtain ⟨y1, y2, y3, y4⟩ := box2 ((hk3.block b' hbW (HRD.out b' (.inl ⟨hlow, hhigh⟩))).trans HBOX.out)
        have hq3 : W3.heap[qb]? = wr.heap[qb]? := hk3.block qb hbq (HRD.out qb (.inl ⟨q1, q2⟩))
        have HJ3 := Lib.hid (And.intro hk3' hJ3)
        clear hk3 hk3' hJ3 hy
        have z1 : W3.cell? ⟨qb, qo + place c ks, none⟩ = some (.pointer (some ⟨p, 0, none⟩)) := (cell_of_blk (hq3 )).trans HZ.out
        have hpl' : (place c ks : Int) < (cs.length : Int) := by have := HH0.out; have := place_le c ks; omega
        clear hq3
        gi_wp2
        gi_roundg xs'.length
        case measure => have := HLEN.out; simp at this; omega
        case rel => exact ⟨pre ++ [(b', .mk ks cs)], p, u, xs', by rw [HSP.out]; simp, HR'.out, rfl, Nat.le_refl _, HJ3.out.2, HJ3.out.1⟩
      · have hk3' : Keep Pv W W3 := (HKP.out.trans (Keep.drewN _ _ _)).trans hk3
        have HJ3 := Lib.hid (And.intro hk3' hJx3)
        clear hk3 hk3' hJx3 hy y1 y2 y3 y4
        gi_wp2
        refine bodyPost_ret (results_none rfl _ _ _) rfl ?_
        exact ⟨⟨_, rfl⟩, HJ3.out.1, .inr ⟨_, by rw [HSP.out]; exact ⟨xs', by simp⟩, HJ3.out.2⟩⟩

set_option maxRecDepth 100000 in
set_option maxHeartbeats 4000000 in
theorem way_upTo_iter {w₀ : World} {lo hi b : Nat} {t : Tr} {xs : List (Nat × Tr)} (n c : Int) (hc : Hid (c = n + 1)) (hxs : WayIn w₀ lo hi c b t xs) (hhi : hi ≤ w₀.heap.size) (bn bf q : Nat)
    (hbn : w₀.heap[bn]? = some (.cells #[.pointer (some ⟨b, 0, none⟩)] 99 (0, 0)))
    (hbf : w₀.heap[bf]? = some (.cells #[.func (.func 118) #[] #[.pointer (some ⟨q, 0, none⟩)]] 86 (0, 0)))
    (hq : w₀.heap[q]? = some (.cells #[.int .i64 n] 3 (0, 0))) :
    Iter Tryd.prog 115 #[] #[.pointer (some ⟨bn, 0, none⟩), .pointer (some ⟨bf, 0, none⟩)] (wayEnc c) (fun k => (lo ≤ k ∧ k < hi) ∨ k = bn ∨ k = bf ∨ k = q) xs w₀ := by
  intro l J Jx Pv W hkeep hRd hbnd hJ hJx hY h0
  have l1 := (Array.getElem?_eq_some_iff.1 hbn).1
  have l2 := (Array.getElem?_eq_some_iff.1 hbf).1
  have l3 := (Array.getElem?_eq_some_iff.1 hq).1
  have hbn' := (hkeep.block bn l1 (.inr (.inl rfl))).trans hbn
  obtain ⟨x1, x2⟩ := box1 hbn'
  have HQ := Lib.hid (And.intro hbf hq)
  have HY := Lib.hid hY
  have HXS := Lib.hid hxs
  have HJ := Lib.hid (And.intro hJ hJx)
  have HK := Lib.hid hkeep
  have HRD := Lib.hid hRd
  have HBND := Lib.hid hbnd
  clear hbn hbf hq hbn' hY hxs hkeep hRd hbnd hJ hJx
  show Calls Tryd.prog 115 #[.func (.yield l) #[] #[], .pointer (some ⟨bn, 0, none⟩), .pointer (some ⟨bf, 0, none⟩)] W _
  refine callsIn_wide (n := 9).1 (callsIn_of_wp Tryd.func115 rfl trivial ?_ rfl)
  simp only [Tryd.ntmps115, List.size_toArray, List.length_cons, List.length_nil, Nat.reduceAdd, Nat.reduceSub, Array.replicate_succ, Array.replicate_zero, List.push_toArray, List.append_toArray, List.nil_append, List.cons_append]
  gi_wp2
  gi_loopg [4] xs.length (fun k s4 wr => ∃ (pre : List (Nat × Tr)) (b' : Nat) (t' : Tr) (rest : List (Nat × Tr)), xs = pre ++ rest ∧ WayIn w₀ lo hi c b' t' rest ∧ s4 = .pointer (some ⟨b', 0, none⟩) ∧ rest.length ≤ k ∧ J pre Pv wr ∧ Keep Pv W wr)
  case atStart => exact ⟨[], b, t, xs, rfl, HXS.out, rfl, Nat.le_refl _, h0, Keep.refl _ _⟩
  case round =>
    obtain ⟨pre, b', t', rest, hsplit, hwi, rfl, hlen, hJs, hkp⟩ := hrel
    clear x1 x2 h0
    have hk0 : Keep (fun k => (lo ≤ k ∧ k < hi) ∨ k = bn ∨ k = bf ∨ k = q) w₀ wr := HK.out.trans (hkp.mono (fun k _ h => HRD.out k h))
    obtain ⟨x1, x2⟩ := box1 ((hk0.block bf l2 (.inr (.inr (.inl rfl)))).trans HQ.out.1)
    obtain ⟨x3, x4⟩ := box1 ((hk0.block q l3 (.inr (.inr (.inr rfl)))).trans HQ.out.2)
    have hbl : ∀ k, lo ≤ k → k < hi → wr.heap[k]? = w₀.heap[k]? := fun k h1 h2 => hk0.block k (by omega) (.inl ⟨h1, h2⟩)
    have HBL := Lib.hid hbl
    have HSP := Lib.hid hsplit
    have HLEN := Lib.hid hlen
    have HJS := Lib.hid hJs
    have HKP := Lib.hid hkp
    clear hbl hsplit hlen hk0 hJs hkp
    cases hwi with
    | leaf b' t' kv a cap hs h0 =>
      obtain ⟨ks, cs⟩ := t'
      have hks : IntsR wr lo hi kv ks := hs.keys.same HBL.out
      have hki : IntsIn wr hi kv ks := hks.in
      have hbox := (HBL.out b' hs.low hs.high).trans hs.box
      have hbx0 := hs.box
      have hpw := Tr.Well.keys hs.well
      have hlt0 := hs.light
      have hkl : ks.length ≤ 1048576 := by simp only [Tr.weight] at hlt0; omega
      have hbW : b' < wr.heap.size := (Array.getElem?_eq_some_iff.1 hbox).1
      obtain ⟨ka, kcap, rfl, _⟩ := hks
      simp only [Tr.cs] at hbox h0
      obtain ⟨y1, y2, y3, y4⟩ := box2 hbox
      have hleaf : ((cs.length : Int) == 0) = true := by simp [h0]
      have HKI := Lib.hid hki
      have HPW := Lib.hid hpw
      have HKL := Lib.hid hkl
      have HBOX := Lib.hid hbox
      have HH0 := Lib.hid h0
      have hlow := hs.low
      have hhigh := hs.high
      clear hki hpw hbox hbx0 hs h0 hlt0
      gi_wp2
      gi_quiet ((gi_at_call 100; exact CallsIn.quiet_of_same ((callsIn_wide (n := _)).2 (place_upTo_d _ hi HKI.out HPW.out HKL.out n c hc q x3 _))))
      obtain ⟨fn, tmps, assign, body, hy, hR⟩ := HY.out pre (b', .mk ks cs) Pv (wr.drewN nq) (HJ.out.1 _ _ _ _ _ HJS.out (Keep.drewN _ _ _) (fun k h => .inl h)) (HKP.out.trans (Keep.drewN _ _ _)) (fun _ h => h) (fun k h => Nat.lt_of_lt_of_le (HBND.out k h) HKP.out.size) (by rw [HSP.out]; exact List.prefix_refl _)
      dsimp only [wayEnc, Tr.ks] at hy
      have HR := Lib.hid hR
      clear hR
      gi_wp2
      refine (HR.out _).mono ?_
      rintro e W3 ⟨hk3, (⟨rfl, hJ3⟩ | ⟨rfl, hJx3⟩)⟩
      · have hk3' : Keep Pv W W3 := (HKP.out.trans (Keep.drewN _ _ _)).trans hk3
        clear y1 y2 y3 y4
        obtain ⟨y1, y2, y3, y4⟩ := box2 ((hk3.block b' hbW (HRD.out b' (.inl ⟨hlow, hhigh⟩))).trans HBOX.out)
        have HJ3 := Lib.hid (And.intro hk3' hJ3)
        clear hk3 hk3' hJ3 hy
        gi_wp2
        refine bodyPost_ret (results_none rfl _ _ _) rfl ?_
        exact ⟨⟨_, rfl⟩, HJ3.out.1, .inl (by rw [HSP.out]; exact HJ3.out.2)⟩
      · have hk3' : Keep Pv W W3 := (HKP.out.trans (Keep.drewN _ _ _)).trans hk3
        have HJ3 := Lib.hid (And.intro hk3' hJx3)
        clear hk3 hk3' hJx3 hy y1 y2 y3 y4
        gi_wp2
        refine bodyPost_ret (results_none rfl _ _ _) rfl ?_
        exact ⟨⟨_, rfl⟩, HJ3.out.1, .inr ⟨_, by rw [HSP.out]; exact List.prefix_refl _, HJ3.out.2⟩⟩
    | inner b' t' kv qb qo cap p u xs' hs h0 q1 q2 hp hr =>
      obtain ⟨ks, cs⟩ := t'
      have hks : IntsR wr lo hi kv ks := hs.keys.same HBL.out
      have hki : IntsIn wr hi kv ks := hks.in
      have hbox := (HBL.out b' hs.low hs.high).trans hs.box
      have hbx0 := hs.box
      have hpw := Tr.Well.keys hs.well
      have hlt0 := hs.light
      have hkl : ks.length ≤ 1048576 := by simp only [Tr.weight] at hlt0; omega
      have hbW : b' < wr.heap.size := (Array.getElem?_eq_some_iff.1 hbox).1
      obtain ⟨ka, kcap, rfl, _⟩ := hks
      simp only [Tr.cs, Tr.ks] at hbox h0 hp
      obtain ⟨y1, y2, y3, y4⟩ := box2 hbox
      have hbq : qb < wr.heap.size := World.block_lt_of_cell? wr _ ((cell_of_blk (HBL.out qb q1 q2)).trans hp)
      have hz : wr.cell? ⟨qb, qo + place c ks, none⟩ = some (.pointer (some ⟨p, 0, none⟩)) := (cell_of_blk (HBL.out qb q1 q2)).trans hp
      have HZ := Lib.hid hz
      have HR' := Lib.hid hr
      have HP := Lib.hid hp
      have hleaf : ((cs.length : Int) == 0) = false := by rw [beq_eq_false_iff_ne]; omega
      have HKI := Lib.hid hki
      have HPW := Lib.hid hpw
      have HKL := Lib.hid hkl
      have HBOX := Lib.hid hbox
      have HH0 := Lib.hid h0
      have hlow := hs.low
      have hhigh := hs.high
      clear hki hpw hbox hbx0 hs h0 hlt0 hz hr hp
      gi_wp2
      gi_quiet ((gi_at_call 100; exact CallsIn.quiet_of_same ((callsIn_wide (n := _)).2 (place_upTo_d _ hi HKI.out HPW.out HKL.out n c hc q x3 _))))
      obtain ⟨fn, tmps, assign, body, hy, hR⟩ := HY.out pre (b', .mk ks cs) Pv (wr.drewN nq) (HJ.out.1 _ _ _ _ _ HJS.out (Keep.drewN _ _ _) (fun k h => .inl h)) (HKP.out.trans (Keep.drewN _ _ _)) (fun _ h => h) (fun k h => Nat.lt_of_lt_of_le (HBND.out k h) HKP.out.size) (by rw [HSP.out]; exact ⟨xs', by simp⟩)
      dsimp only [wayEnc, Tr.ks] at hy
      have HR := Lib.hid hR
      clear hR
      gi_wp2
      refine (HR.out _).mono ?_
      rintro e W3 ⟨hk3, (⟨rfl, hJ3⟩ | ⟨rfl, hJx3⟩)⟩
      · have hk3' : Keep Pv W W3 := (HKP.out.trans (Keep.drewN _ _ _)).trans hk3
        clear y1 y2 y3 y4
        obtain ⟨y1, y2, y3, y4⟩ := box2 ((hk3.block b' hbW (HRD.out b' (.inl ⟨hlow, hhigh⟩))).trans HBOX.out)
        have hq3 : W3.heap[qb]? = wr.heap[qb]? := hk3.block qb hbq (HRD.out qb (.inl ⟨q1, q2⟩))
        have HJ3 := Lib.hid (And.intro hk3' hJ3)
        clear hk3 hk3' hJ3 hy
        have z1 : W3.cell? ⟨qb, qo + place c ks, none⟩ = some (.pointer (some ⟨p, 0, none⟩)) := (cell_of_blk (hq3 )).trans HZ.out
        have hpl' : (place c ks : Int) < (cs.length : Int) := by have := HH0.out; have := place_le c ks; omega
        clear hq3
        gi_wp2
        gi_roundg xs'.length
        case measure => have := HLEN.out; simp at this; omega
        case rel => exact ⟨pre ++ [(b', .mk ks cs)], p, u, xs', by rw [HSP.out]; simp, HR'.out, rfl, Nat.le_refl _, HJ3.out.2, HJ3.out.1⟩
      · have hk3' : Keep Pv W W3 := (HKP.out.trans (Keep.drewN _ _ _)).trans hk3
        have HJ3 := Lib.hid (And.intro hk3' hJx3)
        clear hk3 hk3' hJx3 hy y1 y2 y3 y4
        gi_wp2
        refine bodyPost_ret (results_none rfl _ _ _) rfl ?_
        exact ⟨⟨_, rfl⟩, HJ3.out.1, .inr ⟨_, by rw [HSP.out]; exact ⟨xs', by simp⟩, HJ3.out.2⟩⟩

end Go.Proofs.YtdcifdpkfcgmhaaDoor

/- Regions that draw their order and only read, inside a round of a loop over an iterator. -/
namespace Go.Proofs.YtdcifdpkfcgmhaaDoor
open Go.RowKit

/-- An operation that is no deferring. -/
def undeferred (o : Oper) : Bool := match o.op with | .defer _ => false | _ => true

theorem undeferred_ne {o : Oper} (h : undeferred o = true) : ∀ c, o.op ≠ .defer c := by
  intro c hc
  unfold undeferred at h
  rw [hc] at h
  cases h

variable {F : Fence} {n : Nat} {P : Program} {ops : Array Oper} {Q : Exit → Act → World → Prop} {md : Region.Mode}

/-- What an operation does in a frame outside a round, it does inside one. -/
theorem wpAnyIn_round (l : Nat) (hro : F.round = none) (hp : ∀ (i : Nat) (o : Oper), ops[i]? = some o → undeferred o = true) : ∀ (fuel : Nat) (listed : Array Bool) (a : Act) (w : World),
    wpAnyIn F n P md ops Q fuel listed a w → wpAnyIn (F.inRound l) n P md ops Q fuel listed a w := by
  intro fuel
  induction fuel with
  | zero => intro listed a w h; exact h
  | succ fuel ih =>
    intro listed a w h
    refine ⟨h.1, fun i hi => ?_⟩
    have hh := h.2 i hi
    unfold wpOpIn at hh ⊢
    cases ho : ops[i]? with
    | none => simp only [ho] at hh ⊢; exact ih _ _ _ hh
    | some o =>
      simp only [ho] at hh ⊢
      by_cases hw : Region.wanted o (yielded ops a.tmps) = true
      · rw [if_pos hw] at hh ⊢
        have hh' := Oper.wpIn_mono (fun a w h => ih (listed.setIfInBounds i true) a w h) hh
        unfold Oper.wpIn at hh' ⊢
        refine ⟨hh'.1, ?_⟩
        have e := hh'.2
        rw [hro, Oper.semAt_eq none _ _ (undeferred_ne (hp i o ho))] at e
        rw [Oper.semAt_eq _ _ _ (undeferred_ne (hp i o ho))]
        exact e
      · rw [if_neg hw] at hh ⊢
        exact ⟨hh.1, ih _ _ _ hh.2⟩

/-- The law of quiet regions, inside a round. -/
theorem wpIn_quiet_round {id l : Nat} {a : Act} {w : World} {lst : List Oper} (hro : F.round = none) (hm : P.follows .mixedOrders = true) (hB : Region.lexB .any lst.toArray = true) (hp : lst.all undeferred = true)
    (h : wpQuietIn F n P lst.toArray (fun w' => ∃ n, w' = w.drewN n) (fun a' => ∀ w', (∃ n, w' = w.drewN n) → Q .normal a' w') lst a) : (Code.region id lst.toArray true).wpIn (F.inRound l) n P Q a w := by
  have hB' := hB
  simp only [Region.lexB, Bool.and_eq_true] at hB'
  refine wpIn_region_any hm (wpAnyIn_round l hro ?_ _ _ _ _ (wpAnyIn_of_quiet (C := fun w' => ∃ n, w' = w.drewN n) (Q := fun a' => ∀ w', (∃ n, w' = w.drewN n) → Q .normal a' w') hro (fun _ w' hw' h => h w' hw') _ _ _ _ ⟨1, rfl⟩ ?_))
  · intro i o ho
    rw [List.getElem?_toArray] at ho
    exact List.all_eq_true.1 hp o (List.mem_of_getElem? ho)
  · have h0 := wpAnyQIn_lex (F := F) (n := n) (P := P) (C := fun w' => ∃ n, w' = w.drewN n) (md := .any) hB'.1 lst 0 (Array.replicate lst.toArray.size false) a (by simp) (by simpa using hB'.2) h
    simpa using h0
end Go.Proofs.YtdcifdpkfcgmhaaDoor

/- Finding: what the planting of a tree and the making of the iterator over the way down leave. -/
namespace Go.Proofs.YtdcifdpkfcgmhaaDoor
open Go.RowKit

/-- What the planting of a tree and the making of the iterator over the way down leave, from block B on. -/
def DownAt (B gf : Nat) (n : Int) (t : Tr) (s : Value) (W : World) : Prop :=
  ∃ lo hi b q bn bf : Nat, s = .func (.func 115) #[] #[.pointer (some ⟨bn, 0, none⟩), .pointer (some ⟨bf, 0, none⟩)] ∧ NodeIn W lo hi b t ∧ B ≤ lo ∧ hi ≤ W.heap.size ∧ B ≤ q ∧ B ≤ bn ∧ B ≤ bf ∧
    W.heap[bn]? = some (.cells #[.pointer (some ⟨b, 0, none⟩)] 99 (0, 0)) ∧
    W.heap[bf]? = some (.cells #[.func (.func gf) #[] #[.pointer (some ⟨q, 0, none⟩)]] 86 (0, 0)) ∧
    W.heap[q]? = some (.cells #[.int .i64 n] 3 (0, 0))

theorem ownsRow_held {w w' : World} {base : Nat} {e : TypeId} {size n : Nat} {v : Value} {xs : List Value} (h : w.ownsRow base e size v n xs) (hb : ∀ k, v.ownBlock = some k → w'.heap[k]? = w.heap[k]?) : w'.ownsRow base e size v n xs := by
  obtain ⟨h1, h2 | ⟨g, cap, cur, hv, hbb, hg, hr⟩⟩ := h
  · exact ⟨h1, .inl h2⟩
  · exact ⟨h1, .inr ⟨g, cap, cur, hv, hbb, (hb g (by rw [hv]; rfl)).trans hg, hr⟩⟩

theorem downAt_mk {B gf : Nat} {n : Int} {t : Tr} {wp w8 wl : World} {nb : Nat} (hB : B ≤ wp.heap.size) (hnd : NodeIn w8 wp.heap.size w8.heap.size nb t) (hl : wl.heap = w8.heap) (hs8 : wp.heap.size ≤ w8.heap.size) :
    DownAt B gf n t (.func (.func 115) #[] #[.pointer (some ⟨(wl.alloc (.cells #[.int .i64 n] 3)).heap.size, 0, none⟩), .pointer (some ⟨(wl.alloc (.cells #[.int .i64 n] 3)).heap.size + 1, 0, none⟩)])
      (((wl.alloc (.cells #[.int .i64 n] 3)).alloc (.cells #[.pointer (some ⟨nb, 0, none⟩)] 99)).alloc (.cells #[.func (.func gf) #[] #[.pointer (some ⟨wl.heap.size, 0, none⟩)]] 86)) := by
  have hls : wl.heap.size = w8.heap.size := by rw [hl]
  refine ⟨wp.heap.size, w8.heap.size, nb, wl.heap.size, _, _, rfl, hnd.same (fun k _ h => ?_), hB, by simp; omega, by omega, by simp; omega, by simp; omega, ?_, ?_, ?_⟩
  · rw [old_blk _ _ _ (by simp <;> omega), old_blk _ _ _ (by simp <;> omega), old_blk _ _ _ (by omega), hl]
  · rw [old_blk _ _ _ (by simp), new_blk]
  · rw [show (wl.alloc (.cells #[.int .i64 n] 3)).heap.size + 1 = ((wl.alloc (.cells #[.int .i64 n] 3)).alloc (.cells #[.pointer (some ⟨nb, 0, none⟩)] 99)).heap.size by simp, new_blk]
  · rw [old_blk _ _ _ (by simp <;> omega), old_blk _ _ _ (by simp), new_blk]
end Go.Proofs.YtdcifdpkfcgmhaaDoor

/- The contract of hasAt: whether a key is the one at a place of a node. -/
namespace Go.Proofs.YtdcifdpkfcgmhaaDoor
open Go.RowKit

set_option maxRecDepth 100000 in
set_option maxHeartbeats 1000000 in
theorem hasAt_c {w : World} {b : Nat} {kv cv : Value} {ks : List Int} (hbox : w.heap[b]? = some (.cells #[kv, cv] 110 (0, 0))) (hk : IntsAt w kv ks) (_hl : ks.length ≤ 9223372036854775807) (i : Nat) (hi : i ≤ ks.length) (key : Int) :
    Calls Tryd.prog 130 #[.pointer (some ⟨b, 0, none⟩), .int .i64 (i : Int), .int .i64 key] w fun e w' => e = .returned (.bool (decide (i < ks.length ∧ ks.getD i 0 = key))) ∧ w' = w := by
  obtain ⟨ka, kcap, rfl, k1, k2⟩ := hk
  obtain ⟨x1, x2, x3, x4⟩ := box2 hbox
  by_cases f1 : i < ks.length
  · rcases k2 with h0 | ⟨kb, ko, rfl, g3⟩
    · rw [h0] at f1; simp at f1
    have z1 := g3 i f1
    have f1' : ((i : Int) < (ks.length : Int)) := by omega
    have hd : decide (i < ks.length ∧ ks.getD i 0 = key) = (ks.getD i 0 == key) := by
      rw [Bool.eq_iff_iff]; simp [f1]
    rw [hd]
    clear g3 hd f1 k1 hbox
    generalize ks.getD i 0 = x at z1 ⊢
    go_enter Tryd.func130, Tryd.ntmps130
    go_wp2_with fail
    go_ret
    exact ⟨rfl, rfl⟩
  · have hd : decide (i < ks.length ∧ ks.getD i 0 = key) = false := by simp [f1]
    rw [hd]
    have f1' : ¬ ((i : Int) < (ks.length : Int)) := by omega
    clear hd f1 k1 k2 hbox
    go_enter Tryd.func130, Tryd.ntmps130
    go_wp2_with fail
    go_ret
    exact ⟨rfl, rfl⟩
end Go.Proofs.YtdcifdpkfcgmhaaDoor
