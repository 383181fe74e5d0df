/- The contract, over plain blocks, of the program's DepthOf. -/
import Derived.Test.YtdkldcgiiiejfaaDoorProg
import Derived.Test.YtdkldcgiiiejfaaDoorBase
import Derived.Test.YtdkldcgiiiejfaaDoorTo
import Derived.Test.YtdkldcgiiiejfaaDoorNode
import Derived.Test.YtdkldcgiiiejfaaDoorAt
import Derived.Test.YtdkldcgiiiejfaaDoorStepData
import Derived.Test.YtdkldcgiiiejfaaDoorIter
import Derived.Test.YtdkldcgiiiejfaaDoorSteps
import Derived.Test.YtdkldcgiiiejfaaDoorStepUse
import Derived.Test.YtdkldcgiiiejfaaDoorStepMore
import Derived.RangeFuncNested
import Derived.Shelf.RegionOpen
import Derived.WalkKit
import Derived.OwnWalkIn
import Derived.TacticsInMore
namespace Go.Proofs.YtdkldcgiiiejfaaDoor
open Go.RowKit
attribute [local go_sem] Oper.semAt_some

set_option maxRecDepth 100000 in
set_option maxHeartbeats 4000000 in
theorem impl_depth_a {w' : World} {kv cv : Value} {t : Tr} (ht' : TreeA w' kv cv t) (hwt : t.weight ≤ 1048576) :
    Calls Tryd.prog 11 #[.agg #[kv, cv]] w' fun e w'' => e = .returned (.int .i64 t.depth) ∧ Below w'.heap.size w' w'' := by
  obtain ⟨sA1, sA2, sA3, sA4, sA5, sA6, rfl, rfl⟩ := ht'.slices
  obtain ⟨W1, hW1⟩ : ∃ W1, W1 = w'.alloc (.cells #[.slice sA1 sA2 sA3, .slice sA4 sA5 sA6] 26) := ⟨_, rfl⟩
  have hs1 : W1.heap.size = w'.heap.size + 1 := by rw [hW1]; simp
  have hb1 : Below w'.heap.size w' W1 := by rw [hW1]; exact (Below.refl _ _).alloc (Nat.le_refl _) _
  have kb : W1.heap[w'.heap.size]? = some (.cells #[.slice sA1 sA2 sA3, .slice sA4 sA5 sA6] 26 (0, 0)) := by rw [hW1, new_blk]
  obtain ⟨a, ha1, ha2, ha3, ha4⟩ := (ht'.later hb1 (Nat.le_refl _)).at w'.heap.size 0 ⟨_, _, kb⟩ (box2 kb).1 (box2 kb).2.1
  have haw : a.weight ≤ 1048576 := by unfold ATr.weight; rw [ha3]; exact hwt
  have hit := steps_iter ha4 haw
  have had : a.addr = ⟨w'.heap.size, 0, none⟩ := by unfold ATr.addr; rw [ha1, ha2]
  rw [had] at hit
  have hcnt := begs_evs a
  rw [ha3] at hcnt
  have hcl : t.count ≤ 1048577 := by have := Tr.count_le t; omega
  have hfn := fins_evs a
  rw [hcnt] at hfn
  have hdp := dep_evs a.weight a (Nat.le_refl _) 0 0
  rw [ha3] at hdp
  have HFN := Lib.hid hfn
  have HDP := Lib.hid hdp
  clear hfn hdp
  have HIT := Lib.hid hit
  have HCNT := Lib.hid hcnt
  have HW1 := Lib.hid hW1
  have HB1 := Lib.hid hb1
  clear hit hcnt hW1 hb1 kb ht' ha1 ha2 ha3 ha4 haw had
  refine (callsIn_wide (n := 9)).1 (callsIn_of_wp_marks Tryd.func11 rfl trivial ?_ rfl)
  simp only [Tryd.ntmps11, List.size_toArray, List.length_cons, List.length_nil, Nat.reduceAdd, Nat.reduceSub, Array.replicate_succ, Array.replicate_zero, List.push_toArray, List.append_toArray, List.nil_append, List.cons_append]
  gi_wp2
  rw [← HW1.out]
  obtain ⟨W2, hW2⟩ : ∃ W2, W2 = (W1.alloc (.cells #[.int .i64 0] 3)).alloc (.cells #[.int .i64 0] 3) := ⟨_, rfl⟩
  rw [← hW2]
  have hs2 : W2.heap.size = w'.heap.size + 3 := by rw [hW2]; simp; omega
  have hk2 : ∀ K, Keep K W1 W2 := fun K => by rw [hW2]; exact (Keep.alloc K _ _).trans (Keep.alloc K _ _)
  have b2 : W2.heap[w'.heap.size + 1]? = some (.cells #[.int .i64 0] 3 (0, 0)) := by rw [hW2, old_blk _ _ _ (by simp; omega), ← hs1]; exact new_blk _ _
  have b3 : W2.heap[w'.heap.size + 2]? = some (.cells #[.int .i64 0] 3 (0, 0)) := by
    have h := new_blk (W1.alloc (.cells #[.int .i64 0] 3)) (.cells #[.int .i64 0] 3)
    rw [World.size_alloc, hs1] at h
    rw [hW2]; exact h
  have B3 := Lib.hid (And.intro b2 b3)
  clear hW2 b3 b2
  refine wp_loopA (fb := #[.pointer (some ⟨w'.heap.size, 0, none⟩)]) (lb := #[]) rfl (enters_of Tryd.func31 (by kernel_rfl) rfl) HIT.out (hk2 _) (fun x => by cases x <;> rfl)
    (fun k => k < W1.heap.size) (fun k h => h) (fun k h => by omega)
    (fun pre Pv W => ¬ Pv (w'.heap.size + 1) ∧ ¬ Pv (w'.heap.size + 2) ∧ W.heap[w'.heap.size + 1]? = some (.cells #[.int .i64 (dep (0, 0) pre).1] 3 (0, 0)) ∧ W.heap[w'.heap.size + 2]? = some (.cells #[.int .i64 (dep (0, 0) pre).2] 3 (0, 0)))
    (fun c pre Pv W => False)
    (fun pre Pv A Pv' B h hk hp => by
      obtain ⟨h1, h1', h2, h3⟩ := h
      have l2 := (Array.getElem?_eq_some_iff.1 h2).1
      have l3 := (Array.getElem?_eq_some_iff.1 h3).1
      refine ⟨fun h => ?_, fun h => ?_, (hk.block _ l2 h1).trans h2, (hk.block _ l3 h1').trans h3⟩
      · rcases hp _ h with h | h
        · exact h1 h
        · omega
      · rcases hp _ h with h | h
        · exact h1' h
        · omega)
    (fun c pre Pv A Pv' B h hk hp => h)
    ⟨by omega, by omega, B3.out.1, B3.out.2⟩
    (fun x a' Pv W => ∃ bx, ¬ Pv bx ∧ bx ≠ w'.heap.size + 1 ∧ bx ≠ w'.heap.size + 2 ∧ W.heap[bx]? = some (.cells #[.pointer (some x.node.addr), .int .i64 x.what, .int .i64 x.kk] 52 (0, 0)) ∧
      a' = { tmps := #[.agg #[.slice sA1 sA2 sA3, .slice sA4 sA5 sA6], .pointer (some ⟨w'.heap.size, 0, none⟩), .int .i64 0, .pointer (some ⟨w'.heap.size + 1, 0, none⟩), .pointer (some ⟨w'.heap.size + 2, 0, none⟩), .pointer (some ⟨bx, 0, none⟩), .func (.func 31) #[.pointer (some ⟨w'.heap.size, 0, none⟩)] #[], .agg #[.pointer (some x.node.addr), .int .i64 x.what, .int .i64 x.kk], undef, undef, undef, undef, undef, undef, undef, undef, undef, undef, undef, undef, undef, undef], defers := [] })
    (fun x a' Pv A B h hk => by
      obtain ⟨bx, h1, h2, h2', h3, h4⟩ := h
      exact ⟨bx, h1, h2, h2', (hk.block _ (Array.getElem?_eq_some_iff.1 h3).1 h1).trans h3, h4⟩)
    ?assign ?body ?done ?stop
  case assign =>
    intro l m pre x Pv W hI hbnd
    rw [Step.enc_eq]
    have hI' := Lib.hid hI
    have HB := Lib.hid hbnd
    clear hI hbnd
    gi_wp2
    have hlt := (Array.getElem?_eq_some_iff.1 hI'.out.2.2.1).1
    have hlt' := (Array.getElem?_eq_some_iff.1 hI'.out.2.2.2).1
    refine ⟨Keep.alloc _ _ _, ⟨hI'.out.1, hI'.out.2.1, (old_blk _ _ _ hlt).trans hI'.out.2.2.1, (old_blk _ _ _ hlt').trans hI'.out.2.2.2⟩, W.heap.size, fun h => ?_, by omega, by omega, new_blk _ _, rfl⟩
    have := HB.out _ h
    omega
  case body =>
    rintro l m pre x a' Pv W ⟨h1, h1', h2, h3⟩ ⟨bx, h4, h5', h6, h7, rfl⟩ hkW hsub hbnd hp
    have c2 : W.cell? ⟨bx, 1, none⟩ = some (.int .i64 x.what) := by simp [World.cell?, h7]
    have hnx : dep (0, 0) (pre ++ [x]) = dep (dep (0, 0) pre) [x] := dep_append _ _ _
    have hbd := dep_bounds pre (0, 0)
    have hle : begs pre ≤ 1048577 ∧ fins pre ≤ 1048577 := by
      obtain ⟨r, hr⟩ := hp
      have e1 := HCNT.out
      have e2 := HFN.out
      rw [← hr, begs_append, begs_append] at e1
      rw [← hr, fins_append, fins_append] at e2
      omega
    obtain ⟨⟨c, e⟩, hce⟩ : ∃ s, s = dep (0, 0) pre := ⟨_, rfl⟩
    rw [← hce] at h2 h3 hnx hbd
    simp only at h2 h3 hbd
    have hc1 : -1048577 ≤ c := by omega
    have hc2 : c ≤ 1048577 := by omega
    have he1 : 0 ≤ e := by omega
    have he2 : e ≤ 1048577 := by omega
    obtain ⟨d1, f1⟩ := box1 h2
    obtain ⟨d2, f2⟩ := box1 h3
    have HNX := Lib.hid hnx
    have H23 := Lib.hid (And.intro h2 h3)
    clear hnx h2 h3 h7 hp hsub hbnd hkW hce hbd hle
    cases x with
    | beg b =>
      have hb : dep (0, 0) (pre ++ [Step.beg b]) = (c + 1, max e (c + 1)) := by rw [HNX.out]; rfl
      have HBB := Lib.hid hb
      have d2' : (W.setCell ⟨w'.heap.size + 1, 0, none⟩ (.int .i64 (c + 1))).cell? ⟨w'.heap.size + 2, 0, none⟩ = some (.int .i64 e) := (cell_of_blk (set_other _ _ _ _ _ (by omega))).trans d2
      clear hb
      dsimp only [Step.what] at c2
      have fin : ∀ q : Int, q = max e (c + 1) → bodyEnds (fun pre Pv W => ¬ Pv (w'.heap.size + 1) ∧ ¬ Pv (w'.heap.size + 2) ∧ W.heap[w'.heap.size + 1]? = some (.cells #[.int .i64 (dep (0, 0) pre).1] 3 (0, 0)) ∧ W.heap[w'.heap.size + 2]? = some (.cells #[.int .i64 (dep (0, 0) pre).2] 3 (0, 0))) (fun c pre Pv W => False) (pre ++ [Step.beg b]) Pv W .normal { tmps := #[], defers := [] }
          ((W.setCell ⟨w'.heap.size + 1, 0, none⟩ (.int .i64 (c + 1))).setCell ⟨w'.heap.size + 2, 0, none⟩ (.int .i64 q)) := fun q hq => by
        refine ⟨(Keep.setCell _ _ _ _ h1).trans (Keep.setCell _ _ _ _ h1'), h1, h1', ?_, ?_⟩
        · rw [HBB.out, set_other _ _ _ _ _ (by omega)]; exact set_blk _ H23.out.1
        · rw [HBB.out, hq]; exact set_blk _ ((set_other _ _ _ _ _ (by omega)).trans H23.out.2)
      have FIN := Lib.hid fin
      clear fin
      rcases Int.lt_or_le e (c + 1) with hlt | hge
      · gi_wp2
        exact FIN.out (c + 1) (by omega)
      · gi_wp2
        exact FIN.out e (by omega)
    | key b k =>
      have hb : dep (0, 0) (pre ++ [Step.key b k]) = (c, e) := by rw [HNX.out]; rfl
      have HBB := Lib.hid hb
      clear hb
      dsimp only [Step.what] at c2
      gi_wp2
      refine ⟨Keep.refl _ _, h1, h1', ?_, ?_⟩
      · rw [HBB.out]; exact H23.out.1
      · rw [HBB.out]; exact H23.out.2
    | fin b =>
      have hb : dep (0, 0) (pre ++ [Step.fin b]) = (c - 1, e) := by rw [HNX.out]; rfl
      have HBB := Lib.hid hb
      clear hb
      dsimp only [Step.what] at c2
      gi_wp2
      refine ⟨Keep.setCell _ _ _ _ h1, h1, h1', ?_, ?_⟩
      · rw [HBB.out]; exact set_blk _ H23.out.1
      · rw [HBB.out, set_other _ _ _ _ _ (by omega)]; exact H23.out.2
  case done =>
    intro W3 hk3 hI hlt hD
    obtain ⟨h1, h1', h2, h3⟩ := hI
    rw [HDP.out] at h3
    have hmx : max (0 : Int) (0 + (t.depth : Int)) = t.depth := by omega
    simp only [hmx] at h3
    obtain ⟨c1, f1⟩ := box1 h3
    rw [hs2] at hD
    have HD := Lib.hid hD
    clear h2 h3 hD hmx
    gi_wp2
    refine ⟨by simp, .inl ⟨_, _, rfl, run_takeDeferred HD.out, ?_⟩⟩
    refine ⟨_, results_tmp rfl _ _ _, rfl, ?_⟩
    have hk5 : Keep (fun k => k < W1.heap.size) W3 (W3.putObj (w'.heap.size + 3) (.deferred none)) := Keep.putObj _ _ _ _ (by omega)
    exact HB1.out.trans ((((hk2 _).trans hk3).trans hk5).below (B := w'.heap.size) (by omega) (fun k h => by omega))
  case stop =>
    rintro c pre' W3 hk3 hp h hlt hD
    exact h.elim
end Go.Proofs.YtdkldcgiiiejfaaDoor
