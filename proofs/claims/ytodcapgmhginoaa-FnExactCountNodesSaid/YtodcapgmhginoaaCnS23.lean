/- The contract, over plain blocks, of the program's CountNodes. -/
import Derived.Test.YtodcapgmhginoaaProg
import Derived.Test.YtodcapgmhginoaaCnS0
import Derived.Test.YtodcapgmhginoaaCnS2
import Derived.Test.YtodcapgmhginoaaCnS6
import Derived.Test.YtodcapgmhginoaaCnS5
import Derived.Test.YtodcapgmhginoaaCnS7
import Derived.Test.YtodcapgmhginoaaCnS8
import Derived.Test.YtodcapgmhginoaaCnS21
import Derived.Test.YtodcapgmhginoaaCnS22
import Derived.RangeFuncNested
import Derived.Shelf.RegionOpen
import Derived.WalkKit
import Derived.OwnWalkIn
import Derived.TacticsInMore
namespace Go.Proofs.Ytodcapgmhginoaa
open Go.RowKit
attribute [local go_sem] Oper.semAt_some

set_option maxRecDepth 100000 in
set_option maxHeartbeats 4000000 in
theorem impl_count_a {w' : World} {kv cv : Value} {t : Tr} (ht' : TreeA w' kv cv t) (hwt : t.weight ≤ 1048576) :
    Calls Try.prog 28 #[.agg #[kv, cv]] w' fun e w'' => e = .returned (.int .i64 t.count) ∧ Below w'.heap.size w' w'' := by
  obtain ⟨sA1, sA2, sA3, sA4, sA5, sA6, rfl, rfl⟩ := ht'.slices
  obtain ⟨W1, hW1⟩ : ∃ W1, W1 = w'.alloc (.cells #[.slice sA1 sA2 sA3, .slice sA4 sA5 sA6] 30) := ⟨_, rfl⟩
  have hs1 : W1.heap.size = w'.heap.size + 1 := by rw [hW1]; simp
  have hb1 : Below w'.heap.size w' W1 := by rw [hW1]; exact (Below.refl _ _).alloc (Nat.le_refl _) _
  have kb : W1.heap[w'.heap.size]? = some (.cells #[.slice sA1 sA2 sA3, .slice sA4 sA5 sA6] 30 (0, 0)) := by rw [hW1, new_blk]
  obtain ⟨a, ha1, ha2, ha3, ha4⟩ := (ht'.later hb1 (Nat.le_refl _)).at w'.heap.size 0 ⟨_, _, kb⟩ (box2 kb).1 (box2 kb).2.1
  have haw : a.weight ≤ 1048576 := by unfold ATr.weight; rw [ha3]; exact hwt
  have hit := steps_iter ha4 haw
  have had : a.addr = ⟨w'.heap.size, 0, none⟩ := by unfold ATr.addr; rw [ha1, ha2]
  rw [had] at hit
  have hcnt := begs_evs a
  rw [ha3] at hcnt
  have hcl : t.count ≤ 1048577 := by have := Tr.count_le t; omega
  have HIT := Lib.hid hit
  have HCNT := Lib.hid hcnt
  have HW1 := Lib.hid hW1
  have HB1 := Lib.hid hb1
  clear hit hcnt hW1 hb1 kb ht' ha1 ha2 ha3 ha4 haw had
  refine (callsIn_wide (n := 9)).1 (callsIn_of_wp_marks Try.func28 rfl trivial ?_ rfl)
  simp only [Try.ntmps28, List.size_toArray, List.length_cons, List.length_nil, Nat.reduceAdd, Nat.reduceSub, Array.replicate_succ, Array.replicate_zero, List.push_toArray, List.append_toArray, List.nil_append, List.cons_append]
  gi_wp2
  rw [← HW1.out]
  obtain ⟨W2, hW2⟩ : ∃ W2, W2 = W1.alloc (.cells #[.int .i64 0] 3) := ⟨_, rfl⟩
  rw [← hW2]
  have hs2 : W2.heap.size = w'.heap.size + 2 := by rw [hW2]; simp; omega
  have hk2 : ∀ K, Keep K W1 W2 := fun K => by rw [hW2]; exact Keep.alloc K _ _
  have b3 : W2.heap[w'.heap.size + 1]? = some (.cells #[.int .i64 0] 3 (0, 0)) := by rw [hW2, ← hs1]; exact new_blk _ _
  have B3 := Lib.hid b3
  clear hW2 b3
  refine wp_loopA (fb := #[.pointer (some ⟨w'.heap.size, 0, none⟩)]) (lb := #[]) rfl (enters_of Try.func70 (by kernel_rfl) rfl) HIT.out (hk2 _) (fun x => by cases x <;> rfl)
    (fun k => k < W1.heap.size) (fun k h => h) (fun k h => by omega)
    (fun pre Pv W => ¬ Pv (w'.heap.size + 1) ∧ W.heap[w'.heap.size + 1]? = some (.cells #[.int .i64 (begs pre)] 3 (0, 0)))
    (fun c pre Pv W => False)
    (fun pre Pv A Pv' B h hk hp => by
      obtain ⟨h1, h2⟩ := h
      have l2 := (Array.getElem?_eq_some_iff.1 h2).1
      refine ⟨fun h => ?_, (hk.block _ l2 h1).trans h2⟩
      rcases hp _ h with h | h
      · exact h1 h
      · omega)
    (fun c pre Pv A Pv' B h hk hp => h)
    ⟨by omega, B3.out⟩
    (fun x a' Pv W => ∃ bx, ¬ Pv bx ∧ bx ≠ w'.heap.size + 1 ∧ W.heap[bx]? = some (.cells #[.pointer (some x.node.addr), .int .i64 x.what, .int .i64 x.kk] 76 (0, 0)) ∧
      a' = { tmps := #[.agg #[.slice sA1 sA2 sA3, .slice sA4 sA5 sA6], .pointer (some ⟨w'.heap.size, 0, none⟩), .int .i64 0, .pointer (some ⟨w'.heap.size + 1, 0, none⟩), .pointer (some ⟨bx, 0, none⟩), .func (.func 70) #[.pointer (some ⟨w'.heap.size, 0, none⟩)] #[], .agg #[.pointer (some x.node.addr), .int .i64 x.what, .int .i64 x.kk], undef, undef, undef, undef, undef, undef], defers := [] })
    (fun x a' Pv A B h hk => by
      obtain ⟨bx, h1, h2, h3, h4⟩ := h
      exact ⟨bx, h1, h2, (hk.block _ (Array.getElem?_eq_some_iff.1 h3).1 h1).trans h3, h4⟩)
    ?assign ?body ?done ?stop
  case assign =>
    intro l m pre x Pv W hI hbnd
    rw [Step.enc_eq]
    have hI' := Lib.hid hI
    have HB := Lib.hid hbnd
    clear hI hbnd
    gi_wp2
    have hlt := (Array.getElem?_eq_some_iff.1 hI'.out.2).1
    refine ⟨Keep.alloc _ _ _, ⟨hI'.out.1, (old_blk _ _ _ hlt).trans hI'.out.2⟩, W.heap.size, fun h => ?_, by omega, new_blk _ _, rfl⟩
    have := HB.out _ h
    omega
  case body =>
    rintro l m pre x a' Pv W ⟨h1, h2⟩ ⟨bx, h3, h4, h5', rfl⟩ hkW hsub hbnd hp
    obtain ⟨c1, f1⟩ := box1 h2
    have c2 : W.cell? ⟨bx, 1, none⟩ = some (.int .i64 x.what) := by simp [World.cell?, h5']
    have hle : begs pre ≤ 1048577 := by
      obtain ⟨r, hr⟩ := hp
      have := HCNT.out
      rw [← hr, begs_append, begs_append] at this
      omega
    have hnx : begs (pre ++ [x]) = begs pre + begs [x] := begs_append _ _
    have HNX := Lib.hid hnx
    have H2 := Lib.hid h2
    clear hnx h2 h5' hp hsub hbnd hkW
    cases x with
    | beg b =>
      have hb : begs (pre ++ [Step.beg b]) = begs pre + 1 := by rw [HNX.out]; rfl
      have HBB := Lib.hid hb
      clear hb
      dsimp only [Step.what] at c2
      gi_wp2
      refine ⟨Keep.setCell _ _ _ _ h1, h1, ?_⟩
      rw [HBB.out]
      exact set_blk _ H2.out
    | key b k =>
      have hb : begs (pre ++ [Step.key b k]) = begs pre := by rw [HNX.out]; rfl
      have HBB := Lib.hid hb
      clear hb
      dsimp only [Step.what] at c2
      gi_wp2
      refine ⟨Keep.refl _ _, h1, ?_⟩
      rw [HBB.out]
      exact H2.out
    | fin b =>
      have hb : begs (pre ++ [Step.fin b]) = begs pre := by rw [HNX.out]; rfl
      have HBB := Lib.hid hb
      clear hb
      dsimp only [Step.what] at c2
      gi_wp2
      refine ⟨Keep.refl _ _, h1, ?_⟩
      rw [HBB.out]
      exact H2.out
  case done =>
    intro W3 hk3 hI hlt hD
    obtain ⟨h1, h2⟩ := hI
    rw [HCNT.out] at h2
    obtain ⟨c1, f1⟩ := box1 h2
    rw [hs2] at hD
    have HD := Lib.hid hD
    have H2 := Lib.hid h2
    clear h2 hD
    gi_wp2
    refine ⟨by simp, .inl ⟨_, _, rfl, run_takeDeferred HD.out, ?_⟩⟩
    refine ⟨_, results_tmp rfl _ _ _, rfl, ?_⟩
    have hk5 : Keep (fun k => k < W1.heap.size) W3 (W3.putObj (w'.heap.size + 2) (.deferred none)) := Keep.putObj _ _ _ _ (by omega)
    exact HB1.out.trans ((((hk2 _).trans hk3).trans hk5).below (B := w'.heap.size) (by omega) (fun k h => by omega))
  case stop =>
    rintro c pre' W3 hk3 hp h hlt hD
    exact h.elim
end Go.Proofs.Ytodcapgmhginoaa
