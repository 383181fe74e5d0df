/- The contract, over plain blocks, of the program's FullNodes. -/
import Derived.Test.YtodcapgmhginoaaProg
import Derived.Test.YtodcapgmhginoaaFuS0
import Derived.Test.YtodcapgmhginoaaFuS2
import Derived.Test.YtodcapgmhginoaaFuS6
import Derived.Test.YtodcapgmhginoaaFuS5
import Derived.Test.YtodcapgmhginoaaFuS7
import Derived.Test.YtodcapgmhginoaaFuS8
import Derived.Test.YtodcapgmhginoaaFuS21
import Derived.Test.YtodcapgmhginoaaFuS22
import Derived.Test.YtodcapgmhginoaaFuS23
import Derived.Sort.QuietIn
import Derived.RangeFuncNested
import Derived.Shelf.RegionOpen
import Derived.WalkKit
import Derived.OwnWalkIn
import Derived.TacticsInMore
namespace Go.Proofs.Ytodcapgmhginoaa
open Go.RowKit
attribute [local go_sem] Oper.semAt_some

set_option maxRecDepth 100000 in
set_option maxHeartbeats 4000000 in
theorem impl_full_a {w' : World} {kv cv : Value} {t : Tr} (ht' : TreeA w' kv cv t) (hwt : t.weight ≤ 1048576) (nn : Int) (hn1 : -9223372036854775808 ≤ nn) (hn2 : nn ≤ 9223372036854775807) :
    Calls Try.prog 30 #[.agg #[kv, cv], .int .i64 nn] w' fun e w'' => e = .returned (.int .i64 (Tr.full nn t)) ∧ Below w'.heap.size w' w'' := by
  obtain ⟨sA1, sA2, sA3, sA4, sA5, sA6, rfl, rfl⟩ := ht'.slices
  obtain ⟨W1, hW1⟩ : ∃ W1, W1 = w'.alloc (.cells #[.slice sA1 sA2 sA3, .slice sA4 sA5 sA6] 30) := ⟨_, rfl⟩
  have hs1 : W1.heap.size = w'.heap.size + 1 := by rw [hW1]; simp
  have hb1 : Below w'.heap.size w' W1 := by rw [hW1]; exact (Below.refl _ _).alloc (Nat.le_refl _) _
  have kb : W1.heap[w'.heap.size]? = some (.cells #[.slice sA1 sA2 sA3, .slice sA4 sA5 sA6] 30 (0, 0)) := by rw [hW1, new_blk]
  obtain ⟨a, ha1, ha2, ha3, ha4⟩ := (ht'.later hb1 (Nat.le_refl _)).at w'.heap.size 0 ⟨_, _, kb⟩ (box2 kb).1 (box2 kb).2.1
  have haw : a.weight ≤ 1048576 := by unfold ATr.weight; rw [ha3]; exact hwt
  have hit := steps_iter ha4 haw
  have had : a.addr = ⟨w'.heap.size, 0, none⟩ := by unfold ATr.addr; rw [ha1, ha2]
  rw [had] at hit
  have hcnt := fullBegs_evs nn a
  rw [ha3] at hcnt
  have hcl : Tr.full nn t ≤ 1048577 := by have := Tr.count_le t; have := Tr.full_le nn t; omega
  have HA := Lib.hid ha4
  have hmix : Try.prog.follows .mixedOrders = true := by kernel_rfl
  have HIT := Lib.hid hit
  have HCNT := Lib.hid hcnt
  have HW1 := Lib.hid hW1
  have HB1 := Lib.hid hb1
  clear hit hcnt hW1 hb1 kb ht' ha1 ha2 ha3 ha4 haw had
  refine (callsIn_wide (n := 9)).1 (callsIn_of_wp_marks Try.func30 rfl trivial ?_ rfl)
  simp only [Try.ntmps30, List.size_toArray, List.length_cons, List.length_nil, Nat.reduceAdd, Nat.reduceSub, Array.replicate_succ, Array.replicate_zero, List.push_toArray, List.append_toArray, List.nil_append, List.cons_append]
  gi_wp2
  rw [← HW1.out]
  obtain ⟨W2, hW2⟩ : ∃ W2, W2 = (W1.alloc (.cells #[.int .i64 nn] 3)).alloc (.cells #[.int .i64 0] 3) := ⟨_, rfl⟩
  rw [← hW2]
  have hs2 : W2.heap.size = w'.heap.size + 3 := by rw [hW2]; simp; omega
  have hk2 : ∀ K, Keep K W1 W2 := fun K => by rw [hW2]; exact (Keep.alloc K _ _).trans (Keep.alloc K _ _)
  have b2 : W2.heap[w'.heap.size + 1]? = some (.cells #[.int .i64 nn] 3 (0, 0)) := by rw [hW2, old_blk _ _ _ (by simp; omega), ← hs1]; exact new_blk _ _
  have b3 : W2.heap[w'.heap.size + 2]? = some (.cells #[.int .i64 0] 3 (0, 0)) := by
    have h := new_blk (W1.alloc (.cells #[.int .i64 nn] 3)) (.cells #[.int .i64 0] 3)
    rw [World.size_alloc, hs1] at h
    rw [hW2]; exact h
  have B3 := Lib.hid (And.intro b3 b2)
  clear hW2 b3 b2
  refine wp_loopA (fb := #[.pointer (some ⟨w'.heap.size, 0, none⟩)]) (lb := #[]) rfl (enters_of Try.func70 (by kernel_rfl) rfl) HIT.out (hk2 _) (fun x => by cases x <;> rfl)
    (fun k => k < w'.heap.size + 2) (fun k h => by omega) (fun k h => by omega)
    (fun pre Pv W => ¬ Pv (w'.heap.size + 2) ∧ W.heap[w'.heap.size + 2]? = some (.cells #[.int .i64 (fullBegs nn pre)] 3 (0, 0)))
    (fun c pre Pv W => False)
    (fun pre Pv A Pv' B h hk hp => by
      obtain ⟨h1, h2⟩ := h
      have l2 := (Array.getElem?_eq_some_iff.1 h2).1
      refine ⟨fun h => ?_, (hk.block _ l2 h1).trans h2⟩
      rcases hp _ h with h | h
      · exact h1 h
      · omega)
    (fun c pre Pv A Pv' B h hk hp => h)
    ⟨by omega, B3.out.1⟩
    (fun x a' Pv W => ∃ bx, ¬ Pv bx ∧ bx ≠ w'.heap.size + 2 ∧ W.heap[bx]? = some (.cells #[.pointer (some x.node.addr), .int .i64 x.what, .int .i64 x.kk] 76 (0, 0)) ∧
      a' = { tmps := #[.agg #[.slice sA1 sA2 sA3, .slice sA4 sA5 sA6], .int .i64 nn, .pointer (some ⟨w'.heap.size, 0, none⟩), .pointer (some ⟨w'.heap.size + 1, 0, none⟩), .int .i64 0, .pointer (some ⟨w'.heap.size + 2, 0, none⟩), .pointer (some ⟨bx, 0, none⟩), .func (.func 70) #[.pointer (some ⟨w'.heap.size, 0, none⟩)] #[], .agg #[.pointer (some x.node.addr), .int .i64 x.what, .int .i64 x.kk], undef, undef, undef, undef, undef, undef, undef, undef, undef, undef, undef, undef, undef, undef, undef, undef], defers := [] })
    (fun x a' Pv A B h hk => by
      obtain ⟨bx, h1, h2, h3, h4⟩ := h
      exact ⟨bx, h1, h2, (hk.block _ (Array.getElem?_eq_some_iff.1 h3).1 h1).trans h3, h4⟩)
    ?assign ?body ?done ?stop
  case assign =>
    intro l m pre x Pv W hI hbnd
    rw [Step.enc_eq]
    have hI' := Lib.hid hI
    have HB := Lib.hid hbnd
    clear hI hbnd
    gi_wp2
    have hlt := (Array.getElem?_eq_some_iff.1 hI'.out.2).1
    refine ⟨Keep.alloc _ _ _, ⟨hI'.out.1, (old_blk _ _ _ hlt).trans hI'.out.2⟩, W.heap.size, fun h => ?_, by omega, new_blk _ _, rfl⟩
    have := HB.out _ h
    omega
  case body =>
    rintro l m pre x a' Pv W ⟨h1, h2⟩ ⟨bx, h3, h4, h5', rfl⟩ hkW hsub hbnd hp
    obtain ⟨c1, f1⟩ := box1 h2
    have c2 : W.cell? ⟨bx, 1, none⟩ = some (.int .i64 x.what) := by simp [World.cell?, h5']
    have c0 : W.cell? ⟨bx, 0, none⟩ = some (.pointer (some x.node.addr)) := by simp [World.cell?, h5']
    have hle : fullBegs nn pre ≤ 1048577 := by
      obtain ⟨r, hr⟩ := hp
      have := HCNT.out
      rw [← hr, fullBegs_append, fullBegs_append] at this
      omega
    have hnx : fullBegs nn (pre ++ [x]) = fullBegs nn pre + fullBegs nn [x] := fullBegs_append _ _ _
    have hcn : W.cell? ⟨w'.heap.size + 1, 0, none⟩ = some (.int .i64 nn) := (box1 ((hkW.block _ (by omega) (by omega)).trans B3.out.2)).1
    have hkeep1 : ∀ k, k < W1.heap.size → W.heap[k]? = W1.heap[k]? := fun k hk => (hkW.block k (by omega) (by omega)).trans ((hk2 (fun _ => True)).block k hk trivial)
    have hat := (evs_at HA.out (hp.subset (by simp : x ∈ pre ++ [x]))).later hkeep1
    have HAT := Lib.hid hat
    clear hkeep1 hat
    have HNX := Lib.hid hnx
    have H2 := Lib.hid h2
    clear hnx h2 h5' hp hsub hbnd hkW
    cases x with
    | beg b =>
      obtain ⟨_, _, _, _, _, _, _, _, _, z2, _⟩ := HAT.out.parts
      dsimp only [Step.node] at z2
      dsimp only [Step.what] at c2
      dsimp only [Step.node] at c0
      unfold ATr.addr at c0
      by_cases hn : (b.ks.length : Int) = nn
      · have hb : fullBegs nn (pre ++ [Step.beg b]) = fullBegs nn pre + 1 := by rw [HNX.out]; simp [fullBegs, hn]
        have HBB := Lib.hid hb
        have hnb : ((b.ks.length : Int) == nn) = true := by simp [hn]
        clear hb hn
        gi_wp2
        gi_region_with_o (fail)
        all_goals (
          gi_wp2
          refine ⟨(Keep.drew _ _).trans (Keep.setCell _ _ _ _ h1), h1, ?_⟩
          rw [HBB.out]
          exact set_blk (w := W.drew) _ H2.out)
      · have hb : fullBegs nn (pre ++ [Step.beg b]) = fullBegs nn pre := by rw [HNX.out]; simp [fullBegs, hn]
        have HBB := Lib.hid hb
        have hnb : ((b.ks.length : Int) == nn) = false := by rw [beq_eq_false_iff_ne]; exact hn
        clear hb hn
        gi_wp2
        gi_region_with_o (fail)
        all_goals (
          gi_wp2
          refine ⟨Keep.drew _ _, h1, ?_⟩
          rw [HBB.out]
          exact H2.out)
    | key b k =>
      have hb : fullBegs nn (pre ++ [Step.key b k]) = fullBegs nn pre := by rw [HNX.out]; rfl
      have HBB := Lib.hid hb
      clear hb
      dsimp only [Step.what] at c2
      gi_wp2
      gi_region_with_o (fail)
      all_goals (
        gi_wp2
        refine ⟨Keep.drew _ _, h1, ?_⟩
        rw [HBB.out]
        exact H2.out)
    | fin b =>
      have hb : fullBegs nn (pre ++ [Step.fin b]) = fullBegs nn pre := by rw [HNX.out]; rfl
      have HBB := Lib.hid hb
      clear hb
      dsimp only [Step.what] at c2
      gi_wp2
      gi_region_with_o (fail)
      all_goals (
        gi_wp2
        refine ⟨Keep.drew _ _, h1, ?_⟩
        rw [HBB.out]
        exact H2.out)
  case done =>
    intro W3 hk3 hI hlt hD
    obtain ⟨h1, h2⟩ := hI
    rw [HCNT.out] at h2
    obtain ⟨c1, f1⟩ := box1 h2
    rw [hs2] at hD
    have HD := Lib.hid hD
    have H2 := Lib.hid h2
    clear h2 hD
    gi_wp2
    refine ⟨by simp, .inl ⟨_, _, rfl, run_takeDeferred HD.out, ?_⟩⟩
    refine ⟨_, results_tmp rfl _ _ _, rfl, ?_⟩
    have hk5 : Keep (fun k => k < w'.heap.size + 2) W3 (W3.putObj (w'.heap.size + 3) (.deferred none)) := Keep.putObj _ _ _ _ (by omega)
    exact HB1.out.trans ((((hk2 _).trans hk3).trans hk5).below (B := w'.heap.size) (by omega) (fun k h => by omega))
  case stop =>
    rintro c pre' W3 hk3 hp h hlt hD
    exact h.elim
end Go.Proofs.Ytodcapgmhginoaa
