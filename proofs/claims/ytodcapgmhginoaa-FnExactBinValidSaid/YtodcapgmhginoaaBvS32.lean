/- The library's slices.Values over a row of ints: an iterator. -/
import Derived.Test.YtodcapgmhginoaaProg
import Derived.Test.YtodcapgmhginoaaBvS0
import Derived.Test.YtodcapgmhginoaaBvS1
import Derived.Test.YtodcapgmhginoaaBvS27
import Derived.Test.YtodcapgmhginoaaBvS10
import Derived.Test.YtodcapgmhginoaaBvS19
import Derived.Test.YtodcapgmhginoaaBvS29
import Derived.RangeFuncNested
import Derived.Shelf.RegionOpen
import Derived.WalkKit
import Derived.OwnWalkIn
import Derived.TacticsInMore
import Derived.LoopNIn
import Derived.LoopIn
import Derived.Sort.LoopGhostIn
import Derived.Sort.QuietIn
namespace Go.Proofs.Ytodcapgmhginoaa
open Go.RowKit
attribute [local go_sem] Oper.semAt_some

theorem values_c (w : World) (a : Option Addr) (n c : Nat) :
    Calls Try.prog 87 #[.slice a n c] w fun e w' => e = .returned (.func (.func 112) #[] #[.pointer (some ⟨w.heap.size, 0, none⟩)]) ∧ w' = w.alloc (.cells #[.slice a n c] 22) := by
  go_enter Try.func87, Try.ntmps87
  go_wp2_with fail
  go_ret
  exact ⟨rfl, rfl⟩

set_option maxRecDepth 100000 in
set_option maxHeartbeats 2000000 in
theorem values_iter {w : World} {box B : Nat} {v : Value} {ks : List Int} (hb : w.heap[box]? = some (.cells #[v] 22 (0, 0))) (hk : IntsIn w B v ks) (hl : ks.length ≤ 1048576) :
    Iter Try.prog 112 #[] #[.pointer (some ⟨box, 0, none⟩)] intEnc (fun k => k < w.heap.size) ks w := by
  intro l J Jx Pv W hkeep hRd hbnd hJ hJx hY h0
  obtain ⟨a, cap, rfl, k1, k2, k3, k4⟩ := hk
  have hbl : box < w.heap.size := (Array.getElem?_eq_some_iff.1 hb).1
  have hb' := (hkeep.block box hbl hbl).trans hb
  obtain ⟨x1, x2⟩ := box1 hb'
  obtain ⟨n, hn⟩ : ∃ n, n = ks.length := ⟨_, rfl⟩
  rw [← hn] at x1 hl
  have K4 := Lib.hid k4
  have HK := Lib.hid hkeep
  have HN := Lib.hid hn
  clear k4 hkeep hb hb' hn
  refine (callsIn_wide (n := 9)).1 (callsIn_of_wp Try.func112 rfl trivial ?_ rfl)
  simp only [Try.ntmps112, List.size_toArray, List.length_cons, List.length_nil, Nat.reduceAdd, Nat.reduceSub, Array.replicate_succ, Array.replicate_zero, List.push_toArray, List.append_toArray, List.nil_append, List.cons_append]
  gi_wp2
  gi_loopw [7] (fun i wr => ∃ (j : Nat), i = .int .i64 j ∧ j ≤ n ∧ J (ks.take j) Pv wr ∧ Keep Pv W wr) (fun i _ => n - (intOf i).toNat)
  case atStart => exact ⟨0, rfl, Nat.zero_le _, by simpa using h0, Keep.refl _ _⟩
  case round =>
    obtain ⟨j, rfl, hj, hJs, hkp⟩ := hrel
    by_cases hlt : j < n
    · have hlt' : j < ks.length := by rw [← HN.out]; exact hlt
      obtain ⟨g, o, rfl, hg, hce⟩ := K4.out.resolve_left (fun e => by rw [e] at hlt'; simp at hlt')
      obtain ⟨x, hx⟩ : ∃ x, x = ks.getD j 0 := ⟨_, rfl⟩
      have hcj : wr.cell? ⟨g, o + j, none⟩ = some (.int .i64 x) := by
        have h1 := hce j hlt'
        rw [← hx] at h1
        have h2 := World.block_lt_of_cell? w _ h1
        rw [← h1]
        exact World.cell?_of_block (w := w) (a := ⟨g, o + j, none⟩) ((hkp.block g (Nat.lt_of_lt_of_le h2 HK.out.size) (hRd g h2)).trans (HK.out.block g h2 h2))
      have hnx : ks.take (j + 1) = ks.take j ++ [x] := by rw [List.take_succ_eq_append_getElem hlt', hx]; simp [List.getD_eq_getElem?_getD, hlt']
      have hpre : ks.take j ++ [x] <+: ks := by rw [← hnx]; exact List.take_prefix _ _
      obtain ⟨fn, tmps, assign, body, hy, hR⟩ := hY _ x Pv wr hJs hkp (fun _ h => h) (fun k h => Nat.lt_of_lt_of_le (hbnd k h) hkp.size) hpre
      dsimp only [intEnc] at hy
      have HPRE := Lib.hid hpre
      have HNX := Lib.hid hnx
      have HKP := Lib.hid hkp
      clear hpre hnx hce hx hkp hlt'
      gi_wp2
      refine (hR _).mono ?_
      rintro e W3 ⟨hk3, (⟨rfl, hJ3⟩ | ⟨rfl, hJx3⟩)⟩
      · gi_wp2
        go_roundw
        case rel => exact ⟨j + 1, by go_num, by omega, by rw [HNX.out]; exact hJ3, HKP.out.trans hk3⟩
        case measure => simp [intOf]; omega
      · gi_wp2
        refine bodyPost_ret (results_none rfl _ _ _) rfl ?_
        exact ⟨⟨_, rfl⟩, HKP.out.trans hk3, .inr ⟨_, HPRE.out, hJx3⟩⟩
    · obtain rfl : j = n := by omega
      gi_wp2
      go_end0
      exact ⟨⟨_, rfl⟩, hkp, .inl (by rw [List.take_of_length_le (by rw [HN.out]; exact Nat.le_refl _)] at hJs; exact hJs)⟩
end Go.Proofs.Ytodcapgmhginoaa
