/- The contract of the program's RoomOf. -/
import Derived.Test.YtadbhjmpcnlbjaaProg
import Derived.Test.YtadbhjmpcnlbjaaBase
import Derived.Test.YtadbhjmpcnlbjaaTo
import Derived.Test.YtadbhjmpcnlbjaaNode
import Derived.Test.YtadbhjmpcnlbjaaAt
import Derived.Test.YtadbhjmpcnlbjaaStepData
import Derived.Test.YtadbhjmpcnlbjaaIter
import Derived.Test.YtadbhjmpcnlbjaaSteps
import Derived.Test.YtadbhjmpcnlbjaaStepUse
import Derived.Test.YtadbhjmpcnlbjaaStepMore
import Derived.Sort.QuietIn
import Derived.Test.YtadbhjmpcnlbjaaExRoom
import Derived.Test.YtadbhjmpcnlbjaaRoomData
import Derived.Test.YtadbhjmpcnlbjaaImValid
import Derived.RangeFuncNested
import Derived.Shelf.RegionOpen
import Derived.WalkKit
import Derived.OwnWalkIn
import Derived.TacticsInMore
namespace Go.Proofs.Ytadbhjmpcnlbjaa
open Go.RowKit
attribute [local go_sem] Oper.semAt_some

set_option maxRecDepth 100000 in
set_option maxHeartbeats 4000000 in
theorem impl_room : ImplRoomOf := by
  intro w0 lo kv cv t nn ht hwt hn1 hn2 w' hbw
  have ht' := ht.later hbw (Nat.le_refl _)
  obtain ⟨g5, h5, n5, m5, rfl, rfl⟩ := ht.slices
  obtain ⟨W1, hW1⟩ : ∃ W1, W1 = w'.alloc (.cells #[.slice (some ⟨g5, 0, none⟩) n5 n5, .slice (some ⟨h5, 0, none⟩) m5 m5] 30) := ⟨_, rfl⟩
  have hs1 : W1.heap.size = w'.heap.size + 1 := by rw [hW1]; simp
  have hb1 : Below w'.heap.size w' W1 := by rw [hW1]; exact (Below.refl _ _).alloc (Nat.le_refl _) _
  have kb : W1.heap[w'.heap.size]? = some (.cells #[.slice (some ⟨g5, 0, none⟩) n5 n5, .slice (some ⟨h5, 0, none⟩) m5 m5] 30 (0, 0)) := by rw [hW1, new_blk]
  obtain ⟨a, ha1, ha2, ha3, ha4⟩ := AT.of_new (ht'.later hb1 (Nat.le_refl _)) w'.heap.size 0 ⟨_, _, kb⟩ (box2 kb).1 (box2 kb).2.1
  have haw : a.weight ≤ 1048576 := by unfold ATr.weight; rw [ha3]; exact hwt
  have hit := steps_iter ha4 haw
  have had : a.addr = ⟨w'.heap.size, 0, none⟩ := by unfold ATr.addr; rw [ha1, ha2]
  rw [had] at hit
  have hcnt := begMost_evs a
  rw [ha3] at hcnt
  have hvc := impl_valid _ _ _ _ _ nn (ht'.tree hwt) hwt hn1 hn2 W1 hb1 (by omega)
  have HVC := Lib.hid hvc
  clear hvc
  have HA := Lib.hid ha4
  have hmix : Try.prog.follows .mixedOrders = true := by kernel_rfl
  have HIT := Lib.hid hit
  have HCNT := Lib.hid hcnt
  have HW1 := Lib.hid hW1
  have HB1 := Lib.hid hb1
  have HKB := Lib.hid kb
  clear hit hcnt hW1 hb1 ht ht' ha1 ha2 ha3 ha4 haw had hbw
  refine (callsIn_wide (n := 9)).1 (callsIn_of_wp_marks Try.func47 rfl trivial ?_ rfl)
  simp only [Try.ntmps47, List.size_toArray, List.length_cons, List.length_nil, Nat.reduceAdd, Nat.reduceSub, Array.replicate_succ, Array.replicate_zero, List.push_toArray, List.append_toArray, List.nil_append, List.cons_append]
  obtain ⟨x1, x2, x3, x4⟩ := box2 kb
  clear kb
  gi_wp2_with fail
  rw [← HW1.out]
  refine ⟨trivial, ?_⟩
  refine ((callsIn_wide (n := _)).2 HVC.out).mono ?_
  rintro e w2 ⟨rfl, hb2⟩
  have hs2' := hb2.size
  have k2 := (hb2.block _ (by omega)).trans HKB.out
  clear x1 x2 x3 x4
  obtain ⟨x1, x2, x3, x4⟩ := box2 k2
  have HB2 := Lib.hid (And.intro hb2 (HB1.out.trans (hb2.mono (by omega))))
  clear hb2 k2
  cases hv : Tr.validB nn t with
  | false =>
    have HV := Lib.hid (show Tr.roomB nn t = -1 by simp [Tr.roomB, hv])
    clear hv
    gi_wp2_with fail
    refine ⟨_, results_tmp rfl _ _ _, by rw [HV.out]; rfl, HB2.out.2⟩
  | true =>
  have hwd := Tr.valid_wide hv
  have hlm := Tr.valid_leafMax hv
  have HV := Lib.hid (show Tr.roomB nn t = nn - t.leafMax by simp [Tr.roomB, hv])
  have HLM := Lib.hid hlm
  clear hv hlm
  gi_wp2_with fail
  obtain ⟨W2, hW2⟩ : ∃ W2, W2 = w2.alloc (.cells #[.int .i64 0] 3) := ⟨_, rfl⟩
  rw [← hW2]
  have hs2 : W2.heap.size = w2.heap.size + 1 := by rw [hW2]; simp
  have hk2 : ∀ K : Nat → Prop, Keep K w2 W2 := fun K => by rw [hW2]; exact Keep.alloc K _ _
  have b3 : W2.heap[w2.heap.size]? = some (.cells #[.int .i64 0] 3 (0, 0)) := by rw [hW2]; exact new_blk _ _
  have B3 := Lib.hid b3
  clear hW2 b3 x1 x2 x3 x4
  refine wp_loopA (fb := #[.pointer (some ⟨w'.heap.size, 0, none⟩)]) (lb := #[]) rfl (enters_of Try.func61 (by kernel_rfl) rfl) HIT.out ((Keep.of_below HB2.out.1 (fun k _ h => h)).trans (hk2 _)) (fun x => by cases x <;> rfl)
    (fun k => k < w2.heap.size) (fun k h => by omega) (fun k h => by omega)
    (fun pre Pv W => ¬ Pv (w2.heap.size) ∧ W.heap[w2.heap.size]? = some (.cells #[.int .i64 (begMost pre)] 3 (0, 0)))
    (fun c pre Pv W => False)
    (fun pre Pv A Pv' B h hk hp => by
      obtain ⟨h1, h2⟩ := h
      have l2 := (Array.getElem?_eq_some_iff.1 h2).1
      refine ⟨fun h => ?_, (hk.block _ l2 h1).trans h2⟩
      rcases hp _ h with h | h
      · exact h1 h
      · omega)
    (fun c pre Pv A Pv' B h hk hp => h)
    ⟨by omega, B3.out⟩
    (fun x a' Pv W => ∃ bx, ¬ Pv bx ∧ bx ≠ w2.heap.size ∧ W.heap[bx]? = some (.cells #[.pointer (some x.node.addr), .int .i64 x.what, .int .i64 x.kk] 66 (0, 0)) ∧
      a' = { tmps := #[.agg #[.slice (some ⟨g5, 0, none⟩) n5 n5, .slice (some ⟨h5, 0, none⟩) m5 m5], .int .i64 nn, .pointer (some ⟨w'.heap.size, 0, none⟩), undef, .int .i64 0, .pointer (some ⟨w2.heap.size, 0, none⟩), .pointer (some ⟨bx, 0, none⟩), .agg #[.slice (some ⟨g5, 0, none⟩) n5 n5, .slice (some ⟨h5, 0, none⟩) m5 m5], .int .i64 nn, .bool true, .bool false, .func (.func 61) #[.pointer (some ⟨w'.heap.size, 0, none⟩)] #[], .agg #[.pointer (some x.node.addr), .int .i64 x.what, .int .i64 x.kk], undef, undef, undef, undef, undef, undef, undef, undef, undef, undef, undef, undef, undef, undef, undef, undef, undef, undef, undef, undef, undef, undef, undef], defers := [] })
    (fun x a' Pv A B h hk => by
      obtain ⟨bx, h1, h2, h3, h4⟩ := h
      exact ⟨bx, h1, h2, (hk.block _ (Array.getElem?_eq_some_iff.1 h3).1 h1).trans h3, h4⟩)
    ?assign ?body ?done ?stop
  case assign =>
    intro l m pre x Pv W hI hbnd
    rw [Step.enc_eq]
    have hI' := Lib.hid hI
    have HB := Lib.hid hbnd
    clear hI hbnd
    gi_wp2
    have hlt := (Array.getElem?_eq_some_iff.1 hI'.out.2).1
    refine ⟨Keep.alloc _ _ _, ⟨hI'.out.1, (old_blk _ _ _ hlt).trans hI'.out.2⟩, W.heap.size, fun h => ?_, by omega, new_blk _ _, rfl⟩
    have := HB.out _ h
    omega
  case body =>
    rintro l m pre x a' Pv W ⟨h1, h2⟩ ⟨bx, h3, h4, h5', rfl⟩ hkW hsub hbnd hp
    obtain ⟨c1, f1⟩ := box1 h2
    have c2 : W.cell? ⟨bx, 1, none⟩ = some (.int .i64 x.what) := by simp [World.cell?, h5']
    have c0 : W.cell? ⟨bx, 0, none⟩ = some (.pointer (some x.node.addr)) := by simp [World.cell?, h5']
    have hle : begMost pre ≤ 6 := by
      obtain ⟨r, hr⟩ := hp
      have := HCNT.out
      have h6 := HLM.out
      rw [← hr, begMost_append, begMost_append] at this
      omega
    have hnx : begMost (pre ++ [x]) = max (begMost pre) (begMost [x]) := begMost_append _ _
    have hx6 : begMost [x] ≤ 6 := by
      obtain ⟨r, hr⟩ := hp
      have := HCNT.out
      have h6 := HLM.out
      rw [← hr, begMost_append, begMost_append] at this
      omega
    have hkeep1 : ∀ k, k < W1.heap.size → W.heap[k]? = W1.heap[k]? := fun k hk => (hkW.block k (by omega) (by omega)).trans (((hk2 (fun _ => True)).block k (by omega) trivial).trans (HB2.out.1.block k hk))
    have hat := (evs_at HA.out (hp.subset (by simp : x ∈ pre ++ [x]))).later hkeep1
    have HAT := Lib.hid hat
    clear hkeep1 hat
    have HNX := Lib.hid hnx
    have H2 := Lib.hid h2
    clear hnx h2 h5' hp hsub hbnd hkW
    cases x with
    | beg b =>
      obtain ⟨g9, h9, _, z1, z2, _⟩ := HAT.out.parts
      dsimp only [Step.node] at z1 z2
      dsimp only [Step.what] at c2
      dsimp only [Step.node] at c0
      unfold ATr.addr at c0
      by_cases hn : b.cs.length = 0
      · have hn' : ((b.cs.length : Int) == 0) = true := by simp [hn]
        have hbb : begMost [Step.beg b] = b.ks.length := by simp [begMost, hn]
        rw [hbb] at hx6
        have HBB := Lib.hid hbb
        clear hbb hn
        gi_wp2
        gi_region_with_o (fail)
        all_goals (
          gi_wp2
          all_goals (
            refine ⟨(Keep.drew _ _).trans (Keep.setCell _ _ _ _ h1), h1, ?_⟩
            rw [HNX.out, HBB.out]
            refine (set_blk (w := W.drew) _ H2.out).trans ?_
            rename_i hmm
            first
              | (rw [show max (begMost pre) b.ks.length = b.ks.length by omega]; rfl)
              | (rw [show max (begMost pre) b.ks.length = begMost pre by omega]; rfl)))
      · have hn' : ((b.cs.length : Int) == 0) = false := by simpa using hn
        have hb : begMost (pre ++ [Step.beg b]) = begMost pre := by rw [HNX.out]; simp [begMost, hn]
        have HBB := Lib.hid hb
        clear hb hn
        gi_wp2
        refine ⟨Keep.refl _ _, h1, ?_⟩
        rw [HBB.out]
        exact H2.out
    | key b k =>
      have hb : begMost (pre ++ [Step.key b k]) = begMost pre := by rw [HNX.out]; simp [begMost]
      have HBB := Lib.hid hb
      clear hb
      dsimp only [Step.what] at c2
      gi_wp2
      refine ⟨Keep.refl _ _, h1, ?_⟩
      rw [HBB.out]
      exact H2.out
    | fin b =>
      have hb : begMost (pre ++ [Step.fin b]) = begMost pre := by rw [HNX.out]; simp [begMost]
      have HBB := Lib.hid hb
      clear hb
      dsimp only [Step.what] at c2
      gi_wp2
      refine ⟨Keep.refl _ _, h1, ?_⟩
      rw [HBB.out]
      exact H2.out
  case done =>
    intro W3 hk3 hI hlt hD
    obtain ⟨h1, h2⟩ := hI
    rw [HCNT.out] at h2
    obtain ⟨c1, f1⟩ := box1 h2
    rw [hs2] at hD
    have HD := Lib.hid hD
    have H2 := Lib.hid h2
    have hlm := HLM.out
    clear h2 hD
    gi_wp2
    refine ⟨by simp, .inl ⟨_, _, rfl, run_takeDeferred HD.out, ?_⟩⟩
    refine ⟨_, results_tmp rfl _ _ _, by rw [HV.out]; rfl, ?_⟩
    have hk5 : Keep (fun k => k < w2.heap.size) W3 (W3.putObj (w2.heap.size + 1) (.deferred none)) := Keep.putObj _ _ _ _ (by omega)
    exact HB2.out.2.trans ((((hk2 _).trans hk3).trans hk5).below (B := w'.heap.size) (by omega) (fun k h => by omega))
  case stop =>
    rintro c pre' W3 hk3 hp h hlt hD
    exact h.elim
end Go.Proofs.Ytadbhjmpcnlbjaa
