/- The contract, over plain blocks, of the program's KeysOf. -/
import Derived.Test.YtodcapgmhginoaaProg
import Derived.Test.YtodcapgmhginoaaKyS0
import Derived.Test.YtodcapgmhginoaaKyS2
import Derived.Test.YtodcapgmhginoaaKyS6
import Derived.Test.YtodcapgmhginoaaKyS5
import Derived.Test.YtodcapgmhginoaaKyS7
import Derived.Test.YtodcapgmhginoaaKyS8
import Derived.Test.YtodcapgmhginoaaKyS21
import Derived.Test.YtodcapgmhginoaaKyS22
import Derived.Test.YtodcapgmhginoaaKyS23
import Derived.Test.YtodcapgmhginoaaKyS1
import Derived.Test.YtodcapgmhginoaaKyS24
import Derived.Maps.OwnIn
import Derived.RangeFuncNested
import Derived.Shelf.RegionOpen
import Derived.WalkKit
import Derived.OwnWalkIn
import Derived.TacticsInMore
namespace Go.Proofs.Ytodcapgmhginoaa
open Go.RowKit
attribute [local go_sem] Oper.semAt_some

theorem ownsRow_keepA {w w' : World} {base : Nat} {e : TypeId} {size n : Nat} {v : Value} {xs : List Value} (h : w.ownsRow base e size v n xs) (hb : ∀ k, v.ownBlock = some k → w'.heap[k]? = w.heap[k]?) : w'.ownsRow base e size v n xs := by
  obtain ⟨h1, h2 | ⟨g, cap, cur, hv, hbb, hg, hr⟩⟩ := h
  · exact ⟨h1, .inl h2⟩
  · exact ⟨h1, .inr ⟨g, cap, cur, hv, hbb, (hb g (by rw [hv]; rfl)).trans hg, hr⟩⟩

set_option maxRecDepth 100000 in
set_option maxHeartbeats 4000000 in
theorem impl_keys_a {w' : World} {kv cv : Value} {t : Tr} (ht' : TreeA w' kv cv t) (hwt : t.weight ≤ 1048576) :
    Calls Try.prog 22 #[.agg #[kv, cv]] w' fun e w'' => ∃ v, e = .returned v ∧ IntsOwn w'' w'.heap.size v (t.keys) ∧ Below w'.heap.size w' w'' := by
  obtain ⟨sA1, sA2, sA3, sA4, sA5, sA6, rfl, rfl⟩ := ht'.slices
  obtain ⟨W1, hW1⟩ : ∃ W1, W1 = w'.alloc (.cells #[.slice sA1 sA2 sA3, .slice sA4 sA5 sA6] 30) := ⟨_, rfl⟩
  have hs1 : W1.heap.size = w'.heap.size + 1 := by rw [hW1]; simp
  have hb1 : Below w'.heap.size w' W1 := by rw [hW1]; exact (Below.refl _ _).alloc (Nat.le_refl _) _
  have kb : W1.heap[w'.heap.size]? = some (.cells #[.slice sA1 sA2 sA3, .slice sA4 sA5 sA6] 30 (0, 0)) := by rw [hW1, new_blk]
  obtain ⟨a, ha1, ha2, ha3, ha4⟩ := (ht'.later hb1 (Nat.le_refl _)).at w'.heap.size 0 ⟨_, _, kb⟩ (box2 kb).1 (box2 kb).2.1
  have haw : a.weight ≤ 1048576 := by unfold ATr.weight; rw [ha3]; exact hwt
  have hit := steps_iter ha4 haw
  have had : a.addr = ⟨w'.heap.size, 0, none⟩ := by unfold ATr.addr; rw [ha1, ha2]
  rw [had] at hit
  have hcnt := keysOf_evs a.weight a (Nat.le_refl _)
  rw [ha3] at hcnt
  have hcl : t.keys.length ≤ 1048576 := by have := Tr.keys_length_le t; omega
  obtain ⟨i0, hi0, hz0, hz1, hz2⟩ := info_parts Try.appInfo
  have HIT := Lib.hid hit
  have HCNT := Lib.hid hcnt
  have HW1 := Lib.hid hW1
  have HB1 := Lib.hid hb1
  clear hit hcnt hW1 hb1 kb ht' ha1 ha2 ha3 ha4 haw had
  refine (callsIn_wide (n := 9)).1 (callsIn_of_wp_marks Try.func22 rfl trivial ?_ rfl)
  simp only [Try.ntmps22, List.size_toArray, List.length_cons, List.length_nil, Nat.reduceAdd, Nat.reduceSub, Array.replicate_succ, Array.replicate_zero, List.push_toArray, List.append_toArray, List.nil_append, List.cons_append]
  gi_wp2
  rw [← HW1.out]
  obtain ⟨W2, hW2⟩ : ∃ W2, W2 = W1.alloc (.cells #[.slice none 0 0] 22) := ⟨_, rfl⟩
  rw [← hW2]
  have hs2 : W2.heap.size = w'.heap.size + 2 := by rw [hW2]; simp; omega
  have hk2 : ∀ K, Keep K W1 W2 := fun K => by rw [hW2]; exact Keep.alloc K _ _
  have b3 : W2.heap[w'.heap.size + 1]? = some (.cells #[.slice none 0 0] 22 (0, 0)) := by rw [hW2, ← hs1]; exact new_blk _ _
  have B3 := Lib.hid b3
  clear hW2 b3
  refine wp_loopA (fb := #[.pointer (some ⟨w'.heap.size, 0, none⟩)]) (lb := #[]) rfl (enters_of Try.func70 (by kernel_rfl) rfl) HIT.out (hk2 _) (fun x => by cases x <;> rfl)
    (fun k => k < W1.heap.size) (fun k h => h) (fun k h => by omega)
    (fun pre Pv W => ¬ Pv (w'.heap.size + 1) ∧ ∃ v, W.heap[w'.heap.size + 1]? = some (.cells #[v] 22 (0, 0)) ∧ IntsOwn W (w'.heap.size + 2) v (keysOf pre) ∧ ∀ k, v.ownBlock = some k → ¬ Pv k)
    (fun c pre Pv W => False)
    (fun pre Pv A Pv' B h hk hp => by
      obtain ⟨h1, v, h2, h3, h4⟩ := h
      have l2 := (Array.getElem?_eq_some_iff.1 h2).1
      refine ⟨fun h => ?_, v, (hk.block _ l2 h1).trans h2, ownsRow_keepA h3 (fun k e => hk.block _ (h3.lt k e).2 (h4 k e)), fun k e h => ?_⟩
      · rcases hp _ h with h | h
        · exact h1 h
        · omega
      · rcases hp _ h with h | h
        · exact h4 k e h
        · have := (h3.lt k e).2; omega)
    (fun c pre Pv A Pv' B h hk hp => h)
    ⟨by omega, _, B3.out, ⟨rfl, .inl ⟨rfl, rfl⟩⟩, fun k e => by cases e⟩
    (fun x a' Pv W => ∃ bx, ¬ Pv bx ∧ bx ≠ w'.heap.size + 1 ∧ W.heap[bx]? = some (.cells #[.pointer (some x.node.addr), .int .i64 x.what, .int .i64 x.kk] 76 (0, 0)) ∧
      a' = { tmps := #[.agg #[.slice sA1 sA2 sA3, .slice sA4 sA5 sA6], .pointer (some ⟨w'.heap.size, 0, none⟩), .slice none 0 0, .pointer (some ⟨w'.heap.size + 1, 0, none⟩), .pointer (some ⟨bx, 0, none⟩), .func (.func 70) #[.pointer (some ⟨w'.heap.size, 0, none⟩)] #[], .agg #[.pointer (some x.node.addr), .int .i64 x.what, .int .i64 x.kk], undef, undef, undef, undef, undef, undef, undef, undef, undef], defers := [] })
    (fun x a' Pv A B h hk => by
      obtain ⟨bx, h1, h2, h3, h4⟩ := h
      exact ⟨bx, h1, h2, (hk.block _ (Array.getElem?_eq_some_iff.1 h3).1 h1).trans h3, h4⟩)
    ?assign ?body ?done ?stop
  case assign =>
    intro l m pre x Pv W hI hbnd
    rw [Step.enc_eq]
    obtain ⟨h1, v, h2, h3, h4⟩ := hI
    have HI' := Lib.hid (And.intro h2 (And.intro h3 h4))
    have HB := Lib.hid hbnd
    clear h2 h3 h4 hbnd
    gi_wp2
    have hlt := (Array.getElem?_eq_some_iff.1 HI'.out.1).1
    refine ⟨Keep.alloc _ _ _, ⟨h1, v, (old_blk _ _ _ hlt).trans HI'.out.1, IntsOwn.alloc' HI'.out.2.1 _, HI'.out.2.2⟩, W.heap.size, fun h => ?_, by omega, new_blk _ _, rfl⟩
    have := HB.out _ h
    omega
  case body =>
    rintro l m pre x a' Pv W ⟨h1, v, h2, h3, h4⟩ ⟨bx, h5', h6, h7, rfl⟩ hkW hsub hbnd hp
    obtain ⟨va, vc, rfl⟩ := IntsOwn.shown h3
    obtain ⟨c1, f1⟩ := box1 h2
    have c2 : W.cell? ⟨bx, 1, none⟩ = some (.int .i64 x.what) := by simp [World.cell?, h7]
    have c3 : W.cell? ⟨bx, 2, none⟩ = some (.int .i64 x.kk) := by simp [World.cell?, h7]
    have hle : (keysOf pre).length + (keysOf [x]).length ≤ 1048576 := by
      obtain ⟨r, hr⟩ := hp
      have := HCNT.out
      rw [← hr, keysOf_append, keysOf_append] at this
      have h := congrArg List.length this
      simp only [List.length_append] at h
      omega
    have hnx : keysOf (pre ++ [x]) = keysOf pre ++ keysOf [x] := keysOf_append _ _
    have hszW : w'.heap.size + 2 ≤ W.heap.size := by have := hkW.size; omega
    have HNX := Lib.hid hnx
    have HH := Lib.hid (And.intro h2 (And.intro h3 h4))
    have HBND := Lib.hid hbnd
    clear hnx h2 h3 h4 h7 hp hsub hbnd hkW
    cases x with
    | beg b =>
      have hb : keysOf (pre ++ [Step.beg b]) = keysOf pre := by rw [HNX.out]; simp [keysOf]
      have HBB := Lib.hid hb
      clear hb
      dsimp only [Step.what] at c2
      gi_wp2
      refine ⟨Keep.refl _ _, h1, _, HH.out.1, ?_, HH.out.2.2⟩
      rw [HBB.out]
      exact HH.out.2.1
    | fin b =>
      have hb : keysOf (pre ++ [Step.fin b]) = keysOf pre := by rw [HNX.out]; simp [keysOf]
      have HBB := Lib.hid hb
      clear hb
      dsimp only [Step.what] at c2
      gi_wp2
      refine ⟨Keep.refl _ _, h1, _, HH.out.1, ?_, HH.out.2.2⟩
      rw [HBB.out]
      exact HH.out.2.1
    | key b k =>
      have hb : keysOf (pre ++ [Step.key b k]) = keysOf pre ++ [k] := by rw [HNX.out]; rfl
      have HBB := Lib.hid hb
      have hle' : (keysOf pre).length + 1 ≤ 1048576 := hle
      clear hb hle
      dsimp only [Step.what] at c2
      dsimp only [Step.kk] at c3
      have hown : (W.alloc (.cells #[.int .i64 k] 3)).ownsRow (w'.heap.size + 2) 3 1 (.slice va (keysOf pre).length vc) (keysOf pre).length ((keysOf pre).map (Value.int .i64)) := IntsOwn.alloc' HH.out.2.1 _
      have hbase : w'.heap.size + 2 ≤ (W.alloc (.cells #[.int .i64 k] 3)).heap.size := by simp; omega
      have HOWN := Lib.hid hown
      have HBASE := Lib.hid hbase
      clear hown hbase
      gi_wp2_with (gi_at_builtin; refine wpListIn_append_own_at _ (by rfl) _ _ _ (by rfl) (w'.heap.size + 2) 3 i0 _ 1 8 Try.underlying22 hi0 hz0 hz1 hz2 rfl (by decide) (.slice va (keysOf pre).length vc) (keysOf pre).length ((keysOf pre).map (Value.int .i64)) (by rfl) HOWN.out ⟨W.heap.size, 0, none⟩ 1 1 [.int .i64 k] (by rfl) (by rfl) (World.news_of_block (cs := #[.int .i64 k]) (t := 3) (fr := (0, 0)) (heap_alloc_new W _)) (by simp [Value.oneCell']) (by unfold maxLen; omega) (by omega) HBASE.out ?_; intro v8 w8 hown8 hgrow8 hnil8 hat8; obtain ⟨g8, cap8, rfl, _, _⟩ := hown8.form (by omega); have c1' := (hgrow8.cell_far ⟨w'.heap.size + 1, 0, none⟩ (by simp; omega) (fun e => absurd (show w'.heap.size + 2 ≤ w'.heap.size + 1 from (HOWN.out.lt _ e.symm).1) (by omega))).trans ((cell_of_blk (old_blk _ _ _ (by omega))).trans c1); have f1' := (hgrow8.frozen_far ⟨w'.heap.size + 1, 0, none⟩ (by simp; omega) (fun e => absurd (show w'.heap.size + 2 ≤ w'.heap.size + 1 from (HOWN.out.lt _ e.symm).1) (by omega))).trans ((World.frozen?_of_block (w := W) (old_blk _ _ _ (show w'.heap.size + 1 < W.heap.size by omega))).trans f1); have H8 := Lib.hid (And.intro hown8 (And.intro hgrow8 hat8)); clear hown8 hgrow8 hat8 hnil8)
      have hs8 : W.heap.size + 1 ≤ w8.heap.size := by have := H8.out.2.1.size; simpa using this
      have hold : ∀ q, q < W.heap.size → (Value.slice va (keysOf pre).length vc).ownBlock ≠ some q → w8.heap[q]? = W.heap[q]? := fun q h1 h2 => by
        rw [H8.out.2.1.block q (by simp; omega) (fun e => h2 e.symm), old_blk _ _ _ h1]
      have hob : ∀ q, (Value.slice va (keysOf pre).length vc).ownBlock = some q → w'.heap.size + 2 ≤ q := fun q h => (HOWN.out.lt q h).1
      have hk8 : Keep Pv W w8 := ⟨H8.out.2.1.os, H8.out.2.1.tape, H8.out.2.1.output, by omega, fun q h1 h2 => hold q h1 (fun e => HH.out.2.2 q e h2)⟩
      refine ⟨hk8.trans (Keep.setCell _ _ _ _ h1), h1, _, set_blk (o := 0) _ ((hold _ (by omega) (fun e => by have := hob _ e; omega)).trans HH.out.1), ?_, fun q e h => ?_⟩
      · rw [HBB.out]
        unfold IntsOwn
        rw [List.length_append, List.map_append]
        exact ownsRow_same H8.out.1 (fun q _ hq => set_other _ _ _ _ _ (by omega))
      · simp only [Value.ownBlock, Option.some.injEq] at e
        subst e
        rcases H8.out.2.2 with h' | h'
        · exact HH.out.2.2 _ h'.symm h
        · simp only [Value.ownBlock, Option.some.injEq, World.size_alloc] at h'
          have := HBND.out _ h
          omega
  case done =>
    intro W3 hk3 hI hlt hD
    obtain ⟨h1, v, h2, h3, h4⟩ := hI
    rw [HCNT.out] at h3
    obtain ⟨va, vc, rfl⟩ := IntsOwn.shown h3
    obtain ⟨c1, f1⟩ := box1 h2
    rw [hs2] at hD
    have hD4 : ∀ q, (Value.slice va t.keys.length vc).ownBlock = some q → q ≠ w'.heap.size + 2 := fun q e e2 => h4 q e (.inr (.inl (by omega)))
    have HD := Lib.hid hD
    have HH := Lib.hid (And.intro h3 hD4)
    clear h2 h3 h4 hD hD4
    gi_wp2
    refine ⟨by simp, .inl ⟨_, _, rfl, run_takeDeferred HD.out, ?_⟩⟩
    refine ⟨_, results_tmp rfl _ _ _, _, rfl, ?_, ?_⟩
    · exact IntsOwn.lower (lo := w'.heap.size + 2) (ownsRow_keepA HH.out.1 (fun q e => World.putObj_heap_other (HH.out.2 q e))) (by omega)
    · have hk5 : Keep (fun k => k < W1.heap.size) W3 (W3.putObj (w'.heap.size + 2) (.deferred none)) := Keep.putObj _ _ _ _ (by omega)
      exact HB1.out.trans ((((hk2 _).trans hk3).trans hk5).below (B := w'.heap.size) (by omega) (fun k h => by omega))
  case stop =>
    rintro c pre' W3 hk3 hp h hlt hD
    exact h.elim
end Go.Proofs.Ytodcapgmhginoaa
