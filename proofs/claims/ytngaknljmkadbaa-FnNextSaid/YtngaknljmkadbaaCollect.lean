/- The contracts of slices.AppendSeq and slices.Collect over the keys of a node. -/
import Derived.Test.YtngaknljmkadbaaProg
import Derived.Test.YtngaknljmkadbaaBase
import Derived.Test.YtngaknljmkadbaaApp
import Derived.Test.YtngaknljmkadbaaAppIn
import Derived.Test.YtngaknljmkadbaaNode
import Derived.Test.YtngaknljmkadbaaIter
import Derived.Test.YtngaknljmkadbaaKeys
import Derived.Test.YtngaknljmkadbaaYield
import Derived.Test.YtngaknljmkadbaaAscends
import Derived.Test.YtngaknljmkadbaaDownAt
import Derived.RangeFuncNested
import Derived.Shelf.RegionOpen
import Derived.WalkKit
import Derived.OwnWalkIn
import Derived.TacticsInMore
namespace Go.Proofs.Ytngaknljmkadbaa
open Go.RowKit
attribute [local go_sem] Oper.semAt_some

set_option maxRecDepth 100000 in
set_option maxHeartbeats 4000000 in
theorem appendSeq_c {w : World} {lo hi b : Nat} {t : Tr} (ht : NodeIn w lo hi b t) (hwt : t.weight ≤ 1048576) (hhi : hi ≤ w.heap.size) :
    Calls Try.prog 98 #[.slice none 0 0, .func (.func 78) #[.pointer (some ⟨b, 0, none⟩)] #[]] w fun e w' => ∃ v, e = .returned v ∧ IntsOwn w' w.heap.size v t.keys ∧ Below w.heap.size w w' := by
  have hit := inOrder_iter ht hwt hhi
  have hkl := Tr.keys_length_le t
  have HIT := Lib.hid hit
  have hlt0 := ht.range
  clear hit ht
  refine (callsIn_wide (n := 9)).1 (callsIn_of_wp_marks Try.func98 rfl trivial ?_ rfl)
  simp only [Try.ntmps98, List.size_toArray, List.length_cons, List.length_nil, Nat.reduceAdd, Nat.reduceSub, Array.replicate_succ, Array.replicate_zero, List.push_toArray, List.append_toArray, List.nil_append, List.cons_append]
  gi_wp2
  obtain ⟨W2, hW2⟩ : ∃ W2, W2 = w.alloc (.cells #[.slice none 0 0] 23) := ⟨_, rfl⟩
  rw [← hW2]
  have hs2 : W2.heap.size = w.heap.size + 1 := by rw [hW2]; simp
  have hk2 : ∀ K, Keep K w W2 := fun K => by rw [hW2]; exact Keep.alloc K _ _
  have b3 : W2.heap[w.heap.size]? = some (.cells #[.slice none 0 0] 23 (0, 0)) := by rw [hW2, new_blk]
  have B3 := Lib.hid b3
  clear hW2 b3
  refine wp_loop (fb := #[.pointer (some ⟨b, 0, none⟩)]) (lb := #[]) rfl (enters_of Try.func78 (by kernel_rfl) rfl) HIT.out (hk2 _) (fun x => rfl)
    (fun k => k < w.heap.size) (fun k h => by omega) (fun k h => by omega)
    (fun pre Pv W => ¬ Pv w.heap.size ∧ ∃ v, W.heap[w.heap.size]? = some (.cells #[v] 23 (0, 0)) ∧ IntsOwn W (w.heap.size + 1) v pre ∧ ∀ k, v.ownBlock = some k → ¬ Pv k)
    (fun c pre Pv W => False)
    (fun pre Pv A Pv' B h hk hp => by
      obtain ⟨h1, v, h2, h3, h4⟩ := h
      have l2 := (Array.getElem?_eq_some_iff.1 h2).1
      refine ⟨fun h => ?_, v, (hk.block _ l2 h1).trans h2, ownsRow_held h3 (fun k e => hk.block _ (h3.lt k e).2 (h4 k e)), fun k e h => ?_⟩
      · exact (hp _ h).elim h1 (fun h => by omega)
      · exact (hp _ h).elim (h4 k e) (fun h => by have := (h3.lt k e).2; omega))
    (fun c pre Pv A Pv' B h hk hp => h)
    ⟨by omega, _, B3.out, ⟨rfl, .inl ⟨rfl, rfl⟩⟩, fun k e => by cases e⟩
    (fun x => { tmps := #[.slice none 0 0, .func (.func 78) #[.pointer (some ⟨b, 0, none⟩)] #[], .pointer (some ⟨w.heap.size, 0, none⟩), undef, .slice none 0 0, .int .i64 x, .func (.func 78) #[.pointer (some ⟨b, 0, none⟩)] #[], .int .i64 x, undef, undef, undef, undef, undef], defers := [] })
    ?assign ?body ?done ?stop
  case assign =>
    intro l' m x W' K hK
    dsimp only [intEnc]
    gi_wp2
    exact hK
  case body =>
    intro l' m pre x Pv W' hI hkW hsub hbnd hp
    obtain ⟨h1, v, h2, h3, h4⟩ := hI
    obtain ⟨va, vc, rfl⟩ := IntsOwn.shown h3
    obtain ⟨c1, f1⟩ := box1 h2
    have hlen : pre.length ≤ 1048577 := by have := hp.length_le; simp at this; omega
    have hbase : w.heap.size + 1 ≤ W'.heap.size := by have := hkW.size; omega
    have HH := Lib.hid (And.intro h2 (And.intro h3 h4))
    have HB := Lib.hid hbnd
    have HLN := Lib.hid hlen
    clear h2 h3 h4 hp hkW hsub hbnd hlen
    gi_wp2_with (gi_at_builtin; refine wpListIn_append_one (by rfl) _ _ (by rfl) (w.heap.size + 1) _ _ x (by rfl) HH.out.2.1 (by rfl) HLN.out hbase ?_; intro a8 c8 w8 L8 hL8 hown8 hk8 hat8; have hq6 := (hk8.block w.heap.size (by omega) (fun e => by have := (HH.out.2.1.lt _ e).1; omega)); have c6' := (cell_of_blk hq6).trans c1; have f6' := (World.frozen?_of_block hq6).trans f1; have H8 := Lib.hid (And.intro hown8 (And.intro hk8 hat8)); clear hown8 hk8 hat8 hq6)
    refine ⟨(H8.out.2.1.mono (fun k _ h e => HH.out.2.2 k e h)).trans (Keep.setCell _ _ _ _ h1), h1, _, set_blk (o := 0) _ ((H8.out.2.1.block w.heap.size (by omega) (fun e => by have := (HH.out.2.1.lt _ e).1; omega)).trans HH.out.1), ?_, fun k e hk => ?_⟩
    · rw [← hL8.out]
      exact ownsRow_held H8.out.1 (fun k e => set_other _ _ _ _ _ (by have := (H8.out.1.lt k e).1; omega))
    · rcases H8.out.2.2 with h | h
      · exact HH.out.2.2 k (h.symm.trans e) hk
      · rw [h] at e
        simp only [Option.some.injEq] at e
        have := HB.out k hk
        omega
  case done =>
    intro W3 hk3 hI hlt hD
    obtain ⟨h1, v, h2, h3, h4⟩ := hI
    obtain ⟨va, vc, rfl⟩ := IntsOwn.shown h3
    obtain ⟨c1, f1⟩ := box1 h2
    have hno : ∀ k, (Value.slice va t.keys.length vc).ownBlock = some k → k ≠ W2.heap.size := fun k e e2 => h4 k e (.inr (.inl e2))
    rw [hs2] at hD hno
    have HD := Lib.hid hD
    have HH := Lib.hid (And.intro h3 (And.intro hno hk3))
    clear h2 h3 h4 hD hno hk3
    gi_wp2
    refine ⟨by simp, .inl ⟨_, _, rfl, run_takeDeferred HD.out, ?_⟩⟩
    refine ⟨_, results_tmp rfl _ _ _, _, rfl, ?_, ?_⟩
    · exact IntsOwn.lower (lo := w.heap.size + 1) (ownsRow_held HH.out.1 (fun q e => World.putObj_heap_other (HH.out.2.1 q e))) (by omega)
    · exact (((hk2 _).trans HH.out.2.2).trans (Keep.putObj _ _ (w.heap.size + 1) (.deferred none) (show ¬ w.heap.size + 1 < w.heap.size by omega))).below (Nat.le_refl _) (fun k h => h)
  case stop =>
    rintro c pre' W3 hk3 hp h hlt hD
    exact h.elim

theorem collect_c {w : World} {lo hi b : Nat} {t : Tr} (ht : NodeIn w lo hi b t) (hwt : t.weight ≤ 1048576) (hhi : hi ≤ w.heap.size) :
    Calls Try.prog 77 #[.func (.func 78) #[.pointer (some ⟨b, 0, none⟩)] #[]] w fun e w' => ∃ v, e = .returned v ∧ IntsOwn w' w.heap.size v t.keys ∧ Below w.heap.size w w' := by
  have hc := appendSeq_c ht hwt hhi
  have HC := Lib.hid hc
  clear hc ht
  go_enter Try.func77, Try.ntmps77
  go_wp2_with fail
  refine HC.out.mono ?_
  rintro e w1 ⟨v, rfl, hv, hb⟩
  obtain ⟨va, vc, rfl⟩ := IntsOwn.shown hv
  have H := Lib.hid (And.intro hv hb)
  clear hv hb
  go_wp2_with fail
  go_ret
  exact ⟨_, rfl, H.out⟩
end Go.Proofs.Ytngaknljmkadbaa
