/- The contracts of the model's l1Sorted and TreeValid. -/
import Derived.Test.YtdcifdpkfcgmhaaDoorProg
import Derived.Test.YtdcifdpkfcgmhaaDoorCr0
import Derived.Test.YtdcifdpkfcgmhaaDoorCrS1
import Derived.Test.YtdcifdpkfcgmhaaDoorCr8
import Derived.Test.YtdcifdpkfcgmhaaDoorCr1
import Derived.Test.YtdcifdpkfcgmhaaDoorCr9
import Derived.Test.YtdcifdpkfcgmhaaDoorCrS8
import Derived.Test.YtdcifdpkfcgmhaaDoorCrS9
import Derived.Test.YtdcifdpkfcgmhaaDoorCr10
import Derived.Maps.OwnIn
import Derived.RangeFuncNested
import Derived.Shelf.RegionOpen
import Derived.WalkKit
import Derived.OwnWalkIn
import Derived.TacticsInMore
import Derived.Test.YtdcifdpkfcgmhaaDoorCrS2
import Derived.Test.YtdcifdpkfcgmhaaDoorCr4
import Derived.Test.YtdcifdpkfcgmhaaDoorCr5
import Derived.Deep.RegionWith
import Derived.Deep.QuietTactic
import Derived.BigQuiet
import Derived.WalkSmall
import Derived.Deep.RegionHeld3

/- The contract, over plain blocks, of the program's KeysOf. -/
namespace Go.Proofs.YtdcifdpkfcgmhaaDoor
open Go.RowKit
attribute [local go_sem] Oper.semAt_some

theorem ownsRow_keepA {w w' : World} {base : Nat} {e : TypeId} {size n : Nat} {v : Value} {xs : List Value} (h : w.ownsRow base e size v n xs) (hb : ∀ k, v.ownBlock = some k → w'.heap[k]? = w.heap[k]?) : w'.ownsRow base e size v n xs := by
  obtain ⟨h1, h2 | ⟨g, cap, cur, hv, hbb, hg, hr⟩⟩ := h
  · exact ⟨h1, .inl h2⟩
  · exact ⟨h1, .inr ⟨g, cap, cur, hv, hbb, (hb g (by rw [hv]; rfl)).trans hg, hr⟩⟩

set_option maxRecDepth 100000 in
set_option maxHeartbeats 4000000 in
theorem impl_keys_a {w' : World} {kv cv : Value} {t : Tr} (ht' : TreeA w' kv cv t) (hwt : t.weight ≤ 1048576) :
    Calls Tryd.prog 36 #[.agg #[kv, cv]] w' fun e w'' => ∃ v, e = .returned v ∧ IntsOwn w'' w'.heap.size v (t.keys) ∧ Below w'.heap.size w' w'' := by
  obtain ⟨sA1, sA2, sA3, sA4, sA5, sA6, rfl, rfl⟩ := ht'.slices
  obtain ⟨W1, hW1⟩ : ∃ W1, W1 = w'.alloc (.cells #[.slice sA1 sA2 sA3, .slice sA4 sA5 sA6] 33) := ⟨_, rfl⟩
  have hs1 : W1.heap.size = w'.heap.size + 1 := by rw [hW1]; simp
  have hb1 : Below w'.heap.size w' W1 := by rw [hW1]; exact (Below.refl _ _).alloc (Nat.le_refl _) _
  have kb : W1.heap[w'.heap.size]? = some (.cells #[.slice sA1 sA2 sA3, .slice sA4 sA5 sA6] 33 (0, 0)) := by rw [hW1, new_blk]
  obtain ⟨a, ha1, ha2, ha3, ha4⟩ := (ht'.later hb1 (Nat.le_refl _)).at w'.heap.size 0 ⟨_, _, kb⟩ (box2 kb).1 (box2 kb).2.1
  have haw : a.weight ≤ 1048576 := by unfold ATr.weight; rw [ha3]; exact hwt
  have hit := steps_iter ha4 haw
  have had : a.addr = ⟨w'.heap.size, 0, none⟩ := by unfold ATr.addr; rw [ha1, ha2]
  rw [had] at hit
  have hcnt := keysOf_evs a.weight a (Nat.le_refl _)
  rw [ha3] at hcnt
  have hcl : t.keys.length ≤ 1048576 := by have := Tr.keys_length_le t; omega
  obtain ⟨i0, hi0, hz0, hz1, hz2⟩ := info_parts Tryd.appInfo
  have HIT := Lib.hid hit
  have HCNT := Lib.hid hcnt
  have HW1 := Lib.hid hW1
  have HB1 := Lib.hid hb1
  clear hit hcnt hW1 hb1 kb ht' ha1 ha2 ha3 ha4 haw had
  refine (callsIn_wide (n := 9)).1 (callsIn_of_wp_marks Tryd.func36 rfl trivial ?_ rfl)
  simp only [Tryd.ntmps36, List.size_toArray, List.length_cons, List.length_nil, Nat.reduceAdd, Nat.reduceSub, Array.replicate_succ, Array.replicate_zero, List.push_toArray, List.append_toArray, List.nil_append, List.cons_append]
  gi_wp2
  rw [← HW1.out]
  obtain ⟨W2, hW2⟩ : ∃ W2, W2 = W1.alloc (.cells #[.slice none 0 0] 22) := ⟨_, rfl⟩
  rw [← hW2]
  have hs2 : W2.heap.size = w'.heap.size + 2 := by rw [hW2]; simp; omega
  have hk2 : ∀ K, Keep K W1 W2 := fun K => by rw [hW2]; exact Keep.alloc K _ _
  have b3 : W2.heap[w'.heap.size + 1]? = some (.cells #[.slice none 0 0] 22 (0, 0)) := by rw [hW2, ← hs1]; exact new_blk _ _
  have B3 := Lib.hid b3
  clear hW2 b3
  refine wp_loopA (fb := #[.pointer (some ⟨w'.heap.size, 0, none⟩)]) (lb := #[]) rfl (enters_of Tryd.func79 (by kernel_rfl) rfl) HIT.out (hk2 _) (fun x => by cases x <;> rfl)
    (fun k => k < W1.heap.size) (fun k h => h) (fun k h => by omega)
    (fun pre Pv W => ¬ Pv (w'.heap.size + 1) ∧ ∃ v, W.heap[w'.heap.size + 1]? = some (.cells #[v] 22 (0, 0)) ∧ IntsOwn W (w'.heap.size + 2) v (keysOf pre) ∧ ∀ k, v.ownBlock = some k → ¬ Pv k)
    (fun c pre Pv W => False)
    (fun pre Pv A Pv' B h hk hp => by
      obtain ⟨h1, v, h2, h3, h4⟩ := h
      have l2 := (Array.getElem?_eq_some_iff.1 h2).1
      refine ⟨fun h => ?_, v, (hk.block _ l2 h1).trans h2, ownsRow_keepA h3 (fun k e => hk.block _ (h3.lt k e).2 (h4 k e)), fun k e h => ?_⟩
      · rcases hp _ h with h | h
        · exact h1 h
        · omega
      · rcases hp _ h with h | h
        · exact h4 k e h
        · have := (h3.lt k e).2; omega)
    (fun c pre Pv A Pv' B h hk hp => h)
    ⟨by omega, _, B3.out, ⟨rfl, .inl ⟨rfl, rfl⟩⟩, fun k e => by cases e⟩
    (fun x a' Pv W => ∃ bx, ¬ Pv bx ∧ bx ≠ w'.heap.size + 1 ∧ W.heap[bx]? = some (.cells #[.pointer (some x.node.addr), .int .i64 x.what, .int .i64 x.kk] 91 (0, 0)) ∧
      a' = { tmps := #[.agg #[.slice sA1 sA2 sA3, .slice sA4 sA5 sA6], .pointer (some ⟨w'.heap.size, 0, none⟩), .slice none 0 0, .pointer (some ⟨w'.heap.size + 1, 0, none⟩), .pointer (some ⟨bx, 0, none⟩), .func (.func 79) #[.pointer (some ⟨w'.heap.size, 0, none⟩)] #[], .agg #[.pointer (some x.node.addr), .int .i64 x.what, .int .i64 x.kk], undef, undef, undef, undef, undef, undef, undef, undef, undef], defers := [] })
    (fun x a' Pv A B h hk => by
      obtain ⟨bx, h1, h2, h3, h4⟩ := h
      exact ⟨bx, h1, h2, (hk.block _ (Array.getElem?_eq_some_iff.1 h3).1 h1).trans h3, h4⟩)
    ?assign ?body ?done ?stop
  case assign =>
    intro l m pre x Pv W hI hbnd
    rw [Step.enc_eq]
    obtain ⟨h1, v, h2, h3, h4⟩ := hI
    have HI' := Lib.hid (And.intro h2 (And.intro h3 h4))
    have HB := Lib.hid hbnd
    clear h2 h3 h4 hbnd
    gi_wp2
    have hlt := (Array.getElem?_eq_some_iff.1 HI'.out.1).1
    refine ⟨Keep.alloc _ _ _, ⟨h1, v, (old_blk _ _ _ hlt).trans HI'.out.1, IntsOwn.alloc' HI'.out.2.1 _, HI'.out.2.2⟩, W.heap.size, fun h => ?_, by omega, new_blk _ _, rfl⟩
    have := HB.out _ h
    omega
  case body =>
    rintro l m pre x a' Pv W ⟨h1, v, h2, h3, h4⟩ ⟨bx, h5', h6, h7, rfl⟩ hkW hsub hbnd hp
    obtain ⟨va, vc, rfl⟩ := IntsOwn.shown h3
    obtain ⟨c1, f1⟩ := box1 h2
    have c2 : W.cell? ⟨bx, 1, none⟩ = some (.int .i64 x.what) := by simp [World.cell?, h7]
    have c3 : W.cell? ⟨bx, 2, none⟩ = some (.int .i64 x.kk) := by simp [World.cell?, h7]
    have hle : (keysOf pre).length + (keysOf [x]).length ≤ 1048576 := by
      obtain ⟨r, hr⟩ := hp
      have := HCNT.out
      rw [← hr, keysOf_append, keysOf_append] at this
      have h := congrArg List.length this
      simp only [List.length_append] at h
      omega
    have hnx : keysOf (pre ++ [x]) = keysOf pre ++ keysOf [x] := keysOf_append _ _
    have hszW : w'.heap.size + 2 ≤ W.heap.size := by have := hkW.size; omega
    have HNX := Lib.hid hnx
    have HH := Lib.hid (And.intro h2 (And.intro h3 h4))
    have HBND := Lib.hid hbnd
    clear hnx h2 h3 h4 h7 hp hsub hbnd hkW
    cases x with
    | beg b =>
      have hb : keysOf (pre ++ [Step.beg b]) = keysOf pre := by rw [HNX.out]; simp [keysOf]
      have HBB := Lib.hid hb
      clear hb
      dsimp only [Step.what] at c2
      gi_wp2
      refine ⟨Keep.refl _ _, h1, _, HH.out.1, ?_, HH.out.2.2⟩
      rw [HBB.out]
      exact HH.out.2.1
    | fin b =>
      have hb : keysOf (pre ++ [Step.fin b]) = keysOf pre := by rw [HNX.out]; simp [keysOf]
      have HBB := Lib.hid hb
      clear hb
      dsimp only [Step.what] at c2
      gi_wp2
      refine ⟨Keep.refl _ _, h1, _, HH.out.1, ?_, HH.out.2.2⟩
      rw [HBB.out]
      exact HH.out.2.1
    | key b k =>
      have hb : keysOf (pre ++ [Step.key b k]) = keysOf pre ++ [k] := by rw [HNX.out]; rfl
      have HBB := Lib.hid hb
      have hle' : (keysOf pre).length + 1 ≤ 1048576 := hle
      clear hb hle
      dsimp only [Step.what] at c2
      dsimp only [Step.kk] at c3
      have hown : (W.alloc (.cells #[.int .i64 k] 3)).ownsRow (w'.heap.size + 2) 3 1 (.slice va (keysOf pre).length vc) (keysOf pre).length ((keysOf pre).map (Value.int .i64)) := IntsOwn.alloc' HH.out.2.1 _
      have hbase : w'.heap.size + 2 ≤ (W.alloc (.cells #[.int .i64 k] 3)).heap.size := by simp; omega
      have HOWN := Lib.hid hown
      have HBASE := Lib.hid hbase
      clear hown hbase
      gi_wp2_with (gi_at_builtin; refine wpListIn_append_own_at _ (by rfl) _ _ _ (by rfl) (w'.heap.size + 2) 3 i0 _ 1 8 Tryd.underlying22 hi0 hz0 hz1 hz2 rfl (by decide) (.slice va (keysOf pre).length vc) (keysOf pre).length ((keysOf pre).map (Value.int .i64)) (by rfl) HOWN.out ⟨W.heap.size, 0, none⟩ 1 1 [.int .i64 k] (by rfl) (by rfl) (World.news_of_block (cs := #[.int .i64 k]) (t := 3) (fr := (0, 0)) (heap_alloc_new W _)) (by simp [Value.oneCell']) (by unfold maxLen; omega) (by omega) HBASE.out ?_; intro v8 w8 hown8 hgrow8 hnil8 hat8; obtain ⟨g8, cap8, rfl, _, _⟩ := hown8.form (by omega); have c1' := (hgrow8.cell_far ⟨w'.heap.size + 1, 0, none⟩ (by simp; omega) (fun e => absurd (show w'.heap.size + 2 ≤ w'.heap.size + 1 from (HOWN.out.lt _ e.symm).1) (by omega))).trans ((cell_of_blk (old_blk _ _ _ (by omega))).trans c1); have f1' := (hgrow8.frozen_far ⟨w'.heap.size + 1, 0, none⟩ (by simp; omega) (fun e => absurd (show w'.heap.size + 2 ≤ w'.heap.size + 1 from (HOWN.out.lt _ e.symm).1) (by omega))).trans ((World.frozen?_of_block (w := W) (old_blk _ _ _ (show w'.heap.size + 1 < W.heap.size by omega))).trans f1); have H8 := Lib.hid (And.intro hown8 (And.intro hgrow8 hat8)); clear hown8 hgrow8 hat8 hnil8)
      have hs8 : W.heap.size + 1 ≤ w8.heap.size := by have := H8.out.2.1.size; simpa using this
      have hold : ∀ q, q < W.heap.size → (Value.slice va (keysOf pre).length vc).ownBlock ≠ some q → w8.heap[q]? = W.heap[q]? := fun q h1 h2 => by
        rw [H8.out.2.1.block q (by simp; omega) (fun e => h2 e.symm), old_blk _ _ _ h1]
      have hob : ∀ q, (Value.slice va (keysOf pre).length vc).ownBlock = some q → w'.heap.size + 2 ≤ q := fun q h => (HOWN.out.lt q h).1
      have hk8 : Keep Pv W w8 := ⟨H8.out.2.1.os, H8.out.2.1.tape, H8.out.2.1.output, by omega, fun q h1 h2 => hold q h1 (fun e => HH.out.2.2 q e h2)⟩
      refine ⟨hk8.trans (Keep.setCell _ _ _ _ h1), h1, _, set_blk (o := 0) _ ((hold _ (by omega) (fun e => by have := hob _ e; omega)).trans HH.out.1), ?_, fun q e h => ?_⟩
      · rw [HBB.out]
        unfold IntsOwn
        rw [List.length_append, List.map_append]
        exact ownsRow_same H8.out.1 (fun q _ hq => set_other _ _ _ _ _ (by omega))
      · simp only [Value.ownBlock, Option.some.injEq] at e
        subst e
        rcases H8.out.2.2 with h' | h'
        · exact HH.out.2.2 _ h'.symm h
        · simp only [Value.ownBlock, Option.some.injEq, World.size_alloc] at h'
          have := HBND.out _ h
          omega
  case done =>
    intro W3 hk3 hI hlt hD
    obtain ⟨h1, v, h2, h3, h4⟩ := hI
    rw [HCNT.out] at h3
    obtain ⟨va, vc, rfl⟩ := IntsOwn.shown h3
    obtain ⟨c1, f1⟩ := box1 h2
    rw [hs2] at hD
    have hD4 : ∀ q, (Value.slice va t.keys.length vc).ownBlock = some q → q ≠ w'.heap.size + 2 := fun q e e2 => h4 q e (.inr (.inl (by omega)))
    have HD := Lib.hid hD
    have HH := Lib.hid (And.intro h3 hD4)
    clear h2 h3 h4 hD hD4
    gi_wp2
    refine ⟨by simp, .inl ⟨_, _, rfl, run_takeDeferred HD.out, ?_⟩⟩
    refine ⟨_, results_tmp rfl _ _ _, _, rfl, ?_, ?_⟩
    · exact IntsOwn.lower (lo := w'.heap.size + 2) (ownsRow_keepA HH.out.1 (fun q e => World.putObj_heap_other (HH.out.2 q e))) (by omega)
    · have hk5 : Keep (fun k => k < W1.heap.size) W3 (W3.putObj (w'.heap.size + 2) (.deferred none)) := Keep.putObj _ _ _ _ (by omega)
      exact HB1.out.trans ((((hk2 _).trans hk3).trans hk5).below (B := w'.heap.size) (by omega) (fun k h => by omega))
  case stop =>
    rintro c pre' W3 hk3 hp h hlt hD
    exact h.elim
end Go.Proofs.YtdcifdpkfcgmhaaDoor

/- The contracts of the model's l1Sorted and TreeValid. -/
namespace Go.Proofs.YtdcifdpkfcgmhaaDoor
open Go.RowKit

/-- Whether number i of a list is a key, and greater than the one ahead. -/
def okAt (ks : List Int) (i : Nat) : Bool := inB (ks.getD i 0) 0 99 && (decide (i = 0) || decide (ks.getD (i - 1) 0 < ks.getD i 0))
def sortedB (ks : List Int) : Bool := (List.range ks.length).all (okAt ks)
theorem sortedB_of {ks : List Int} (h : ∀ i, i < ks.length → okAt ks i = true) : sortedB ks = true := by
  simp only [sortedB, List.all_eq_true, List.mem_range]; exact h
theorem sortedB_not {ks : List Int} (i : Nat) (hi : i < ks.length) (h : okAt ks i = false) : sortedB ks = false := by
  cases hh : sortedB ks with
  | false => rfl
  | true =>
    simp only [sortedB, List.all_eq_true, List.mem_range] at hh
    rw [hh i hi] at h; cases h

set_option maxHeartbeats 1000000 in
theorem l1Sorted_c (ks : List Int) (v : Value) (w : World) (B : Nat) (_hB : B ≤ w.heap.size) (hk : IntsIn w B v ks) :
    Calls Tryd.prog 126 #[v] w fun e w' => e = .returned (.bool (sortedB ks)) ∧ w = w' := by
  obtain ⟨a, cap, rfl, h1, h2, _, h3⟩ := hk
  unfold maxLen at h2
  have HK := Lib.hid h3
  clear h3
  go_enter Tryd.func126, Tryd.ntmps126
  go_wp2_with fail
  go_loop [7] (fun i => ∃ (j : Nat), j ≤ ks.length ∧ i = .int .i64 j ∧ (∀ i, i < j → okAt ks i = true)) (fun i => ks.length - (intOf i).toNat)
  case atStart => exact ⟨0, Nat.zero_le _, rfl, fun i h => by omega⟩
  case round =>
    obtain ⟨j, hj, rfl, hall⟩ := hrel
    have HALL := Lib.hid hall
    clear hall
    by_cases hlt : j < ks.length
    · rcases HK.out with h | ⟨b, off, rfl, hb, hat⟩
      · simp [h] at hlt
      have ha1 := hat j hlt
      obtain ⟨x, hx⟩ : ∃ x, x = ks.getD j 0 := ⟨_, rfl⟩
      rw [← hx] at ha1
      have HX := Lib.hid hx
      clear hx
      by_cases hin : 0 ≤ x ∧ x ≤ 99
      · have hin' := inB_true hin.1 hin.2
        rcases Nat.eq_zero_or_pos j with hj0 | hj0
        · have hok : okAt ks j = true := by simp only [okAt, ← HX.out, hin']; simp [hj0]
          have HOK := Lib.hid hok
          have hgt : ¬ (0 : Int) < j := by omega
          clear hok hat
          have HJ0 := Lib.hid hj0
          clear hj0
          go_wp2_with fail
          refine (l1In_c x 0 99 _).mono ?_
          rintro e w1 ⟨rfl, rfl⟩
          rw [hin']
          go_wp2_with fail
          go_round
          case rel =>
            refine ⟨j + 1, by omega, by go_num, fun i hi => ?_⟩
            by_cases e : i = j
            · subst e; exact HOK.out
            · exact HALL.out i (by omega)
          case measure => simp [intOf]; omega
        · have ha2 := hat (j - 1) (by omega)
          obtain ⟨y, hy⟩ : ∃ y, y = ks.getD (j - 1) 0 := ⟨_, rfl⟩
          rw [← hy] at ha2
          have HY := Lib.hid hy
          obtain ⟨m, rfl⟩ : ∃ m, j = m + 1 := ⟨j - 1, by omega⟩
          rw [Nat.add_sub_cancel] at ha2
          clear hy hat
          by_cases hyx : y < x
          · have hok : okAt ks (m + 1) = true := by
              have h1 := HY.out; rw [Nat.add_sub_cancel] at h1
              simp only [okAt, ← HX.out, hin', Nat.add_sub_cancel, ← h1]; simp [hyx]
            have HOK := Lib.hid hok
            clear hok
            go_wp2_with fail
            refine (l1In_c x 0 99 _).mono ?_
            rintro e w1 ⟨rfl, rfl⟩
            rw [hin']
            go_wp2_with fail
            go_round
            case rel =>
              refine ⟨m + 1 + 1, by omega, by go_num, fun i hi => ?_⟩
              by_cases e : i = m + 1
              · subst e; exact HOK.out
              · exact HALL.out i (by omega)
            case measure => simp [intOf]; omega
          · have hok : okAt ks (m + 1) = false := by
              have h1 := HY.out; rw [Nat.add_sub_cancel] at h1
              simp only [okAt, ← HX.out, hin', Nat.add_sub_cancel, ← h1]; simp [hyx]
            have HOK := Lib.hid hok
            clear hok
            go_wp2_with fail
            refine (l1In_c x 0 99 _).mono ?_
            rintro e w1 ⟨rfl, rfl⟩
            rw [hin']
            go_wp2_with fail
            go_ret
            exact ⟨ret_bool (sortedB_not _ hlt HOK.out).symm, rfl⟩
      · have hin' := inB_false hin
        have hok : okAt ks j = false := by simp only [okAt, ← HX.out, hin']; rfl
        have HOK := Lib.hid hok
        clear hok hin hat
        go_wp2_with fail
        refine (l1In_c x 0 99 _).mono ?_
        rintro e w1 ⟨rfl, rfl⟩
        rw [hin']
        go_wp2_with fail
        go_ret
        exact ⟨ret_bool (sortedB_not _ hlt HOK.out).symm, rfl⟩
    · obtain rfl : j = ks.length := by omega
      go_wp2_with fail
      go_ret
      exact ⟨ret_bool (sortedB_of (fun i hi => HALL.out i hi)).symm, rfl⟩

/-- The model's TreeValid. -/
def Tr.validB (wide : Int) (t : Tr) : Bool := inB wide 2 6 && (Tr.nodesB wide 0 t.depth t && sortedB t.keys)

theorem l1Wide_is (n : Int) (b : Bool) (h : inB n 2 6 = b) (w : World) : Calls Tryd.prog 123 #[.int .i64 n] w fun e w' => e = .returned (.bool b) ∧ w' = w :=
  (l1Wide_c n w).mono (by rintro e w' ⟨rfl, rfl⟩; exact ⟨by rw [h], rfl⟩)

set_option maxHeartbeats 2000000 in
set_option maxRecDepth 100000 in
theorem specTreeValid_no {kv cv : Value} {t : Tr} (wide : Int) (hwd : inB wide 2 6 = false) (w' : World) :
    Calls Tryd.prog 101 #[.agg #[kv, cv], .int .i64 wide] w' fun e w'' => e = .returned (.bool (Tr.validB wide t)) ∧ Below w'.heap.size w' w'' := by
  have hfin : Tr.validB wide t = false := by simp only [Tr.validB, hwd]; rfl
  have HF := Lib.hid hfin
  have HW := Lib.hid hwd
  clear hfin hwd
  go_enter Tryd.func101, Tryd.ntmps101
  go_wp2_with fail
  go_quiet ((go_at_call 123; exact Calls.quiet_of_same (l1Wide_is wide false HW.out _)))
  go_wp2_with fail
  go_ret
  exact ⟨ret_bool HF.out.symm, below_drewN ((Below.refl _ _).alloc (Nat.le_refl _) _) _⟩

theorem size_le_drew {n : Nat} {w : World} (h : n ≤ w.heap.size) : n ≤ w.drew.heap.size := h

theorem l1Nodes_is (b : Bool) (wide : Int) (hw1 : 2 ≤ wide) (hw2 : wide ≤ 6) {w : World} {B : Nat} {kv cv : Value} {t : Tr} (ht : TreeIn w B kv cv t) (hw : t.weight ≤ 1048576) (depth : Int) (h : Tr.nodesB wide 0 depth t = b)
    (w' : World) (hbw : Below B w w') (hB : B ≤ w'.heap.size) (hd1 : 1 ≤ depth) (hd2 : depth ≤ 1048577) :
    Calls Tryd.prog 124 #[.agg #[kv, cv], .int .i64 wide, .bool true, .int .i64 depth] w' fun e w'' => e = .returned (.bool b) ∧ Below w'.heap.size w' w'' :=
  (l1Nodes_c wide hw1 hw2 ht hw w' true depth hbw hB hd1 hd2).mono (by rintro e w'' ⟨rfl, hb⟩; exact ⟨by rw [← h]; rfl, hb⟩)

set_option maxHeartbeats 4000000 in
set_option maxRecDepth 100000 in
theorem specTreeValid_yes {w : World} {B : Nat} {kv cv : Value} {t : Tr} (ht : TreeIn w B kv cv t) (hw : t.weight ≤ 1048576) (wide : Int) (hwd : inB wide 2 6 = true)
    (hno : Tr.nodesB wide 0 t.depth t = true) (w' : World) (hbw : Below B w w') (hB : B ≤ w'.heap.size) :
    Calls Tryd.prog 101 #[.agg #[kv, cv], .int .i64 wide] w' fun e w'' => e = .returned (.bool (Tr.validB wide t)) ∧ Below w'.heap.size w' w'' := by
  have hfin : Tr.validB wide t = sortedB t.keys := by simp only [Tr.validB, hwd, hno]; rfl
  have hr : 2 ≤ wide ∧ wide ≤ 6 := by simpa [inB] using hwd
  have hd1 : (1 : Int) ≤ (t.depth : Int) := by cases t; simp only [Tr.depth]; omega
  have hd2 : (t.depth : Int) ≤ 1048577 := by have h1 := Tr.depth_le t; have h2 := Tr.count_le t; omega
  have HF := Lib.hid hfin
  have HW := Lib.hid hwd
  have HNO := Lib.hid hno
  have HBW := Lib.hid hbw
  obtain ⟨a1, n1, c1, a2, n2, c2, rfl, rfl⟩ := ht.slices
  obtain ⟨W1, hW1⟩ : ∃ W1, W1 = w'.alloc (.cells #[.slice a1 n1 c1, .slice a2 n2 c2] 33) := ⟨_, rfl⟩
  have hs1 : W1.heap.size = w'.heap.size + 1 := by rw [hW1]; simp
  have hb1 : Below w'.heap.size w' W1 := by rw [hW1]; exact (Below.refl _ _).alloc (Nat.le_refl _) _
  have kb : W1.heap[w'.heap.size]? = some (.cells #[.slice a1 n1 c1, .slice a2 n2 c2] 33 (0, 0)) := by rw [hW1, new_blk]
  have HW1 := Lib.hid hW1
  have HB1 := Lib.hid hb1
  have HKB := Lib.hid kb
  have HS1 := Lib.hid hs1
  obtain ⟨x1, x2, x3, x4⟩ := box2 kb
  clear hfin hwd hno hW1 hb1 kb hs1 hbw
  go_enter Tryd.func101, Tryd.ntmps101
  go_wp2_with fail
  rw [← HW1.out]
  go_region_held3 (fun x => x.cell? ⟨w'.heap.size, 0, none⟩ = some (.slice a1 n1 c1) ∧ x.cell? ⟨w'.heap.size, 1, none⟩ = some (.slice a2 n2 c2))
    (first | exact ⟨x1, x2⟩ | exact ⟨y1, y2⟩ | exact ⟨z1, z2⟩ | exact ⟨v1, v2⟩ | go_keep)
    (first
      | (go_at_call 123; refine (l1Wide_is wide true HW.out _).mono ?_; rintro e w1 ⟨rfl, rfl⟩)
      | (go_at_call 125; refine (specDepth_c ht hw _ (HBW.out.trans (HB1.out.drew.mono hB)) (by have := HS1.out; simp; omega)).mono ?_; rintro e w2 ⟨rfl, hb2⟩; have hs2 := hb2.size; have y0 := (hb2.block w'.heap.size (by have := HS1.out; simp; omega)).trans HKB.out; obtain ⟨y1, y2, y3, y4⟩ := box2 y0; have hb2' := HB1.out.drew.trans (hb2.mono (by have := HS1.out; simp; omega)); have HB2 := Lib.hid hb2'; have HY := Lib.hid y0; have HS2 : Hid (w'.heap.size + 1 ≤ w2.heap.size) := Lib.hid (by have := HS1.out; simp at hs2; omega); clear hb2 hs2 hb2' y0)
      | (go_at_call 124; refine (l1Nodes_is true wide hr.1 hr.2 ht hw _ HNO.out _ (HBW.out.trans (HB2.out.mono hB)) (by have := HS2.out; omega) hd1 hd2).mono ?_; rintro e w3 ⟨rfl, hb3⟩; have hs3 := hb3.size; have z0 := (hb3.block w'.heap.size (by have := HS2.out; omega)).trans HY.out; obtain ⟨z1, z2, z3, z4⟩ := box2 z0; have hb3' := HB2.out.trans (hb3.mono (by have := HS2.out; omega)); have HB3 := Lib.hid hb3'; have HS3 : Hid (w'.heap.size + 1 ≤ w3.heap.size) := Lib.hid (by have := HS2.out; omega); have HZ := Lib.hid z0; clear hb3 hs3 hb3' z0)
      | (go_at_call 97; refine (specKeys_c ht hw _ (HBW.out.trans (HB3.out.mono hB)) (by have := HS3.out; omega)).mono ?_; rintro e w4 ⟨v, rfl, hown, hb4⟩; have HO := Lib.hid hown; have hb4' := HB3.out.trans (hb4.mono (by have := HS3.out; omega)); have HB4 := Lib.hid hb4'; obtain ⟨v1, v2, v3, v4⟩ := box2 ((hb4.block w'.heap.size (by have := HS3.out; omega)).trans HZ.out); clear hown hb4 hb4')
      | (go_at_call 126; refine (l1Sorted_c _ _ _ _ (Nat.le_refl _) (IntsOwn.in HO.out)).mono ?_; rintro e w5 ⟨rfl, rfl⟩))
  go_wp2_with fail
  go_ret
  exact ⟨ret_bool HF.out.symm, HB4.out⟩

set_option maxHeartbeats 4000000 in
set_option maxRecDepth 100000 in
theorem specTreeValid_not {w : World} {B : Nat} {kv cv : Value} {t : Tr} (ht : TreeIn w B kv cv t) (hw : t.weight ≤ 1048576) (wide : Int) (hwd : inB wide 2 6 = true)
    (hno : Tr.nodesB wide 0 t.depth t = false) (w' : World) (hbw : Below B w w') (hB : B ≤ w'.heap.size) :
    Calls Tryd.prog 101 #[.agg #[kv, cv], .int .i64 wide] w' fun e w'' => e = .returned (.bool (Tr.validB wide t)) ∧ Below w'.heap.size w' w'' := by
  have hfin : Tr.validB wide t = false := by simp only [Tr.validB, hwd, hno]; rfl
  have hr : 2 ≤ wide ∧ wide ≤ 6 := by simpa [inB] using hwd
  have hd1 : (1 : Int) ≤ (t.depth : Int) := by cases t; simp only [Tr.depth]; omega
  have hd2 : (t.depth : Int) ≤ 1048577 := by have h1 := Tr.depth_le t; have h2 := Tr.count_le t; omega
  have HF := Lib.hid hfin
  have HW := Lib.hid hwd
  have HNO := Lib.hid hno
  have HBW := Lib.hid hbw
  obtain ⟨a1, n1, c1, a2, n2, c2, rfl, rfl⟩ := ht.slices
  obtain ⟨W1, hW1⟩ : ∃ W1, W1 = w'.alloc (.cells #[.slice a1 n1 c1, .slice a2 n2 c2] 33) := ⟨_, rfl⟩
  have hs1 : W1.heap.size = w'.heap.size + 1 := by rw [hW1]; simp
  have hb1 : Below w'.heap.size w' W1 := by rw [hW1]; exact (Below.refl _ _).alloc (Nat.le_refl _) _
  have kb : W1.heap[w'.heap.size]? = some (.cells #[.slice a1 n1 c1, .slice a2 n2 c2] 33 (0, 0)) := by rw [hW1, new_blk]
  have HW1 := Lib.hid hW1
  have HB1 := Lib.hid hb1
  have HKB := Lib.hid kb
  have HS1 := Lib.hid hs1
  obtain ⟨x1, x2, x3, x4⟩ := box2 kb
  clear hfin hwd hno hW1 hb1 kb hs1 hbw
  go_enter Tryd.func101, Tryd.ntmps101
  go_wp2_with fail
  rw [← HW1.out]
  go_region_with (first
      | (go_at_call 123; refine (l1Wide_is wide true HW.out _).mono ?_; rintro e w1 ⟨rfl, rfl⟩)
      | (go_at_call 125; refine (specDepth_c ht hw _ (HBW.out.trans (HB1.out.drew.mono hB)) (by have := HS1.out; simp; omega)).mono ?_; rintro e w2 ⟨rfl, hb2⟩; have hs2 := hb2.size; have y0 := (hb2.block w'.heap.size (by have := HS1.out; simp; omega)).trans HKB.out; obtain ⟨y1, y2, y3, y4⟩ := box2 y0; have hb2' := HB1.out.drew.trans (hb2.mono (by have := HS1.out; simp; omega)); have HB2 := Lib.hid hb2'; have HY := Lib.hid y0; have HS2 : Hid (w'.heap.size + 1 ≤ w2.heap.size) := Lib.hid (by have := HS1.out; simp at hs2; omega); clear hb2 hs2 hb2' y0)
      | (go_at_call 124; refine (l1Nodes_is false wide hr.1 hr.2 ht hw _ HNO.out _ (HBW.out.trans (HB2.out.mono hB)) (by have := HS2.out; omega) hd1 hd2).mono ?_; rintro e w3 ⟨rfl, hb3⟩; have hs3 := hb3.size; have z0 := (hb3.block w'.heap.size (by have := HS2.out; omega)).trans HY.out; obtain ⟨z1, z2, z3, z4⟩ := box2 z0; have hb3' := HB2.out.trans (hb3.mono (by have := HS2.out; omega)); have HB3 := Lib.hid hb3'; have HS3 : Hid (w'.heap.size + 1 ≤ w3.heap.size) := Lib.hid (by have := HS2.out; omega); have HZ := Lib.hid z0; clear hb3 hs3 hb3' z0))
  all_goals (go_wp2_with fail)
  all_goals (go_ret; refine ⟨?_, HB3.out⟩; rw [HF.out]; rfl)

theorem specTreeValid_c {w : World} {B : Nat} {kv cv : Value} {t : Tr} (ht : TreeIn w B kv cv t) (hw : t.weight ≤ 1048576) (wide : Int) (w' : World) (hbw : Below B w w') (hB : B ≤ w'.heap.size) :
    Calls Tryd.prog 101 #[.agg #[kv, cv], .int .i64 wide] w' fun e w'' => e = .returned (.bool (Tr.validB wide t)) ∧ Below w'.heap.size w' w'' := by
  cases hwd : inB wide 2 6 with
  | false => exact specTreeValid_no wide hwd w'
  | true =>
    cases hno : Tr.nodesB wide 0 t.depth t with
    | false => exact specTreeValid_not ht hw wide hwd hno w' hbw hB
    | true => exact specTreeValid_yes ht hw wide hwd hno w' hbw hB

end Go.Proofs.YtdcifdpkfcgmhaaDoor
