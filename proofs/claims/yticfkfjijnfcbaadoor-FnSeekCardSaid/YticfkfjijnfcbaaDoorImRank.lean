/- The contract of the program's RankOf. -/
import Derived.Test.YticfkfjijnfcbaaDoorProg
import Derived.Test.YticfkfjijnfcbaaDoorSh0
import Derived.Test.YticfkfjijnfcbaaDoorSh3
import Derived.Test.YticfkfjijnfcbaaDoorPlant
import Derived.Test.YticfkfjijnfcbaaDoorIter
import Derived.Test.YticfkfjijnfcbaaDoorSh6
import Derived.Test.YticfkfjijnfcbaaDoorSh7
import Derived.Test.YticfkfjijnfcbaaDoorSh11
import Derived.Test.YticfkfjijnfcbaaDoorSh26
import Derived.Test.YticfkfjijnfcbaaDoorSh12
import Derived.Test.YticfkfjijnfcbaaDoorSh13
import Derived.Test.YticfkfjijnfcbaaDoorSh27
import Derived.RangeFuncNested
import Derived.Shelf.RegionOpen
import Derived.WalkKit
import Derived.OwnWalkIn
import Derived.TacticsInMore
import Derived.LoopIn
import Derived.Sort.CutIn
namespace Go.Proofs.YticfkfjijnfcbaaDoor
open Go.RowKit
attribute [local go_sem] Oper.semAt_some
attribute [local go_sem] wide_fn

theorem lens_gen (l : List (List Int)) (j : Nat) : Tr.lens (l.take j) ≤ Tr.lens l := by
  conv => rhs; rw [← List.take_append_drop j l, Tr.lens_append]
  omega
theorem lens_part (cs : List Tr) {j p : Nat} (h : j ≤ p) : Tr.lens ((Tr.keyss cs).take j) ≤ Tr.lens ((Tr.keyss cs).take p) := by
  have h1 := lens_gen ((Tr.keyss cs).take p) j
  rwa [List.take_take, Nat.min_eq_left h] at h1

theorem way_counted {w : World} {lo hi b : Nat} {t : Tr} (c : Int) (h : NodeIn w lo hi b t) : ∀ {K : Nat → Option Nat}, Counted w K b t → Tr.Well t → t.weight ≤ 1048576 → ∃ xs, xs.map Prod.snd = t.way c ∧ WayIn w lo hi c b t xs ∧ ∀ x ∈ xs, Counted w K x.1 x.2 := by
  induction h with
  | mk ks cs lo hi b kv a cap ps s hlo hhi hs0 hsn hs hbox hk hlen hcap hat hkids ih =>
    intro K hcn hw hwt
    have hst : Stop w lo hi b (.mk ks cs) kv a cap := ⟨(NodeIn.mk ks cs lo hi b kv a cap ps s hlo hhi hs0 hsn hs hbox hk hlen hcap hat hkids).nodeAt, hbox, hk, hlo, hhi, hlen, hcap, hw, hwt⟩
    by_cases hc : cs.length = 0
    · exact ⟨[(b, .mk ks cs)], by rw [Tr.way_leaf hc]; rfl, .leaf b _ kv a cap hst hc, fun x hx => by simp at hx; subst hx; exact hcn⟩
    · have hcl := Tr.Well.inner hw hc
      have hp := place_le c ks
      have hi' : place c ks < cs.length := by omega
      have hwk := Tr.weight_get_le cs _ hi'
      simp only [Tr.weight] at hwt
      rcases hat with h | ⟨qb, qo, rfl, q1, q2, q3⟩
      · exact absurd h hc
      have hka : kidAt w b (place c ks) (ps (place c ks)) := ⟨_, _, _, _, _, hbox, q3 _ hi'⟩
      obtain ⟨xs, h1, h2, h3⟩ := ih _ hi' (hcn.parts.2 _ hi' _ hka) (Tr.Well.kid hw _ hi') (by omega)
      refine ⟨(b, .mk ks cs) :: xs, by rw [Tr.way_inner hi', List.map_cons, h1], .inner b _ kv qb qo cap _ _ xs hst hcl q1 q2 (q3 _ hi') (h2.widen ?_ ?_), fun x hx => ?_⟩
      · have := steps_le hs 0 (place c ks) (by omega) (by omega); omega
      · have := steps_le hs (place c ks + 1) cs.length (by omega) (by omega); omega
      · rcases List.mem_cons.1 hx with rfl | hx
        · exact hcn
        · exact h3 x hx

theorem downAt_of {gf : Nat} {n : Int} {t : Tr} {wl : World} {lo hi nb B : Nat} (_hnd : NodeIn wl lo hi nb t) (_hB : B ≤ lo) (_hhi : hi ≤ wl.heap.size) (_hBw : B ≤ wl.heap.size) :
    ∃ b q bn bf : Nat, (Value.func (.func 118) #[] #[.pointer (some ⟨wl.heap.size + 1, 0, none⟩), .pointer (some ⟨wl.heap.size + 1 + 1, 0, none⟩)]) = .func (.func 118) #[] #[.pointer (some ⟨bn, 0, none⟩), .pointer (some ⟨bf, 0, none⟩)] ∧ b = nb ∧ wl.heap.size ≤ q ∧ wl.heap.size ≤ bn ∧ wl.heap.size ≤ bf ∧
    (((wl.alloc (.cells #[.int .i64 n] 3)).alloc (.cells #[.pointer (some ⟨nb, 0, none⟩)] 99)).alloc (.cells #[.func (.func gf) #[] #[.pointer (some ⟨wl.heap.size, 0, none⟩)]] 86)).heap[bn]? = some (.cells #[.pointer (some ⟨b, 0, none⟩)] 99 (0, 0)) ∧
    (((wl.alloc (.cells #[.int .i64 n] 3)).alloc (.cells #[.pointer (some ⟨nb, 0, none⟩)] 99)).alloc (.cells #[.func (.func gf) #[] #[.pointer (some ⟨wl.heap.size, 0, none⟩)]] 86)).heap[bf]? = some (.cells #[.func (.func gf) #[] #[.pointer (some ⟨q, 0, none⟩)]] 86 (0, 0)) ∧
    (((wl.alloc (.cells #[.int .i64 n] 3)).alloc (.cells #[.pointer (some ⟨nb, 0, none⟩)] 99)).alloc (.cells #[.func (.func gf) #[] #[.pointer (some ⟨wl.heap.size, 0, none⟩)]] 86)).heap[q]? = some (.cells #[.int .i64 n] 3 (0, 0)) := by
  refine ⟨nb, wl.heap.size, wl.heap.size + 1, wl.heap.size + 1 + 1, rfl, rfl, Nat.le_refl _, by omega, by omega, ?_, ?_, ?_⟩
  · rw [old_blk _ _ _ (by simp)]
    have h := new_blk (wl.alloc (.cells #[.int .i64 n] 3)) (.cells #[.pointer (some ⟨nb, 0, none⟩)] 99)
    rw [World.size_alloc] at h; exact h
  · have h := new_blk ((wl.alloc (.cells #[.int .i64 n] 3)).alloc (.cells #[.pointer (some ⟨nb, 0, none⟩)] 99)) (.cells #[.func (.func gf) #[] #[.pointer (some ⟨wl.heap.size, 0, none⟩)]] 86)
    rw [World.size_alloc, World.size_alloc] at h; exact h
  · rw [old_blk _ _ _ (by simp; omega), old_blk _ _ _ (by simp), new_blk]

set_option maxRecDepth 100000 in
set_option maxHeartbeats 4000000 in
theorem impl_rank {w : World} {B : Nat} {kv cv : Value} {t : Tr} (ht : TreeIn w B kv cv t) (hw : t.weight ≤ 1048576) (key : Int) (w' : World) (hbw : Below B w w') (hB : B ≤ w'.heap.size) :
    Calls Tryd.prog 41 #[.agg #[kv, cv], .int .i64 key] w' fun e w'' => e = .returned (.int .i64 (t.rankB key)) ∧ Below w'.heap.size w' w'' := by
  obtain ⟨i0, hi0, hi1⟩ := Option.map_eq_some_iff.1 Tryd.infoNodeSz
  have hsz : i0.size ≠ 0 := by simpa using hi1
  obtain ⟨iz, hiz, hizz⟩ := Option.map_eq_some_iff.1 Tryd.infoIntZ
  have hmm := @run_makeMap Tryd.prog
  obtain ⟨a5, n5, m5, a6, n6, m6, rfl, rfl⟩ := ht.slices
  obtain ⟨W1, hW1⟩ : ∃ W1, W1 = w'.alloc (.cells #[.slice a5 n5 m5, .slice a6 n6 m6] 33) := ⟨_, rfl⟩
  have hs1 : W1.heap.size = w'.heap.size + 1 := by rw [hW1]; simp
  have hb1 : Below w'.heap.size w' W1 := by rw [hW1]; exact (Below.refl _ _).alloc (Nat.le_refl _) _
  have k0 : W1.heap[w'.heap.size]? = some (.cells #[.slice a5 n5 m5, .slice a6 n6 m6] 33 (0, 0)) := by rw [hW1, new_blk]
  obtain ⟨x1, x2, x3, x4⟩ := box2 k0
  have hsome := rankB_is key t
  have HT := Lib.hid ht
  have HBW := Lib.hid hbw
  have HW1 := Lib.hid hW1
  have H1 := Lib.hid (And.intro hb1 k0)
  have HSOME := Lib.hid hsome
  have HSZ := Lib.hid (And.intro hi0 (And.intro hsz (And.intro hiz hizz)))
  clear ht hbw hW1 hb1 k0 hsome hi0 hi1 hsz hiz hizz
  refine (callsIn_wide (n := 9)).1 (callsIn_of_wp_marks Tryd.func41 rfl trivial ?_ rfl)
  simp only [Tryd.ntmps41, List.size_toArray, List.length_cons, List.length_nil, Nat.reduceAdd, Nat.reduceSub, Array.replicate_succ, Array.replicate_zero, List.push_toArray, List.append_toArray, List.nil_append, List.cons_append]
  gi_wp2_with fail
  rw [← HW1.out]
  refine ((callsIn_wide (n := _)).2 (validForSome_c HT.out hw W1 (HBW.out.trans (H1.out.1.mono hB)) (by omega))).mono ?_
  rintro e w2 ⟨rfl, hb2⟩
  have hs2 := hb2.size
  clear x1 x2 x3 x4
  have j0 := (hb2.block _ (by omega)).trans H1.out.2
  obtain ⟨x1, x2, x3, x4⟩ := box2 j0
  have hb2' := H1.out.1.trans (hb2.mono (by omega))
  have H2 := Lib.hid (And.intro hb2' j0)
  clear hb2 hb2' j0
  cases hv : t.someB with
  | false =>
    have hp := HSOME.out.2 hv
    have HP := Lib.hid hp
    have HV := Lib.hid hv
    clear hp hv
    gi_wp2_with fail
    exact ⟨.int .i64 (-1), by simp [results, Tryd.results41, go_sem], ret_int (by rw [HP.out]), H2.out.1⟩
  | true =>
    have hp := HSOME.out.1 hv
    have hwell := Tr.Well.of_some hv
    have HP := Lib.hid hp
    have HV := Lib.hid hv
    have HWELL := Lib.hid hwell
    clear hp hv hwell
    gi_wp2_with fail
    refine CallsIn.mono ((callsIn_wide (n := _)).2 (plant_c HT.out hw _ (HBW.out.trans (H2.out.1.mono hB)) (by omega))) ?_
    rintro e w3 ⟨nb, rfl, hnd, hb3⟩
    have hs3 := hb3.size
    have HND := Lib.hid (And.intro hnd hb3)
    clear hnd hb3 x1 x2 x3 x4
    gi_wp2_with fail
    obtain ⟨W5, hW5⟩ : ∃ W5, W5 = (w3.alloc (.map #[] 0)).alloc (.cells #[.map (some w3.heap.size)] 101) := ⟨_, rfl⟩
    rw [← hW5]
    have hs5 : W5.heap.size = w3.heap.size + 2 := by rw [hW5]; simp
    have hk35 : ∀ P, Keep P w3 W5 := fun P => by rw [hW5]; exact (Keep.alloc P _ _).trans (Keep.alloc P _ _)
    have hm5 : CMap W5 w3.heap.size (fun _ => none) := by
      rw [hW5]; exact (cmap_new w3).kept (fun k h => old_blk _ _ _ h)
    have k6 : W5.heap[w3.heap.size + 1]? = some (.cells #[.map (some w3.heap.size)] 101 (0, 0)) := by
      have h := new_blk (w3.alloc (.map #[] 0)) (.cells #[.map (some w3.heap.size)] 101)
      rw [World.size_alloc] at h; rw [hW5]; exact h
    have HK6 := Lib.hid k6
    have HK35 := Lib.hid hk35
    clear hW5 k6 hmm
    refine CallsIn.mono ((callsIn_wide (n := _)).2 (count_c HND.out.1 hw (Nat.le_refl _) W5 w3.heap.size (fun _ => none) (hk35 _) hm5 (fun _ _ _ => rfl) (by omega))) ?_
    rintro e w6 ⟨rfl, K', hm6, hc6, hK6, hk6, hs6⟩
    have HM6 := Lib.hid (And.intro hm6 (And.intro hc6 (And.intro hK6 hk6)))
    clear hm6 hc6 hK6 hk6 hm5 hk35
    have hnode : NodeIn w6 w2.heap.size w3.heap.size nb t := HND.out.1.same (fun k _ h => (HM6.out.2.2.2.block k (by omega) (by omega)).trans ((HK35.out (fun _ => True)).block k h trivial))
    have hk66 := (HM6.out.2.2.2.block (w3.heap.size + 1) (by omega) (by omega)).trans HK6.out
    obtain ⟨y1, y2⟩ := box1 hk66
    have HNODE := Lib.hid hnode
    clear hnode hk66
    gi_wp2_with fail
    refine CallsIn.mono ((callsIn_wide (n := _)).2 (less_c key _)) ?_
    rintro e w9 ⟨rfl, rfl⟩
    gi_wp2_with fail
    refine CallsIn.mono ((callsIn_wide (n := _)).2 (wayDown_c _ _ _ _)) ?_
    rintro e w10 ⟨rfl, rfl⟩
    obtain ⟨W7, hW7⟩ : ∃ W7, W7 = w6.alloc (.cells #[.int .i64 0] 3) := ⟨_, rfl⟩
    rw [← hW7]
    have hs7 : W7.heap.size = w3.heap.size + 3 := by rw [hW7]; simp; omega
    have hdn := downAt_of (gf := 109) (n := key) (wl := W7) (B := w2.heap.size) (HNODE.out.same (fun k _ h => by rw [hW7]; exact old_blk _ _ _ (by omega))) (Nat.le_refl _) (by omega) (by omega)
    have hkc : ∀ k, k < w3.heap.size + 2 → (((W7.alloc (.cells #[.int .i64 key] 3)).alloc (.cells #[.pointer (some ⟨nb, 0, none⟩)] 99)).alloc (.cells #[.func (.func 109) #[] #[.pointer (some ⟨W7.heap.size, 0, none⟩)]] 86)).heap[k]? = w6.heap[k]? := fun k hk => by
      rw [old_blk _ _ _ (by simp; omega), old_blk _ _ _ (by simp; omega), old_blk _ _ _ (by omega), hW7, old_blk _ _ _ (by omega)]
    have hk7 : (((W7.alloc (.cells #[.int .i64 key] 3)).alloc (.cells #[.pointer (some ⟨nb, 0, none⟩)] 99)).alloc (.cells #[.func (.func 109) #[] #[.pointer (some ⟨W7.heap.size, 0, none⟩)]] 86)).heap[w3.heap.size + 2]? = some (.cells #[.int .i64 0] 3 (0, 0)) := by
      rw [old_blk _ _ _ (by simp; omega), old_blk _ _ _ (by simp; omega), old_blk _ _ _ (by omega), hW7]
      have h := new_blk w6 (.cells #[.int .i64 0] 3)
      rw [hs6, hs5] at h; exact h
    have hkw : Keep (fun k => k < w3.heap.size) w6 (((W7.alloc (.cells #[.int .i64 key] 3)).alloc (.cells #[.pointer (some ⟨nb, 0, none⟩)] 99)).alloc (.cells #[.func (.func 109) #[] #[.pointer (some ⟨W7.heap.size, 0, none⟩)]] 86)) := by
      rw [hW7]; exact (Keep.alloc _ _ _).trans ((Keep.alloc _ _ _).trans ((Keep.alloc _ _ _).trans (Keep.alloc _ _ _)))
    have hsc : (((W7.alloc (.cells #[.int .i64 key] 3)).alloc (.cells #[.pointer (some ⟨nb, 0, none⟩)] 99)).alloc (.cells #[.func (.func 109) #[] #[.pointer (some ⟨W7.heap.size, 0, none⟩)]] 86)).heap.size = w3.heap.size + 6 := by simp; omega
    rw [hs7] at hdn hkc hk7 hkw hsc
    rw [World.size_alloc, hs7]
    generalize (((W7.alloc (.cells #[.int .i64 key] 3)).alloc (.cells #[.pointer (some ⟨nb, 0, none⟩)] 99)).alloc (.cells #[.func (.func 109) #[] #[.pointer (some ⟨w3.heap.size + 3, 0, none⟩)]] 86)) = wc at hdn hkc hk7 hkw hsc ⊢
    obtain ⟨b, q, bn, bf, hfv, rfl, hq0, hbn0, hbf0, hbn, hbf, hq⟩ := hdn
    rw [hfv]
    clear hfv hW7
    have hnd : NodeIn wc w2.heap.size w3.heap.size b t := HNODE.out.same (fun k _ h => hkc k (by omega))
    have hcnt : Counted wc K' b t := Counted.move HND.out.1 HM6.out.2.1 (fun k _ h => (hkc k (by omega)).trans ((HM6.out.2.2.2.block k (by omega) (by omega)).trans ((HK35.out (fun _ => True)).block k h trivial)))
    obtain ⟨xs, hxs, hway, hwc⟩ := way_counted key hnd hcnt HWELL.out hw
    have hit := way_less_iter key key (Lib.hid rfl) hway (by omega) bn bf q hbn hbf hq
    have hst := hway.stops
    have hnr := hnd.range
    have hwp := Tr.rank_way key t HWELL.out
    rw [← hxs] at hwp
    have hmc : CMap wc w3.heap.size K' := HM6.out.1.held (hkc _ (by omega)) (fun k n hk => hkc k (by
      by_cases h : w2.heap.size ≤ k ∧ k < w3.heap.size
      · omega
      · rw [HM6.out.2.2.1 k h] at hk; cases hk))
    have hk6c := (hkc (w3.heap.size + 1) (by omega)).trans ((HM6.out.2.2.2.block (w3.heap.size + 1) (by omega) (by omega)).trans HK6.out)
    have l1 := (Array.getElem?_eq_some_iff.1 hbn).1
    have l2 := (Array.getElem?_eq_some_iff.1 hbf).1
    have l3 := (Array.getElem?_eq_some_iff.1 hq).1
    have HIT := Lib.hid hit
    have HST := Lib.hid hst
    have HWP := Lib.hid hwp
    have HWC := Lib.hid hwc
    have HKW := Lib.hid hkw
    have HE := Lib.hid (And.intro hk7 (And.intro hk6c hmc))
    have HKO := Lib.hid HM6.out.2.2.1
    clear hit hst hwp hwc hkw hk7 hk6c hmc hxs hway hnd hbn hbf hq hkc hcnt y1 y2
    generalize t.keys.length = kl
    gi_wp2_with fail
    refine wp_loop (fb := #[]) (lb := #[.pointer (some ⟨bn, 0, none⟩), .pointer (some ⟨bf, 0, none⟩)]) rfl (enters_of Tryd.func118 (by kernel_rfl) rfl) HIT.out (Keep.refl _ _) (fun x => rfl)
      (fun k => k < wc.heap.size ∧ k ≠ w3.heap.size + 2) (fun k h => by omega) (fun k h => h.1)
      (fun pre Pv W => ¬ Pv (w3.heap.size + 2) ∧ W.heap[w3.heap.size + 2]? = some (.cells #[.int .i64 ((((pre.map Prod.snd).map (Tr.rankStep key)).sum : Nat) : Int)] 3 (0, 0)))
      (fun c pre Pv W => False)
      (fun pre Pv A Pv' B h hk hp => by
        obtain ⟨h1, h2⟩ := h
        have q2 := (Array.getElem?_eq_some_iff.1 h2).1
        exact ⟨fun h => (hp _ h).elim h1 (fun h => by omega), (hk.block _ q2 h1).trans h2⟩)
      (fun c pre Pv A Pv' B h hk hp => h)
      ⟨by omega, HE.out.1⟩
      (fun x => { tmps := #[.agg #[.slice a5 n5 m5, .slice a6 n6 m6], .int .i64 key, .pointer (some ⟨w'.heap.size, 0, none⟩), undef, .int .i64 0, .pointer (some ⟨b, 0, none⟩), .pointer (some ⟨w3.heap.size + 1, 0, none⟩), .pointer (some ⟨w3.heap.size + 2, 0, none⟩),
        .pointer (some ⟨x.1, 0, none⟩), .int .i64 (place key x.2.ks), undef, undef, .agg #[.slice a5 n5 m5, .slice a6 n6 m6], .bool true, .bool false, .agg #[.slice a5 n5 m5, .slice a6 n6 m6], .pointer (some ⟨b, 0, none⟩), .map (some w3.heap.size), .pointer (some ⟨b, 0, none⟩), .map (some w3.heap.size), .int .i64 kl,
        .pointer (some ⟨b, 0, none⟩), .int .i64 key, .func (.func 109) #[] #[.pointer (some ⟨w3.heap.size + 2 + 1, 0, none⟩)], .func (.func 118) #[] #[.pointer (some ⟨bn, 0, none⟩), .pointer (some ⟨bf, 0, none⟩)], .pointer (some ⟨x.1, 0, none⟩), .int .i64 (place key x.2.ks), undef, undef, undef, undef, undef, undef, undef, undef, undef, undef, undef, undef, undef, undef, undef, undef, undef, undef, undef, undef, undef, undef, undef, undef, undef, undef, undef], defers := [] })
      ?assign ?body ?done ?stop
    case assign =>
      intro l' m x W' K hK
      dsimp only [wayEnc]
      gi_wp2
      exact hK
    case body =>
      intro l' m pre x Pv W' hI hkW hsub hbnd hp
      obtain ⟨xb, ⟨ks, cs⟩⟩ := x
      obtain ⟨h1, h2⟩ := hI
      have hxm : (xb, Tr.mk ks cs) ∈ xs := hp.subset (by simp : (xb, Tr.mk ks cs) ∈ pre ++ [(xb, Tr.mk ks cs)])
      obtain ⟨kvx, ax, capx, hs⟩ := HST.out _ hxm
      have hcx := HWC.out _ hxm
      have hsum : ((pre.map Prod.snd).map (Tr.rankStep key)).sum + Tr.rankStep key (.mk ks cs) ≤ 1048576 := by
        obtain ⟨r, hr⟩ := hp
        have h := HWP.out
        rw [← hr] at h
        simp only [List.map_append, List.map_cons, List.map_nil, List.sum_append, List.sum_cons, List.sum_nil] at h
        have h9 := place_le key t.keys
        have h8 := Tr.keys_length_le t
        omega
      have hnx : (((pre ++ [(xb, Tr.mk ks cs)]).map Prod.snd).map (Tr.rankStep key)).sum = ((pre.map Prod.snd).map (Tr.rankStep key)).sum + Tr.rankStep key (.mk ks cs) := by simp
      have hrs : Tr.rankStep key (.mk ks cs) = Tr.lens ((Tr.keyss cs).take (place key ks)) + place key ks := by
        show (Tr.upto (Tr.keyss cs) ks (place key ks)).length = _
        rw [Tr.upto_length, List.length_take]
        have := place_le key ks
        omega
      have hwell := hs.well
      have hlight := hs.light
      obtain ⟨kv9, a9, cap9, ps, n1, n2, n6, n7, n8, n9, n10, n11⟩ := hs.node.parts
      have n4 : True := trivial
      have n5 : True := trivial
      have hbW : W'.heap[xb]? = some (.cells #[kv9, .slice a9 cs.length cap9] 110 (0, 0)) := (hkW.block xb (by omega) ⟨by omega, by omega⟩).trans n6
      obtain ⟨x1, x2, x3, x4⟩ := box2 hbW
      have hmW : CMap W' w3.heap.size K' := HE.out.2.2.held (hkW.block _ (by omega) ⟨by omega, by omega⟩) (fun k n hk => by
        by_cases h : w2.heap.size ≤ k ∧ k < w3.heap.size
        · exact hkW.block k (by omega) ⟨by omega, by omega⟩
        · rw [HKO.out k h] at hk; cases hk)
      have hk6W := (hkW.block (w3.heap.size + 1) (by omega) ⟨by omega, by omega⟩).trans HE.out.2.1
      obtain ⟨z1, z2⟩ := box1 h2
      obtain ⟨z3, z4⟩ := box1 hk6W
      have hpl := place_le key ks
      dsimp only [Tr.ks]
      rw [hrs] at hsum hnx
      obtain ⟨p, hpp⟩ : ∃ p, p = place key ks := ⟨_, rfl⟩
      rw [← hpp] at hsum hnx hpl ⊢
      obtain ⟨R, hR⟩ : ∃ R, R = ((pre.map Prod.snd).map (Tr.rankStep key)).sum := ⟨_, rfl⟩
      rw [← hR] at hsum hnx z1
      have hinner := fun h => Tr.Well.inner hwell h
      have HH := Lib.hid (And.intro h2 (And.intro hmW (And.intro hk6W (And.intro hbW (And.intro hnx hR)))))
      have HN := Lib.hid (And.intro n4 (And.intro n5 (And.intro n6 (And.intro n10 (And.intro n11 hcx)))))
      have HKWW := Lib.hid hkW
      have HPP := Lib.hid hpp
      have HIN := Lib.hid hinner
      have HSUM := Lib.hid hsum
      have hlw := Tr.length_le_weights cs
      have hcl9 : cs.length ≤ 1048576 := by simp only [Tr.weight] at hlight; omega
      have hRp : R + p ≤ 1048576 := by omega
      unfold maxLen at n9
      clear h2 hmW hk6W hbW hnx hR n4 n5 n6 n7 n10 n11 hcx hkW hpp hinner hs hp hxm hrs hwell hsub hsum
      by_cases hc : cs.length = 0
      · have hce : ((cs.length : Nat) : Int) = 0 := by omega
        have HC0 := Lib.hid hc
        have HCE := Lib.hid hce
        clear hc hce
        gi_wp2
        obtain ⟨W8, hW8⟩ : ∃ W8, W8 = W'.setCell ⟨w3.heap.size + 2, 0, none⟩ (.int .i64 ((R : Int) + (p : Int))) := ⟨_, rfl⟩
        rw [← hW8]
        have h82 : W8.heap[w3.heap.size + 2]? = some (.cells #[.int .i64 ((R : Int) + (p : Int))] 3 (0, 0)) := by rw [hW8]; exact set_blk (o := 0) _ HH.out.1
        have h8o : ∀ k, k ≠ w3.heap.size + 2 → W8.heap[k]? = W'.heap[k]? := fun k hk => by rw [hW8]; exact set_other _ _ _ _ _ hk
        have hk8 : ∀ P : Nat → Prop, ¬ P (w3.heap.size + 2) → Keep P W' W8 := fun P h => by rw [hW8]; exact Keep.setCell _ _ _ _ h
        have hs8 : W8.heap.size = W'.heap.size := by rw [hW8]; simp
        clear x1 x2 x3 x4 z1 z2 z3 z4
        obtain ⟨x1, x2, x3, x4⟩ := box2 ((h8o xb (by omega)).trans HH.out.2.2.2.1)
        have H8 := Lib.hid (And.intro h82 (And.intro h8o (And.intro hk8 hs8)))
        clear hW8 h82 h8o hk8 hs8
        rw [HC0.out] at x2
        by_cases hp0 : p = 0
        · subst hp0
          refine wpIn_quiet_round rfl (by kernel_rfl) (by kernel_rfl) (by kernel_rfl) ?_
          repeat (gi_big_quiet_step (fail))
          refine wpQuietIn_nil ?_
          intro _ hw'
          obtain ⟨nq, hw''⟩ := hw'
          subst hw''
          gi_wp2
          gi_loopw [43] (fun i wr => i = .int .i64 0 ∧ wr = W8.drewN nq) (fun _ _ => 0)
          case atStart => exact ⟨rfl, rfl⟩
          case round =>
            obtain ⟨rfl, rfl⟩ := hrel
            gi_wp2
            refine ⟨(H8.out.2.2.1 Pv h1).trans (Keep.drewN _ _ _), h1, ?_⟩
            have hl0 : Tr.lens ((Tr.keyss cs).take 0) = 0 := by rw [List.length_eq_zero_iff.1 HC0.out]; simp [Tr.keyss, Tr.lens]
            rw [HH.out.2.2.2.2.1, hl0]
            simpa using H8.out.1
        · have hp1 : (0 : Int) < (p : Int) := by omega
          have hp2 : 0 < p := by omega
          have hp3 : ¬ ((p : Int) ≤ 0) := by omega
          have hp4 : ¬ (p ≤ 0) := by omega
          refine wpIn_quiet_round rfl (by kernel_rfl) (by kernel_rfl) (by kernel_rfl) ?_
          repeat (gi_big_quiet_step (fail))
          refine wpQuietIn_nil ?_
          intro _ hw'
          obtain ⟨nq, hw''⟩ := hw'
          subst hw''
          gi_wp2
          gi_loopw [43] (fun i wr => i = .int .i64 0 ∧ wr = W8.drewN nq) (fun _ _ => 0)
          case atStart => exact ⟨rfl, rfl⟩
          case round =>
            obtain ⟨rfl, rfl⟩ := hrel
            gi_wp2
            refine ⟨(H8.out.2.2.1 Pv h1).trans (Keep.drewN _ _ _), h1, ?_⟩
            have hl0 : Tr.lens ((Tr.keyss cs).take p) = 0 := by rw [List.length_eq_zero_iff.1 HC0.out]; simp [Tr.keyss, Tr.lens]
            rw [HH.out.2.2.2.2.1, hl0]
            simpa using H8.out.1
      · have hcl := HIN.out hc
        have hpc : p < cs.length := by omega
        have HCL := Lib.hid hcl
        clear hcl hc
        gi_wp2
        obtain ⟨W8, hW8⟩ : ∃ W8, W8 = W'.setCell ⟨w3.heap.size + 2, 0, none⟩ (.int .i64 ((R : Int) + (p : Int))) := ⟨_, rfl⟩
        rw [← hW8]
        have h82 : W8.heap[w3.heap.size + 2]? = some (.cells #[.int .i64 ((R : Int) + (p : Int))] 3 (0, 0)) := by rw [hW8]; exact set_blk (o := 0) _ HH.out.1
        have h8o : ∀ k, k ≠ w3.heap.size + 2 → W8.heap[k]? = W'.heap[k]? := fun k hk => by rw [hW8]; exact set_other _ _ _ _ _ hk
        have hk8 : ∀ P : Nat → Prop, ¬ P (w3.heap.size + 2) → Keep P W' W8 := fun P h => by rw [hW8]; exact Keep.setCell _ _ _ _ h
        have hs8 : W8.heap.size = W'.heap.size := by rw [hW8]; simp
        clear x1 x2 x3 x4 z1 z2 z3 z4
        obtain ⟨x1, x2, x3, x4⟩ := box2 ((h8o xb (by omega)).trans HH.out.2.2.2.1)
        have H8 := Lib.hid (And.intro h82 (And.intro h8o (And.intro hk8 hs8)))
        clear hW8 h82 h8o hk8 hs8
        have hc0 : (p : Int) ≤ (cs.length : Int) := by omega
        refine wpIn_quiet_round rfl (by kernel_rfl) (by kernel_rfl) (by kernel_rfl) ?_
        repeat (gi_big_quiet_step (fail))
        refine wpQuietIn_nil ?_
        intro _ hw'
        obtain ⟨nq, hw''⟩ := hw'
        subst hw''
        gi_wp2
        rcases HN.out.2.2.2.1 with h | ⟨qb, qo, rfl, q1, q2, q3⟩
        · omega
        have Q3 := Lib.hid q3
        have hkd : ∀ k, k < w3.heap.size → k ≠ w3.heap.size + 2 → W8.heap[k]? = wc.heap[k]? := fun k h h2 => (H8.out.2.1 k h2).trans (HKWW.out.block k (by omega) ⟨by omega, h2⟩)
        have HKD := Lib.hid hkd
        clear q3 hkd
        gi_loopw [43] (fun i wr => ∃ j : Nat, j ≤ p ∧ i = .int .i64 j ∧ wr.heap[w3.heap.size + 2]? = some (.cells #[.int .i64 ((R + p + Tr.lens ((Tr.keyss cs).take j) : Nat) : Int)] 3 (0, 0)) ∧ Keep (fun k => k ≠ w3.heap.size + 2) W8 wr) (fun i _ => p - (intOf i).toNat)
        case atStart => exact ⟨0, Nat.zero_le _, rfl, by simpa [Tr.lens] using H8.out.1, Keep.drewN _ _ _⟩
        case round =>
          obtain ⟨j, hj, rfl, hbx, hkp⟩ := hrel
          clear x1 x2 x3 x4
          obtain ⟨z1, z2⟩ := box1 hbx
          have hs8 := H8.out.2.2.2
          have hsW := HKWW.out.size
          have hw8 : ∀ k, k < w3.heap.size → wr.heap[k]? = wc.heap[k]? := fun k h => (hkp.block k (by omega) (by omega)).trans (HKD.out k h (by omega))
          have hs9 := hkp.size
          have HW8 := Lib.hid hw8
          have HBX := Lib.hid (And.intro hbx hkp)
          clear hbx hkp hw8
          by_cases hlt : j < p
          · have hjc : j < cs.length := by omega
            have hcell : wr.cell? ⟨qb, qo + j, none⟩ = some (.pointer (some ⟨ps j, 0, none⟩)) := (cell_of_blk (HW8.out qb (by omega))).trans (Q3.out j hjc)
            have hbx6 := (HBX.out.2.block (w3.heap.size + 1) (by omega) (by omega)).trans ((H8.out.2.1 (w3.heap.size + 1) (by omega)).trans HH.out.2.2.1)
            obtain ⟨z3, z4⟩ := box1 hbx6
            have hka : kidAt wc xb j (ps j) := ⟨_, _, _, _, _, HN.out.2.2.1, Q3.out j hjc⟩
            have htold := (HN.out.2.2.2.2.2.parts.2 j hjc (ps j) hka).told
            have hkidn := HN.out.2.2.2.2.1 j hjc
            have hrg : w2.heap.size ≤ ps j ∧ ps j < w3.heap.size := by
              by_cases h : w2.heap.size ≤ ps j ∧ ps j < w3.heap.size
              · exact h
              · rw [HKO.out _ h] at htold; cases htold
            have hpa : PAddr wr ⟨ps j, 0, none⟩ := by
              obtain ⟨c, hc⟩ := nodeAt_cells hkidn
              exact ⟨_, _, (HW8.out _ hrg.2).trans hc⟩
            have hmw : CMap wr w3.heap.size K' := HH.out.2.1.held ((HBX.out.2.block _ (by omega) (by omega)).trans (H8.out.2.1 _ (by omega))) (fun k n hk => by
              by_cases h : w2.heap.size ≤ k ∧ k < w3.heap.size
              · exact (HBX.out.2.block k (by omega) (by omega)).trans (H8.out.2.1 k (by omega))
              · rw [HKO.out k h] at hk; cases hk)
            have hlook := cmap_lookup wr Tryd.underlying101 Tryd.underlying99 HSZ.out.1 HSZ.out.2.1 HSZ.out.2.2.1 HSZ.out.2.2.2 hmw hpa htold
            have hsn := lens_snoc cs j hjc
            have hmo := lens_part cs (show j + 1 ≤ p from hlt)
            have hsum := HSUM.out
            generalize hG1 : Tr.lens ((Tr.keyss cs).take j) = g at hsn z1
            generalize hG2 : Tr.lens ((Tr.keyss cs).take (j + 1)) = g' at hsn hmo
            generalize hKL : cs[j].keys.length = kj at hsn hlook
            have hbd : R + p + g + kj ≤ 1048576 := by omega
            have HG := Lib.hid (And.intro hG2 (And.intro hsn hG1))
            have hjp : (j : Int) < (p : Int) := by omega
            clear hbx6 hka htold hkidn hpa hmw hsn hmo hG1 hG2 hKL hsum
            gi_wp2
            go_roundw
            case rel =>
              refine ⟨j + 1, by omega, by go_num, ?_, HBX.out.2.trans (Keep.setCell _ _ _ _ (by simp))⟩
              rw [HG.out.1, HG.out.2.1]
              have h := set_blk (o := 0) (.int .i64 (((R + p + (g + kj) : Nat)) : Int)) HBX.out.1
              rw [show ((R + p + (g + kj) : Nat) : Int) = (R : Int) + (p : Int) + (g : Int) + (kj : Int) by omega] at h ⊢
              simpa using h
            case measure => simp [intOf]; omega
          · obtain rfl : j = p := by omega
            gi_wp2
            refine ⟨(H8.out.2.2.1 Pv h1).trans (HBX.out.2.mono (fun k _ h e => h1 (e ▸ h))), h1, ?_⟩
            rw [HH.out.2.2.2.2.1, show R + (Tr.lens ((Tr.keyss cs).take j) + j) = R + j + Tr.lens ((Tr.keyss cs).take j) by omega]
            exact HBX.out.1
    case done =>
      intro W3' hk3 hI hlt hD
      obtain ⟨h1, h2⟩ := hI
      rw [HWP.out, ← HP.out] at h2
      obtain ⟨c6, f6⟩ := box1 h2
      have HH := Lib.hid (And.intro h2 hk3)
      have HD := Lib.hid hD
      clear h1 h2 hk3 hD
      gi_wp2
      refine ⟨by simp, .inl ⟨_, _, rfl, run_takeDeferred HD.out, ?_⟩⟩
      refine ⟨.int .i64 (t.rankB key), by simp [results, Tryd.results41, go_sem], rfl, ?_⟩
      have hkk : Keep (fun k => k < w'.heap.size) w3 (W3'.putObj wc.heap.size (.deferred none)) :=
        ((HK35.out _).trans ((HM6.out.2.2.2.mono (fun k _ h => by omega)).trans ((HKW.out.mono (fun k _ h => by omega)).trans (HH.out.2.mono (fun k _ h => by omega))))).trans (Keep.putObj _ _ wc.heap.size (.deferred none) (show ¬ wc.heap.size < w'.heap.size by omega))
      exact H2.out.1.trans ((HND.out.2.mono (by omega)).trans (hkk.below (B := w'.heap.size) (by omega) (fun k h => h)))
    case stop =>
      rintro c pre' W3' hk3 hp hI hlt hD
      exact hI.elim
end Go.Proofs.YticfkfjijnfcbaaDoor
