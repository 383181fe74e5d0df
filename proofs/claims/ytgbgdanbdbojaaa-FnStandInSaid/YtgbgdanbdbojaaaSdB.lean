/- The contract of the program's PrevKey. -/
import Derived.Test.YtgbgdanbdbojaaaProg
import Derived.Test.YtgbgdanbdbojaaaSh0
import Derived.Test.YtgbgdanbdbojaaaSh4
import Derived.Test.YtgbgdanbdbojaaaSh12
import Derived.Test.YtgbgdanbdbojaaaSh13
import Derived.Test.YtgbgdanbdbojaaaSdA
import Derived.Test.YtgbgdanbdbojaaaSh11
import Derived.Deep.LoopGhost
import Derived.Deep.RegionWith
import Derived.Deep.QuietTactic
import Derived.BigQuiet
import Derived.WalkSmall
import Derived.Test.YtgbgdanbdbojaaaPlant
import Derived.Test.YtgbgdanbdbojaaaIter
import Derived.Test.YtgbgdanbdbojaaaSh14
import Derived.RangeFuncNested
import Derived.Shelf.RegionOpen
import Derived.WalkKit
import Derived.OwnWalkIn
import Derived.TacticsInMore
import Derived.Sort.CutIn
import Derived.Test.YtgbgdanbdbojaaaSh21
import Derived.Test.YtgbgdanbdbojaaaNextSpec

/- The contract of the program's greatest: the greatest key below a node. -/
namespace Go.Proofs.Ytgbgdanbdbojaaa
open Go.RowKit

set_option maxRecDepth 100000 in
set_option maxHeartbeats 4000000 in
theorem greatest_c {w : World} {lo hi b : Nat} {t : Tr} (ht : NodeAt w lo hi b t) (hf : Tr.Full t) (hw : t.weight ≤ 1048576) (hhi : hi ≤ w.heap.size) :
    Calls Try.prog 60 #[.pointer (some ⟨b, 0, none⟩)] w fun e w'' => e = .returned (.int .i64 t.greatest) ∧ Below w.heap.size w w'' := by
  have HT := Lib.hid ht
  have HF := Lib.hid hf
  clear ht hf
  go_enter Try.func60, Try.ntmps60
  go_wp2_with fail
  go_loopg [0] t.weight (fun k s0 wr => ∃ (tr : Tr) (b' : Nat), s0 = .pointer (some ⟨b', 0, none⟩) ∧ NodeAt w lo hi b' tr ∧ Tr.Full tr ∧
    tr.weight ≤ k ∧ tr.greatest = t.greatest ∧ Below w.heap.size w wr ∧ tr.weight ≤ 1048576)
  case atStart => exact ⟨t, b, rfl, HT.out, HF.out, Nat.le_refl _, rfl, Below.refl _ _, hw⟩
  case round =>
    obtain ⟨tr, b', rfl, htr, hfl, hk, hgr, hbel, hwt⟩ := hrel
    cases tr with
    | mk ks cs =>
    have htr' : NodeAt wr lo hi b' (.mk ks cs) := htr.same (fun k _ h => hbel.block k (by omega))
    obtain ⟨kv, a, cap, ps, hlo, hhb, hbox, hki, hlen, hcap, hat, hkids⟩ := htr'.parts
    have hkids0 : ∀ i (h : i < cs.length), NodeAt w lo hi (ps i) cs[i] := fun i h => (hkids i h).same (fun k _ h => (hbel.block k (by omega)).symm)
    obtain ⟨ka, kcap, rfl, k1, k2, k3, k4⟩ := hki
    have hkn := hfl.keys
    unfold maxLen at k2 hcap
    have hl0 := Tr.length_le_weights cs
    have hwt' := hwt
    simp only [Tr.weight] at hwt'
    cases hcl : cs.length with
    | zero =>
      obtain ⟨m, hm⟩ : ∃ m, ks.length = m + 1 := ⟨ks.length - 1, by omega⟩
      have hg := Tr.greatest_leaf (k := ks) hcl
      rw [hm, Nat.add_sub_cancel] at hg
      rcases k4 with h | ⟨kb, off, rfl, hb1, hb2, hat4⟩
      · exact absurd (by rw [h]; rfl) hkn
      have ha' : wr.cell? ⟨kb, off + m, none⟩ = some (.int .i64 (ks.getD m 0)) := hat4 m (by omega)
      rw [← hg, hgr] at ha'
      rw [hm, hcl] at hbox
      rw [hm] at k1
      have HBEL := Lib.hid hbel
      obtain ⟨x1, x2, x3, x4⟩ := box2 hbox
      clear hat4 hg hat hkids htr hfl hk hbel hgr hbox hm hkn hwt hwt' hl0 hcl htr' hkids0
      go_wp2_with fail
      go_quiet (fail)
      go_wp2_with fail
      go_ret
      exact ⟨rfl, below_drewN HBEL.out _⟩
    | succ m =>
      have hic : m < cs.length := by omega
      have hgi := Tr.greatest_inner (k := ks) (cs := cs) (by omega)
      rcases hat with h | ⟨qb, qo, rfl, q1, q2, q3⟩
      · omega
      have z1 := q3 m hic
      have hgm : cs[m].greatest = t.greatest := by
        rw [← hgr, hgi]; congr 1; simp [hcl]
      rw [hcl] at hbox hlen
      obtain ⟨x1, x2, x3, x4⟩ := box2 hbox
      have HR := Lib.hid (And.intro (hkids0 m hic) (And.intro (hfl.tops.kid m hic) (And.intro hk (And.intro hgm hbel))))
      have HCL := Lib.hid hcl
      clear q3 hbox hkids hkids0 hfl hk hbel hgm hgi hgr htr htr' k4 hcl
      go_wp2_with fail
      go_quiet (fail)
      go_wp2_with fail
      go_roundg cs[m].weight
      case measure => have h := HR.out.2.2.1; simp only [Tr.weight] at h; have := Tr.weight_get_le cs m hic; omega
      case rel =>
        exact ⟨cs[m], ps m, rfl, HR.out.1, HR.out.2.1, Nat.le_refl _, HR.out.2.2.2.1, below_drewN HR.out.2.2.2.2 _, by have := Tr.weight_get_le cs m hic; omega⟩
end Go.Proofs.Ytgbgdanbdbojaaa

/- The contract of the program's StandIn. -/
namespace Go.Proofs.Ytgbgdanbdbojaaa
open Go.RowKit
attribute [local go_sem] Oper.semAt_some
attribute [local go_sem] wide_fn

set_option maxRecDepth 100000 in
set_option maxHeartbeats 4000000 in
theorem impl_stand {w : World} {B : Nat} {kv cv : Value} {t : Tr} (ht : TreeIn w B kv cv t) (hw : t.weight ≤ 1048576) (wide key : Int) (hn1 : -9223372036854775808 ≤ wide) (hn2 : wide ≤ 9223372036854775807) (w' : World) (hbw : Below B w w') (hB : B ≤ w'.heap.size) :
    Calls Try.prog 28 #[.agg #[kv, cv], .int .i64 wide, .int .i64 key] w' fun e w'' => e = .returned (.tuple #[.int .i64 (t.standB wide key).1, .bool (t.standB wide key).2]) ∧ Below w'.heap.size w' w'' := by
  obtain ⟨a5, n5, m5, a6, n6, m6, rfl, rfl⟩ := ht.slices
  obtain ⟨W1, hW1⟩ : ∃ W1, W1 = (((w'.alloc (.cells #[.slice a5 n5 m5, .slice a6 n6 m6] 26)).alloc (.cells #[.int .i64 key] 3)).alloc (.cells #[.int .i64 0] 3)).alloc (.cells #[.bool false] 4) := ⟨_, rfl⟩
  have hs1 : W1.heap.size = w'.heap.size + 4 := by rw [hW1]; simp
  have hb1 : Below w'.heap.size w' W1 := by rw [hW1]; exact ((((Below.refl _ _).alloc (Nat.le_refl _) _).alloc (by simp) _).alloc (by simp <;> omega) _).alloc (by simp <;> omega) _
  have k0 : W1.heap[w'.heap.size]? = some (.cells #[.slice a5 n5 m5, .slice a6 n6 m6] 26 (0, 0)) := by
    rw [hW1, old_blk _ _ _ (by simp <;> omega), old_blk _ _ _ (by simp <;> omega), old_blk _ _ _ (by simp), new_blk]
  have k1 : W1.heap[w'.heap.size + 1]? = some (.cells #[.int .i64 key] 3 (0, 0)) := by
    rw [hW1, old_blk _ _ _ (by simp <;> omega), old_blk _ _ _ (by simp), show w'.heap.size + 1 = (w'.alloc (.cells #[.slice a5 n5 m5, .slice a6 n6 m6] 26)).heap.size by simp, new_blk]
  have k2 : W1.heap[w'.heap.size + 1 + 1]? = some (.cells #[.int .i64 0] 3 (0, 0)) := by
    rw [hW1, old_blk _ _ _ (by simp), show w'.heap.size + 1 + 1 = ((w'.alloc (.cells #[.slice a5 n5 m5, .slice a6 n6 m6] 26)).alloc (.cells #[.int .i64 key] 3)).heap.size by simp, new_blk]
  have k3 : W1.heap[w'.heap.size + 1 + 1 + 1]? = some (.cells #[.bool false] 4 (0, 0)) := by
    rw [hW1, show w'.heap.size + 1 + 1 + 1 = (((w'.alloc (.cells #[.slice a5 n5 m5, .slice a6 n6 m6] 26)).alloc (.cells #[.int .i64 key] 3)).alloc (.cells #[.int .i64 0] 3)).heap.size by simp, new_blk]
  obtain ⟨x1, x2, x3, x4⟩ := box2 k0
  have HT := Lib.hid ht
  have HBW := Lib.hid hbw
  have HW1 := Lib.hid hW1
  have H1 := Lib.hid (And.intro hb1 (And.intro k0 (And.intro k1 (And.intro k2 k3))))
  clear ht hbw hW1 hb1 k0 k1 k2 k3
  refine (callsIn_wide (n := 9)).1 (callsIn_of_wp_marks Try.func28 rfl trivial ?_ rfl)
  simp only [Try.ntmps28, List.size_toArray, List.length_cons, List.length_nil, Nat.reduceAdd, Nat.reduceSub, Array.replicate_succ, Array.replicate_zero, List.push_toArray, List.append_toArray, List.nil_append, List.cons_append]
  gi_upto_region 1 with (fail)
  rw [← HW1.out]
  gi_wp2_with fail
  refine ((callsIn_wide (n := _)).2 (impl_valid _ _ _ _ _ wide HT.out hw hn1 hn2 W1 (HBW.out.trans (H1.out.1.mono hB)) (by omega))).mono ?_
  rintro e w2 ⟨rfl, hb2⟩
  have hs2 := hb2.size
  clear x1 x2 x3 x4
  have j0 := (hb2.block _ (by omega)).trans H1.out.2.1
  have j1 := (hb2.block _ (by omega)).trans H1.out.2.2.1
  have j2 := (hb2.block _ (by omega)).trans H1.out.2.2.2.1
  have j3 := (hb2.block _ (by omega)).trans H1.out.2.2.2.2
  obtain ⟨x1, x2, x3, x4⟩ := box2 j0
  obtain ⟨y1, y2⟩ := box1 j1
  obtain ⟨c2, f2⟩ := box1 j2
  obtain ⟨c3, f3⟩ := box1 j3
  have H2 := Lib.hid (And.intro (H1.out.1.trans (hb2.mono (by omega))) (And.intro j0 (And.intro j1 (And.intro j2 j3))))
  clear hb2 j0 j1 j2 j3
  cases hv : t.validB wide with
  | false =>
    have HP : Hid (t.standB wide key = (0, false)) := Lib.hid (by unfold Tr.standB; rw [hv]; rfl)
    clear hv
    gi_wp2_with fail
    have q2 : ((w2.setCell ⟨w'.heap.size + 1 + 1, 0, none⟩ (.int .i64 0)).setCell ⟨w'.heap.size + 1 + 1 + 1, 0, none⟩ (.bool false)).heap[w'.heap.size + 1 + 1]? = some (.cells #[.int .i64 0] 3 (0, 0)) := by
      rw [set_other _ _ _ _ _ (by omega)]; exact set_blk (o := 0) _ H2.out.2.2.2.1
    have q3 : ((w2.setCell ⟨w'.heap.size + 1 + 1, 0, none⟩ (.int .i64 0)).setCell ⟨w'.heap.size + 1 + 1 + 1, 0, none⟩ (.bool false)).heap[w'.heap.size + 1 + 1 + 1]? = some (.cells #[.bool false] 4 (0, 0)) :=
      set_blk (o := 0) (.bool false) ((set_other _ _ _ _ _ (by omega)).trans H2.out.2.2.2.2)
    have c2' := (box1 q2).1
    have c3' := (box1 q3).1
    refine ⟨.tuple #[.int .i64 0, .bool false], by simp [results, Try.results28, go_sem, c2', c3'], by rw [HP.out], ?_⟩
    exact (H2.out.1.setCell (by show w'.heap.size ≤ w'.heap.size + 1 + 1; omega) _).setCell (by show w'.heap.size ≤ w'.heap.size + 1 + 1 + 1; omega) _
  | true =>
    have hw2 : 2 ≤ wide := by
      have h := hv
      unfold Tr.validB at h
      simp only [Bool.and_eq_true, inB, decide_eq_true_eq] at h
      exact h.1.1
    have HSTD : Hid (t.standB wide key = t.stand key) := Lib.hid (by unfold Tr.standB; rw [if_pos hv])
    have HTOP := Lib.hid (Tr.Tops.of_valid hv hw2)
    have HWELL := Lib.hid (Tr.Well.of_some (Tr.someB_valid hv))
    clear hv hw2
    have HB2 : Hid (Below B w w2) := Lib.hid (HBW.out.trans (H2.out.1.mono hB))
    gi_upto_region 3 with (fail)
    gi_cut [18] from 14 (fun s18 wc => DownAt w2.heap.size 90 key t s18 wc ∧ Keep (fun k => k < w2.heap.size) w2 wc)
    case first =>
      gi_region_with (first
        | (gi_at_call 56; refine CallsIn.mono ((callsIn_wide (n := _)).2 (plant_c HT.out hw w2.drew HB2.out.drew (by simp; omega))) ?_; rintro e w8 ⟨nb, rfl, hnd, hb8⟩; have hs8 := hb8.size; have y0 := (hb8.block (w'.heap.size + 1) (by simp; omega)).trans H2.out.2.2.1; obtain ⟨u1, u2⟩ := box1 y0; have HND := Lib.hid (And.intro hnd hb8); clear hnd hb8 y0)
        | (gi_at_call 58; refine CallsIn.mono ((callsIn_wide (n := _)).2 (less_c key _)) ?_; rintro e w9 ⟨rfl, rfl⟩)
        | (gi_at_call 57; refine CallsIn.mono ((callsIn_wide (n := _)).2 (wayDown_c _ _ _ _)) ?_; rintro e w10 ⟨rfl, rfl⟩))
      all_goals (
        gi_wp2_with fail
        gi_meet
        have hdn := downAt_mk (B := w2.heap.size) (gf := 90) (n := key) (wp := w2.drew) (by simp) HND.out.1 (wl := w8) rfl HND.out.2.size
        simp only [World.size_alloc] at hdn
        refine ⟨hdn, ?_⟩
        exact (Keep.of_below ((Below.refl w2.heap.size w2).drew.trans (HND.out.2.mono (Nat.le_refl _))) (fun k _ h => h)).trans ((Keep.alloc _ _ _).trans ((Keep.alloc _ _ _).trans (Keep.alloc _ _ _))))
    case rest =>
      obtain ⟨hdn, hkc⟩ := hcut
      obtain ⟨lo, hi, b, q, bn, bf, rfl, hnd, hlo, hhi, hq0, hbn0, hbf0, hbn, hbf, hq⟩ := hdn
      obtain ⟨xs, hxs, hway⟩ := way_in key hnd HWELL.out hw
      have hit := way_less_iter key key (Lib.hid rfl) hway hhi bn bf q hbn hbf hq
      have hst := hway.stops
      have hnr := hnd.range
      have hwp := Tr.way_stand key t HWELL.out
      have htp := Tr.way_tops key t HWELL.out HTOP.out
      rw [← hxs] at hwp htp
      have l1 := (Array.getElem?_eq_some_iff.1 hbn).1
      have l2 := (Array.getElem?_eq_some_iff.1 hbf).1
      have l3 := (Array.getElem?_eq_some_iff.1 hq).1
      have e1 := (hkc.block _ (by omega) (by omega)).trans H2.out.2.2.1
      have e2 := (hkc.block _ (by omega) (by omega)).trans H2.out.2.2.2.1
      have e3 := (hkc.block _ (by omega) (by omega)).trans H2.out.2.2.2.2
      have hsc := hkc.size
      have HIT := Lib.hid hit
      have HST := Lib.hid hst
      have HWP := Lib.hid hwp
      have HTP := Lib.hid htp
      have HKC := Lib.hid hkc
      have HE := Lib.hid (And.intro e1 (And.intro e2 e3))
      clear hit hst hwp htp hkc e1 e2 e3 hxs hway hnd hbn hbf hq x1 x2 x3 x4 y1 y2 c2 f2 c3 f3
      gi_wp2_with fail
      refine wp_loop (fb := #[]) (lb := #[.pointer (some ⟨bn, 0, none⟩), .pointer (some ⟨bf, 0, none⟩)]) rfl (enters_of Try.func88 (by kernel_rfl) rfl) HIT.out (Keep.refl _ _) (fun x => rfl)
        (fun k => k < wc.heap.size ∧ k ≠ w'.heap.size + 1 + 1 ∧ k ≠ w'.heap.size + 1 + 1 + 1) (fun k h => by omega) (fun k h => h.1)
        (fun pre Pv W => ¬ Pv (w'.heap.size + 1 + 1) ∧ ¬ Pv (w'.heap.size + 1 + 1 + 1) ∧ W.heap[w'.heap.size + 1 + 1]? = some (.cells #[.int .i64 0] 3 (0, 0)) ∧ W.heap[w'.heap.size + 1 + 1 + 1]? = some (.cells #[.bool false] 4 (0, 0)) ∧
          (∀ y ∈ pre, Tr.hit key y.2 = false))
        (fun c pre Pv W => c = .ret ∧ ¬ Pv (w'.heap.size + 1 + 1) ∧ ¬ Pv (w'.heap.size + 1 + 1 + 1) ∧ (t.stand key).2 = true ∧ W.heap[w'.heap.size + 1 + 1]? = some (.cells #[.int .i64 (t.stand key).1] 3 (0, 0)) ∧ W.heap[w'.heap.size + 1 + 1 + 1]? = some (.cells #[.bool true] 4 (0, 0)))
        (fun pre Pv A Pv' B h hk hp => by
          obtain ⟨h2, h3, h4, h5, h6⟩ := h
          have q2 := (Array.getElem?_eq_some_iff.1 h4).1
          have q3 := (Array.getElem?_eq_some_iff.1 h5).1
          refine ⟨fun h => ?_, fun h => ?_, (hk.block _ q2 h2).trans h4, (hk.block _ q3 h3).trans h5, h6⟩
          · exact (hp _ h).elim h2 (fun h => by omega)
          · exact (hp _ h).elim h3 (fun h => by omega))
        (fun c pre Pv A Pv' B h hk hp => by
          obtain ⟨h0, h2, h3, h6, h4, h5⟩ := h
          have q2 := (Array.getElem?_eq_some_iff.1 h4).1
          have q3 := (Array.getElem?_eq_some_iff.1 h5).1
          refine ⟨h0, fun h => ?_, fun h => ?_, h6, (hk.block _ q2 h2).trans h4, (hk.block _ q3 h3).trans h5⟩
          · exact (hp _ h).elim h2 (fun h => by omega)
          · exact (hp _ h).elim h3 (fun h => by omega))
        ⟨by omega, by omega, HE.out.2.1, HE.out.2.2, fun y h => by simp at h⟩
        (fun x => { tmps := #[.agg #[.slice a5 n5 m5, .slice a6 n6 m6], .int .i64 wide, .int .i64 key, .pointer (some ⟨w'.heap.size, 0, none⟩), undef, .pointer (some ⟨w'.heap.size + 1, 0, none⟩), .pointer (some ⟨w'.heap.size + 1 + 1, 0, none⟩), .pointer (some ⟨w'.heap.size + 1 + 1 + 1, 0, none⟩),
          .pointer (some ⟨x.1, 0, none⟩), .int .i64 (place key x.2.ks), .agg #[.slice a5 n5 m5, .slice a6 n6 m6], .int .i64 wide, .bool true, .bool false, u14, u15, u16, u17, .func (.func 88) #[] #[.pointer (some ⟨bn, 0, none⟩), .pointer (some ⟨bf, 0, none⟩)],
          .pointer (some ⟨x.1, 0, none⟩), .int .i64 (place key x.2.ks), u21, u22, u23, u24, u25, u26, u27, u28, u29, u30, u31, u32, u33, u34, u35, u36, u37, u38, u39, u40], defers := [] })
        ?assign ?body ?done ?stop
      case assign =>
        intro l' m x W' K hK
        dsimp only [wayEnc]
        gi_wp2
        exact hK
      case body =>
        intro l' m pre x Pv W' hI hkW hsub hbnd hp
        obtain ⟨xb, ⟨ks, cs⟩⟩ := x
        obtain ⟨h2, h3, h4, h5, h6⟩ := hI
        have hmem := hp.subset (by simp : (xb, Tr.mk ks cs) ∈ pre ++ [(xb, Tr.mk ks cs)])
        obtain ⟨kvx, ax, capx, hs⟩ := HST.out _ hmem
        have htx := HTP.out (.mk ks cs) (List.mem_map.2 ⟨_, hmem, rfl⟩)
        have hxl := hs.low
        have hxh := hs.high
        have hsame : ∀ k, lo ≤ k → k < hi → W'.heap[k]? = wc.heap[k]? := fun k g1 g2 => hkW.block k (by omega) ⟨by omega, by omega, by omega⟩
        have hnw : NodeAt W' lo hi xb (.mk ks cs) := hs.node.same hsame
        have hwx := hs.light
        have hwl := hs.well
        obtain ⟨kvy, ay, capy, ps, _, _, hbx, hks, hlen, hcap, hat, hkids⟩ := hnw.parts
        have hkey := (hkW.block (w'.heap.size + 1) (by omega) ⟨by omega, by omega, by omega⟩).trans HE.out.1
        have hpl := place_le key ks
        have hpre : (pre.map Prod.snd ++ [Tr.mk ks cs]) <+: xs.map Prod.snd := by
          have := List.IsPrefix.map Prod.snd hp
          simpa using this
        have hka := hks.in.at
        obtain ⟨ka, kcap, rfl, k1, k2, k3, k4⟩ := hks
        unfold maxLen at k2 hcap
        obtain ⟨x1, x2, x3, x4⟩ := box2 hbx
        obtain ⟨y1, y2⟩ := box1 hkey
        obtain ⟨c2, f2⟩ := box1 h4
        obtain ⟨c3, f3⟩ := box1 h5
        have hwp := HWP.out.1 (pre.map Prod.snd) (.mk ks cs) hpre (fun y hy => by
          obtain ⟨z, hz, rfl⟩ := List.mem_map.1 hy
          exact h6 z hz)
        have hhas : Tr.hasAt key (.mk ks cs) = decide (place key ks < ks.length ∧ ks.getD (place key ks) 0 = key) := rfl
        have hsw : hi ≤ W'.heap.size := by have := hkW.size; omega
        have hq3 := (Array.getElem?_eq_some_iff.1 h5).1
        have hend : ∀ y, (y ∈ pre ++ [(xb, Tr.mk ks cs)]) → Tr.hit key (.mk ks cs) = false → Tr.hit key y.2 = false := fun y hy h => by
          rcases List.mem_append.1 hy with hy | hy
          · exact h6 y hy
          · simp at hy; subst hy; exact h
        dsimp only [Tr.ks]
        obtain ⟨i, hie⟩ : ∃ i, i = place key ks := ⟨_, rfl⟩
        rw [← hie] at hpl hhas ⊢
        have hcall := hasAt_c hbx hka (by omega) i hpl key
        rw [← hhas] at hcall
        have HI := Lib.hid hie
        have HH := Lib.hid (And.intro h4 (And.intro h5 h6))
        have HWPX := Lib.hid hwp
        have HEND := Lib.hid hend
        have HHAS := Lib.hid hhas
        have HKIDS := Lib.hid hkids
        have HAT := Lib.hid hat
        have HWL := Lib.hid hwl
        have HTX := Lib.hid htx
        have HBND := Lib.hid hbnd
        have hl0 := Tr.length_le_weights cs
        simp only [Tr.weight] at hwx
        clear h4 h5 h6 hie hwp hhas hend k4 k3 hka hpre hbx hkey hs hp hkW hsub hbnd hkids hat hwl htx hmem hsame hnw
        by_cases hleaf : cs.length = 0
        · have hleaf' : ¬ ((cs.length : Int) > 0) := by omega
          have HNO : Hid (Tr.hit key (.mk ks cs) = false) := Lib.hid (by have hi : Tr.inner (.mk ks cs) = false := decide_eq_false (by show ¬ cs.length ≠ 0; omega); unfold Tr.hit; rw [hi, Bool.and_false])
          cases hx : Tr.hasAt key (.mk ks cs) with
          | true =>
            rw [hx] at hcall
            have HCALL := Lib.hid hcall
            clear hcall hx hleaf
            gi_wp2
            refine ⟨fun h => (by cases h), ?_⟩
            refine (CallsIn.inRound l' (callsIn_wide.2 HCALL.out)).mono ?_
            rintro e w10 ⟨rfl, rfl⟩
            gi_wp2
            exact ⟨Keep.refl _ _, h2, h3, HH.out.1, HH.out.2.1, fun y hy => HEND.out y hy HNO.out⟩
          | false =>
            rw [hx] at hcall
            have HCALL := Lib.hid hcall
            clear hcall hx hleaf
            gi_wp2
            refine ⟨fun h => (by cases h), ?_⟩
            refine (CallsIn.inRound l' (callsIn_wide.2 HCALL.out)).mono ?_
            rintro e w10 ⟨rfl, rfl⟩
            gi_wp2
            exact ⟨Keep.refl _ _, h2, h3, HH.out.1, HH.out.2.1, fun y hy => HEND.out y hy HNO.out⟩
        · have hleaf' : ((cs.length : Int) > 0) := by omega
          cases hx : Tr.hasAt key (.mk ks cs) with
          | true =>
            have hhit : Tr.hit key (.mk ks cs) = true := by unfold Tr.hit Tr.inner; rw [hx]; simp only [Tr.cs]; simp [hleaf]
            have hfd : place key ks < ks.length ∧ ks.getD (place key ks) 0 = key := by
              have h := HHAS.out
              rw [hx, HI.out] at h
              simpa using h.symm
            have hcl := Tr.Well.inner HWL.out hleaf
            have hic : i < cs.length := by omega
            have hst : t.stand key = (cs[i].greatest, true) := by
              have h1 := HWPX.out hhit
              rw [h1]
              obtain rfl := HI.out
              exact Tr.stand_found hfd hic
            have hwk := Tr.weight_get_le cs i hic
            rcases HAT.out with h | ⟨qb, qo, rfl, q1, q2, q3⟩
            · exact absurd h hleaf
            have z1 := q3 i hic
            have hic' : (i : Int) < (cs.length : Int) := by omega
            have hgc := greatest_c (HKIDS.out i hic) (HTX.out.kid i hic) (by omega) hsw
            have HST2 := Lib.hid hst
            have HGC := Lib.hid hgc
            rw [hx] at hcall
            have HCALL := Lib.hid hcall
            clear hcall hx hleaf hst hgc q3 hfd hhit
            gi_wp2
            refine ⟨fun h => (by cases h), ?_⟩
            refine (CallsIn.inRound l' (callsIn_wide.2 HCALL.out)).mono ?_
            rintro e w10 ⟨rfl, rfl⟩
            gi_wp2
            refine ⟨fun h => (by cases h), ?_⟩
            refine (CallsIn.inRound l' (callsIn_wide.2 HGC.out)).mono ?_
            rintro e w11 ⟨rfl, hb11⟩
            have h4 := (hb11.block _ (by omega)).trans HH.out.1
            have h5 := (hb11.block _ (by omega)).trans HH.out.2.1
            clear c2 f2 c3 f3
            obtain ⟨c2, f2⟩ := box1 h4
            obtain ⟨c3, f3⟩ := box1 h5
            have H4 := Lib.hid (And.intro h4 (And.intro h5 hb11))
            clear h4 h5 hb11 x1 x2 x3 x4 y1 y2 z1
            gi_wp2
            refine ⟨(Keep.of_below H4.out.2.2 (fun k _ h => HBND.out k h)).trans ((Keep.setCell _ _ _ _ h2).trans (Keep.setCell _ _ _ _ h3)), rfl, h2, h3, by rw [HST2.out], ?_, ?_⟩
            · rw [set_other _ _ _ _ _ (by omega), HST2.out]; exact set_blk (o := 0) _ H4.out.1
            · exact set_blk (o := 0) (.bool true) ((set_other _ _ _ _ _ (by omega)).trans H4.out.2.1)
          | false =>
            have HNO : Hid (Tr.hit key (.mk ks cs) = false) := Lib.hid (by unfold Tr.hit; rw [hx]; rfl)
            rw [hx] at hcall
            have HCALL := Lib.hid hcall
            clear hcall hx hleaf
            gi_wp2
            refine ⟨fun h => (by cases h), ?_⟩
            refine (CallsIn.inRound l' (callsIn_wide.2 HCALL.out)).mono ?_
            rintro e w10 ⟨rfl, rfl⟩
            gi_wp2
            exact ⟨Keep.refl _ _, h2, h3, HH.out.1, HH.out.2.1, fun y hy => HEND.out y hy HNO.out⟩
      case done =>
        intro W3' hk3 hI hlt hD
        obtain ⟨h2, h3, h4, h5, h6⟩ := hI
        have hpp := HWP.out.2 (fun y hy => by
          obtain ⟨z, hz, rfl⟩ := List.mem_map.1 hy
          exact h6 z hz)
        obtain ⟨c2, f2⟩ := box1 h4
        obtain ⟨c3, f3⟩ := box1 h5
        have HH := Lib.hid (And.intro h4 (And.intro h5 hk3))
        have HD := Lib.hid hD
        have HPP := Lib.hid hpp
        clear h2 h3 h4 h5 h6 hpp hk3 hD
        gi_wp2
        obtain ⟨W5, hW5⟩ : ∃ W5, W5 = ((W3'.setCell ⟨w'.heap.size + 1 + 1, 0, none⟩ (.int .i64 0)).setCell ⟨w'.heap.size + 1 + 1 + 1, 0, none⟩ (.bool false)).putObj wc.heap.size (.deferred none) := ⟨_, rfl⟩
        have hD5 : ((W3'.setCell ⟨w'.heap.size + 1 + 1, 0, none⟩ (.int .i64 0)).setCell ⟨w'.heap.size + 1 + 1 + 1, 0, none⟩ (.bool false)).heap[wc.heap.size]? = some (.deferred (some [])) := by
          rw [set_other _ _ _ _ _ (by omega), set_other _ _ _ _ _ (by omega)]; exact HD.out
        refine ⟨by simp, .inl ⟨_, _, rfl, run_takeDeferred hD5, ?_⟩⟩
        have q2 : W5.heap[w'.heap.size + 1 + 1]? = some (.cells #[.int .i64 0] 3 (0, 0)) := by
          rw [hW5]; refine (World.putObj_heap_other (by omega)).trans ?_
          rw [set_other _ _ _ _ _ (by omega)]; exact set_blk (o := 0) _ HH.out.1
        have q3 : W5.heap[w'.heap.size + 1 + 1 + 1]? = some (.cells #[.bool false] 4 (0, 0)) := by
          rw [hW5]; refine (World.putObj_heap_other (by omega)).trans ?_
          exact set_blk (o := 0) (.bool false) ((set_other _ _ _ _ _ (by omega)).trans HH.out.2.1)
        have hk5 : Keep (fun k => k < w'.heap.size) W3' W5 := by rw [hW5]; exact ((Keep.setCell _ _ _ _ (by show ¬ w'.heap.size + 1 + 1 < w'.heap.size; omega)).trans (Keep.setCell _ _ _ _ (by show ¬ w'.heap.size + 1 + 1 + 1 < w'.heap.size; omega))).trans (Keep.putObj _ _ _ _ (by omega))
        have c2' := (box1 q2).1
        have c3' := (box1 q3).1
        rw [← hW5]
        refine ⟨.tuple #[.int .i64 0, .bool false], by simp [results, Try.results28, go_sem, c2', c3'], by rw [HSTD.out, HPP.out], ?_⟩
        exact H2.out.1.trans ((((HKC.out.mono (fun k _ h => by omega)).trans (HH.out.2.2.mono (fun k hlt h => by omega))).trans hk5).below (B := w'.heap.size) (by omega) (fun k h => h))
      case stop =>
        rintro c pre' W3' hk3 hp ⟨rfl, h2, h3, h6, h4, h5⟩ hlt hD
        have HH := Lib.hid (And.intro h4 (And.intro h5 hk3))
        have HD := Lib.hid hD
        have H6 := Lib.hid h6
        clear h2 h3 h4 h5 h6 hk3 hD
        gi_wp2
        refine ⟨by simp, .inl ⟨_, _, rfl, run_takeDeferred HD.out, ?_⟩⟩
        obtain ⟨W5, hW5⟩ : ∃ W5, W5 = W3'.putObj wc.heap.size (.deferred none) := ⟨_, rfl⟩
        have q2 : W5.heap[w'.heap.size + 1 + 1]? = some (.cells #[.int .i64 (t.stand key).1] 3 (0, 0)) := by
          rw [hW5]; exact (World.putObj_heap_other (by omega)).trans HH.out.1
        have q3 : W5.heap[w'.heap.size + 1 + 1 + 1]? = some (.cells #[.bool true] 4 (0, 0)) := by
          rw [hW5]; exact (World.putObj_heap_other (by omega)).trans HH.out.2.1
        have hk5 : Keep (fun k => k < w'.heap.size) W3' W5 := by rw [hW5]; exact Keep.putObj _ _ _ _ (by omega)
        have c2' := (box1 q2).1
        have c3' := (box1 q3).1
        rw [← hW5]
        refine ⟨.tuple #[.int .i64 (t.stand key).1, .bool true], by simp [results, Try.results28, go_sem, c2', c3'], by rw [HSTD.out, H6.out], ?_⟩
        exact H2.out.1.trans ((((HKC.out.mono (fun k _ h => by omega)).trans (HH.out.2.2.mono (fun k hlt h => by omega))).trans hk5).below (B := w'.heap.size) (by omega) (fun k h => h))
end Go.Proofs.Ytgbgdanbdbojaaa

/- The contract of the program's PrevKey. -/
namespace Go.Proofs.Ytgbgdanbdbojaaa
open Go.RowKit
attribute [local go_sem] Oper.semAt_some
attribute [local go_sem] wide_fn

set_option maxRecDepth 100000 in
set_option maxHeartbeats 4000000 in
theorem impl_prev {w : World} {B : Nat} {kv cv : Value} {t : Tr} (ht : TreeIn w B kv cv t) (hw : t.weight ≤ 1048576) (key : Int) (w' : World) (hbw : Below B w w') (hB : B ≤ w'.heap.size) :
    Calls Try.prog 30 #[.agg #[kv, cv], .int .i64 key] w' fun e w'' => e = .returned (.tuple #[.int .i64 (t.prevB key).1, .bool (t.prevB key).2]) ∧ Below w'.heap.size w' w'' := by
  obtain ⟨a5, n5, m5, a6, n6, m6, rfl, rfl⟩ := ht.slices
  obtain ⟨W1, hW1⟩ : ∃ W1, W1 = w'.alloc (.cells #[.slice a5 n5 m5, .slice a6 n6 m6] 26) := ⟨_, rfl⟩
  have hs1 : W1.heap.size = w'.heap.size + 1 := by rw [hW1]; simp
  have hb1 : Below w'.heap.size w' W1 := by rw [hW1]; exact (Below.refl _ _).alloc (Nat.le_refl _) _
  have k0 : W1.heap[w'.heap.size]? = some (.cells #[.slice a5 n5 m5, .slice a6 n6 m6] 26 (0, 0)) := by rw [hW1, new_blk]
  obtain ⟨x1, x2, x3, x4⟩ := box2 k0
  have hsome := Tr.prevB_is key t
  have HT := Lib.hid ht
  have HBW := Lib.hid hbw
  have HW1 := Lib.hid hW1
  have H1 := Lib.hid (And.intro hb1 k0)
  have HSOME := Lib.hid hsome
  clear ht hbw hW1 hb1 k0 hsome
  refine (callsIn_wide (n := 9)).1 (callsIn_of_wp_marks Try.func30 rfl trivial ?_ rfl)
  simp only [Try.ntmps30, List.size_toArray, List.length_cons, List.length_nil, Nat.reduceAdd, Nat.reduceSub, Array.replicate_succ, Array.replicate_zero, List.push_toArray, List.append_toArray, List.nil_append, List.cons_append]
  gi_wp2_with fail
  rw [← HW1.out]
  refine ((callsIn_wide (n := _)).2 (validForSome_c HT.out hw W1 (HBW.out.trans (H1.out.1.mono hB)) (by omega))).mono ?_
  rintro e w2 ⟨rfl, hb2⟩
  have hs2 := hb2.size
  clear x1 x2 x3 x4
  have j0 := (hb2.block _ (by omega)).trans H1.out.2
  obtain ⟨x1, x2, x3, x4⟩ := box2 j0
  have hb2' := H1.out.1.trans (hb2.mono (by omega))
  have H2 := Lib.hid (And.intro hb2' j0)
  clear hb2 hb2' j0
  cases hv : t.someB with
  | false =>
    have hp := HSOME.out.2 hv
    have HP := Lib.hid hp
    have HV := Lib.hid hv
    clear hp hv
    gi_wp2_with fail
    exact ⟨.tuple #[.int .i64 0, .bool false], by simp [results, Try.results30, go_sem], ret_ib (by rw [HP.out]) (by rw [HP.out]), H2.out.1⟩
  | true =>
    have hp := HSOME.out.1 hv
    have hwell := Tr.Well.of_some hv
    have HP := Lib.hid hp
    have HV := Lib.hid hv
    have HWELL := Lib.hid hwell
    clear hp hv hwell
    obtain ⟨W3, hW3⟩ : ∃ W3, W3 = (w2.alloc (.cells #[.int .i64 0] 3)).alloc (.cells #[.bool false] 4) := ⟨_, rfl⟩
    have hs3 : W3.heap.size = w2.heap.size + 2 := by rw [hW3]; simp
    have hb3 : Below w2.heap.size w2 W3 := by rw [hW3]; exact ((Below.refl _ _).alloc (Nat.le_refl _) _).alloc (by simp) _
    have k6 : W3.heap[w2.heap.size]? = some (.cells #[.int .i64 0] 3 (0, 0)) := by
      rw [hW3]; exact (old_blk _ _ _ (by simp)).trans (new_blk _ _)
    have k7 : W3.heap[w2.heap.size + 1]? = some (.cells #[.bool false] 4 (0, 0)) := by
      rw [hW3]
      have h := new_blk (w2.alloc (.cells #[.int .i64 0] 3)) (.cells #[.bool false] 4)
      rw [World.size_alloc] at h; exact h
    have j0 := (hb3.block _ (by omega)).trans H2.out.2
    clear x1 x2 x3 x4
    obtain ⟨x1, x2, x3, x4⟩ := box2 (H2.out.2)
    obtain ⟨y1, y2, y3, y4⟩ := box2 j0
    have hb3' := H2.out.1.trans (hb3.mono (by omega))
    have hB3 : Below B w W3 := HBW.out.trans (hb3'.mono hB)
    have H3 := Lib.hid (And.intro hb3' (And.intro k6 k7))
    have HB3 := Lib.hid hB3
    have HW3 := Lib.hid hW3
    clear hb3 hb3' j0 k6 k7 hB3 hW3
    gi_upto_region 4 with (fail)
    rw [← HW3.out]
    clear x1 x2 x3 x4
    gi_wp2_with fail
    refine CallsIn.mono ((callsIn_wide (n := _)).2 (plant_c HT.out hw _ HB3.out (by omega))) ?_
    rintro e w8 ⟨nb, rfl, hnd, hb8⟩
    have hs8 := hb8.size
    have HND := Lib.hid (And.intro hnd hb8)
    clear hnd hb8 y1 y2 y3 y4
    gi_wp2_with fail
    refine CallsIn.mono ((callsIn_wide (n := _)).2 (less_c key _)) ?_
    rintro e w9 ⟨rfl, rfl⟩
    gi_wp2_with fail
    refine CallsIn.mono ((callsIn_wide (n := _)).2 (wayDown_c _ _ _ _)) ?_
    rintro e w10 ⟨rfl, rfl⟩
    have hdn := downAt_mk (B := W3.heap.size) (gf := 90) (n := key) (wp := W3) (Nat.le_refl _) HND.out.1 (wl := w8) rfl HND.out.2.size
    have hkc : Keep (fun k => k < W3.heap.size) W3 (((w8.alloc (.cells #[.int .i64 key] 3)).alloc (.cells #[.pointer (some ⟨nb, 0, none⟩)] 53)).alloc (.cells #[.func (.func 90) #[] #[.pointer (some ⟨w8.heap.size, 0, none⟩)]] 71)) :=
      (Keep.of_below HND.out.2 (fun k _ h => h)).trans ((Keep.alloc _ _ _).trans ((Keep.alloc _ _ _).trans (Keep.alloc _ _ _)))
    generalize (((w8.alloc (.cells #[.int .i64 key] 3)).alloc (.cells #[.pointer (some ⟨nb, 0, none⟩)] 53)).alloc (.cells #[.func (.func 90) #[] #[.pointer (some ⟨w8.heap.size, 0, none⟩)]] 71)) = wc at hdn hkc ⊢
    obtain ⟨lo, hi, b, q, bn, bf, hfv, hnd, hlo, hhi, hq0, hbn0, hbf0, hbn, hbf, hq⟩ := hdn
    rw [hfv]
    clear hfv
    obtain ⟨xs, hxs, hway⟩ := way_in (key) hnd HWELL.out hw
    have hit := way_less_iter key (key) (Lib.hid rfl) hway hhi bn bf q hbn hbf hq
    have hst := hway.stops
    have hnr := hnd.range
    have hwp := Tr.prev_way (key) t HWELL.out (0, false)
    rw [← hxs] at hwp
    have l1 := (Array.getElem?_eq_some_iff.1 hbn).1
    have l2 := (Array.getElem?_eq_some_iff.1 hbf).1
    have l3 := (Array.getElem?_eq_some_iff.1 hq).1
    have e6 := (hkc.block _ (by omega) (by omega)).trans H3.out.2.1
    have e7 := (hkc.block _ (by omega) (by omega)).trans H3.out.2.2
    have hsc := hkc.size
    have HIT := Lib.hid hit
    have HST := Lib.hid hst
    have HWP := Lib.hid hwp
    have HKC := Lib.hid hkc
    have HE := Lib.hid (And.intro e6 e7)
    clear hit hst hwp hkc e6 e7 hxs hway hnd hbn hbf hq
    gi_wp2_with fail
    refine wp_loop (fb := #[]) (lb := #[.pointer (some ⟨bn, 0, none⟩), .pointer (some ⟨bf, 0, none⟩)]) rfl (enters_of Try.func88 (by kernel_rfl) rfl) HIT.out (Keep.refl _ _) (fun x => rfl)
      (fun k => k < wc.heap.size ∧ k ≠ w2.heap.size ∧ k ≠ w2.heap.size + 1) (fun k h => by omega) (fun k h => h.1)
      (fun pre Pv W => ¬ Pv w2.heap.size ∧ ¬ Pv (w2.heap.size + 1) ∧ W.heap[w2.heap.size]? = some (.cells #[.int .i64 ((pre.map Prod.snd).foldl (Tr.prevStep (key)) (0, false)).1] 3 (0, 0)) ∧ W.heap[w2.heap.size + 1]? = some (.cells #[.bool ((pre.map Prod.snd).foldl (Tr.prevStep (key)) (0, false)).2] 4 (0, 0)))
      (fun c pre Pv W => False)
      (fun pre Pv A Pv' B h hk hp => by
        obtain ⟨h1, h2, h3, h4⟩ := h
        have q3 := (Array.getElem?_eq_some_iff.1 h3).1
        have q4 := (Array.getElem?_eq_some_iff.1 h4).1
        refine ⟨fun h => ?_, fun h => ?_, (hk.block _ q3 h1).trans h3, (hk.block _ q4 h2).trans h4⟩
        · exact (hp _ h).elim h1 (fun h => by omega)
        · exact (hp _ h).elim h2 (fun h => by omega))
      (fun c pre Pv A Pv' B h hk hp => h)
      ⟨by omega, by omega, HE.out.1, HE.out.2⟩
      (fun x => { tmps := #[.agg #[.slice a5 n5 m5, .slice a6 n6 m6], .int .i64 key, .pointer (some ⟨w'.heap.size, 0, none⟩), undef, .int .i64 0, .bool false, .pointer (some ⟨w2.heap.size, 0, none⟩), .pointer (some ⟨w2.heap.size + 1, 0, none⟩),
        .pointer (some ⟨x.1, 0, none⟩), .int .i64 (place (key) x.2.ks), .agg #[.slice a5 n5 m5, .slice a6 n6 m6], .bool true, .bool false, .agg #[.slice a5 n5 m5, .slice a6 n6 m6], .pointer (some ⟨nb, 0, none⟩), .int .i64 key, .func (.func 90) #[] #[.pointer (some ⟨w8.heap.size, 0, none⟩)],
        .func (.func 88) #[] #[.pointer (some ⟨bn, 0, none⟩), .pointer (some ⟨bf, 0, none⟩)], .pointer (some ⟨x.1, 0, none⟩), .int .i64 (place (key) x.2.ks), undef, undef, undef, undef, undef, undef, undef, undef, undef, undef, undef, undef, undef], defers := [] })
      ?assign ?body ?done ?stop
    case assign =>
      intro l' m x W' K hK
      dsimp only [wayEnc]
      gi_wp2
      exact hK
    case body =>
      intro l' m pre x Pv W' hI hkW hsub hbnd hp
      obtain ⟨xb, ⟨ks, cs⟩⟩ := x
      obtain ⟨h1, h2, h3, h4⟩ := hI
      obtain ⟨kvx, ax, capx, hs⟩ := HST.out _ (hp.subset (by simp : (xb, Tr.mk ks cs) ∈ pre ++ [(xb, Tr.mk ks cs)]))
      have hxl := hs.low
      have hxh := hs.high
      have hks : IntsR W' lo hi kvx ks := hs.keys.same (fun k g1 g2 => hkW.block k (by omega) ⟨by omega, by omega, by omega⟩)
      have hbx : W'.heap[xb]? = some (.cells #[kvx, .slice ax cs.length capx] 85 (0, 0)) := (hkW.block xb (by omega) ⟨by omega, by omega, by omega⟩).trans hs.box
      have hpl := place_le (key) ks
      have hsn : ((pre ++ [(xb, Tr.mk ks cs)]).map Prod.snd).foldl (Tr.prevStep (key)) (0, false) = Tr.prevStep (key) ((pre.map Prod.snd).foldl (Tr.prevStep (key)) (0, false)) (.mk ks cs) := by simp
      rw [Tr.prevStep_mk] at hsn
      obtain ⟨ka, kcap, rfl, k1, k2, k3, k4⟩ := hks
      unfold maxLen at k2
      obtain ⟨x1, x2, x3, x4⟩ := box2 hbx
      obtain ⟨c6, f6⟩ := box1 h3
      obtain ⟨c7, f7⟩ := box1 h4
      dsimp only [Tr.ks]
      obtain ⟨i, hi⟩ : ∃ i, i = place (key) ks := ⟨_, rfl⟩
      rw [← hi] at hpl hsn ⊢
      have HH := Lib.hid (And.intro h3 h4)
      have HSN := Lib.hid hsn
      have HK4 := Lib.hid k4
      clear h3 h4 hi hsn k4 hbx hs hp hkW hsub hbnd
      by_cases f1 : 0 < i
      · rcases HK4.out with h0 | ⟨kb, ko, rfl, g1, g2, g3⟩
        · exfalso; have h9 : ks.length = 0 := by rw [h0]; rfl
          omega
        have hb9 := Lib.hid (HSN.out.trans (if_pos f1))
        have f1' : (0 : Int) < (i : Int) := by omega
        obtain ⟨j, rfl⟩ : ∃ j, i = j + 1 := ⟨i - 1, by omega⟩
        have z1 := g3 j (by omega)
        have hjj : ((j + 1 : Nat) : Int) - 1 = (j : Int) := by omega
        have hjl : (j : Int) < (ks.length : Int) := by omega
        obtain ⟨kk, hkk⟩ : ∃ kk, kk = ks.getD j 0 := ⟨_, rfl⟩
        rw [← hkk] at z1
        have HKK := Lib.hid hkk
        clear g3 g1 g2 hkk f1
        gi_wp2
        refine ⟨(Keep.setCell _ _ _ _ h1).trans (Keep.setCell _ _ _ _ h2), h1, h2, ?_, ?_⟩
        · rw [set_other _ _ _ _ _ (by omega), hb9.out, Nat.add_sub_cancel, ← HKK.out]; exact set_blk (o := 0) _ HH.out.1
        · rw [hb9.out]; exact set_blk (o := 0) (.bool true) ((set_other _ _ _ _ _ (by omega)).trans HH.out.2)
      · have hb9 := Lib.hid (HSN.out.trans (if_neg f1))
        have f1' : ¬ (0 : Int) < (i : Int) := by omega
        clear f1
        gi_wp2
        refine ⟨Keep.refl _ _, h1, h2, ?_, ?_⟩
        · rw [hb9.out]; exact HH.out.1
        · rw [hb9.out]; exact HH.out.2
    case done =>
      intro W3' hk3 hI hlt hD
      obtain ⟨h1, h2, h3, h4⟩ := hI
      rw [HWP.out, ← HP.out] at h3 h4
      obtain ⟨c6, f6⟩ := box1 h3
      obtain ⟨c7, f7⟩ := box1 h4
      have HH := Lib.hid (And.intro h3 (And.intro h4 hk3))
      have HD := Lib.hid hD
      clear h1 h2 h3 h4 hk3 hD
      gi_wp2
      gi_quiet (fail)
      gi_wp2
      refine ⟨by simp, .inl ⟨_, _, rfl, run_takeDeferred (w := W3'.drewN nq) HD.out, ?_⟩⟩
      refine ⟨.tuple #[.int .i64 (t.prevB key).1, .bool (t.prevB key).2], by simp [results, Try.results30, go_sem], rfl, ?_⟩
      exact H3.out.1.trans (((((HKC.out.mono (fun k _ h => by omega)).trans (HH.out.2.2.mono (fun k hlt h => by omega))).trans (Keep.drewN _ _ _)).trans (Keep.putObj _ _ wc.heap.size (.deferred none) (show ¬ wc.heap.size < w'.heap.size by omega))).below (B := w'.heap.size) (by omega) (fun k h => h))
    case stop =>
      rintro c pre' W3' hk3 hp hI hlt hD
      exact hI.elim
end Go.Proofs.Ytgbgdanbdbojaaa
