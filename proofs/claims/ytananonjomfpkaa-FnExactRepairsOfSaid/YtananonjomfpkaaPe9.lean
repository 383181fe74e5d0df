/- Nodes of the program, each with the cells that are its own. -/
import Derived.Test.YtananonjomfpkaaProg
import Derived.Test.YtananonjomfpkaaPe0
import Derived.Test.YtananonjomfpkaaPe1
import Derived.Test.YtananonjomfpkaaPe6
import Derived.Test.YtananonjomfpkaaPe7
import Derived.Test.YtananonjomfpkaaPe8
import Derived.Maps.OwnIn
import Derived.RangeFuncNested
import Derived.Shelf.RegionOpen
import Derived.WalkKit
import Derived.OwnWalkIn
import Derived.TacticsInMore
import Derived.Sort.CutIn
import Derived.ArgAppend

/- The contract of pathTo: the way to a key from a node. -/
namespace Go.Proofs.Ytananonjomfpkaa
open Go.RowKit
attribute [local go_sem] Oper.semAt_some
attribute [local go_sem] wide_fn

set_option maxRecDepth 100000 in
set_option maxHeartbeats 4000000 in
theorem pathTo_c {w : World} {lo hi b : Nat} {t : Tr} (ht : NodeAt w lo hi b t) (hwell : Tr.Well t) (hw : t.weight ≤ 1048576) (key : Int) (w' : World) (hbw : Below hi w w') (hhi' : hi ≤ w'.heap.size) :
    Calls Try.prog 103 #[.pointer (some ⟨b, 0, none⟩), .int .i64 key] w' fun e w'' => ∃ v, e = .returned (.tuple #[v, .bool (t.path key).2]) ∧ IntsOwn w'' w'.heap.size v (t.path key).1 ∧ Below w'.heap.size w' w'' := by
  obtain ⟨i0, hi0, hz0, hz1, hz2⟩ := info_parts Try.appInfo
  obtain ⟨w2, hw2⟩ : ∃ w2, w2 = ((w'.alloc (.cells #[.int .i64 key] 3)).alloc (.cells #[.slice none 0 0] 23)).alloc (.cells #[.bool false] 4) := ⟨_, rfl⟩
  have hs2 : w2.heap.size = w'.heap.size + 3 := by rw [hw2]; simp
  have hb2 : Below w'.heap.size w' w2 := by rw [hw2]; exact (((Below.refl _ _).alloc (Nat.le_refl _) _).alloc (by simp) _).alloc (by simp <;> omega) _
  have k1 : w2.heap[w'.heap.size]? = some (.cells #[.int .i64 key] 3 (0, 0)) := by
    rw [hw2, old_blk _ _ _ (by simp <;> omega), old_blk _ _ _ (by simp), new_blk]
  have k2 : w2.heap[w'.heap.size + 1]? = some (.cells #[.slice none 0 0] 23 (0, 0)) := by
    rw [hw2, old_blk _ _ _ (by simp), show w'.heap.size + 1 = (w'.alloc (.cells #[.int .i64 key] 3)).heap.size by simp, new_blk]
  have k3 : w2.heap[w'.heap.size + 1 + 1]? = some (.cells #[.bool false] 4 (0, 0)) := by
    rw [hw2, show w'.heap.size + 1 + 1 = ((w'.alloc (.cells #[.int .i64 key] 3)).alloc (.cells #[.slice none 0 0] 23)).heap.size by simp, new_blk]
  obtain ⟨W3, hW3⟩ : ∃ W3, W3 = w2.alloc (.cells #[.slice none 0 0] 23) := ⟨_, rfl⟩
  have hs3 : W3.heap.size = w2.heap.size + 1 := by rw [hW3]; simp
  have hb3 : Below w2.heap.size w2 W3 := by rw [hW3]; exact (Below.refl _ _).alloc (Nat.le_refl _) _
  have k6 : W3.heap[w2.heap.size]? = some (.cells #[.slice none 0 0] 23 (0, 0)) := by rw [hW3, new_blk]
  have j1 := (hb3.block _ (by omega)).trans k1
  have j2 := (hb3.block _ (by omega)).trans k2
  have j3 := (hb3.block _ (by omega)).trans k3
  have hb3' := hb2.trans (hb3.mono (by omega))
  have hnd3 : NodeAt W3 lo hi b t := ht.same (fun k _ h => ((hb3'.mono hhi').block k h).trans (hbw.block k h))
  have HND3 := Lib.hid hnd3
  have H3 := Lib.hid (And.intro hb3' (And.intro j1 (And.intro j1 (And.intro j2 (And.intro j3 k6)))))
  have HW2 := Lib.hid hw2
  have HW3 := Lib.hid hW3
  have HWELL := Lib.hid hwell
  have HS := Lib.hid (And.intro hs2 hs3)
  obtain ⟨y1, y2⟩ := box1 k1
  obtain ⟨z1, z2⟩ := box1 j1
  clear ht hbw hw2 hb2 k1 k2 k3 hb3 k6 j1 j2 j3 hb3' hnd3 hW3 hwell hs2 hs3
  refine (callsIn_wide (n := 9)).1 (callsIn_of_wp_marks Try.func103 rfl trivial ?_ rfl)
  simp only [Try.ntmps103, List.size_toArray, List.length_cons, List.length_nil, Nat.reduceAdd, Nat.reduceSub, Array.replicate_succ, Array.replicate_zero, List.push_toArray, List.append_toArray, List.nil_append, List.cons_append]
  gi_upto_region 1 with (fail)
  rw [← HW2.out]
  gi_upto_region 2 with (fail)
  rw [← HW3.out]
  clear y1 y2
  gi_wp2_with fail
  refine CallsIn.mono ((callsIn_wide (n := _)).2 (less_c key _)) ?_
  rintro e w9 ⟨rfl, rfl⟩
  gi_wp2_with fail
  refine CallsIn.mono ((callsIn_wide (n := _)).2 (wayDown_c _ _ _ _)) ?_
  rintro e w10 ⟨rfl, rfl⟩
  have hkc : Keep (fun k => k < W3.heap.size) W3 (((W3.alloc (.cells #[.int .i64 key] 3)).alloc (.cells #[.pointer (some ⟨b, 0, none⟩)] 70)).alloc (.cells #[.func (.func 106) #[] #[.pointer (some ⟨W3.heap.size, 0, none⟩)]] 81)) :=
    (Keep.alloc _ _ _).trans ((Keep.alloc _ _ _).trans (Keep.alloc _ _ _))
  have hbn : (((W3.alloc (.cells #[.int .i64 key] 3)).alloc (.cells #[.pointer (some ⟨b, 0, none⟩)] 70)).alloc (.cells #[.func (.func 106) #[] #[.pointer (some ⟨W3.heap.size, 0, none⟩)]] 81)).heap[W3.heap.size + 1]? = some (.cells #[.pointer (some ⟨b, 0, none⟩)] 70 (0, 0)) := by
    rw [old_blk _ _ _ (by simp), show W3.heap.size + 1 = (W3.alloc (.cells #[.int .i64 key] 3)).heap.size by simp, new_blk]
  have hbf : (((W3.alloc (.cells #[.int .i64 key] 3)).alloc (.cells #[.pointer (some ⟨b, 0, none⟩)] 70)).alloc (.cells #[.func (.func 106) #[] #[.pointer (some ⟨W3.heap.size, 0, none⟩)]] 81)).heap[W3.heap.size + 1 + 1]? = some (.cells #[.func (.func 106) #[] #[.pointer (some ⟨W3.heap.size, 0, none⟩)]] 81 (0, 0)) := by
    rw [show W3.heap.size + 1 + 1 = ((W3.alloc (.cells #[.int .i64 key] 3)).alloc (.cells #[.pointer (some ⟨b, 0, none⟩)] 70)).heap.size by simp, new_blk]
  have hq : (((W3.alloc (.cells #[.int .i64 key] 3)).alloc (.cells #[.pointer (some ⟨b, 0, none⟩)] 70)).alloc (.cells #[.func (.func 106) #[] #[.pointer (some ⟨W3.heap.size, 0, none⟩)]] 81)).heap[W3.heap.size]? = some (.cells #[.int .i64 key] 3 (0, 0)) := by
    rw [old_blk _ _ _ (by simp <;> omega), old_blk _ _ _ (by simp), new_blk]
  have hs2 := HS.out.1
  have hs3 := HS.out.2
  simp only [World.size_alloc]
  generalize hwc : (((W3.alloc (.cells #[.int .i64 key] 3)).alloc (.cells #[.pointer (some ⟨b, 0, none⟩)] 70)).alloc (.cells #[.func (.func 106) #[] #[.pointer (some ⟨W3.heap.size, 0, none⟩)]] 81)) = wc at hbn hbf hq hkc ⊢
  obtain ⟨bn, hbn0⟩ : ∃ bn, bn = W3.heap.size + 1 := ⟨_, rfl⟩
  obtain ⟨bf, hbf0⟩ : ∃ bf, bf = W3.heap.size + 1 + 1 := ⟨_, rfl⟩
  obtain ⟨q, hq0⟩ : ∃ q, q = W3.heap.size := ⟨_, rfl⟩
  rw [← hbn0] at hbn
  rw [← hbf0] at hbf
  rw [← hbf0, ← hbn0, ← hq0]
  rw [← hq0] at hq hbf
  have l1 := (Array.getElem?_eq_some_iff.1 hbn).1
  have l2 := (Array.getElem?_eq_some_iff.1 hbf).1
  have l3 := (Array.getElem?_eq_some_iff.1 hq).1
  have hnd : NodeAt wc lo hi b t := HND3.out.same (fun k _ h => hkc.block k (by omega) (by omega))
  obtain ⟨xs, hxs, hway⟩ := way_at key hnd HWELL.out hw
  have hit := way_less_iter key key (Lib.hid rfl) hway (by omega) bn bf q hbn hbf hq
  have hst := hway.stops
  have hwp := Tr.way_path key t HWELL.out
  have hwl := (Tr.way_all key t HWELL.out).1
  rw [← hxs] at hwp hwl
  rw [List.length_map] at hwl
  have e2 := (hkc.block _ (by omega) (by omega)).trans H3.out.2.2.2.1
  have e3 := (hkc.block _ (by omega) (by omega)).trans H3.out.2.2.2.2.1
  have e6 := (hkc.block _ (by omega) (by omega)).trans H3.out.2.2.2.2.2
  have ek := (hkc.block _ (by omega) (by omega)).trans H3.out.2.2.1
  have hsc := hkc.size
  have HIT := Lib.hid hit
  have HST := Lib.hid hst
  have HWP := Lib.hid hwp
  have HWL := Lib.hid hwl
  have HKC := Lib.hid hkc
  have HE := Lib.hid (And.intro e2 (And.intro e3 (And.intro e6 ek)))
  have HXS := Lib.hid hxs
  have g1 := Nat.le_of_eq hs2
  have g2 := Nat.le_of_eq hs2.symm
  have g3 := Nat.le_of_eq hs3
  have g4 := Nat.le_of_eq hs3.symm
  have g5 : w'.heap.size + 3 ≤ bn := by omega
  have g6 : w'.heap.size + 3 ≤ bf := by omega
  have g7 : w'.heap.size + 3 ≤ q := by omega
  have g8 : bn ≠ w2.heap.size := by omega
  have g9 : bf ≠ w2.heap.size := by omega
  have g10 : q ≠ w2.heap.size := by omega
  clear hs2 hs3 hbn0 hbf0 hq0
  clear hit hst hwp hwl hkc e2 e3 e6 ek hxs hway hnd hbn hbf hq z1 z2 hwc
  gi_wp2_with fail
  refine wp_loop (fb := #[]) (lb := #[.pointer (some ⟨bn, 0, none⟩), .pointer (some ⟨bf, 0, none⟩)]) rfl (enters_of Try.func104 (by kernel_rfl) rfl) HIT.out (Keep.refl _ _) (fun x => rfl)
    (fun k => k < wc.heap.size ∧ k ≠ w2.heap.size ∧ k ≠ w'.heap.size + 1 ∧ k ≠ w'.heap.size + 1 + 1) (fun k h => by omega) (fun k h => h.1)
    (fun pre Pv W => ¬ Pv w2.heap.size ∧ ¬ Pv (w'.heap.size + 1) ∧ ¬ Pv (w'.heap.size + 1 + 1) ∧ W.heap[w'.heap.size + 1]? = some (.cells #[.slice none 0 0] 23 (0, 0)) ∧ W.heap[w'.heap.size + 1 + 1]? = some (.cells #[.bool false] 4 (0, 0)) ∧
      (∀ y ∈ pre, Tr.hasAt key y.2 = false) ∧ ∃ v, W.heap[w2.heap.size]? = some (.cells #[v] 23 (0, 0)) ∧ IntsOwn W (w2.heap.size + 1) v (Tr.stepsOf key (pre.map Prod.snd)) ∧ ∀ k, v.ownBlock = some k → ¬ Pv k)
    (fun c pre Pv W => c = .ret ∧ ¬ Pv (w'.heap.size + 1) ∧ ¬ Pv (w'.heap.size + 1 + 1) ∧ (t.path key).2 = true ∧ W.heap[w'.heap.size + 1 + 1]? = some (.cells #[.bool true] 4 (0, 0)) ∧
      ∃ v, W.heap[w'.heap.size + 1]? = some (.cells #[v] 23 (0, 0)) ∧ IntsOwn W (w2.heap.size + 1) v (t.path key).1 ∧ ∀ k, v.ownBlock = some k → ¬ Pv k)
    (fun pre Pv A Pv' B h hk hp => by
      obtain ⟨h1, h2, h3, h4, h5, h6, v, h7, h8, h9⟩ := h
      have q2 := (Array.getElem?_eq_some_iff.1 h4).1
      have q3 := (Array.getElem?_eq_some_iff.1 h5).1
      have q6 := (Array.getElem?_eq_some_iff.1 h7).1
      refine ⟨fun h => ?_, fun h => ?_, fun h => ?_, (hk.block _ q2 h2).trans h4, (hk.block _ q3 h3).trans h5, h6, v, (hk.block _ q6 h1).trans h7, ownsRow_held h8 (fun k e => hk.block _ (h8.lt k e).2 (h9 k e)), fun k e h => ?_⟩
      · exact (hp _ h).elim h1 (fun h => by omega)
      · exact (hp _ h).elim h2 (fun h => by omega)
      · exact (hp _ h).elim h3 (fun h => by omega)
      · exact (hp _ h).elim (h9 k e) (fun h => by have := (h8.lt k e).2; omega))
    (fun c pre Pv A Pv' B h hk hp => by
      obtain ⟨h0, h2, h3, h4, h5, v, h7, h8, h9⟩ := h
      have q2 := (Array.getElem?_eq_some_iff.1 h7).1
      have q3 := (Array.getElem?_eq_some_iff.1 h5).1
      refine ⟨h0, fun h => ?_, fun h => ?_, h4, (hk.block _ q3 h3).trans h5, v, (hk.block _ q2 h2).trans h7, ownsRow_held h8 (fun k e => hk.block _ (h8.lt k e).2 (h9 k e)), fun k e h => ?_⟩
      · exact (hp _ h).elim h2 (fun h => by omega)
      · exact (hp _ h).elim h3 (fun h => by omega)
      · exact (hp _ h).elim (h9 k e) (fun h => by have := (h8.lt k e).2; omega))
    ⟨by omega, by omega, by omega, HE.out.1, HE.out.2.1, fun y h => by simp at h, _, HE.out.2.2.1, ⟨rfl, .inl ⟨rfl, rfl⟩⟩, fun k e => by cases e⟩
    (fun x => { tmps := #[.pointer (some ⟨b, 0, none⟩), .int .i64 key, undef, .pointer (some ⟨w'.heap.size, 0, none⟩), .pointer (some ⟨w'.heap.size + 1, 0, none⟩), .pointer (some ⟨w'.heap.size + 1 + 1, 0, none⟩), .pointer (some ⟨w2.heap.size, 0, none⟩),
      .pointer (some ⟨x.1, 0, none⟩), .int .i64 (place key x.2.ks), .pointer (some ⟨b, 0, none⟩), .int .i64 key, .func (.func 106) #[] #[.pointer (some ⟨q, 0, none⟩)], .func (.func 104) #[] #[.pointer (some ⟨bn, 0, none⟩), .pointer (some ⟨bf, 0, none⟩)], .pointer (some ⟨x.1, 0, none⟩), .int .i64 (place key x.2.ks), undef, undef, undef, undef, undef, undef, undef, undef, undef, undef, undef, undef, undef, undef, undef, undef], defers := [] })
    ?assign ?body ?done ?stop
  case assign =>
    intro l' m x W' K hK
    dsimp only [wayEnc]
    gi_wp2
    exact hK
  case body =>
    intro l' m pre x Pv W' hI hkW hsub hbnd hp
    obtain ⟨xb, ⟨ks, cs⟩⟩ := x
    obtain ⟨h1, h2, h3, h4, h5, h6, v, h7, h8, h9⟩ := hI
    obtain ⟨va, vc, rfl⟩ := IntsOwn.shown h8
    obtain ⟨kvx, ax, capx, hs⟩ := HST.out _ (hp.subset (by simp : (xb, Tr.mk ks cs) ∈ pre ++ [(xb, Tr.mk ks cs)]))
    have hxl := hs.low
    have hxh := hs.high
    have hks : IntsR W' lo hi kvx ks := hs.keys.same (fun k g1 g2 => hkW.block k (by omega) ⟨by omega, by omega, by omega, by omega⟩)
    have hbx : W'.heap[xb]? = some (.cells #[kvx, .slice ax cs.length capx] 99 (0, 0)) := (hkW.block xb (by omega) ⟨by omega, by omega, by omega, by omega⟩).trans hs.box
    have hkey := (hkW.block (w'.heap.size) (by omega) ⟨by omega, by omega, by omega, by omega⟩).trans HE.out.2.2.2
    have hpl := place_le key ks
    have hpre : (pre.map Prod.snd ++ [Tr.mk ks cs]) <+: xs.map Prod.snd := by
      have := List.IsPrefix.map Prod.snd hp
      simpa using this
    have hlen := hp.length_le
    have hsn := Tr.stepsOf_snoc key (pre.map Prod.snd) (.mk ks cs)
    have hsl := Tr.stepsOf_len key (pre.map Prod.snd)
    have hmap : (pre ++ [(xb, Tr.mk ks cs)]).map Prod.snd = pre.map Prod.snd ++ [Tr.mk ks cs] := by simp
    rw [List.length_map] at hsl
    simp only [List.length_append, List.length_cons, List.length_nil] at hlen
    have hln : (Tr.stepsOf key (pre.map Prod.snd)).length ≤ 1048577 := by have := HWL.out; omega
    have hka := hks.in.at
    obtain ⟨ka, kcap, rfl, k1, k2, k3, k4⟩ := hks
    unfold maxLen at k2
    obtain ⟨x1, x2, x3, x4⟩ := box2 hbx
    obtain ⟨y1, y2⟩ := box1 hkey
    obtain ⟨c2, f2⟩ := box1 h4
    obtain ⟨c3, f3⟩ := box1 h5
    obtain ⟨c6, f6⟩ := box1 h7
    have hwp := HWP.out.1 (pre.map Prod.snd) (.mk ks cs) hpre (fun y hy => by
      obtain ⟨z, hz, rfl⟩ := List.mem_map.1 hy
      exact h6 z hz)
    have hhas : Tr.hasAt key (.mk ks cs) = decide (place key ks < ks.length ∧ ks.getD (place key ks) 0 = key) := rfl
    have hsw : w2.heap.size + 1 ≤ W'.heap.size := by have := (Array.getElem?_eq_some_iff.1 h7).1; omega
    dsimp only [Tr.ks]
    simp only [Tr.cs, Tr.ks] at hsn
    obtain ⟨i, hi⟩ : ∃ i, i = place key ks := ⟨_, rfl⟩
    rw [← hi] at hpl hhas hsn ⊢
    have hcall := hasAt_c hbx hka (by omega) i hpl key
    rw [← hhas] at hcall
    have HI := Lib.hid hi
    have HH := Lib.hid (And.intro h4 (And.intro h5 (And.intro h6 (And.intro h7 (And.intro h8 h9)))))
    have HSN := Lib.hid hsn
    have HMAP := Lib.hid hmap
    have HWPX := Lib.hid hwp
    have HBND := Lib.hid hbnd
    have HSTP := Lib.hid hs
    have HLN := Lib.hid hln
    clear h4 h5 h6 h7 h8 h9 hi hsn hmap hwp hhas k4 k3 hka hpre hbx hkey hs hp hkW hsub hbnd hsl hlen hln
    have hnd : w2.heap.size ≠ w'.heap.size + 1 := by omega
    cases hx : Tr.hasAt key (.mk ks cs) with
    | true =>
      have HP2 := Lib.hid (HWPX.out hx)
      rw [hx] at hcall
      have HCALL := Lib.hid hcall
      clear hcall hx
      gi_wp2
      refine ⟨fun h => (by cases h), ?_⟩
      refine (CallsIn.inRound l' (callsIn_wide.2 HCALL.out)).mono ?_
      rintro e w10 ⟨rfl, rfl⟩
      gi_wp2
      refine ⟨(Keep.setCell _ _ _ _ h2).trans (Keep.setCell _ _ _ _ h3), rfl, h2, h3, by rw [HP2.out], ?_, _, ?_, ?_, HH.out.2.2.2.2.2⟩
      · exact set_blk (o := 0) (.bool true) ((set_other _ _ _ _ _ (by omega)).trans HH.out.2.1)
      · rw [set_other _ _ _ _ _ (by omega)]; exact set_blk (o := 0) _ HH.out.1
      · rw [HP2.out]
        exact ownsRow_held HH.out.2.2.2.2.1 (fun k e => by have := (HH.out.2.2.2.2.1.lt k e).1; rw [set_other _ _ _ _ _ (by omega), set_other _ _ _ _ _ (by omega)])
    | false =>
      have HX := Lib.hid hx
      rw [hx] at hcall
      have HCALL := Lib.hid hcall
      clear hcall hx
      by_cases hleaf : cs.length = 0
      · have hleaf' : ¬ ((cs.length : Int) > 0) := by omega
        have HB9 := Lib.hid (HSN.out.trans (if_neg (by simpa using hleaf)))
        clear hleaf
        gi_wp2
        refine ⟨fun h => (by cases h), ?_⟩
        refine (CallsIn.inRound l' (callsIn_wide.2 HCALL.out)).mono ?_
        rintro e w10 ⟨rfl, rfl⟩
        gi_wp2
        refine ⟨Keep.refl _ _, h1, h2, h3, HH.out.1, HH.out.2.1, fun y hy => ?_, _, HH.out.2.2.2.1, by rw [HMAP.out, HB9.out]; exact HH.out.2.2.2.2.1, HH.out.2.2.2.2.2⟩
        rcases List.mem_append.1 hy with hy | hy
        · exact HH.out.2.2.1 y hy
        · simp at hy; subst hy; exact HX.out
      · have hleaf' : ((cs.length : Int) > 0) := by omega
        have HB9 := Lib.hid (HSN.out.trans (if_pos hleaf))
        have HOWN : Hid (IntsOwn W' (w2.heap.size + 1) (.slice va (Tr.stepsOf key (pre.map Prod.snd)).length vc) (Tr.stepsOf key (pre.map Prod.snd))) := Lib.hid HH.out.2.2.2.2.1
        have hbase : Hid (w2.heap.size + 1 ≤ W'.heap.size) := Lib.hid hsw
        clear hleaf
        gi_wp2
        refine ⟨fun h => (by cases h), ?_⟩
        refine (CallsIn.inRound l' (callsIn_wide.2 HCALL.out)).mono ?_
        rintro e w10 ⟨rfl, rfl⟩
        gi_wp2_with (gi_at_builtin; refine wpListIn_append_one (by rfl) _ _ (by rfl) (w2.heap.size + 1) _ _ (i : Int) (by rfl) HOWN.out (by rfl) HLN.out hbase.out ?_; intro a8 c8 w8 L8 hL8 hown8 hk8 hat8; have hq6 := (hk8.block w2.heap.size (by omega) (fun e => by have := (HOWN.out.lt _ e).1; omega)); have c6' := (cell_of_blk hq6).trans c6; have f6' := (World.frozen?_of_block hq6).trans f6; have H8 := Lib.hid (And.intro hown8 (And.intro hk8 hat8)); clear hown8 hk8 hat8 hq6)
        refine ⟨(H8.out.2.1.mono (fun k _ h e => HH.out.2.2.2.2.2 k e h)).trans (Keep.setCell _ _ _ _ h1), h1, h2, h3, ?_, ?_, fun y hy => ?_, _, set_blk (o := 0) _ ((H8.out.2.1.block w2.heap.size (by omega) (fun e => by have := (HOWN.out.lt _ e).1; omega)).trans HH.out.2.2.2.1), ?_, fun k e hk => ?_⟩
        · rw [set_other _ _ _ _ _ (by omega)]; exact (H8.out.2.1.block _ (by omega) (fun e => by have := (HOWN.out.lt _ e).1; omega)).trans HH.out.1
        · rw [set_other _ _ _ _ _ (by omega)]; exact (H8.out.2.1.block _ (by omega) (fun e => by have := (HOWN.out.lt _ e).1; omega)).trans HH.out.2.1
        · rcases List.mem_append.1 hy with hy | hy
          · exact HH.out.2.2.1 y hy
          · simp at hy; subst hy; exact HX.out
        · rw [HMAP.out, HB9.out, ← hL8.out]
          exact ownsRow_held H8.out.1 (fun k e => set_other _ _ _ _ _ (by have := (H8.out.1.lt k e).1; omega))
        · rcases H8.out.2.2 with h | h
          · exact HH.out.2.2.2.2.2 k (h.symm.trans e) hk
          · rw [h] at e
            simp only [Option.some.injEq] at e
            have := HBND.out k hk
            omega
  case done =>
    intro W3' hk3 hI hlt hD
    obtain ⟨h1, h2, h3, h4, h5, h6, v, h7, h8, h9⟩ := hI
    obtain ⟨va, vc, rfl⟩ := IntsOwn.shown h8
    have hpp := HWP.out.2 (fun y hy => by
      obtain ⟨z, hz, rfl⟩ := List.mem_map.1 hy
      exact h6 z hz)
    have hno : ∀ k, (Value.slice va (Tr.stepsOf key (xs.map Prod.snd)).length vc).ownBlock = some k → k ≠ wc.heap.size := fun k e e2 => h9 k e (.inr (.inl e2))
    obtain ⟨c6, f6⟩ := box1 h7
    obtain ⟨c2, f2⟩ := box1 h4
    obtain ⟨c3, f3⟩ := box1 h5
    have HH := Lib.hid (And.intro h4 (And.intro h5 (And.intro h7 (And.intro h8 (And.intro hno hk3)))))
    have HD := Lib.hid hD
    have HPP := Lib.hid hpp
    clear h1 h2 h3 h4 h5 h6 h7 h8 h9 hpp hno hk3 hD
    gi_wp2
    obtain ⟨W5, hW5⟩ : ∃ W5, W5 = ((W3'.setCell ⟨w'.heap.size + 1, 0, none⟩ (.slice va (Tr.stepsOf key (xs.map Prod.snd)).length vc)).setCell ⟨w'.heap.size + 1 + 1, 0, none⟩ (.bool false)).putObj wc.heap.size (.deferred none) := ⟨_, rfl⟩
    have hD5 : ((W3'.setCell ⟨w'.heap.size + 1, 0, none⟩ (.slice va (Tr.stepsOf key (xs.map Prod.snd)).length vc)).setCell ⟨w'.heap.size + 1 + 1, 0, none⟩ (.bool false)).heap[wc.heap.size]? = some (.deferred (some [])) := by
      rw [set_other _ _ _ _ _ (by omega), set_other _ _ _ _ _ (by omega)]; exact HD.out
    refine ⟨by simp, .inl ⟨_, _, rfl, run_takeDeferred hD5, ?_⟩⟩
    have q2 : W5.heap[w'.heap.size + 1]? = some (.cells #[.slice va (Tr.stepsOf key (xs.map Prod.snd)).length vc] 23 (0, 0)) := by
      rw [hW5]; refine (World.putObj_heap_other (by omega)).trans ?_
      rw [set_other _ _ _ _ _ (by omega)]; exact set_blk (o := 0) _ HH.out.1
    have q3 : W5.heap[w'.heap.size + 1 + 1]? = some (.cells #[.bool false] 4 (0, 0)) := by
      rw [hW5]; refine (World.putObj_heap_other (by omega)).trans ?_
      exact set_blk (o := 0) (.bool false) ((set_other _ _ _ _ _ (by omega)).trans HH.out.2.1)
    have hk5 : Keep (fun k => k < w'.heap.size) W3' W5 := by rw [hW5]; exact ((Keep.setCell _ _ _ _ (by show ¬ w'.heap.size + 1 < w'.heap.size; omega)).trans (Keep.setCell _ _ _ _ (by show ¬ w'.heap.size + 1 + 1 < w'.heap.size; omega))).trans (Keep.putObj _ _ _ _ (by omega))
    have ho5 : IntsOwn W5 (w2.heap.size + 1) (.slice va (Tr.stepsOf key (xs.map Prod.snd)).length vc) (Tr.stepsOf key (xs.map Prod.snd)) := by
      rw [hW5]
      refine ownsRow_held HH.out.2.2.2.1 (fun k e => ?_)
      have h1 := HH.out.2.2.2.2.1 k e
      have h2 := (HH.out.2.2.2.1.lt k e).1
      refine (World.putObj_heap_other h1).trans ?_
      rw [set_other _ _ _ _ _ (by omega), set_other _ _ _ _ _ (by omega)]
    have c2' := (box1 q2).1
    have c3' := (box1 q3).1
    rw [← hW5]
    refine ⟨.tuple #[.slice va (Tr.stepsOf key (xs.map Prod.snd)).length vc, .bool false], by simp [results, Try.results103, go_sem, c2', c3'], _, by rw [HPP.out], by rw [HPP.out]; exact IntsOwn.lower ho5 (by omega), ?_⟩
    exact H3.out.1.trans ((((HKC.out.mono (fun k _ h => by omega)).trans (HH.out.2.2.2.2.2.mono (fun k hlt h => by omega))).trans hk5).below (B := w'.heap.size) (by omega) (fun k h => h))
  case stop =>
    rintro c pre' W3' hk3 hp ⟨rfl, h2, h3, h4, h5, v, h7, h8, h9⟩ hlt hD
    have hno : ∀ k, v.ownBlock = some k → k ≠ wc.heap.size := fun k e e2 => h9 k e (.inr (.inl e2))
    have HH := Lib.hid (And.intro h7 (And.intro h5 (And.intro h8 (And.intro hno hk3))))
    have HD := Lib.hid hD
    have H4 := Lib.hid h4
    clear h2 h3 h4 h5 h7 h8 h9 hno hk3 hD
    gi_wp2
    refine ⟨by simp, .inl ⟨_, _, rfl, run_takeDeferred HD.out, ?_⟩⟩
    obtain ⟨W5, hW5⟩ : ∃ W5, W5 = W3'.putObj wc.heap.size (.deferred none) := ⟨_, rfl⟩
    have q2 : W5.heap[w'.heap.size + 1]? = some (.cells #[v] 23 (0, 0)) := by
      rw [hW5]; exact (World.putObj_heap_other (by omega)).trans HH.out.1
    have q3 : W5.heap[w'.heap.size + 1 + 1]? = some (.cells #[.bool true] 4 (0, 0)) := by
      rw [hW5]; exact (World.putObj_heap_other (by omega)).trans HH.out.2.1
    have hk5 : Keep (fun k => k < w'.heap.size) W3' W5 := by rw [hW5]; exact Keep.putObj _ _ _ _ (by omega)
    have ho5 : IntsOwn W5 (w2.heap.size + 1) v (t.path key).1 := by
      rw [hW5]
      exact ownsRow_held HH.out.2.2.1 (fun k e => World.putObj_heap_other (HH.out.2.2.2.1 k e))
    have c2' := (box1 q2).1
    have c3' := (box1 q3).1
    rw [← hW5]
    obtain ⟨va, vc, rfl⟩ := IntsOwn.shown ho5
    refine ⟨.tuple #[.slice va (t.path key).1.length vc, .bool true], by simp [results, Try.results103, go_sem, c2', c3'], _, by rw [H4.out], IntsOwn.lower ho5 (by omega), ?_⟩
    exact H3.out.1.trans ((((HKC.out.mono (fun k _ h => by omega)).trans (HH.out.2.2.2.2.mono (fun k hlt h => by omega))).trans hk5).below (B := w'.heap.size) (by omega) (fun k h => h))
end Go.Proofs.Ytananonjomfpkaa

/- Inserting a key, as plain data. -/
namespace Go.Proofs.Ytananonjomfpkaa
open Go.RowKit

/-- A list with one element more, at a place. -/
def putAt {α : Type} (k : List α) (i : Nat) (x : α) : List α := k.take i ++ x :: k.drop i
theorem putAt_length {α : Type} {k : List α} {i : Nat} {x : α} (h : i ≤ k.length) : (putAt k i x).length = k.length + 1 := by simp [putAt]; omega
theorem putAt_map {α β : Type} (f : α → β) (k : List α) (i : Nat) (x : α) : (putAt k i x).map f = putAt (k.map f) i (f x) := by simp [putAt, List.map_take, List.map_drop]

namespace Tr
def leftOf : Tr → Tr | .mk k c => .mk (k.take (k.length / 2)) (c.take (k.length / 2 + 1))
def rightOf : Tr → Tr | .mk k c => .mk (k.drop (k.length / 2 + 1)) (c.drop (k.length / 2 + 1))
def midOf : Tr → Int | .mk k _ => k.getD (k.length / 2) 0
/-- A node in which the kid at a place has been split. -/
def splitKid (k : List Int) (c : List Tr) (i : Nat) (u : Tr) : Tr := .mk (putAt k i u.midOf) (c.take i ++ u.leftOf :: u.rightOf :: c.drop (i + 1))
def setKid (c : List Tr) (i : Nat) (u : Tr) : List Tr := c.take i ++ u :: c.drop (i + 1)

/-- What a node becomes when the kid at a place has become another one, and how many have been split. -/
def growStep (wide : Int) (k : List Int) (c : List Tr) (i : Nat) (r : Tr × Nat) : Tr × Nat :=
  if wide < r.1.ks.length then (splitKid k c i r.1, r.2 + 1) else (.mk k (setKid c i r.1), r.2)
mutual
/-- What a node becomes by a key; it may have too many itself. -/
def grow (wide key : Int) : Tr → Tr × Nat
  | .mk k c => if c.length = 0 then (.mk (putAt k (place key k) key) [], 0) else growStep wide k c (place key k) ((grows wide key c).getD (place key k) (.mk [] [], 0))
def grows (wide key : Int) : List Tr → List (Tr × Nat)
  | [] => []
  | t :: r => grow wide key t :: grows wide key r
end
theorem grows_get (wide key : Int) (c : List Tr) (i : Nat) (h : i < c.length) : (grows wide key c).getD i (.mk [] [], 0) = grow wide key c[i] := by
  induction c generalizing i with
  | nil => simp at h
  | cons t r ih =>
    cases i with
    | zero => rfl
    | succ i => simpa [grows] using ih i (by simpa using h)
theorem grow_leaf {wide key : Int} {k : List Int} {c : List Tr} (h : c.length = 0) : grow wide key (.mk k c) = (.mk (putAt k (place key k) key) [], 0) := by rw [grow, if_pos h]
theorem grow_inner {wide key : Int} {k : List Int} {c : List Tr} (h : place key k < c.length) : grow wide key (.mk k c) = growStep wide k c (place key k) (grow wide key c[place key k]) := by
  rw [grow, if_neg (by omega), grows_get _ _ _ _ h]

theorem grow_keys_le (wide key : Int) (t : Tr) : (grow wide key t).1.ks.length ≤ t.ks.length + 1 := by
  cases t with
  | mk k c =>
    have hp := place_le key k
    by_cases h : c.length = 0
    · rw [grow_leaf h]; show (putAt k _ key).length ≤ k.length + 1; rw [putAt_length hp]; omega
    · rw [grow, if_neg h]
      unfold growStep
      split
      · show (putAt k _ _).length ≤ k.length + 1; rw [putAt_length hp]; omega
      · show k.length ≤ k.length + 1; omega

/-- The tree that is left when the top node has been split, too, if it has too many. -/
def insT (wide key : Int) (t : Tr) : Tr :=
  let u := (grow wide key t).1
  if wide < u.ks.length then .mk [u.midOf] [u.leftOf, u.rightOf] else u
def insN (wide key : Int) (t : Tr) : Nat :=
  let r := grow wide key t
  if wide < r.1.ks.length then r.2 + 1 else r.2
def insG (wide key : Int) (t : Tr) : Bool := decide (wide < ((grow wide key t).1.ks.length : Int))

theorem insT_step (wide key : Int) (t : Tr) : growStep wide [] [t] 0 (grow wide key t) = (if insG wide key t then (insT wide key t, insN wide key t) else (.mk [] [insT wide key t], insN wide key t)) := by
  unfold growStep insG insT insN
  by_cases h : wide < ((grow wide key t).1.ks.length : Int)
  · simp [h, splitKid, putAt]
  · simp [h, setKid]

theorem setKid_length {c : List Tr} {i : Nat} {u : Tr} (h : i < c.length) : (setKid c i u).length = c.length := by simp [setKid]; omega

mutual
/-- How many splits a key makes at most: as many as there are nodes. -/
theorem grow_count (wide key : Int) : ∀ t : Tr, (grow wide key t).2 ≤ t.weight
  | .mk k c => by
    rw [grow]
    split
    · simp
    · rename_i hc
      have h := grows_count wide key c (place key k) (by cases c <;> simp_all)
      unfold growStep
      simp only [weight]
      split <;> dsimp only <;> omega
theorem grows_count (wide key : Int) : ∀ (c : List Tr) (i : Nat), 0 < c.length → ((grows wide key c).getD i (.mk [] [], 0)).2 + 1 ≤ weights c
  | [], i, h => by simp at h
  | t :: r, i, _ => by
    have h1 := grow_count wide key t
    cases i with
    | zero => simp [grows, weights]; omega
    | succ i =>
      by_cases hr : 0 < r.length
      · have h2 := grows_count wide key r i hr
        simp only [grows, List.getD_cons_succ, weights]
        omega
      · have : r = [] := by cases r <;> simp_all
        subst this
        simp [grows, weights]
end
end Tr
end Go.Proofs.Ytananonjomfpkaa

/- Nodes of the program, each with the cells that are its own. -/
namespace Go.Proofs.Ytananonjomfpkaa
open Go.RowKit

/-- Cells: a block and a place in it. -/
abbrev Cells := Nat → Nat → Prop
def boxOf (b : Nat) : Cells := fun x _ => x = b
def Apart (F G : Cells) : Prop := ∀ x o, F x o → ¬ G x o
theorem Apart.symm {F G : Cells} (h : Apart F G) : Apart G F := fun x o h1 h2 => h x o h2 h1
theorem Apart.mono {F G F' G' : Cells} (h : Apart F G) (h1 : ∀ x o, F' x o → F x o) (h2 : ∀ x o, G' x o → G x o) : Apart F' G' := fun x o a b => h x o (h1 x o a) (h2 x o b)

/-- Nothing outside F has turned. -/
structure KeptF (F : Cells) (w w' : World) : Prop where
  os : w'.os = w.os
  tape : w'.tape = w.tape
  output : w'.output = w.output
  size : w.heap.size ≤ w'.heap.size
  block : ∀ k, k < w.heap.size → (∀ o, ¬ F k o) → w'.heap[k]? = w.heap[k]?
  cell : ∀ b o, b < w.heap.size → ¬ F b o → w'.cell? ⟨b, o, none⟩ = w.cell? ⟨b, o, none⟩
  frozen : ∀ b o, b < w.heap.size → w'.frozen? ⟨b, o, none⟩ = w.frozen? ⟨b, o, none⟩
  there : ∀ b o, (w.cell? ⟨b, o, none⟩).isSome = true → (w'.cell? ⟨b, o, none⟩).isSome = true

theorem lt_of_there {w : World} {b o : Nat} (h : (w.cell? ⟨b, o, none⟩).isSome = true) : b < w.heap.size := by
  obtain ⟨u, hu⟩ := Option.isSome_iff_exists.1 h
  exact World.block_lt_of_cell? w _ hu

theorem KeptF.refl (F : Cells) (w : World) : KeptF F w w := ⟨rfl, rfl, rfl, Nat.le_refl _, fun _ _ _ => rfl, fun _ _ _ _ => rfl, fun _ _ _ => rfl, fun _ _ h => h⟩
theorem KeptF.mono {F G : Cells} {w w' : World} (h : KeptF F w w') (hs : ∀ x o, x < w.heap.size → F x o → G x o) : KeptF G w w' :=
  ⟨h.os, h.tape, h.output, h.size, fun k hk hn => h.block k hk (fun o hf => hn o (hs k o hk hf)), fun b o hb hn => h.cell b o hb (fun hf => hn (hs b o hb hf)), h.frozen, h.there⟩
theorem KeptF.trans {F : Cells} {a b c : World} (h : KeptF F a b) (k : KeptF (fun x o => F x o ∨ a.heap.size ≤ x) b c) : KeptF F a c :=
  ⟨k.os.trans h.os, k.tape.trans h.tape, k.output.trans h.output, Nat.le_trans h.size k.size,
    fun i h1 h2 => (k.block i (Nat.lt_of_lt_of_le h1 h.size) (fun o hh => hh.elim (h2 o) (fun h3 => by omega))).trans (h.block i h1 h2),
    fun x o h1 h2 => (k.cell x o (Nat.lt_of_lt_of_le h1 h.size) (fun hh => hh.elim h2 (fun h3 => by omega))).trans (h.cell x o h1 h2),
    fun x o h1 => (k.frozen x o (Nat.lt_of_lt_of_le h1 h.size)).trans (h.frozen x o h1), fun x o hh => k.there x o (h.there x o hh)⟩
theorem KeptF.of_below {F : Cells} {w w' : World} {B : Nat} (h : Below B w w') (hB : w.heap.size ≤ B) : KeptF F w w' :=
  ⟨h.os, h.tape, h.output, h.size, fun k hk _ => h.block k (by omega), fun b o hb _ => h.cell (p := ⟨b, o, none⟩) (by show b < B; omega), fun b o hb => h.frozen (p := ⟨b, o, none⟩) (by show b < B; omega),
    fun b o hh => by have := lt_of_there hh; rw [h.cell (p := ⟨b, o, none⟩) (by show b < B; omega)]; exact hh⟩
theorem KeptF.below {F : Cells} {w w' : World} {B : Nat} (h : KeptF F w w') (hB : B ≤ w.heap.size) (hF : ∀ x o, F x o → B ≤ x) : Below B w w' :=
  ⟨h.os, h.tape, h.output, h.size, fun k hk => h.block k (by omega) (fun o hf => by have := hF k o hf; omega)⟩
theorem KeptF.drew (F : Cells) (w : World) : KeptF F w w.drew := ⟨rfl, rfl, rfl, Nat.le_refl _, fun _ _ _ => rfl, fun _ _ _ _ => rfl, fun _ _ _ => rfl, fun _ _ h => h⟩
theorem KeptF.alloc (F : Cells) (w : World) (o : Obj) : KeptF F w (w.alloc o) := KeptF.of_below ((Below.refl w.heap.size w).alloc (Nat.le_refl _) o) (Nat.le_refl _)
theorem KeptF.setCell {F : Cells} (w : World) (b o : Nat) (v : Value) (h : F b o) : KeptF F w (w.setCell ⟨b, o, none⟩ v) := by
  refine ⟨rfl, rfl, rfl, by simp, fun k hk hn => set_other _ _ _ _ _ (fun e => hn o (e ▸ h)), fun x q hx hn => ?_, fun x q hx => by rw [World.frozen?_setCell], fun x q hh => ?_⟩
  · exact World.cell?_setCell_other _ _ _ _ (fun e => by simp at e; obtain ⟨rfl, rfl⟩ := e; exact hn h)
  · by_cases e : b = x ∧ o = q
    · obtain ⟨rfl, rfl⟩ := e
      obtain ⟨u, hu⟩ := Option.isSome_iff_exists.1 hh
      rw [World.cell?_setCell_same _ _ _ hu]; rfl
    · rw [World.cell?_setCell_other _ _ _ _ (fun e2 => e (by simpa using e2))]; exact hh
theorem KeptF.setCells {F : Cells} (b : Nat) : ∀ (vs : List Value) (o : Nat) (w : World), (∀ j, j < vs.length → F b (o + j)) → KeptF F w (w.setCells b o vs)
  | [], _, w, _ => KeptF.refl _ _
  | v :: r, o, w, h => by
    refine (KeptF.setCell w b o v (h 0 (by simp))).trans ((KeptF.setCells b r (o + 1) _ (fun j hj => ?_)).mono (fun x o _ hh => .inl hh))
    have := h (j + 1) (by simp; omega)
    rwa [show o + (j + 1) = o + 1 + j by omega] at this

/-- A slice whose cells are its own, up to its capacity. -/
def RowF (w : World) (F : Cells) (v : Value) (xs : List Value) : Prop :=
  (∀ x q, F x q → x < w.heap.size) ∧ ∃ (a : Option Addr) (cap : Nat), v = .slice a xs.length cap ∧ xs.length ≤ cap ∧ cap ≤ maxLen ∧ (a = none → cap = 0) ∧
    (cap = 0 ∨ ∃ b o, a = some ⟨b, o, none⟩ ∧ (∀ i, i < cap → F b (o + i) ∧ (w.cell? ⟨b, o + i, none⟩).isSome = true ∧ w.frozen? ⟨b, o + i, none⟩ = false) ∧
      ∀ i (h : i < xs.length), w.cell? ⟨b, o + i, none⟩ = some xs[i])

theorem RowF.keep {w w' : World} {F G : Cells} {v : Value} {xs : List Value} (h : RowF w F v xs) (hk : KeptF G w w') (ha : Apart F G) : RowF w' F v xs := by
  obtain ⟨hlt, a, cap, hv, h1, h2, h3, h4⟩ := h
  refine ⟨fun x q h => Nat.lt_of_lt_of_le (hlt x q h) hk.size, a, cap, hv, h1, h2, h3, ?_⟩
  rcases h4 with h4 | ⟨b, o, h5, h6, h7⟩
  · exact .inl h4
  · refine .inr ⟨b, o, h5, fun i hi => ?_, fun i hi => ?_⟩
    · obtain ⟨g1, g2, g3⟩ := h6 i hi
      exact ⟨g1, hk.there _ _ g2, (hk.frozen _ _ (lt_of_there g2)).trans g3⟩
    · obtain ⟨g1, g2, g3⟩ := h6 i (by omega)
      rw [hk.cell _ _ (lt_of_there g2) (ha _ _ g1)]
      exact h7 i hi
theorem RowF.shown {w : World} {F : Cells} {v : Value} {xs : List Value} (h : RowF w F v xs) : ∃ a c, v = .slice a xs.length c := by
  obtain ⟨_, a, cap, hv, _⟩ := h
  exact ⟨a, cap, hv⟩

/-- A row of the call's own is such a slice. -/
theorem RowF.of_owns {w : World} {base : Nat} {e : TypeId} {v : Value} {n : Nat} {xs : List Value} (h : w.ownsRow base e 1 v n xs) : RowF w (fun x _ => v.ownBlock = some x) v xs := by
  have h0 := h
  refine ⟨fun x q hq => (h0.lt x hq).2, ?_⟩
  obtain ⟨h1, ⟨h2, h3⟩ | ⟨g, cap, cur, hv, hb, hg, hn, hm, hs, ht⟩⟩ := h
  · subst h3
    have : xs = [] := by cases xs with | nil => rfl | cons a r => simp at h1
    subst this
    exact ⟨none, 0, h2, by simp, by unfold maxLen; omega, fun _ => rfl, .inl rfl⟩
  · subst hv
    have hxn : xs.length = n := by simpa using h1
    refine ⟨_, cap, by rw [hxn], by omega, hm, by simp, .inr ⟨g, 0, rfl, fun i hi => ⟨rfl, ?_, ?_⟩, fun i hi => ?_⟩⟩
    · have : i < cur.size := by omega
      simp [World.cell?, hg, this]
    · simp [World.frozen?, hg]
    · rw [Nat.zero_add, World.ownsRow.cellAt h0 i (by omega)]
      simp [hi]

/-- A kid: its block, its cells, its tree. -/
structure KidD where
  p : Nat
  F : Cells
  t : Tr
def KidD.ptr (x : KidD) : Value := .pointer (some ⟨x.p, 0, none⟩)

/-- A node at block b, all that it reaches within the cells F; its box, its rows and its kids lie apart. -/
inductive Nd (w : World) : Cells → Nat → Tr → Prop where
  | mk (ks : List Int) (kids : List KidD) (F Fk Fc : Cells) (b : Nat) (kv cv : Value)
      (hbox : w.heap[b]? = some (.cells #[kv, cv] 99 (0, 0)))
      (hk : RowF w Fk kv (ks.map (Value.int .i64))) (hc : RowF w Fc cv (kids.map KidD.ptr))
      (hkids : ∀ x, x ∈ kids → Nd w x.F x.p x.t)
      (sb : ∀ o, F b o) (sk : ∀ x o, Fk x o → F x o) (sc : ∀ x o, Fc x o → F x o) (ss : ∀ y, y ∈ kids → ∀ x o, y.F x o → F x o)
      (ap : (boxOf b :: Fk :: Fc :: kids.map KidD.F).Pairwise Apart) (lt : ∀ x o, F x o → x < w.heap.size) : Nd w F b (.mk ks (kids.map KidD.t))

theorem Nd.keep {w w' : World} {F G : Cells} {b : Nat} {t : Tr} (h : Nd w F b t) (hk : KeptF G w w') (ha : Apart F G) : Nd w' F b t := by
  induction h with
  | mk ks kids F Fk Fc b kv cv hbox hkr hc hkids sb sk sc ss ap lt ih =>
    exact .mk ks kids F Fk Fc b kv cv ((hk.block b (Array.getElem?_eq_some_iff.1 hbox).1 (fun o => ha b o (sb o))).trans hbox)
      (hkr.keep hk (ha.mono sk (fun _ _ h => h))) (hc.keep hk (ha.mono sc (fun _ _ h => h))) (fun x hx => ih x hx (ha.mono (ss x hx) (fun _ _ h => h))) sb sk sc ss ap (fun x o h => Nat.lt_of_lt_of_le (lt x o h) hk.size)
theorem Nd.mono {w : World} {F G : Cells} {b : Nat} {t : Tr} (h : Nd w F b t) (hs : ∀ x o, F x o → G x o) (hl : ∀ x o, G x o → x < w.heap.size) : Nd w G b t := by
  cases h with
  | mk ks kids F Fk Fc b kv cv hbox hkr hc hkids sb sk sc ss ap lt =>
    exact .mk ks kids G Fk Fc b kv cv hbox hkr hc hkids (fun o => hs _ _ (sb o)) (fun x o h => hs _ _ (sk x o h)) (fun x o h => hs _ _ (sc x o h)) (fun y hy x o h => hs _ _ (ss y hy x o h)) ap hl

/-- What a node is made of. -/
theorem Nd.parts {w : World} {F : Cells} {b : Nat} {ks : List Int} {cs : List Tr} (h : Nd w F b (.mk ks cs)) : ∃ (kids : List KidD) (Fk Fc : Cells) (kv cv : Value), cs = kids.map KidD.t ∧
    w.heap[b]? = some (.cells #[kv, cv] 99 (0, 0)) ∧ RowF w Fk kv (ks.map (Value.int .i64)) ∧ RowF w Fc cv (kids.map KidD.ptr) ∧ (∀ x, x ∈ kids → Nd w x.F x.p x.t) ∧
    (∀ o, F b o) ∧ (∀ x o, Fk x o → F x o) ∧ (∀ x o, Fc x o → F x o) ∧ (∀ y, y ∈ kids → ∀ x o, y.F x o → F x o) ∧ (boxOf b :: Fk :: Fc :: kids.map KidD.F).Pairwise Apart ∧ (∀ x o, F x o → x < w.heap.size) := by
  cases h with
  | mk _ kids _ Fk Fc _ kv cv hbox hkr hc hkids sb sk sc ss ap lt => exact ⟨kids, Fk, Fc, kv, cv, rfl, hbox, hkr, hc, hkids, sb, sk, sc, ss, ap, lt⟩

/-- All that lies in memory lies below its end. -/
theorem Nd.nodeAt {w : World} {F : Cells} {b : Nat} {t : Tr} (h : Nd w F b t) : NodeAt w 0 w.heap.size b t := by
  induction h with
  | mk ks kids F Fk Fc b kv cv hbox hkr hc hkids sb sk sc ss ap lt ih =>
    obtain ⟨_, a, cap, rfl, h1, h2, h3, h4⟩ := hc
    obtain ⟨_, ka, kcap, rfl, k1, k2, k3, k4⟩ := hkr
    rw [List.length_map] at h1
    have e1 : (kids.map KidD.ptr).length = (kids.map KidD.t).length := by simp
    refine .mk ks (kids.map KidD.t) b _ a cap (fun i => (kids.map KidD.p).getD i 0) (Nat.zero_le _) (Array.getElem?_eq_some_iff.1 hbox).1 (by rw [← e1]; exact hbox) ⟨ka, kcap, by simp, by simpa using k1, k2, k3, ?_⟩ (by simpa using h1) h2 ?_ (fun i hi => ?_)
    · rcases k4 with k4 | ⟨kb, ko, rfl, g1, g2⟩
      · subst k4
        simp at k1
        exact .inl k1
      · by_cases hks : ks = []
        · exact .inl hks
        · have hpos : 0 < ks.length := by cases ks <;> simp_all
          refine .inr ⟨kb, ko, rfl, Nat.zero_le _, lt_of_there (o := ko + 0) (g1 0 (by simp at k1; omega)).2.1, fun i hi => ?_⟩
          rw [g2 i (by simpa using hi)]
          simp [hi]
    · rcases h4 with h4 | ⟨cb, co, rfl, g1, g2⟩
      · left; simp; have : kids.length = 0 := by omega
        exact List.length_eq_zero_iff.1 this
      · by_cases hks : kids = []
        · left; simp [hks]
        · have hpos : 0 < kids.length := by cases kids <;> simp_all
          refine .inr ⟨cb, co, rfl, Nat.zero_le _, lt_of_there (o := co + 0) (g1 0 (by omega)).2.1, fun i hi => ?_⟩
          rw [g2 i (by simpa using hi)]
          simp at hi
          simp [hi, KidD.ptr]
    · simp at hi
      have := ih kids[i] (List.getElem_mem hi)
      simpa [hi] using this
end Go.Proofs.Ytananonjomfpkaa
