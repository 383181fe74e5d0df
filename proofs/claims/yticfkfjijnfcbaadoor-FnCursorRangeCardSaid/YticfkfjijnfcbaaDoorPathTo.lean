/- The contract of pathTo: the way to a key from a node. -/
import Derived.Test.YticfkfjijnfcbaaDoorProg
import Derived.Test.YticfkfjijnfcbaaDoorSh0
import Derived.Test.YticfkfjijnfcbaaDoorSh26
import Derived.Test.YticfkfjijnfcbaaDoorSh3
import Derived.Test.YticfkfjijnfcbaaDoorPlant
import Derived.Test.YticfkfjijnfcbaaDoorIter
import Derived.Test.YticfkfjijnfcbaaDoorSh6
import Derived.Test.YticfkfjijnfcbaaDoorSh7
import Derived.Test.YticfkfjijnfcbaaDoorSh12
import Derived.Test.YticfkfjijnfcbaaDoorSh13
import Derived.Maps.OwnIn
import Derived.RangeFuncNested
import Derived.Shelf.RegionOpen
import Derived.WalkKit
import Derived.OwnWalkIn
import Derived.TacticsInMore
import Derived.Sort.CutIn
namespace Go.Proofs.YticfkfjijnfcbaaDoor
open Go.RowKit
attribute [local go_sem] Oper.semAt_some
attribute [local go_sem] wide_fn

set_option maxRecDepth 100000 in
set_option maxHeartbeats 4000000 in
theorem pathTo_c {w : World} {lo hi b : Nat} {t : Tr} (ht : NodeAt w lo hi b t) (hwell : Tr.Well t) (hw : t.weight ≤ 1048576) (key : Int) (w' : World) (hbw : Below hi w w') (hhi' : hi ≤ w'.heap.size) :
    Calls Tryd.prog 120 #[.pointer (some ⟨b, 0, none⟩), .int .i64 key] w' fun e w'' => ∃ v, e = .returned (.tuple #[v, .bool (t.path key).2]) ∧ IntsOwn w'' w'.heap.size v (t.path key).1 ∧ Below w'.heap.size w' w'' := by
  obtain ⟨i0, hi0, hz0, hz1, hz2⟩ := info_parts Tryd.appInfo
  obtain ⟨w2, hw2⟩ : ∃ w2, w2 = ((w'.alloc (.cells #[.int .i64 key] 3)).alloc (.cells #[.slice none 0 0] 22)).alloc (.cells #[.bool false] 4) := ⟨_, rfl⟩
  have hs2 : w2.heap.size = w'.heap.size + 3 := by rw [hw2]; simp
  have hb2 : Below w'.heap.size w' w2 := by rw [hw2]; exact (((Below.refl _ _).alloc (Nat.le_refl _) _).alloc (by simp) _).alloc (by simp <;> omega) _
  have k1 : w2.heap[w'.heap.size]? = some (.cells #[.int .i64 key] 3 (0, 0)) := by
    rw [hw2, old_blk _ _ _ (by simp <;> omega), old_blk _ _ _ (by simp), new_blk]
  have k2 : w2.heap[w'.heap.size + 1]? = some (.cells #[.slice none 0 0] 22 (0, 0)) := by
    rw [hw2, old_blk _ _ _ (by simp), show w'.heap.size + 1 = (w'.alloc (.cells #[.int .i64 key] 3)).heap.size by simp, new_blk]
  have k3 : w2.heap[w'.heap.size + 1 + 1]? = some (.cells #[.bool false] 4 (0, 0)) := by
    rw [hw2, show w'.heap.size + 1 + 1 = ((w'.alloc (.cells #[.int .i64 key] 3)).alloc (.cells #[.slice none 0 0] 22)).heap.size by simp, new_blk]
  obtain ⟨W3, hW3⟩ : ∃ W3, W3 = w2.alloc (.cells #[.slice none 0 0] 22) := ⟨_, rfl⟩
  have hs3 : W3.heap.size = w2.heap.size + 1 := by rw [hW3]; simp
  have hb3 : Below w2.heap.size w2 W3 := by rw [hW3]; exact (Below.refl _ _).alloc (Nat.le_refl _) _
  have k6 : W3.heap[w2.heap.size]? = some (.cells #[.slice none 0 0] 22 (0, 0)) := by rw [hW3, new_blk]
  have j1 := (hb3.block _ (by omega)).trans k1
  have j2 := (hb3.block _ (by omega)).trans k2
  have j3 := (hb3.block _ (by omega)).trans k3
  have hb3' := hb2.trans (hb3.mono (by omega))
  have hnd3 : NodeAt W3 lo hi b t := ht.same (fun k _ h => ((hb3'.mono hhi').block k h).trans (hbw.block k h))
  have HND3 := Lib.hid hnd3
  have H3 := Lib.hid (And.intro hb3' (And.intro j1 (And.intro j1 (And.intro j2 (And.intro j3 k6)))))
  have HW2 := Lib.hid hw2
  have HW3 := Lib.hid hW3
  have HWELL := Lib.hid hwell
  have HS := Lib.hid (And.intro hs2 hs3)
  obtain ⟨y1, y2⟩ := box1 k1
  obtain ⟨z1, z2⟩ := box1 j1
  clear ht hbw hw2 hb2 k1 k2 k3 hb3 k6 j1 j2 j3 hb3' hnd3 hW3 hwell hs2 hs3
  refine (callsIn_wide (n := 9)).1 (callsIn_of_wp_marks Tryd.func120 rfl trivial ?_ rfl)
  simp only [Tryd.ntmps120, List.size_toArray, List.length_cons, List.length_nil, Nat.reduceAdd, Nat.reduceSub, Array.replicate_succ, Array.replicate_zero, List.push_toArray, List.append_toArray, List.nil_append, List.cons_append]
  gi_upto_region 1 with (fail)
  rw [← HW2.out]
  gi_upto_region 2 with (fail)
  rw [← HW3.out]
  clear y1 y2
  gi_wp2_with fail
  refine CallsIn.mono ((callsIn_wide (n := _)).2 (less_c key _)) ?_
  rintro e w9 ⟨rfl, rfl⟩
  gi_wp2_with fail
  refine CallsIn.mono ((callsIn_wide (n := _)).2 (wayDown_c _ _ _ _)) ?_
  rintro e w10 ⟨rfl, rfl⟩
  have hkc : Keep (fun k => k < W3.heap.size) W3 (((W3.alloc (.cells #[.int .i64 key] 3)).alloc (.cells #[.pointer (some ⟨b, 0, none⟩)] 99)).alloc (.cells #[.func (.func 109) #[] #[.pointer (some ⟨W3.heap.size, 0, none⟩)]] 86)) :=
    (Keep.alloc _ _ _).trans ((Keep.alloc _ _ _).trans (Keep.alloc _ _ _))
  have hbn : (((W3.alloc (.cells #[.int .i64 key] 3)).alloc (.cells #[.pointer (some ⟨b, 0, none⟩)] 99)).alloc (.cells #[.func (.func 109) #[] #[.pointer (some ⟨W3.heap.size, 0, none⟩)]] 86)).heap[W3.heap.size + 1]? = some (.cells #[.pointer (some ⟨b, 0, none⟩)] 99 (0, 0)) := by
    rw [old_blk _ _ _ (by simp), show W3.heap.size + 1 = (W3.alloc (.cells #[.int .i64 key] 3)).heap.size by simp, new_blk]
  have hbf : (((W3.alloc (.cells #[.int .i64 key] 3)).alloc (.cells #[.pointer (some ⟨b, 0, none⟩)] 99)).alloc (.cells #[.func (.func 109) #[] #[.pointer (some ⟨W3.heap.size, 0, none⟩)]] 86)).heap[W3.heap.size + 1 + 1]? = some (.cells #[.func (.func 109) #[] #[.pointer (some ⟨W3.heap.size, 0, none⟩)]] 86 (0, 0)) := by
    rw [show W3.heap.size + 1 + 1 = ((W3.alloc (.cells #[.int .i64 key] 3)).alloc (.cells #[.pointer (some ⟨b, 0, none⟩)] 99)).heap.size by simp, new_blk]
  have hq : (((W3.alloc (.cells #[.int .i64 key] 3)).alloc (.cells #[.pointer (some ⟨b, 0, none⟩)] 99)).alloc (.cells #[.func (.func 109) #[] #[.pointer (some ⟨W3.heap.size, 0, none⟩)]] 86)).heap[W3.heap.size]? = some (.cells #[.int .i64 key] 3 (0, 0)) := by
    rw [old_blk _ _ _ (by simp <;> omega), old_blk _ _ _ (by simp), new_blk]
  have hs2 := HS.out.1
  have hs3 := HS.out.2
  simp only [World.size_alloc]
  generalize hwc : (((W3.alloc (.cells #[.int .i64 key] 3)).alloc (.cells #[.pointer (some ⟨b, 0, none⟩)] 99)).alloc (.cells #[.func (.func 109) #[] #[.pointer (some ⟨W3.heap.size, 0, none⟩)]] 86)) = wc at hbn hbf hq hkc ⊢
  obtain ⟨bn, hbn0⟩ : ∃ bn, bn = W3.heap.size + 1 := ⟨_, rfl⟩
  obtain ⟨bf, hbf0⟩ : ∃ bf, bf = W3.heap.size + 1 + 1 := ⟨_, rfl⟩
  obtain ⟨q, hq0⟩ : ∃ q, q = W3.heap.size := ⟨_, rfl⟩
  rw [← hbn0] at hbn
  rw [← hbf0] at hbf
  rw [← hbf0, ← hbn0, ← hq0]
  rw [← hq0] at hq hbf
  have l1 := (Array.getElem?_eq_some_iff.1 hbn).1
  have l2 := (Array.getElem?_eq_some_iff.1 hbf).1
  have l3 := (Array.getElem?_eq_some_iff.1 hq).1
  have hnd : NodeAt wc lo hi b t := HND3.out.same (fun k _ h => hkc.block k (by omega) (by omega))
  obtain ⟨xs, hxs, hway⟩ := way_at key hnd HWELL.out hw
  have hit := way_less_iter key key (Lib.hid rfl) hway (by omega) bn bf q hbn hbf hq
  have hst := hway.stops
  have hwp := Tr.way_path key t HWELL.out
  have hwl := (Tr.way_all key t HWELL.out).1
  rw [← hxs] at hwp hwl
  rw [List.length_map] at hwl
  have e2 := (hkc.block _ (by omega) (by omega)).trans H3.out.2.2.2.1
  have e3 := (hkc.block _ (by omega) (by omega)).trans H3.out.2.2.2.2.1
  have e6 := (hkc.block _ (by omega) (by omega)).trans H3.out.2.2.2.2.2
  have ek := (hkc.block _ (by omega) (by omega)).trans H3.out.2.2.1
  have hsc := hkc.size
  have HIT := Lib.hid hit
  have HST := Lib.hid hst
  have HWP := Lib.hid hwp
  have HWL := Lib.hid hwl
  have HKC := Lib.hid hkc
  have HE := Lib.hid (And.intro e2 (And.intro e3 (And.intro e6 ek)))
  have HXS := Lib.hid hxs
  have g1 := Nat.le_of_eq hs2
  have g2 := Nat.le_of_eq hs2.symm
  have g3 := Nat.le_of_eq hs3
  have g4 := Nat.le_of_eq hs3.symm
  have g5 : w'.heap.size + 3 ≤ bn := by omega
  have g6 : w'.heap.size + 3 ≤ bf := by omega
  have g7 : w'.heap.size + 3 ≤ q := by omega
  have g8 : bn ≠ w2.heap.size := by omega
  have g9 : bf ≠ w2.heap.size := by omega
  have g10 : q ≠ w2.heap.size := by omega
  clear hs2 hs3 hbn0 hbf0 hq0
  clear hit hst hwp hwl hkc e2 e3 e6 ek hxs hway hnd hbn hbf hq z1 z2 hwc
  gi_wp2_with fail
  refine wp_loop (fb := #[]) (lb := #[.pointer (some ⟨bn, 0, none⟩), .pointer (some ⟨bf, 0, none⟩)]) rfl (enters_of Tryd.func118 (by kernel_rfl) rfl) HIT.out (Keep.refl _ _) (fun x => rfl)
    (fun k => k < wc.heap.size ∧ k ≠ w2.heap.size ∧ k ≠ w'.heap.size + 1 ∧ k ≠ w'.heap.size + 1 + 1) (fun k h => by omega) (fun k h => h.1)
    (fun pre Pv W => ¬ Pv w2.heap.size ∧ ¬ Pv (w'.heap.size + 1) ∧ ¬ Pv (w'.heap.size + 1 + 1) ∧ W.heap[w'.heap.size + 1]? = some (.cells #[.slice none 0 0] 22 (0, 0)) ∧ W.heap[w'.heap.size + 1 + 1]? = some (.cells #[.bool false] 4 (0, 0)) ∧
      (∀ y ∈ pre, Tr.hasAt key y.2 = false) ∧ ∃ v, W.heap[w2.heap.size]? = some (.cells #[v] 22 (0, 0)) ∧ IntsOwn W (w2.heap.size + 1) v (Tr.stepsOf key (pre.map Prod.snd)) ∧ ∀ k, v.ownBlock = some k → ¬ Pv k)
    (fun c pre Pv W => c = .ret ∧ ¬ Pv (w'.heap.size + 1) ∧ ¬ Pv (w'.heap.size + 1 + 1) ∧ (t.path key).2 = true ∧ W.heap[w'.heap.size + 1 + 1]? = some (.cells #[.bool true] 4 (0, 0)) ∧
      ∃ v, W.heap[w'.heap.size + 1]? = some (.cells #[v] 22 (0, 0)) ∧ IntsOwn W (w2.heap.size + 1) v (t.path key).1 ∧ ∀ k, v.ownBlock = some k → ¬ Pv k)
    (fun pre Pv A Pv' B h hk hp => by
      obtain ⟨h1, h2, h3, h4, h5, h6, v, h7, h8, h9⟩ := h
      have q2 := (Array.getElem?_eq_some_iff.1 h4).1
      have q3 := (Array.getElem?_eq_some_iff.1 h5).1
      have q6 := (Array.getElem?_eq_some_iff.1 h7).1
      refine ⟨fun h => ?_, fun h => ?_, fun h => ?_, (hk.block _ q2 h2).trans h4, (hk.block _ q3 h3).trans h5, h6, v, (hk.block _ q6 h1).trans h7, ownsRow_held h8 (fun k e => hk.block _ (h8.lt k e).2 (h9 k e)), fun k e h => ?_⟩
      · exact (hp _ h).elim h1 (fun h => by omega)
      · exact (hp _ h).elim h2 (fun h => by omega)
      · exact (hp _ h).elim h3 (fun h => by omega)
      · exact (hp _ h).elim (h9 k e) (fun h => by have := (h8.lt k e).2; omega))
    (fun c pre Pv A Pv' B h hk hp => by
      obtain ⟨h0, h2, h3, h4, h5, v, h7, h8, h9⟩ := h
      have q2 := (Array.getElem?_eq_some_iff.1 h7).1
      have q3 := (Array.getElem?_eq_some_iff.1 h5).1
      refine ⟨h0, fun h => ?_, fun h => ?_, h4, (hk.block _ q3 h3).trans h5, v, (hk.block _ q2 h2).trans h7, ownsRow_held h8 (fun k e => hk.block _ (h8.lt k e).2 (h9 k e)), fun k e h => ?_⟩
      · exact (hp _ h).elim h2 (fun h => by omega)
      · exact (hp _ h).elim h3 (fun h => by omega)
      · exact (hp _ h).elim (h9 k e) (fun h => by have := (h8.lt k e).2; omega))
    ⟨by omega, by omega, by omega, HE.out.1, HE.out.2.1, fun y h => by simp at h, _, HE.out.2.2.1, ⟨rfl, .inl ⟨rfl, rfl⟩⟩, fun k e => by cases e⟩
    (fun x => { tmps := #[.pointer (some ⟨b, 0, none⟩), .int .i64 key, undef, .pointer (some ⟨w'.heap.size, 0, none⟩), .pointer (some ⟨w'.heap.size + 1, 0, none⟩), .pointer (some ⟨w'.heap.size + 1 + 1, 0, none⟩), .pointer (some ⟨w2.heap.size, 0, none⟩),
      .pointer (some ⟨x.1, 0, none⟩), .int .i64 (place key x.2.ks), .pointer (some ⟨b, 0, none⟩), .int .i64 key, .func (.func 109) #[] #[.pointer (some ⟨q, 0, none⟩)], .func (.func 118) #[] #[.pointer (some ⟨bn, 0, none⟩), .pointer (some ⟨bf, 0, none⟩)], .pointer (some ⟨x.1, 0, none⟩), .int .i64 (place key x.2.ks), undef, undef, undef, undef, undef, undef, undef, undef, undef, undef, undef, undef, undef, undef, undef, undef], defers := [] })
    ?assign ?body ?done ?stop
  case assign =>
    intro l' m x W' K hK
    dsimp only [wayEnc]
    gi_wp2
    exact hK
  case body =>
    intro l' m pre x Pv W' hI hkW hsub hbnd hp
    obtain ⟨xb, ⟨ks, cs⟩⟩ := x
    obtain ⟨h1, h2, h3, h4, h5, h6, v, h7, h8, h9⟩ := hI
    obtain ⟨va, vc, rfl⟩ := IntsOwn.shown h8
    obtain ⟨kvx, ax, capx, hs⟩ := HST.out _ (hp.subset (by simp : (xb, Tr.mk ks cs) ∈ pre ++ [(xb, Tr.mk ks cs)]))
    have hxl := hs.low
    have hxh := hs.high
    have hks : IntsR W' lo hi kvx ks := hs.keys.same (fun k g1 g2 => hkW.block k (by omega) ⟨by omega, by omega, by omega, by omega⟩)
    have hbx : W'.heap[xb]? = some (.cells #[kvx, .slice ax cs.length capx] 110 (0, 0)) := (hkW.block xb (by omega) ⟨by omega, by omega, by omega, by omega⟩).trans hs.box
    have hkey := (hkW.block (w'.heap.size) (by omega) ⟨by omega, by omega, by omega, by omega⟩).trans HE.out.2.2.2
    have hpl := place_le key ks
    have hpre : (pre.map Prod.snd ++ [Tr.mk ks cs]) <+: xs.map Prod.snd := by
      have := List.IsPrefix.map Prod.snd hp
      simpa using this
    have hlen := hp.length_le
    have hsn := Tr.stepsOf_snoc key (pre.map Prod.snd) (.mk ks cs)
    have hsl := Tr.stepsOf_len key (pre.map Prod.snd)
    have hmap : (pre ++ [(xb, Tr.mk ks cs)]).map Prod.snd = pre.map Prod.snd ++ [Tr.mk ks cs] := by simp
    rw [List.length_map] at hsl
    simp only [List.length_append, List.length_cons, List.length_nil] at hlen
    have hln : (Tr.stepsOf key (pre.map Prod.snd)).length ≤ 1048577 := by have := HWL.out; omega
    have hka := hks.in.at
    obtain ⟨ka, kcap, rfl, k1, k2, k3, k4⟩ := hks
    unfold maxLen at k2
    obtain ⟨x1, x2, x3, x4⟩ := box2 hbx
    obtain ⟨y1, y2⟩ := box1 hkey
    obtain ⟨c2, f2⟩ := box1 h4
    obtain ⟨c3, f3⟩ := box1 h5
    obtain ⟨c6, f6⟩ := box1 h7
    have hwp := HWP.out.1 (pre.map Prod.snd) (.mk ks cs) hpre (fun y hy => by
      obtain ⟨z, hz, rfl⟩ := List.mem_map.1 hy
      exact h6 z hz)
    have hhas : Tr.hasAt key (.mk ks cs) = decide (place key ks < ks.length ∧ ks.getD (place key ks) 0 = key) := rfl
    have hsw : w2.heap.size + 1 ≤ W'.heap.size := by have := (Array.getElem?_eq_some_iff.1 h7).1; omega
    dsimp only [Tr.ks]
    simp only [Tr.cs, Tr.ks] at hsn
    obtain ⟨i, hi⟩ : ∃ i, i = place key ks := ⟨_, rfl⟩
    rw [← hi] at hpl hhas hsn ⊢
    have hcall := hasAt_c hbx hka (by omega) i hpl key
    rw [← hhas] at hcall
    have HI := Lib.hid hi
    have HH := Lib.hid (And.intro h4 (And.intro h5 (And.intro h6 (And.intro h7 (And.intro h8 h9)))))
    have HSN := Lib.hid hsn
    have HMAP := Lib.hid hmap
    have HWPX := Lib.hid hwp
    have HBND := Lib.hid hbnd
    have HSTP := Lib.hid hs
    have HLN := Lib.hid hln
    clear h4 h5 h6 h7 h8 h9 hi hsn hmap hwp hhas k4 k3 hka hpre hbx hkey hs hp hkW hsub hbnd hsl hlen hln
    have hnd : w2.heap.size ≠ w'.heap.size + 1 := by omega
    cases hx : Tr.hasAt key (.mk ks cs) with
    | true =>
      have HP2 := Lib.hid (HWPX.out hx)
      rw [hx] at hcall
      have HCALL := Lib.hid hcall
      clear hcall hx
      gi_wp2
      refine ⟨fun h => (by cases h), ?_⟩
      refine (CallsIn.inRound l' (callsIn_wide.2 HCALL.out)).mono ?_
      rintro e w10 ⟨rfl, rfl⟩
      gi_wp2
      refine ⟨(Keep.setCell _ _ _ _ h2).trans (Keep.setCell _ _ _ _ h3), rfl, h2, h3, by rw [HP2.out], ?_, _, ?_, ?_, HH.out.2.2.2.2.2⟩
      · exact set_blk (o := 0) (.bool true) ((set_other _ _ _ _ _ (by omega)).trans HH.out.2.1)
      · rw [set_other _ _ _ _ _ (by omega)]; exact set_blk (o := 0) _ HH.out.1
      · rw [HP2.out]
        exact ownsRow_held HH.out.2.2.2.2.1 (fun k e => by have := (HH.out.2.2.2.2.1.lt k e).1; rw [set_other _ _ _ _ _ (by omega), set_other _ _ _ _ _ (by omega)])
    | false =>
      have HX := Lib.hid hx
      rw [hx] at hcall
      have HCALL := Lib.hid hcall
      clear hcall hx
      by_cases hleaf : cs.length = 0
      · have hleaf' : ¬ ((cs.length : Int) > 0) := by omega
        have HB9 := Lib.hid (HSN.out.trans (if_neg (by simpa using hleaf)))
        clear hleaf
        gi_wp2
        refine ⟨fun h => (by cases h), ?_⟩
        refine (CallsIn.inRound l' (callsIn_wide.2 HCALL.out)).mono ?_
        rintro e w10 ⟨rfl, rfl⟩
        gi_wp2
        refine ⟨Keep.refl _ _, h1, h2, h3, HH.out.1, HH.out.2.1, fun y hy => ?_, _, HH.out.2.2.2.1, by rw [HMAP.out, HB9.out]; exact HH.out.2.2.2.2.1, HH.out.2.2.2.2.2⟩
        rcases List.mem_append.1 hy with hy | hy
        · exact HH.out.2.2.1 y hy
        · simp at hy; subst hy; exact HX.out
      · have hleaf' : ((cs.length : Int) > 0) := by omega
        have HB9 := Lib.hid (HSN.out.trans (if_pos hleaf))
        have HOWN : Hid (IntsOwn W' (w2.heap.size + 1) (.slice va (Tr.stepsOf key (pre.map Prod.snd)).length vc) (Tr.stepsOf key (pre.map Prod.snd))) := Lib.hid HH.out.2.2.2.2.1
        have hbase : Hid (w2.heap.size + 1 ≤ W'.heap.size) := Lib.hid hsw
        clear hleaf
        gi_wp2
        refine ⟨fun h => (by cases h), ?_⟩
        refine (CallsIn.inRound l' (callsIn_wide.2 HCALL.out)).mono ?_
        rintro e w10 ⟨rfl, rfl⟩
        gi_wp2_with (gi_at_builtin; refine wpListIn_append_one (by rfl) _ _ (by rfl) (w2.heap.size + 1) _ _ (i : Int) (by rfl) HOWN.out (by rfl) HLN.out hbase.out ?_; intro a8 c8 w8 L8 hL8 hown8 hk8 hat8; have hq6 := (hk8.block w2.heap.size (by omega) (fun e => by have := (HOWN.out.lt _ e).1; omega)); have c6' := (cell_of_blk hq6).trans c6; have f6' := (World.frozen?_of_block hq6).trans f6; have H8 := Lib.hid (And.intro hown8 (And.intro hk8 hat8)); clear hown8 hk8 hat8 hq6)
        refine ⟨(H8.out.2.1.mono (fun k _ h e => HH.out.2.2.2.2.2 k e h)).trans (Keep.setCell _ _ _ _ h1), h1, h2, h3, ?_, ?_, fun y hy => ?_, _, set_blk (o := 0) _ ((H8.out.2.1.block w2.heap.size (by omega) (fun e => by have := (HOWN.out.lt _ e).1; omega)).trans HH.out.2.2.2.1), ?_, fun k e hk => ?_⟩
        · rw [set_other _ _ _ _ _ (by omega)]; exact (H8.out.2.1.block _ (by omega) (fun e => by have := (HOWN.out.lt _ e).1; omega)).trans HH.out.1
        · rw [set_other _ _ _ _ _ (by omega)]; exact (H8.out.2.1.block _ (by omega) (fun e => by have := (HOWN.out.lt _ e).1; omega)).trans HH.out.2.1
        · rcases List.mem_append.1 hy with hy | hy
          · exact HH.out.2.2.1 y hy
          · simp at hy; subst hy; exact HX.out
        · rw [HMAP.out, HB9.out, ← hL8.out]
          exact ownsRow_held H8.out.1 (fun k e => set_other _ _ _ _ _ (by have := (H8.out.1.lt k e).1; omega))
        · rcases H8.out.2.2 with h | h
          · exact HH.out.2.2.2.2.2 k (h.symm.trans e) hk
          · rw [h] at e
            simp only [Option.some.injEq] at e
            have := HBND.out k hk
            omega
  case done =>
    intro W3' hk3 hI hlt hD
    obtain ⟨h1, h2, h3, h4, h5, h6, v, h7, h8, h9⟩ := hI
    obtain ⟨va, vc, rfl⟩ := IntsOwn.shown h8
    have hpp := HWP.out.2 (fun y hy => by
      obtain ⟨z, hz, rfl⟩ := List.mem_map.1 hy
      exact h6 z hz)
    have hno : ∀ k, (Value.slice va (Tr.stepsOf key (xs.map Prod.snd)).length vc).ownBlock = some k → k ≠ wc.heap.size := fun k e e2 => h9 k e (.inr (.inl e2))
    obtain ⟨c6, f6⟩ := box1 h7
    obtain ⟨c2, f2⟩ := box1 h4
    obtain ⟨c3, f3⟩ := box1 h5
    have HH := Lib.hid (And.intro h4 (And.intro h5 (And.intro h7 (And.intro h8 (And.intro hno hk3)))))
    have HD := Lib.hid hD
    have HPP := Lib.hid hpp
    clear h1 h2 h3 h4 h5 h6 h7 h8 h9 hpp hno hk3 hD
    gi_wp2
    obtain ⟨W5, hW5⟩ : ∃ W5, W5 = ((W3'.setCell ⟨w'.heap.size + 1, 0, none⟩ (.slice va (Tr.stepsOf key (xs.map Prod.snd)).length vc)).setCell ⟨w'.heap.size + 1 + 1, 0, none⟩ (.bool false)).putObj wc.heap.size (.deferred none) := ⟨_, rfl⟩
    have hD5 : ((W3'.setCell ⟨w'.heap.size + 1, 0, none⟩ (.slice va (Tr.stepsOf key (xs.map Prod.snd)).length vc)).setCell ⟨w'.heap.size + 1 + 1, 0, none⟩ (.bool false)).heap[wc.heap.size]? = some (.deferred (some [])) := by
      rw [set_other _ _ _ _ _ (by omega), set_other _ _ _ _ _ (by omega)]; exact HD.out
    refine ⟨by simp, .inl ⟨_, _, rfl, run_takeDeferred hD5, ?_⟩⟩
    have q2 : W5.heap[w'.heap.size + 1]? = some (.cells #[.slice va (Tr.stepsOf key (xs.map Prod.snd)).length vc] 22 (0, 0)) := by
      rw [hW5]; refine (World.putObj_heap_other (by omega)).trans ?_
      rw [set_other _ _ _ _ _ (by omega)]; exact set_blk (o := 0) _ HH.out.1
    have q3 : W5.heap[w'.heap.size + 1 + 1]? = some (.cells #[.bool false] 4 (0, 0)) := by
      rw [hW5]; refine (World.putObj_heap_other (by omega)).trans ?_
      exact set_blk (o := 0) (.bool false) ((set_other _ _ _ _ _ (by omega)).trans HH.out.2.1)
    have hk5 : Keep (fun k => k < w'.heap.size) W3' W5 := by rw [hW5]; exact ((Keep.setCell _ _ _ _ (by show ¬ w'.heap.size + 1 < w'.heap.size; omega)).trans (Keep.setCell _ _ _ _ (by show ¬ w'.heap.size + 1 + 1 < w'.heap.size; omega))).trans (Keep.putObj _ _ _ _ (by omega))
    have ho5 : IntsOwn W5 (w2.heap.size + 1) (.slice va (Tr.stepsOf key (xs.map Prod.snd)).length vc) (Tr.stepsOf key (xs.map Prod.snd)) := by
      rw [hW5]
      refine ownsRow_held HH.out.2.2.2.1 (fun k e => ?_)
      have h1 := HH.out.2.2.2.2.1 k e
      have h2 := (HH.out.2.2.2.1.lt k e).1
      refine (World.putObj_heap_other h1).trans ?_
      rw [set_other _ _ _ _ _ (by omega), set_other _ _ _ _ _ (by omega)]
    have c2' := (box1 q2).1
    have c3' := (box1 q3).1
    rw [← hW5]
    refine ⟨.tuple #[.slice va (Tr.stepsOf key (xs.map Prod.snd)).length vc, .bool false], by simp [results, Tryd.results120, go_sem, c2', c3'], _, by rw [HPP.out], by rw [HPP.out]; exact IntsOwn.lower ho5 (by omega), ?_⟩
    exact H3.out.1.trans ((((HKC.out.mono (fun k _ h => by omega)).trans (HH.out.2.2.2.2.2.mono (fun k hlt h => by omega))).trans hk5).below (B := w'.heap.size) (by omega) (fun k h => h))
  case stop =>
    rintro c pre' W3' hk3 hp ⟨rfl, h2, h3, h4, h5, v, h7, h8, h9⟩ hlt hD
    have hno : ∀ k, v.ownBlock = some k → k ≠ wc.heap.size := fun k e e2 => h9 k e (.inr (.inl e2))
    have HH := Lib.hid (And.intro h7 (And.intro h5 (And.intro h8 (And.intro hno hk3))))
    have HD := Lib.hid hD
    have H4 := Lib.hid h4
    clear h2 h3 h4 h5 h7 h8 h9 hno hk3 hD
    gi_wp2
    refine ⟨by simp, .inl ⟨_, _, rfl, run_takeDeferred HD.out, ?_⟩⟩
    obtain ⟨W5, hW5⟩ : ∃ W5, W5 = W3'.putObj wc.heap.size (.deferred none) := ⟨_, rfl⟩
    have q2 : W5.heap[w'.heap.size + 1]? = some (.cells #[v] 22 (0, 0)) := by
      rw [hW5]; exact (World.putObj_heap_other (by omega)).trans HH.out.1
    have q3 : W5.heap[w'.heap.size + 1 + 1]? = some (.cells #[.bool true] 4 (0, 0)) := by
      rw [hW5]; exact (World.putObj_heap_other (by omega)).trans HH.out.2.1
    have hk5 : Keep (fun k => k < w'.heap.size) W3' W5 := by rw [hW5]; exact Keep.putObj _ _ _ _ (by omega)
    have ho5 : IntsOwn W5 (w2.heap.size + 1) v (t.path key).1 := by
      rw [hW5]
      exact ownsRow_held HH.out.2.2.1 (fun k e => World.putObj_heap_other (HH.out.2.2.2.1 k e))
    have c2' := (box1 q2).1
    have c3' := (box1 q3).1
    rw [← hW5]
    obtain ⟨va, vc, rfl⟩ := IntsOwn.shown ho5
    refine ⟨.tuple #[.slice va (t.path key).1.length vc, .bool true], by simp [results, Tryd.results120, go_sem, c2', c3'], _, by rw [H4.out], IntsOwn.lower ho5 (by omega), ?_⟩
    exact H3.out.1.trans ((((HKC.out.mono (fun k _ h => by omega)).trans (HH.out.2.2.2.2.mono (fun k hlt h => by omega))).trans hk5).below (B := w'.heap.size) (by omega) (fun k h => h))
end Go.Proofs.YticfkfjijnfcbaaDoor
