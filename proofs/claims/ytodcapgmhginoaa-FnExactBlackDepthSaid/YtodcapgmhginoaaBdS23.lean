/- Where one stands on the way through a tree: the program's iterator turns, at its instance for Bin. -/
import Derived.Test.YtodcapgmhginoaaProg
import Derived.Test.YtodcapgmhginoaaBdS0
import Derived.Test.YtodcapgmhginoaaBdS16
import Derived.Test.YtodcapgmhginoaaBdS18
import Derived.Test.YtodcapgmhginoaaBdS20
import Derived.Test.YtodcapgmhginoaaBdS22
import Derived.Test.YtodcapgmhginoaaBdS19
import Derived.RangeFuncNested
import Derived.Shelf.RegionOpen
import Derived.WalkKit
import Derived.OwnWalkIn
import Derived.TacticsInMore
import Derived.LoopNIn
import Derived.LoopIn
import Derived.Sort.LoopGhostIn
import Derived.Sort.QuietIn
import Derived.Maps.OwnIn
namespace Go.Proofs.Ytodcapgmhginoaa
open Go.RowKit
attribute [local go_sem] Oper.semAt_some

/-- The iterator that turns hands back: where the two boxes lie. -/
theorem turnsB_c {g : Nat} (w : World) (x : Addr) :
    Calls Try.prog 78 #[.pointer (some x), .func (.func g) #[] #[]] w fun e w' => e = .returned (.func (.func 110) #[] #[.pointer (some ⟨w.heap.size, 0, none⟩), .pointer (some ⟨w.heap.size + 1, 0, none⟩)]) ∧
      w' = (w.alloc (.cells #[.pointer (some x)] 88)).alloc (.cells #[.func (.func g) #[] #[]] 89) := by
  go_enter Try.func78, Try.ntmps78
  go_wp2_with fail
  go_ret
  exact ⟨rfl, rfl⟩

set_option maxRecDepth 100000 in
set_option maxHeartbeats 4000000 in
theorem turnsB_iter {α : Type} {g x2 x3 : Nat} {kf : Nat → Nat → Option Addr × Nat × Nat} {lf : Nat → Nat → α} {w₀ w : World} {r : Ro α} (eg : ∀ args w, (callFunc g args).run Try.prog w = .ok (.enter g args) w) (hr : RoAt Try.prog g 3 kf lf w₀ r) (hs : r.siz ≤ 1048576)
    (hb : Below w₀.heap.size w₀ w) (h2 : w.heap[x2]? = some (.cells #[.pointer (some r.addr)] 88 (0, 0))) (h3 : w.heap[x3]? = some (.cells #[.func (.func g) #[] #[]] 89 (0, 0))) :
    Iter Try.prog 110 #[] #[.pointer (some ⟨x2, 0, none⟩), .pointer (some ⟨x3, 0, none⟩)] turnEnc (fun k => k < w₀.heap.size ∨ k = x2 ∨ k = x3) r.trn w := by
  intro l J Jx Pv W hkeep hRd hbnd hJ hJx hY h0
  obtain ⟨i0, hi0, hz0, hz1, hz2⟩ := info_parts Try.infoSpotB
  have hgw : w.heap.size ≤ W.heap.size := hkeep.size
  have hg0 : w₀.heap.size ≤ w.heap.size := hb.size
  have hbW : Below w₀.heap.size w₀ W := hb.trans ⟨hkeep.os, hkeep.tape, hkeep.output, hkeep.size, fun k hk => hkeep.block k (by omega) (.inl hk)⟩
  have hx2 : x2 < w.heap.size := (Array.getElem?_eq_some_iff.1 h2).1
  have hx3 : x3 < w.heap.size := (Array.getElem?_eq_some_iff.1 h3).1
  have hrW : RoAt Try.prog g 3 kf lf W r := hr.later hbW
  have hc := nestingB_c eg hrW hs
  -- the two boxes wherever the other side's blocks are kept
  have hbox : ∀ wx : World, Keep Pv W wx → wx.cell? ⟨x2, 0, none⟩ = some (.pointer (some r.addr)) ∧ wx.cell? ⟨x3, 0, none⟩ = some (.func (.func g) #[] #[]) := fun wx hx =>
    ⟨(box1 ((hx.block x2 (by omega) (hRd _ (.inr (.inl rfl)))).trans ((hkeep.block x2 hx2 (.inr (.inl rfl))).trans h2))).1, (box1 ((hx.block x3 (by omega) (hRd _ (.inr (.inr rfl)))).trans ((hkeep.block x3 hx3 (.inr (.inr rfl))).trans h3))).1⟩
  have hdp := depth_pos r
  obtain ⟨b1, b2⟩ := hbox W (Keep.refl _ _)
  have HR0 := Lib.hid hr
  have HC := Lib.hid hc
  have HY := Lib.hid hY
  have HBOX := Lib.hid hbox
  have HEG := Lib.hid eg
  have HB := Lib.hid hb
  have HBW := Lib.hid hbW
  have HDP := Lib.hid hdp
  have HJ0 := Lib.hid h0
  clear hr hrW hc hY hbox eg hb hbW hdp h2 h3 h0
  refine (callsIn_wide (n := 9)).1 (callsIn_of_wp Try.func110 rfl trivial ?_ rfl)
  simp only [Try.ntmps110, List.size_toArray, List.length_cons, List.length_nil, Nat.reduceAdd, Nat.reduceSub, Array.replicate_succ, Array.replicate_zero, List.push_toArray, List.append_toArray, List.nil_append, List.cons_append]
  gi_wp2
  refine ⟨trivial, ?_⟩
  refine ((callsIn_wide (n := 8)).2 HC.out).mono ?_
  rintro e W1 ⟨rfl, hb1⟩
  have hs1 := hb1.size
  have hk1 : Keep Pv W W1 := Keep.of_below hb1 (fun k hk _ => hk)
  obtain ⟨D, hD⟩ : ∃ D : Int, D = (r.depth : Int) := ⟨_, rfl⟩
  have hD0 : (D == 0) = false := by rw [beq_eq_false_iff_ne, hD]; exact HDP.out
  rw [← hD]
  obtain ⟨b1, b2⟩ := HBOX.out W1 hk1
  clear hD
  gi_wp2
  obtain ⟨W3, hW3⟩ : ∃ W3, W3 = W1.alloc (.cells #[.pointer (some r.addr), .int .i64 0] 137) := ⟨_, rfl⟩
  rw [← hW3]
  have hs3 : W3.heap.size = W1.heap.size + 1 := by rw [hW3]; simp
  have hway3 : RWay 137 W3 W.heap.size W1.heap.size 1 [(r, 0)] := by
    refine RWay.of (cur := #[.pointer (some r.addr), .int .i64 0]) hs1 ?_ (by simp) (by unfold maxLen; omega) rfl rfl
    rw [hW3]; exact new_blk _ _
  have hk3 : Keep Pv W W3 := hk1.trans (by rw [hW3]; exact Keep.alloc _ _ _)
  have hj1 : J [] Pv W1 := hJ _ _ W _ W1 HJ0.out (Keep.of_below hb1 (fun k h _ => h)) (fun k h => .inl h)
  have hJ3 : J [] (fun k => Pv k ∨ k = W1.heap.size) W3 := hJ _ _ W1 _ W3 hj1 (by rw [hW3]; exact Keep.alloc _ _ _) (fun k h => h.imp id (fun h => by omega))
  have H3 := Lib.hid (And.intro hway3 (And.intro hk3 hJ3))
  clear hW3 hway3 hk3 hJ3 hj1 hk1 hb1 b1 b2
  gi_loopg [4] (rtodo [(r, 0)]) (fun k s4 wr => ∃ (pre fr : List (Ro α × Nat)) (gb cap : Nat), s4 = .slice (some ⟨gb, 0, none⟩) fr.length cap ∧ RWay 137 wr W.heap.size gb cap fr ∧
    (∀ f ∈ fr, RoAt Try.prog g 3 kf lf w₀ f.1 ∧ f.2 ≤ f.1.cs.length ∧ f.1.siz ≤ 1048576) ∧ RDown fr ∧ J pre (fun k => Pv k ∨ k = gb) wr ∧ Keep Pv W wr ∧ pre ++ restT fr = r.trn ∧ rtodo fr ≤ k)
  case atStart =>
    refine ⟨[], [(r, 0)], _, _, rfl, H3.out.1, fun f hf => ?_, List.pairwise_singleton _ _, H3.out.2.2, H3.out.2.1, ?_, Nat.le_refl _⟩
    · obtain rfl := List.mem_singleton.1 hf
      exact ⟨HR0.out, Nat.zero_le _, hs⟩
    · rw [trn_eq]; simp [restT]
  case round =>
    obtain ⟨pre, fr, gb, cap, rfl, hway, hfr, hdown, hJr, hkr, hev, hk⟩ := hrel
    rcases List.eq_nil_or_concat fr with rfl | ⟨ini, f, rfl⟩
    · have hJe : J r.trn Pv wr := hJ r.trn (fun k => Pv k ∨ k = gb) wr Pv wr (by rw [← hev]; simpa [restT] using hJr) (Keep.refl _ _) (fun k h => Or.inl (Or.inl h))
      have HJE := Lib.hid hJe
      have HKR := Lib.hid hkr
      clear hway hfr hdown hJr hkr hev hk hJe
      gi_wp2
      go_end0
      exact ⟨⟨_, rfl⟩, HKR.out, .inl HJE.out⟩
    · obtain ⟨a1, p⟩ := f
      simp only [List.concat_eq_append] at hway hfr hdown hJr hev hk ⊢
      have hlen := rdown_len hdown (N := 1048576) (fun f hf => (hfr f hf).2.2)
      obtain ⟨hat, hp, hw1'⟩ := hfr (a1, p) (by simp)
      have hw1 : a1.siz ≤ 1048576 := hw1'
      have hp : p ≤ a1.cs.length := hp
      have hcs : a1.cs.length ≤ 1048576 := Nat.le_trans (Ro.cs_le a1) hw1
      obtain ⟨ha, cap1, h0, ho0, q1, _, _, q3, q4, q5, q6⟩ := hat.parts
      obtain ⟨l1, l2, l3⟩ := hway.last
      rw [show (ini ++ [(a1, p)]).length = ini.length + 1 by simp]
      obtain ⟨n, hn⟩ : ∃ n, n = ini.length := ⟨_, rfl⟩
      rw [← hn] at l1 l2 l3 ⊢
      have hn2 : n ≤ 1048577 := by simp at hlen; omega
      obtain ⟨hg1, _, _, hc1, hc2, _⟩ := hway.blk
      have hc1' : n + 1 ≤ cap := by simpa [hn] using hc1
      unfold maxLen at hc2
      unfold Ro.addr at l1
      have hp64 : p ≤ 1048576 := by omega
      have hpre : pre ++ [(a1, p)] <+: r.trn := by rw [← hev, restT_snoc]; exact ⟨Ro.trns a1 p (a1.cs.drop p) ++ restT ini, by simp [remT]⟩
      have HN := Lib.hid hn
      have HWAY := Lib.hid hway
      have HFR := Lib.hid hfr
      have HDOWN := Lib.hid hdown
      have HJR := Lib.hid hJr
      have HKR := Lib.hid hkr
      have HQ := Lib.hid (And.intro q4 q5)
      have HCALL := Lib.hid q3
      have HE6 := Lib.hid q6
      have HK := Lib.hid hk
      have HEVR := Lib.hid hev
      have HG1 := Lib.hid hg1
      have HPRE := Lib.hid hpre
      clear hway hfr hdown hJr hkr q1 q3 q4 q5 q6 hc1 hlen hk hat hn hev hg1 hw1' hpre
      gi_wp2
      gi_quiet (fail)
      generalize hW6 : wr.drewN _ = W6
      obtain ⟨m6, hW6⟩ : ∃ m, wr.drewN m = W6 := ⟨_, hW6⟩
      have way6 : RWay 137 W6 W.heap.size gb cap (ini ++ [(a1, p)]) := by rw [← hW6]; exact HWAY.out.kept rfl
      have k6 : Keep Pv W W6 := by rw [← hW6]; exact HKR.out.trans (Keep.drewN _ _ _)
      have j6 : J pre (fun k => Pv k ∨ k = gb) W6 := by rw [← hW6]; exact hJ _ _ wr _ _ HJR.out (Keep.drewN _ _ _) (fun k h => .inl h)
      clear hW6 l1 l2 l3
      obtain ⟨fn2, tmps2, assign2, body2, hy2, hR2⟩ := HY.out pre (a1, p) (fun k => Pv k ∨ k = gb) W6 j6 k6 (fun _ h => .inl h) (fun k h => h.elim (fun h => Nat.lt_of_lt_of_le (hbnd k h) k6.size) (fun h => by rw [h]; exact way6.lt)) HPRE.out
      dsimp only [turnEnc] at hy2
      unfold Ro.addr at hy2
      have HR2 := Lib.hid hR2
      have H6 := Lib.hid (And.intro way6 (And.intro k6 j6))
      clear hR2 way6 k6 j6
      gi_wp2
      (try refine ⟨fun h => (by cases h), ?_⟩)
      refine (HR2.out _).mono ?_
      rintro e W7 ⟨hk7, (⟨rfl, hJ7⟩ | ⟨rfl, hJx7⟩)⟩
      · have hg1 := HG1.out
        have way7 := H6.out.1.kept (hk7.block gb H6.out.1.lt (.inr rfl))
        have k7 : Keep Pv W W7 := H6.out.2.1.trans (hk7.mono (fun k _ h => .inl h))
        obtain ⟨l1, l2, l3⟩ := way7.last
        rw [← HN.out] at l1 l2 l3
        have hnPv : ¬ Pv gb := fun h => by have := hbnd gb h; omega
        obtain ⟨b1, b2⟩ := HBOX.out (W7.setCell ⟨gb, n * 2 + 1, none⟩ (.int .i64 ((p : Int) + 1))) (k7.trans (Keep.setCell _ _ _ _ hnPv))
        have H7 := Lib.hid (And.intro way7 (And.intro k7 hJ7))
        have HNPV := Lib.hid hnPv
        clear way7 k7 hJ7 hnPv hk7
        have heg := HEG.out
        gi_wp2
        refine ⟨trivial, ?_⟩
        gi_wp2
        generalize hW8 : W7.setCell ⟨gb, n * 2 + 1, none⟩ (.int .i64 ((p : Int) + 1)) = W8
        have way8 : RWay 137 W8 W.heap.size gb cap (ini ++ [(a1, p + 1)]) := by
          have h := H7.out.1.pass (p + 1)
          rw [← HN.out] at h
          rw [← hW8]; exact h
        have k8 : Keep Pv W W8 := by rw [← hW8]; exact H7.out.2.1.trans (Keep.setCell _ _ _ _ HNPV.out)
        have j8 : J (pre ++ [(a1, p)]) (fun k => Pv k ∨ k = gb) W8 := by rw [← hW8]; exact hJ _ _ W7 _ _ H7.out.2.2 (Keep.setCell _ _ _ _ (fun h => h (.inr rfl))) (fun k h => .inl h)
        have hb8 : Below w₀.heap.size w₀ W8 := HBW.out.trans (k8.below (by omega) (fun k hk => hRd k (.inl (by omega))))
        clear hW8 l1 l2 l3 b1 b2 heg
        refine ((callsIn_wide (n := 8)).2 (HCALL.out W8 hb8)).mono ?_
        rintro e W9 ⟨rfl, hb9⟩
        have hs9 := hb9.size
        have hgl8 := way8.lt
        have way9 := way8.kept (hb9.block gb hgl8)
        have k9 : Keep Pv W W9 := k8.trans (Keep.of_below hb9 (fun k hk _ => hk))
        have j9 : J (pre ++ [(a1, p)]) (fun k => Pv k ∨ k = gb) W9 := hJ _ _ W8 _ W9 j8 (Keep.of_below hb9 (fun k hk _ => hk)) (fun k h => .inl h)
        have H9 := Lib.hid (And.intro way9 (And.intro k9 j9))
        clear way8 k8 j8 hb8 way9 k9 j9 hb9
        by_cases hpl : p < a1.cs.length
        · have hpl' : (p : Int) < (a1.cs.length : Int) := by omega
          obtain rfl := HE6.out.resolve_left (show ¬ a1.cs.length = 0 by omega)
          obtain ⟨hk1, hk2⟩ := HQ.out.1 p hpl
          have hkra := HQ.out.2 p hpl
          have hsk := Ro.siz_kid hpl
          have ead : a1.cs[p].addr = ⟨h0, ho0 + p * 3, none⟩ := by simp [Ro.addr, hk1, hk2]
          have hown9 : (W9.alloc (.cells #[.pointer (some ⟨h0, ho0 + p * 3, none⟩), .int .i64 0] 137)).ownsRow W.heap.size 137 2 (.slice (some ⟨gb, 0, none⟩) (n + 1) cap) (n + 1) (rcells (ini ++ [(a1, p + 1)])) := by
            have h := H9.out.1
            unfold RWay at h
            rw [show (ini ++ [(a1, p + 1)]).length = n + 1 by simp [HN.out]] at h
            exact h.alloc _
          have hbase : W.heap.size ≤ (W9.alloc (.cells #[.pointer (some ⟨h0, ho0 + p * 3, none⟩), .int .i64 0] 137)).heap.size := by simp; omega
          have HKRA := Lib.hid (And.intro hkra (And.intro hsk ead))
          have HOWN := Lib.hid hown9
          have HBASE := Lib.hid hbase
          clear hk1 hk2 hkra hsk ead hown9 hbase
          gi_wp2_with (gi_at_builtin; refine wpListIn_append_own_at _ (by rfl) _ _ _ (by rfl) W.heap.size 137 i0 _ 2 16 Try.underlying138 hi0 hz0 hz1 hz2 rfl (by decide) (.slice (some ⟨gb, 0, none⟩) (n + 1) cap) (n + 1) (rcells (ini ++ [(a1, p + 1)])) (by rfl) HOWN.out ⟨W9.heap.size, 0, none⟩ 1 1 [.pointer (some ⟨h0, ho0 + p * 3, none⟩), .int .i64 0] (by rfl) (by rfl) (World.news_of_block (cs := #[.pointer (some ⟨h0, ho0 + p * 3, none⟩), .int .i64 0]) (t := 137) (fr := (0, 0)) (heap_alloc_new W9 _)) (by simp [Value.oneCell']) (by unfold maxLen; omega) (by omega) HBASE.out ?_; intro v8 w8 hown8 hgrow8 hnil8 hat8; obtain ⟨g8, cap8, rfl, _, _⟩ := hown8.form (by omega); have H8 := Lib.hid (And.intro hown8 (And.intro hgrow8 hat8)); clear hown8 hgrow8 hat8 hnil8)
          gi_roundg (rtodo (ini ++ [(a1, p + 1)] ++ [(a1.cs[p], 0)]))
          case measure =>
            have h := HK.out
            rw [rtodo_append] at h
            rw [rtodo_append, rtodo_append]
            simp only [rtodo, rtodo1, List.drop_zero] at h ⊢
            rw [Ro.works_drop a1.cs p hpl] at h
            have hwk1 : (a1.cs[p]).work = 1 + Ro.works (a1.cs[p]).cs := by cases a1.cs[p]; rfl
            omega
          case rel =>
            have hg1 := HG1.out
            have hgl := H9.out.1.lt
            have hs8 : W9.heap.size + 1 ≤ w8.heap.size := by have := H8.out.2.1.size; simpa using this
            have hold : ∀ k, k < W9.heap.size → k ≠ gb → w8.heap[k]? = W9.heap[k]? := fun k h1 h2 => by
              rw [H8.out.2.1.block k (by simp; omega) (by simp [Value.ownBlock]; exact h2), old_blk _ _ _ h1]
            have hkp : ∀ K : Nat → Prop, ¬ K gb → Keep K W9 w8 := fun K hK => ⟨H8.out.2.1.os, H8.out.2.1.tape, H8.out.2.1.output, by omega, fun k h1 h2 => hold k h1 (fun e => hK (e ▸ h2))⟩
            have hway8 : RWay 137 w8 W.heap.size g8 cap8 (ini ++ [(a1, p + 1)] ++ [(a1.cs[p], 0)]) := by
              have h := H8.out.1
              unfold RWay
              have e2 : (ini ++ [(a1, p + 1)] ++ [(a1.cs[p], 0)]).length = n + 1 + 1 := by simp [HN.out]
              rw [e2]
              have e : rcells (ini ++ [(a1, p + 1)] ++ [(a1.cs[p], 0)]) = rcells (ini ++ [(a1, p + 1)]) ++ [.pointer (some ⟨h0, ho0 + p * 3, none⟩), .int .i64 0] := by
                rw [rcells_append]
                simp [rcells, HKRA.out.2.2]
              rw [e]; exact h
            have hg8 : g8 = gb ∨ W9.heap.size ≤ g8 := by
              rcases H8.out.2.2 with h | h
              · left; simpa [Value.ownBlock] using h
              · right; simp [Value.ownBlock] at h; omega
            have hsk := HKRA.out.2.1
            have hdown : RDown (ini ++ [(a1, p + 1)]) := by
              obtain ⟨d1, _, d3⟩ := List.pairwise_append.1 HDOWN.out
              exact List.pairwise_append.2 ⟨d1, List.pairwise_singleton _ _, fun x hx y hy => by obtain rfl := List.mem_singleton.1 hy; exact d3 x hx (a1, p) (by simp)⟩
            refine ⟨pre ++ [(a1, p)], ini ++ [(a1, p + 1)] ++ [(a1.cs[p], 0)], g8, cap8, by simp [HN.out], hway8, fun f hf => ?_, ?_, ?_, ?_, ?_, Nat.le_refl _⟩
            · rcases List.mem_append.1 hf with h | h
              · rcases List.mem_append.1 h with h | h
                · exact HFR.out f (by simp [h])
                · obtain rfl := List.mem_singleton.1 h
                  exact ⟨(HFR.out (a1, p) (by simp)).1, hpl, hw1⟩
              · obtain rfl := List.mem_singleton.1 h
                exact ⟨HKRA.out.1, Nat.zero_le _, by show a1.cs[p].siz ≤ _; omega⟩
            · refine List.pairwise_append.2 ⟨hdown, List.pairwise_singleton _ _, fun x hx y hy => ?_⟩
              obtain rfl := List.mem_singleton.1 hy
              show a1.cs[p].siz < _
              rcases List.mem_append.1 hx with hx' | hx'
              · have h3 : a1.siz < x.1.siz := (List.pairwise_append.1 hdown).2.2 x hx' (a1, p + 1) (by simp)
                omega
              · obtain rfl := List.mem_singleton.1 hx'
                show _ < a1.siz
                omega
            · refine hJ _ _ W9 _ w8 H9.out.2.2 (hkp _ (fun h => h (.inr rfl))) (fun k h => ?_)
              rcases h with h | h
              · exact .inl (.inl h)
              · rcases hg8 with e | e
                · exact .inl (.inr (by omega))
                · exact .inr (by omega)
            · exact H9.out.2.1.trans (hkp _ (fun h => by have := hbnd gb h; omega))
            · rw [← HEVR.out, restT_snoc, restT_snoc, restT_snoc, remT_kid hpl]; simp
        · have hpl' : ¬ (p : Int) < (a1.cs.length : Int) := by omega
          gi_wp2
          gi_roundg (rtodo ini)
          case measure => have := HK.out; rw [rtodo_append] at this; simp only [rtodo, rtodo1] at this; omega
          case rel =>
            refine ⟨pre ++ [(a1, p)], ini, gb, cap, by rw [HN.out], H9.out.1.pop, fun f hf => HFR.out f (by simp [hf]), (List.pairwise_append.1 HDOWN.out).1, H9.out.2.2, H9.out.2.1, ?_, Nat.le_refl _⟩
            rw [← HEVR.out, restT_snoc, remT_end (by omega)]; simp
      · gi_wp2
        refine bodyPost_ret (results_none rfl _ _ _) rfl ?_
        exact ⟨⟨_, rfl⟩, H6.out.2.1.trans (hk7.mono (fun k _ h => .inl h)), .inr ⟨_, HPRE.out, hJx _ _ W7 Pv _ hJx7 (Keep.refl _ _) (fun k h => .inl (.inl h))⟩⟩
end Go.Proofs.Ytodcapgmhginoaa
