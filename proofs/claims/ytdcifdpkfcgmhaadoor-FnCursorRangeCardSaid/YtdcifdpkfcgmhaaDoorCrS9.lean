/- The iterator steps: what one comes by on the way through a tree. -/
import Derived.Test.YtdcifdpkfcgmhaaDoorProg
import Derived.Test.YtdcifdpkfcgmhaaDoorCr0
import Derived.Test.YtdcifdpkfcgmhaaDoorCr1
import Derived.Test.YtdcifdpkfcgmhaaDoorCr8
import Derived.Test.YtdcifdpkfcgmhaaDoorCr9
import Derived.Test.YtdcifdpkfcgmhaaDoorCrS8
import Derived.RangeFuncNested
import Derived.Shelf.RegionOpen
import Derived.WalkKit
import Derived.OwnWalkIn
import Derived.TacticsInMore
import Derived.LoopNIn
import Derived.LoopIn
import Derived.Sort.LoopGhostIn
import Derived.Sort.QuietIn
import Derived.Maps.OwnIn
namespace Go.Proofs.YtdcifdpkfcgmhaaDoor
open Go.RowKit
attribute [local go_sem] Oper.semAt_some

set_option maxRecDepth 100000 in
set_option maxHeartbeats 4000000 in
theorem steps_iter {w₀ : World} {a : ATr} (ha : AT w₀ a) (hwt : a.weight ≤ 1048576) :
    Iter Tryd.prog 79 #[.pointer (some a.addr)] #[] Step.enc (fun k => k < w₀.heap.size) a.evs w₀ := by
  intro l J Jx Pv W hkeep hRd hbnd hJ hJx hY h0
  obtain ⟨i0, hi0, hz0, hz1, hz2⟩ := info_parts Tryd.infoSpot
  have haW := ha.later (fun k hk => hkeep.block k hk hk)
  have hbW : ∀ k, k < w₀.heap.size → Pv k := hRd
  have HA0 := Lib.hid ha
  have HAW := Lib.hid haW
  have HC := Lib.hid (hasEnd_c haW hwt)
  have HY := Lib.hid hY
  clear ha haW hY
  refine (callsIn_wide (n := 9)).1 (callsIn_of_wp Tryd.func79 rfl trivial ?_ rfl)
  simp only [Tryd.ntmps79, List.size_toArray, List.length_cons, List.length_nil, Nat.reduceAdd, Nat.reduceSub, Array.replicate_succ, Array.replicate_zero, List.push_toArray, List.append_toArray, List.nil_append, List.cons_append]
  gi_wp2
  refine ⟨trivial, ?_⟩
  refine ((callsIn_wide (n := 8)).2 HC.out).mono ?_
  rintro e W1 ⟨rfl, hb1⟩
  have hk1 : ∀ K : Nat → Prop, (∀ k, K k → k < W.heap.size) → Keep K W W1 := fun K h => Keep.of_below hb1 (fun k _ h' => h k h')
  have hj1 : J [] Pv W1 := hJ _ _ W _ W1 h0 (Keep.of_below hb1 (fun k h _ => h)) (fun k h => .inl h)
  have hev0 := evs_eq a
  obtain ⟨fn, tmps, assign, body, hy, hR⟩ := HY.out [] (.beg a) Pv W1 hj1 (hk1 _ hbnd) (fun _ h => h) (fun k h => Nat.lt_of_lt_of_le (hbnd k h) hb1.size) (by rw [hev0]; exact ⟨_, rfl⟩)
  dsimp only [Step.enc] at hy
  have HEV := Lib.hid hev0
  have HR := Lib.hid hR
  clear hev0 hR hj1
  gi_wp2
  (try refine ⟨fun h => (by cases h), ?_⟩)
  refine (HR.out _).mono ?_
  rintro e W2 ⟨hk2, (⟨rfl, hJ2⟩ | ⟨rfl, hJx2⟩)⟩
  · gi_wp2
    obtain ⟨W3, hW3⟩ : ∃ W3, W3 = W2.alloc (.cells #[.pointer (some a.addr), .int .i64 0] 131) := ⟨_, rfl⟩
    rw [← hW3]
    have hk12 : Keep Pv W W2 := (hk1 _ hbnd).trans hk2
    have hsW2 : W.heap.size ≤ W2.heap.size := hk12.size
    have hs3 : W3.heap.size = W2.heap.size + 1 := by rw [hW3]; simp
    have hway3 : Way W3 W.heap.size W2.heap.size 1 [(a, 0)] := by
      refine Way.of (cur := #[.pointer (some a.addr), .int .i64 0]) hsW2 ?_ (by simp) (by unfold maxLen; omega) rfl rfl
      rw [hW3]; exact new_blk _ _
    have hk3 : Keep Pv W W3 := hk12.trans (by rw [hW3]; exact Keep.alloc _ _ _)
    have hJ3 : J [.beg a] (fun k => Pv k ∨ k = W2.heap.size) W3 := hJ _ _ W2 _ W3 hJ2 (by rw [hW3]; exact Keep.alloc _ _ _) (fun k h => h.imp id (fun h => by omega))
    have H3 := Lib.hid (And.intro hway3 (And.intro hk3 hJ3))
    clear hW3 hway3 hk3 hJ3 hk12 hJ2 hk2
    gi_loopg [4] (mu [(a, 0)]) (fun k s4 wr => ∃ (pre : List Step) (fr : List (ATr × Nat)) (g cap : Nat), s4 = .slice (some ⟨g, 0, none⟩) fr.length cap ∧ Way wr W.heap.size g cap fr ∧
      (∀ f ∈ fr, AT w₀ f.1 ∧ f.2 ≤ 2 * max f.1.cs.length f.1.ks.length ∧ f.1.weight ≤ 1048576) ∧ Down fr ∧ J pre (fun k => Pv k ∨ k = g) wr ∧ Keep Pv W wr ∧ pre ++ restS fr = a.evs ∧ mu fr ≤ k)
    case atStart =>
      refine ⟨[.beg a], [(a, 0)], _, _, rfl, H3.out.1, fun f hf => ?_, List.pairwise_singleton _ _, H3.out.2.2, H3.out.2.1, ?_, Nat.le_refl _⟩
      · obtain rfl := List.mem_singleton.1 hf
        exact ⟨HA0.out, Nat.zero_le _, hwt⟩
      · rw [HEV.out]; simp [restS]
    case round =>
      obtain ⟨pre, fr, g, cap, rfl, hway, hfr, hdown, hJr, hkr, hev, hk⟩ := hrel
      rcases List.eq_nil_or_concat fr with rfl | ⟨ini, f, rfl⟩
      · have hJe : J a.evs Pv wr := hJ a.evs (fun k => Pv k ∨ k = g) wr Pv wr (by rw [← hev]; simpa [restS] using hJr) (Keep.refl _ _) (fun k h => Or.inl (Or.inl h))
        have HJE := Lib.hid hJe
        have HKR := Lib.hid hkr
        clear hway hfr hdown hJr hkr hev hk hJe
        gi_wp2
        go_end0
        exact ⟨⟨_, rfl⟩, HKR.out, .inl HJE.out⟩
      · obtain ⟨a1, p⟩ := f
        simp only [List.concat_eq_append] at hway hfr hdown hJr hev hk ⊢
        have hlen := down_len hdown (N := 1048576) (fun f hf => (hfr f hf).2.2)
        obtain ⟨hat, hp, hw1'⟩ := hfr (a1, p) (by simp)
        have hw1 : a1.weight ≤ 1048576 := hw1'
        have hp : p ≤ 2 * max a1.cs.length a1.ks.length := hp
        have hksl := ATr.ks_le a1
        obtain ⟨kaA, haA, kcA, hcA, g0, goA, h0', hoA, q1, q2, q3, q4, q5, q6, q7, q8⟩ := hat.parts
        have hrw : ∀ k, k < w₀.heap.size → wr.heap[k]? = w₀.heap[k]? := fun k hk => (hkr.block k (Nat.lt_of_lt_of_le hk hkeep.size) (hRd k hk)).trans (hkeep.block k hk hk)
        have hcell : ∀ (b o : Nat) (v : Value), w₀.cell? ⟨b, o, none⟩ = some v → ∀ wx : World, (∀ k, k < w₀.heap.size → wx.heap[k]? = w₀.heap[k]?) → wx.cell? ⟨b, o, none⟩ = some v := fun b o v hv wx hx => by
          rw [cell_of_blk (hx b (World.block_lt_of_cell? w₀ _ hv))]; exact hv
        have c2 := hcell _ _ _ q2 wr hrw
        have c3 := hcell _ _ _ q3 wr hrw
        obtain ⟨l1, l2, l3⟩ := hway.last
        rw [show (ini ++ [(a1, p)]).length = ini.length + 1 by simp]
        obtain ⟨n, hn⟩ : ∃ n, n = ini.length := ⟨_, rfl⟩
        rw [← hn] at l1 l2 l3 ⊢
        have hn2 : n ≤ 1048577 := by simp at hlen; omega
        obtain ⟨hg1, _, _, hc1, hc2, _⟩ := hway.blk
        have hc1' : n + 1 ≤ cap := by simpa [hn] using hc1
        unfold maxLen at hc2
        unfold ATr.addr at l1
        have hp64 : p ≤ 2097152 := by omega
        have HN := Lib.hid hn
        have HWAY := Lib.hid hway
        have HFR := Lib.hid hfr
        have HDOWN := Lib.hid hdown
        have HJR := Lib.hid hJr
        have HKR := Lib.hid hkr
        have HCELL := Lib.hid hcell
        have HRW := Lib.hid hrw
        have HQ := Lib.hid (And.intro q2 (And.intro q3 (And.intro q4 (And.intro q5 q6))))
        have HE := Lib.hid (And.intro q7 q8)
        have HK := Lib.hid hk
        have HEVR := Lib.hid hev
        have HG1 := Lib.hid hg1
        clear hway hfr hdown hJr hkr hcell hrw q1 q2 q3 q4 q5 q6 q7 q8 hc1 hlen hk hat hn hev hg1 hw1'
        -- what is common to all cases behind the store of the place
        obtain ⟨i, hi⟩ : ∃ i, i = p / 2 := ⟨_, rfl⟩
        have hd1 : ((p : Int)) / 2 = (i : Int) := by omega
        have hd2 : Int.tdiv (p : Int) 2 = (i : Int) := by rw [Int.tdiv_eq_ediv_of_nonneg (by omega)]; exact hd1
        have hi64 : i ≤ 1048576 := by omega
        have HI := Lib.hid hi
        clear hi
        gi_wp2
        gi_quiet (fail)
        gi_wp2
        generalize hW5 : (wr.drewN _).setCell ⟨g, n * 2 + 1, none⟩ (.int .i64 ((p : Int) + 1)) = W5
        obtain ⟨m5, hW5⟩ : ∃ m, (wr.drewN m).setCell ⟨g, n * 2 + 1, none⟩ (.int .i64 ((p : Int) + 1)) = W5 := ⟨_, hW5⟩
        have hgw : w₀.heap.size ≤ W.heap.size := hkeep.size
        have hway5 : Way W5 W.heap.size g cap (ini ++ [(a1, p + 1)]) := by
          have h := (HWAY.out.kept (W' := wr.drewN m5) rfl).pass (p + 1)
          rw [← HN.out] at h
          rw [← hW5]; exact h
        have hg1 := HG1.out
        have hnPv : ¬ Pv g := fun h => by have := hbnd g h; omega
        have hk5 : Keep Pv W W5 := HKR.out.trans (by rw [← hW5]; exact (Keep.drewN _ _ _).trans (Keep.setCell _ _ _ _ hnPv))
        have hJ5 : J pre (fun k => Pv k ∨ k = g) W5 := hJ _ _ wr _ W5 HJR.out (by rw [← hW5]; exact (Keep.drewN _ _ _).trans (Keep.setCell _ _ _ _ (fun h => h (.inr rfl)))) (fun k h => .inl h)
        have hrw5 : ∀ k, k < w₀.heap.size → W5.heap[k]? = w₀.heap[k]? := fun k hk => by
          rw [← hW5, set_other _ _ _ _ _ (by omega)]; exact HRW.out k hk
        clear hW5 l1 l2 l3 c2 c3
        have c2 := HCELL.out _ _ _ HQ.out.1 W5 hrw5
        have c3 := HCELL.out _ _ _ HQ.out.2.1 W5 hrw5
        have H5 := Lib.hid (And.intro hway5 (And.intro hk5 (And.intro hJ5 hrw5)))
        clear hway5 hk5 hJ5 hrw5
        have GO : ∀ (m6 : Nat), Way (W5.drewN m6) W.heap.size g cap (ini ++ [(a1, p + 1)]) ∧ Keep Pv W (W5.drewN m6) ∧ J pre (fun k => Pv k ∨ k = g) (W5.drewN m6) ∧ (∀ k, k < w₀.heap.size → (W5.drewN m6).heap[k]? = w₀.heap[k]?) := fun m6 =>
          ⟨H5.out.1.kept rfl, H5.out.2.1.trans (Keep.drewN _ _ _), hJ _ _ W5 _ _ H5.out.2.2.1 (Keep.drewN _ _ _) (fun k h => .inl h), H5.out.2.2.2⟩
        have HGO := Lib.hid GO
        clear GO
        have BND : ∀ wx : World, Keep Pv W wx → g < wx.heap.size → ∀ k, (Pv k ∨ k = g) → k < wx.heap.size := fun wx hx hgx k h => h.elim (fun h => Nat.lt_of_lt_of_le (hbnd k h) hx.size) (fun h => by rw [h]; exact hgx)
        have HBND := Lib.hid BND
        clear BND
        have hpd : p = 2 * i ∨ p = 2 * i + 1 := by have := HI.out; omega
        have HPD := Lib.hid hpd
        clear hpd
        rcases Nat.lt_or_ge a1.cs.length a1.ks.length with hlt | hge
        · by_cases hE : 2 * max a1.cs.length a1.ks.length ≤ p
          · have hE1 : (a1.ks.length : Int) ≤ (i : Int) := by have := HI.out; omega
            have hE2 : (a1.cs.length : Int) ≤ (i : Int) := by have := HI.out; omega
            have hrem := remS_end (a := a1) (p := p) hE
            have hpre : pre ++ [.fin a1] <+: a.evs := by rw [← HEVR.out, restS_snoc, hrem]; exact ⟨restS ini, by simp⟩
            have HPRE := Lib.hid hpre
            have HREM := Lib.hid hrem
            clear hpre hrem
            gi_quiet (fail)
            generalize hW6 : W5.drewN _ = W6
            obtain ⟨m6, hW6⟩ : ∃ m, W5.drewN m = W6 := ⟨_, hW6⟩
            obtain ⟨way6, k6, j6, rw6⟩ := HGO.out m6
            rw [hW6] at way6 k6 j6 rw6
            clear hW6 c2 c3
            have c2 := HCELL.out _ _ _ HQ.out.1 W6 rw6
            have c3 := HCELL.out _ _ _ HQ.out.2.1 W6 rw6
            obtain ⟨fn2, tmps2, assign2, body2, hy2, hR2⟩ := HY.out pre (.fin a1) (fun k => Pv k ∨ k = g) W6 j6 k6 (fun _ h => .inl h) (HBND.out W6 k6 way6.lt) HPRE.out
            dsimp only [Step.enc] at hy2
            unfold ATr.addr at hy2
            have HR2 := Lib.hid hR2
            have H6 := Lib.hid (And.intro way6 (And.intro k6 (And.intro j6 rw6)))
            clear hR2 way6 k6 j6 rw6
            gi_wp2
            (try refine ⟨fun h => (by cases h), ?_⟩)
            refine (HR2.out _).mono ?_
            rintro e W7 ⟨hk7, (⟨rfl, hJ7⟩ | ⟨rfl, hJx7⟩)⟩
            · gi_wp2
              gi_roundg (mu ini)
              case measure => have := HK.out; rw [mu_snoc] at this; simp only [mu1] at this; omega
              case rel =>
                refine ⟨pre ++ [.fin a1], ini, g, cap, by rw [HN.out], (H6.out.1.kept (hk7.block g H6.out.1.lt (.inr rfl))).pop, fun f hf => HFR.out f (by simp [hf]), (List.pairwise_append.1 HDOWN.out).1, hJ7, H6.out.2.1.trans (hk7.mono (fun k _ h => .inl h)), ?_, Nat.le_refl _⟩
                rw [← HEVR.out, restS_snoc, HREM.out]; simp
            · gi_wp2
              refine bodyPost_ret (results_none rfl _ _ _) rfl ?_
              exact ⟨⟨_, rfl⟩, H6.out.2.1.trans (hk7.mono (fun k _ h => .inl h)), .inr ⟨_, HPRE.out, hJx _ _ W7 Pv _ hJx7 (Keep.refl _ _) (fun k h => .inl (.inl h))⟩⟩
          · rcases HPD.out with hpi | hpi
            · by_cases hk1 : i < a1.cs.length
              · obtain rfl := HE.out.2.resolve_left (show ¬ a1.cs.length = 0 by omega)
                have hdown5 : Down (ini ++ [(a1, p + 1)]) := by
                  obtain ⟨d1, _, d3⟩ := List.pairwise_append.1 HDOWN.out
                  exact List.pairwise_append.2 ⟨d1, List.pairwise_singleton _ _, fun x hx y hy => by obtain rfl := List.mem_singleton.1 hy; exact d3 x hx (a1, p) (by simp)⟩
                have hfr5 : p + 1 ≤ 2 * max a1.cs.length a1.ks.length → ∀ f ∈ ini ++ [(a1, p + 1)], AT w₀ f.1 ∧ f.2 ≤ 2 * max f.1.cs.length f.1.ks.length ∧ f.1.weight ≤ 1048576 := fun hpp f hf => by
                  rcases List.mem_append.1 hf with hf | hf
                  · exact HFR.out f (by simp [hf])
                  · obtain rfl := List.mem_singleton.1 hf
                    exact ⟨(HFR.out (a1, p) (by simp)).1, hpp, hw1⟩
                have HD5 := Lib.hid (And.intro hdown5 hfr5)
                clear hdown5 hfr5
                have hpar : ((p : Int) % 2 == 1) = false := by rw [beq_eq_false_iff_ne]; omega
                have hik : ¬ (a1.cs.length : Int) ≤ (i : Int) := by omega
                have hik1 : (i : Int) < (a1.cs.length : Int) := by omega
                have hrem := remS_step (a := a1) (p := p) (by omega)
                have hhev : hev a1 (ATr.evss a1.cs) p = a1.cs[i].evs := by rw [hpi]; exact hev_kid hk1
                rw [hhev, evs_eq] at hrem
                clear hhev
                obtain ⟨hnb, hno⟩ := HQ.out.2.2.2.1 i hk1
                have hkat := HQ.out.2.2.2.2 i hk1
                have hwk := ATr.weight_kid hk1
                have hpre : pre ++ [.beg a1.cs[i]] <+: a.evs := by rw [← HEVR.out, restS_snoc, hrem]; exact ⟨remS (a1.cs[i], 0) ++ remS (a1, p + 1) ++ restS ini, by simp⟩
                have had : a1.cs[i].addr = ⟨h0', hoA + i * 2, none⟩ := by simp [ATr.addr, hnb, hno]
                have HPRE := Lib.hid hpre
                have HREM := Lib.hid hrem
                have HPI := Lib.hid hpi
                have HKAT := Lib.hid (And.intro hkat hwk)
                have HAD := Lib.hid had
                clear hpre hrem hpi hkat hwk hnb hno had
                gi_quiet (fail)
                generalize hW6 : W5.drewN _ = W6
                obtain ⟨m6, hW6⟩ : ∃ m, W5.drewN m = W6 := ⟨_, hW6⟩
                obtain ⟨way6, k6, j6, rw6⟩ := HGO.out m6
                rw [hW6] at way6 k6 j6 rw6
                clear hW6 c2 c3
                have c2 := HCELL.out _ _ _ HQ.out.1 W6 rw6
                have c3 := HCELL.out _ _ _ HQ.out.2.1 W6 rw6
                obtain ⟨fn2, tmps2, assign2, body2, hy2, hR2⟩ := HY.out pre (.beg a1.cs[i]) (fun k => Pv k ∨ k = g) W6 j6 k6 (fun _ h => .inl h) (HBND.out W6 k6 way6.lt) HPRE.out
                dsimp only [Step.enc] at hy2
                rw [HAD.out] at hy2
                have HR2 := Lib.hid hR2
                have H6 := Lib.hid (And.intro way6 (And.intro k6 (And.intro j6 rw6)))
                clear hR2 way6 k6 j6 rw6
                gi_wp2
                (try refine ⟨fun h => (by cases h), ?_⟩)
                refine (HR2.out _).mono ?_
                rintro e W7 ⟨hk7, (⟨rfl, hJ7⟩ | ⟨rfl, hJx7⟩)⟩
                · have hrw7 : ∀ k, k < w₀.heap.size → W7.heap[k]? = w₀.heap[k]? := fun k hk => (hk7.block k (by have := H6.out.2.1.size; omega) (.inl (hRd k hk))).trans (H6.out.2.2.2 k hk)
                  have way7 := H6.out.1.kept (hk7.block g H6.out.1.lt (.inr rfl))
                  clear c2 c3
                  have c2 := HCELL.out _ _ _ HQ.out.1 W7 hrw7
                  have c3 := HCELL.out _ _ _ HQ.out.2.1 W7 hrw7
                  have hown7 : (W7.alloc (.cells #[.pointer (some ⟨h0', hoA + i * 2, none⟩), .int .i64 0] 131)).ownsRow W.heap.size 131 2 (.slice (some ⟨g, 0, none⟩) (n + 1) cap) (n + 1) (wcells (ini ++ [(a1, p + 1)])) := by
                    have h := way7
                    unfold Way at h
                    rw [show (ini ++ [(a1, p + 1)]).length = n + 1 by simp [HN.out]] at h
                    exact h.alloc _
                  have hbase : W.heap.size ≤ (W7.alloc (.cells #[.pointer (some ⟨h0', hoA + i * 2, none⟩), .int .i64 0] 131)).heap.size := by have := way7.lt; simp; omega
                  have H7 := Lib.hid (And.intro way7 (And.intro hown7 (And.intro hJ7 hk7)))
                  have HBASE := Lib.hid hbase
                  clear hrw7 way7 hown7 hbase hJ7 hk7
                  gi_wp2_with (gi_at_builtin; refine wpListIn_append_own_at _ (by rfl) _ _ _ (by rfl) W.heap.size 131 i0 _ 2 16 Tryd.underlying132 hi0 hz0 hz1 hz2 rfl (by decide) (.slice (some ⟨g, 0, none⟩) (n + 1) cap) (n + 1) (wcells (ini ++ [(a1, p + 1)])) (by rfl) H7.out.2.1 ⟨W7.heap.size, 0, none⟩ 1 1 [.pointer (some ⟨h0', hoA + i * 2, none⟩), .int .i64 0] (by rfl) (by rfl) (World.news_of_block (cs := #[.pointer (some ⟨h0', hoA + i * 2, none⟩), .int .i64 0]) (t := 131) (fr := (0, 0)) (heap_alloc_new W7 _)) (by simp [Value.oneCell']) (by unfold maxLen; omega) (by omega) HBASE.out ?_; intro v8 w8 hown8 hgrow8 hnil8 hat8; obtain ⟨g8, cap8, rfl, _, _⟩ := hown8.form (by omega); have H8 := Lib.hid (And.intro hown8 (And.intro hgrow8 hat8)); clear hown8 hgrow8 hat8 hnil8)
                  gi_roundg (mu (ini ++ [(a1, p + 1)] ++ [(a1.cs[i], 0)]))
                  case measure =>
                    have h := HK.out
                    rw [mu_snoc] at h
                    rw [mu_snoc, mu_snoc]
                    have h2 := mu1_kid (a := a1) (i := i) hk1
                    rw [← HPI.out] at h2
                    omega
                  case rel =>
                    have hg1 := H7.out.1.blk.1
                    have hgl := H7.out.1.lt
                    have hs8 : W7.heap.size + 1 ≤ w8.heap.size := by have := H8.out.2.1.size; simpa using this
                    have hold : ∀ k, k < W7.heap.size → k ≠ g → w8.heap[k]? = W7.heap[k]? := fun k h1 h2 => by
                      rw [H8.out.2.1.block k (by simp; omega) (by simp [Value.ownBlock]; exact h2), old_blk _ _ _ h1]
                    have hkp : ∀ K : Nat → Prop, ¬ K g → Keep K W7 w8 := fun K hK => ⟨H8.out.2.1.os, H8.out.2.1.tape, H8.out.2.1.output, by omega, fun k h1 h2 => hold k h1 (fun e => hK (e ▸ h2))⟩
                    have hway8 : Way w8 W.heap.size g8 cap8 (ini ++ [(a1, p + 1)] ++ [(a1.cs[i], 0)]) := by
                      have h := H8.out.1
                      unfold Way
                      have e2 : (ini ++ [(a1, p + 1)] ++ [(a1.cs[i], 0)]).length = n + 1 + 1 := by simp [HN.out]
                      rw [e2]
                      have e : wcells (ini ++ [(a1, p + 1)] ++ [(a1.cs[i], 0)]) = wcells (ini ++ [(a1, p + 1)]) ++ [.pointer (some ⟨h0', hoA + i * 2, none⟩), .int .i64 0] := by
                        rw [wcells_append]
                        simp [wcells, HAD.out]
                      rw [e]; exact h
                    have hg8 : g8 = g ∨ W7.heap.size ≤ g8 := by
                      rcases H8.out.2.2 with h | h
                      · left; simpa [Value.ownBlock] using h
                      · right; simp [Value.ownBlock] at h; omega
                    refine ⟨pre ++ [.beg a1.cs[i]], ini ++ [(a1, p + 1)] ++ [(a1.cs[i], 0)], g8, cap8, by simp [HN.out], hway8, fun f hf => ?_, ?_, ?_, ?_, ?_, Nat.le_refl _⟩
                    · rcases List.mem_append.1 hf with h | h
                      · exact HD5.out.2 (by omega) f h
                      · obtain rfl := List.mem_singleton.1 h
                        exact ⟨HKAT.out.1, Nat.zero_le _, by show a1.cs[i].weight ≤ _; have := HKAT.out.2; omega⟩
                    · refine List.pairwise_append.2 ⟨HD5.out.1, List.pairwise_singleton _ _, fun x hx y hy => ?_⟩
                      obtain rfl := List.mem_singleton.1 hy
                      have h1 := HKAT.out.2
                      show a1.cs[i].weight < _
                      rcases List.mem_append.1 hx with hx' | hx'
                      · have := (List.pairwise_append.1 HD5.out.1).2.2 x hx' (a1, p + 1) (by simp)
                        have h3 : a1.weight < x.1.weight := this
                        omega
                      · obtain rfl := List.mem_singleton.1 hx'
                        show _ < a1.weight
                        omega
                    · refine hJ _ _ W7 _ w8 H7.out.2.2.1 (hkp _ (fun h => h (.inr rfl))) (fun k h => ?_)
                      rcases h with h | h
                      · exact .inl (.inl h)
                      · rcases hg8 with e | e
                        · exact .inl (.inr (by omega))
                        · exact .inr (by omega)
                    · exact (H6.out.2.1.trans (H7.out.2.2.2.mono (fun k _ h => .inl h))).trans (hkp _ (fun h => by have := hbnd g h; omega))
                    · rw [← HEVR.out, restS_snoc, restS_snoc, restS_snoc, HREM.out]; simp
                · have hrw7 : ∀ k, k < w₀.heap.size → W7.heap[k]? = w₀.heap[k]? := fun k hk => (hk7.block k (by have := H6.out.2.1.size; omega) (.inl (hRd k hk))).trans (H6.out.2.2.2 k hk)
                  have way7 := H6.out.1.kept (hk7.block g H6.out.1.lt (.inr rfl))
                  clear c2 c3
                  have c2 := HCELL.out _ _ _ HQ.out.1 W7 hrw7
                  have c3 := HCELL.out _ _ _ HQ.out.2.1 W7 hrw7
                  have hown7 : (W7.alloc (.cells #[.pointer (some ⟨h0', hoA + i * 2, none⟩), .int .i64 0] 131)).ownsRow W.heap.size 131 2 (.slice (some ⟨g, 0, none⟩) (n + 1) cap) (n + 1) (wcells (ini ++ [(a1, p + 1)])) := by
                    have h := way7
                    unfold Way at h
                    rw [show (ini ++ [(a1, p + 1)]).length = n + 1 by simp [HN.out]] at h
                    exact h.alloc _
                  have hbase : W.heap.size ≤ (W7.alloc (.cells #[.pointer (some ⟨h0', hoA + i * 2, none⟩), .int .i64 0] 131)).heap.size := by have := way7.lt; simp; omega
                  have H7 := Lib.hid (And.intro way7 hown7)
                  have HJX := Lib.hid (And.intro hJx7 hk7)
                  have HBASE := Lib.hid hbase
                  clear hrw7 way7 hown7 hbase hJx7 hk7
                  gi_wp2_with (gi_at_builtin; refine wpListIn_append_own_at _ (by rfl) _ _ _ (by rfl) W.heap.size 131 i0 _ 2 16 Tryd.underlying132 hi0 hz0 hz1 hz2 rfl (by decide) (.slice (some ⟨g, 0, none⟩) (n + 1) cap) (n + 1) (wcells (ini ++ [(a1, p + 1)])) (by rfl) H7.out.2 ⟨W7.heap.size, 0, none⟩ 1 1 [.pointer (some ⟨h0', hoA + i * 2, none⟩), .int .i64 0] (by rfl) (by rfl) (World.news_of_block (cs := #[.pointer (some ⟨h0', hoA + i * 2, none⟩), .int .i64 0]) (t := 131) (fr := (0, 0)) (heap_alloc_new W7 _)) (by simp [Value.oneCell']) (by unfold maxLen; omega) (by omega) HBASE.out ?_; intro v8 w8 hown8 hgrow8 hnil8 hat8; obtain ⟨g8, cap8, rfl, _, _⟩ := hown8.form (by omega); have H8 := Lib.hid (And.intro hown8 (And.intro hgrow8 hat8)); clear hown8 hgrow8 hat8 hnil8)
                  have hold : ∀ k, k < W7.heap.size → k ≠ g → w8.heap[k]? = W7.heap[k]? := fun k h1 h2 => by
                    have hgl := H7.out.1.lt
                    rw [H8.out.2.1.block k (by simp; omega) (by simp [Value.ownBlock]; exact h2), old_blk _ _ _ h1]
                  have hkp : ∀ K : Nat → Prop, ¬ K g → Keep K W7 w8 := fun K hK => ⟨H8.out.2.1.os, H8.out.2.1.tape, H8.out.2.1.output, by have := H8.out.2.1.size; simp at this; omega, fun k h1 h2 => hold k h1 (fun e => hK (e ▸ h2))⟩
                  refine bodyPost_ret (results_none rfl _ _ _) rfl ?_
                  exact ⟨⟨_, rfl⟩, (H6.out.2.1.trans (HJX.out.2.mono (fun k _ h => .inl h))).trans (hkp _ (fun h => by have := hbnd g h; have := H7.out.1.blk.1; omega)), .inr ⟨_, HPRE.out, hJx _ _ W7 Pv _ HJX.out.1 (hkp _ (fun h => h (.inr rfl))) (fun k h => .inl (.inl h))⟩⟩
              · have hdown5 : Down (ini ++ [(a1, p + 1)]) := by
                  obtain ⟨d1, _, d3⟩ := List.pairwise_append.1 HDOWN.out
                  exact List.pairwise_append.2 ⟨d1, List.pairwise_singleton _ _, fun x hx y hy => by obtain rfl := List.mem_singleton.1 hy; exact d3 x hx (a1, p) (by simp)⟩
                have hfr5 : p + 1 ≤ 2 * max a1.cs.length a1.ks.length → ∀ f ∈ ini ++ [(a1, p + 1)], AT w₀ f.1 ∧ f.2 ≤ 2 * max f.1.cs.length f.1.ks.length ∧ f.1.weight ≤ 1048576 := fun hpp f hf => by
                  rcases List.mem_append.1 hf with hf | hf
                  · exact HFR.out f (by simp [hf])
                  · obtain rfl := List.mem_singleton.1 hf
                    exact ⟨(HFR.out (a1, p) (by simp)).1, hpp, hw1⟩
                have HD5 := Lib.hid (And.intro hdown5 hfr5)
                clear hdown5 hfr5
                have hpar : ((p : Int) % 2 == 1) = false := by rw [beq_eq_false_iff_ne]; omega
                have hno : ¬ (i : Int) < (a1.cs.length : Int) := by omega
                have hrem := remS_step (a := a1) (p := p) (by omega)
                have hhev : hev a1 (ATr.evss a1.cs) p = [] := by rw [hpi]; exact hev_nokid hk1
                rw [hhev, List.nil_append] at hrem
                clear hhev
                have hik : ¬ ((max a1.cs.length a1.ks.length : Nat) : Int) ≤ (i : Int) := by omega
                have hikA : ¬ (a1.ks.length : Int) ≤ (i : Int) := by omega
                have HREM := Lib.hid hrem
                have HPI := Lib.hid hpi
                clear hrem hpi hik
                gi_quiet (fail)
                generalize hW6 : W5.drewN _ = W6
                obtain ⟨m6, hW6⟩ : ∃ m, W5.drewN m = W6 := ⟨_, hW6⟩
                obtain ⟨way6, k6, j6, rw6⟩ := HGO.out m6
                rw [hW6] at way6 k6 j6 rw6
                clear hW6 c2 c3
                have c2 := HCELL.out _ _ _ HQ.out.1 W6 rw6
                have c3 := HCELL.out _ _ _ HQ.out.2.1 W6 rw6
                have H6 := Lib.hid (And.intro way6 (And.intro k6 (And.intro j6 rw6)))
                clear way6 k6 j6 rw6
                gi_wp2
                gi_roundg (mu (ini ++ [(a1, p + 1)]))
                case measure =>
                  have h := HK.out
                  rw [mu_snoc] at h ⊢
                  have h2 := mu1_nokid (a := a1) (i := i) (by omega) hk1
                  rw [← HPI.out] at h2
                  omega
                case rel =>
                  refine ⟨pre, ini ++ [(a1, p + 1)], g, cap, by simp [HN.out], H6.out.1, HD5.out.2 (by omega), HD5.out.1, H6.out.2.2.1, H6.out.2.1, ?_, Nat.le_refl _⟩
                  rw [← HEVR.out, restS_snoc, restS_snoc, HREM.out]
            · by_cases hk1 : i < a1.ks.length
              · obtain rfl := HE.out.1.resolve_left (show ¬ a1.ks.length = 0 by omega)
                have hdown5 : Down (ini ++ [(a1, p + 1)]) := by
                  obtain ⟨d1, _, d3⟩ := List.pairwise_append.1 HDOWN.out
                  exact List.pairwise_append.2 ⟨d1, List.pairwise_singleton _ _, fun x hx y hy => by obtain rfl := List.mem_singleton.1 hy; exact d3 x hx (a1, p) (by simp)⟩
                have hfr5 : p + 1 ≤ 2 * max a1.cs.length a1.ks.length → ∀ f ∈ ini ++ [(a1, p + 1)], AT w₀ f.1 ∧ f.2 ≤ 2 * max f.1.cs.length f.1.ks.length ∧ f.1.weight ≤ 1048576 := fun hpp f hf => by
                  rcases List.mem_append.1 hf with hf | hf
                  · exact HFR.out f (by simp [hf])
                  · obtain rfl := List.mem_singleton.1 hf
                    exact ⟨(HFR.out (a1, p) (by simp)).1, hpp, hw1⟩
                have HD5 := Lib.hid (And.intro hdown5 hfr5)
                clear hdown5 hfr5
                have hpar : ((p : Int) % 2 == 1) = true := by rw [beq_iff_eq]; omega
                have hik : ¬ (a1.ks.length : Int) ≤ (i : Int) := by omega
                have hik1 : (i : Int) < (a1.ks.length : Int) := by omega
                have hrem := remS_step (a := a1) (p := p) (by omega)
                have hhev : hev a1 (ATr.evss a1.cs) p = [.key a1 (a1.ks.getD i 0)] := by rw [hpi]; exact hev_key hk1
                rw [hhev] at hrem
                clear hhev
                have hpre : pre ++ [.key a1 (a1.ks.getD i 0)] <+: a.evs := by rw [← HEVR.out, restS_snoc, hrem]; exact ⟨remS (a1, p + 1) ++ restS ini, by simp⟩
                have HPRE := Lib.hid hpre
                have HREM := Lib.hid hrem
                have HPI := Lib.hid hpi
                clear hpre hrem hpi
                gi_quiet (fail)
                generalize hW6 : W5.drewN _ = W6
                obtain ⟨m6, hW6⟩ : ∃ m, W5.drewN m = W6 := ⟨_, hW6⟩
                obtain ⟨way6, k6, j6, rw6⟩ := HGO.out m6
                rw [hW6] at way6 k6 j6 rw6
                clear hW6 c2 c3
                have c2 := HCELL.out _ _ _ HQ.out.1 W6 rw6
                have c3 := HCELL.out _ _ _ HQ.out.2.1 W6 rw6
                have ck := HCELL.out _ _ _ (HQ.out.2.2.1 i hk1) W6 rw6
                obtain ⟨fn2, tmps2, assign2, body2, hy2, hR2⟩ := HY.out pre (.key a1 (a1.ks.getD i 0)) (fun k => Pv k ∨ k = g) W6 j6 k6 (fun _ h => .inl h) (HBND.out W6 k6 way6.lt) HPRE.out
                dsimp only [Step.enc] at hy2
                unfold ATr.addr at hy2
                obtain ⟨kk, hkk⟩ : ∃ kk, kk = a1.ks.getD i 0 := ⟨_, rfl⟩
                rw [← hkk] at ck hy2
                have HKK := Lib.hid hkk
                clear hkk
                have HR2 := Lib.hid hR2
                have H6 := Lib.hid (And.intro way6 (And.intro k6 (And.intro j6 rw6)))
                clear hR2 way6 k6 j6 rw6
                gi_wp2
                (try refine ⟨fun h => (by cases h), ?_⟩)
                refine (HR2.out _).mono ?_
                rintro e W7 ⟨hk7, (⟨rfl, hJ7⟩ | ⟨rfl, hJx7⟩)⟩
                · gi_wp2
                  gi_roundg (mu (ini ++ [(a1, p + 1)]))
                  case measure =>
                    have h := HK.out
                    rw [mu_snoc] at h ⊢
                    have h2 := mu1_odd (a := a1) (i := i) (by omega)
                    rw [← HPI.out] at h2
                    omega
                  case rel =>
                    refine ⟨pre ++ [.key a1 (a1.ks.getD i 0)], ini ++ [(a1, p + 1)], g, cap, by simp [HN.out], H6.out.1.kept (hk7.block g H6.out.1.lt (.inr rfl)), HD5.out.2 (by omega), HD5.out.1, hJ7, H6.out.2.1.trans (hk7.mono (fun k _ h => .inl h)), ?_, Nat.le_refl _⟩
                    rw [← HEVR.out, restS_snoc, restS_snoc, HREM.out]; simp
                · gi_wp2
                  refine bodyPost_ret (results_none rfl _ _ _) rfl ?_
                  exact ⟨⟨_, rfl⟩, H6.out.2.1.trans (hk7.mono (fun k _ h => .inl h)), .inr ⟨_, HPRE.out, hJx _ _ W7 Pv _ hJx7 (Keep.refl _ _) (fun k h => .inl (.inl h))⟩⟩
              · exfalso; omega
        · by_cases hE : 2 * max a1.cs.length a1.ks.length ≤ p
          · have hE1 : (a1.ks.length : Int) ≤ (i : Int) := by have := HI.out; omega
            have hE2 : (a1.cs.length : Int) ≤ (i : Int) := by have := HI.out; omega
            have hrem := remS_end (a := a1) (p := p) hE
            have hpre : pre ++ [.fin a1] <+: a.evs := by rw [← HEVR.out, restS_snoc, hrem]; exact ⟨restS ini, by simp⟩
            have HPRE := Lib.hid hpre
            have HREM := Lib.hid hrem
            clear hpre hrem
            gi_quiet (fail)
            generalize hW6 : W5.drewN _ = W6
            obtain ⟨m6, hW6⟩ : ∃ m, W5.drewN m = W6 := ⟨_, hW6⟩
            obtain ⟨way6, k6, j6, rw6⟩ := HGO.out m6
            rw [hW6] at way6 k6 j6 rw6
            clear hW6 c2 c3
            have c2 := HCELL.out _ _ _ HQ.out.1 W6 rw6
            have c3 := HCELL.out _ _ _ HQ.out.2.1 W6 rw6
            obtain ⟨fn2, tmps2, assign2, body2, hy2, hR2⟩ := HY.out pre (.fin a1) (fun k => Pv k ∨ k = g) W6 j6 k6 (fun _ h => .inl h) (HBND.out W6 k6 way6.lt) HPRE.out
            dsimp only [Step.enc] at hy2
            unfold ATr.addr at hy2
            have HR2 := Lib.hid hR2
            have H6 := Lib.hid (And.intro way6 (And.intro k6 (And.intro j6 rw6)))
            clear hR2 way6 k6 j6 rw6
            gi_wp2
            (try refine ⟨fun h => (by cases h), ?_⟩)
            refine (HR2.out _).mono ?_
            rintro e W7 ⟨hk7, (⟨rfl, hJ7⟩ | ⟨rfl, hJx7⟩)⟩
            · gi_wp2
              gi_roundg (mu ini)
              case measure => have := HK.out; rw [mu_snoc] at this; simp only [mu1] at this; omega
              case rel =>
                refine ⟨pre ++ [.fin a1], ini, g, cap, by rw [HN.out], (H6.out.1.kept (hk7.block g H6.out.1.lt (.inr rfl))).pop, fun f hf => HFR.out f (by simp [hf]), (List.pairwise_append.1 HDOWN.out).1, hJ7, H6.out.2.1.trans (hk7.mono (fun k _ h => .inl h)), ?_, Nat.le_refl _⟩
                rw [← HEVR.out, restS_snoc, HREM.out]; simp
            · gi_wp2
              refine bodyPost_ret (results_none rfl _ _ _) rfl ?_
              exact ⟨⟨_, rfl⟩, H6.out.2.1.trans (hk7.mono (fun k _ h => .inl h)), .inr ⟨_, HPRE.out, hJx _ _ W7 Pv _ hJx7 (Keep.refl _ _) (fun k h => .inl (.inl h))⟩⟩
          · rcases HPD.out with hpi | hpi
            · by_cases hk1 : i < a1.cs.length
              · obtain rfl := HE.out.2.resolve_left (show ¬ a1.cs.length = 0 by omega)
                have hdown5 : Down (ini ++ [(a1, p + 1)]) := by
                  obtain ⟨d1, _, d3⟩ := List.pairwise_append.1 HDOWN.out
                  exact List.pairwise_append.2 ⟨d1, List.pairwise_singleton _ _, fun x hx y hy => by obtain rfl := List.mem_singleton.1 hy; exact d3 x hx (a1, p) (by simp)⟩
                have hfr5 : p + 1 ≤ 2 * max a1.cs.length a1.ks.length → ∀ f ∈ ini ++ [(a1, p + 1)], AT w₀ f.1 ∧ f.2 ≤ 2 * max f.1.cs.length f.1.ks.length ∧ f.1.weight ≤ 1048576 := fun hpp f hf => by
                  rcases List.mem_append.1 hf with hf | hf
                  · exact HFR.out f (by simp [hf])
                  · obtain rfl := List.mem_singleton.1 hf
                    exact ⟨(HFR.out (a1, p) (by simp)).1, hpp, hw1⟩
                have HD5 := Lib.hid (And.intro hdown5 hfr5)
                clear hdown5 hfr5
                have hpar : ((p : Int) % 2 == 1) = false := by rw [beq_eq_false_iff_ne]; omega
                have hik : ¬ (a1.cs.length : Int) ≤ (i : Int) := by omega
                have hik1 : (i : Int) < (a1.cs.length : Int) := by omega
                have hrem := remS_step (a := a1) (p := p) (by omega)
                have hhev : hev a1 (ATr.evss a1.cs) p = a1.cs[i].evs := by rw [hpi]; exact hev_kid hk1
                rw [hhev, evs_eq] at hrem
                clear hhev
                obtain ⟨hnb, hno⟩ := HQ.out.2.2.2.1 i hk1
                have hkat := HQ.out.2.2.2.2 i hk1
                have hwk := ATr.weight_kid hk1
                have hpre : pre ++ [.beg a1.cs[i]] <+: a.evs := by rw [← HEVR.out, restS_snoc, hrem]; exact ⟨remS (a1.cs[i], 0) ++ remS (a1, p + 1) ++ restS ini, by simp⟩
                have had : a1.cs[i].addr = ⟨h0', hoA + i * 2, none⟩ := by simp [ATr.addr, hnb, hno]
                have HPRE := Lib.hid hpre
                have HREM := Lib.hid hrem
                have HPI := Lib.hid hpi
                have HKAT := Lib.hid (And.intro hkat hwk)
                have HAD := Lib.hid had
                clear hpre hrem hpi hkat hwk hnb hno had
                gi_quiet (fail)
                generalize hW6 : W5.drewN _ = W6
                obtain ⟨m6, hW6⟩ : ∃ m, W5.drewN m = W6 := ⟨_, hW6⟩
                obtain ⟨way6, k6, j6, rw6⟩ := HGO.out m6
                rw [hW6] at way6 k6 j6 rw6
                clear hW6 c2 c3
                have c2 := HCELL.out _ _ _ HQ.out.1 W6 rw6
                have c3 := HCELL.out _ _ _ HQ.out.2.1 W6 rw6
                obtain ⟨fn2, tmps2, assign2, body2, hy2, hR2⟩ := HY.out pre (.beg a1.cs[i]) (fun k => Pv k ∨ k = g) W6 j6 k6 (fun _ h => .inl h) (HBND.out W6 k6 way6.lt) HPRE.out
                dsimp only [Step.enc] at hy2
                rw [HAD.out] at hy2
                have HR2 := Lib.hid hR2
                have H6 := Lib.hid (And.intro way6 (And.intro k6 (And.intro j6 rw6)))
                clear hR2 way6 k6 j6 rw6
                gi_wp2
                (try refine ⟨fun h => (by cases h), ?_⟩)
                refine (HR2.out _).mono ?_
                rintro e W7 ⟨hk7, (⟨rfl, hJ7⟩ | ⟨rfl, hJx7⟩)⟩
                · have hrw7 : ∀ k, k < w₀.heap.size → W7.heap[k]? = w₀.heap[k]? := fun k hk => (hk7.block k (by have := H6.out.2.1.size; omega) (.inl (hRd k hk))).trans (H6.out.2.2.2 k hk)
                  have way7 := H6.out.1.kept (hk7.block g H6.out.1.lt (.inr rfl))
                  clear c2 c3
                  have c2 := HCELL.out _ _ _ HQ.out.1 W7 hrw7
                  have c3 := HCELL.out _ _ _ HQ.out.2.1 W7 hrw7
                  have hown7 : (W7.alloc (.cells #[.pointer (some ⟨h0', hoA + i * 2, none⟩), .int .i64 0] 131)).ownsRow W.heap.size 131 2 (.slice (some ⟨g, 0, none⟩) (n + 1) cap) (n + 1) (wcells (ini ++ [(a1, p + 1)])) := by
                    have h := way7
                    unfold Way at h
                    rw [show (ini ++ [(a1, p + 1)]).length = n + 1 by simp [HN.out]] at h
                    exact h.alloc _
                  have hbase : W.heap.size ≤ (W7.alloc (.cells #[.pointer (some ⟨h0', hoA + i * 2, none⟩), .int .i64 0] 131)).heap.size := by have := way7.lt; simp; omega
                  have H7 := Lib.hid (And.intro way7 (And.intro hown7 (And.intro hJ7 hk7)))
                  have HBASE := Lib.hid hbase
                  clear hrw7 way7 hown7 hbase hJ7 hk7
                  gi_wp2_with (gi_at_builtin; refine wpListIn_append_own_at _ (by rfl) _ _ _ (by rfl) W.heap.size 131 i0 _ 2 16 Tryd.underlying132 hi0 hz0 hz1 hz2 rfl (by decide) (.slice (some ⟨g, 0, none⟩) (n + 1) cap) (n + 1) (wcells (ini ++ [(a1, p + 1)])) (by rfl) H7.out.2.1 ⟨W7.heap.size, 0, none⟩ 1 1 [.pointer (some ⟨h0', hoA + i * 2, none⟩), .int .i64 0] (by rfl) (by rfl) (World.news_of_block (cs := #[.pointer (some ⟨h0', hoA + i * 2, none⟩), .int .i64 0]) (t := 131) (fr := (0, 0)) (heap_alloc_new W7 _)) (by simp [Value.oneCell']) (by unfold maxLen; omega) (by omega) HBASE.out ?_; intro v8 w8 hown8 hgrow8 hnil8 hat8; obtain ⟨g8, cap8, rfl, _, _⟩ := hown8.form (by omega); have H8 := Lib.hid (And.intro hown8 (And.intro hgrow8 hat8)); clear hown8 hgrow8 hat8 hnil8)
                  gi_roundg (mu (ini ++ [(a1, p + 1)] ++ [(a1.cs[i], 0)]))
                  case measure =>
                    have h := HK.out
                    rw [mu_snoc] at h
                    rw [mu_snoc, mu_snoc]
                    have h2 := mu1_kid (a := a1) (i := i) hk1
                    rw [← HPI.out] at h2
                    omega
                  case rel =>
                    have hg1 := H7.out.1.blk.1
                    have hgl := H7.out.1.lt
                    have hs8 : W7.heap.size + 1 ≤ w8.heap.size := by have := H8.out.2.1.size; simpa using this
                    have hold : ∀ k, k < W7.heap.size → k ≠ g → w8.heap[k]? = W7.heap[k]? := fun k h1 h2 => by
                      rw [H8.out.2.1.block k (by simp; omega) (by simp [Value.ownBlock]; exact h2), old_blk _ _ _ h1]
                    have hkp : ∀ K : Nat → Prop, ¬ K g → Keep K W7 w8 := fun K hK => ⟨H8.out.2.1.os, H8.out.2.1.tape, H8.out.2.1.output, by omega, fun k h1 h2 => hold k h1 (fun e => hK (e ▸ h2))⟩
                    have hway8 : Way w8 W.heap.size g8 cap8 (ini ++ [(a1, p + 1)] ++ [(a1.cs[i], 0)]) := by
                      have h := H8.out.1
                      unfold Way
                      have e2 : (ini ++ [(a1, p + 1)] ++ [(a1.cs[i], 0)]).length = n + 1 + 1 := by simp [HN.out]
                      rw [e2]
                      have e : wcells (ini ++ [(a1, p + 1)] ++ [(a1.cs[i], 0)]) = wcells (ini ++ [(a1, p + 1)]) ++ [.pointer (some ⟨h0', hoA + i * 2, none⟩), .int .i64 0] := by
                        rw [wcells_append]
                        simp [wcells, HAD.out]
                      rw [e]; exact h
                    have hg8 : g8 = g ∨ W7.heap.size ≤ g8 := by
                      rcases H8.out.2.2 with h | h
                      · left; simpa [Value.ownBlock] using h
                      · right; simp [Value.ownBlock] at h; omega
                    refine ⟨pre ++ [.beg a1.cs[i]], ini ++ [(a1, p + 1)] ++ [(a1.cs[i], 0)], g8, cap8, by simp [HN.out], hway8, fun f hf => ?_, ?_, ?_, ?_, ?_, Nat.le_refl _⟩
                    · rcases List.mem_append.1 hf with h | h
                      · exact HD5.out.2 (by omega) f h
                      · obtain rfl := List.mem_singleton.1 h
                        exact ⟨HKAT.out.1, Nat.zero_le _, by show a1.cs[i].weight ≤ _; have := HKAT.out.2; omega⟩
                    · refine List.pairwise_append.2 ⟨HD5.out.1, List.pairwise_singleton _ _, fun x hx y hy => ?_⟩
                      obtain rfl := List.mem_singleton.1 hy
                      have h1 := HKAT.out.2
                      show a1.cs[i].weight < _
                      rcases List.mem_append.1 hx with hx' | hx'
                      · have := (List.pairwise_append.1 HD5.out.1).2.2 x hx' (a1, p + 1) (by simp)
                        have h3 : a1.weight < x.1.weight := this
                        omega
                      · obtain rfl := List.mem_singleton.1 hx'
                        show _ < a1.weight
                        omega
                    · refine hJ _ _ W7 _ w8 H7.out.2.2.1 (hkp _ (fun h => h (.inr rfl))) (fun k h => ?_)
                      rcases h with h | h
                      · exact .inl (.inl h)
                      · rcases hg8 with e | e
                        · exact .inl (.inr (by omega))
                        · exact .inr (by omega)
                    · exact (H6.out.2.1.trans (H7.out.2.2.2.mono (fun k _ h => .inl h))).trans (hkp _ (fun h => by have := hbnd g h; omega))
                    · rw [← HEVR.out, restS_snoc, restS_snoc, restS_snoc, HREM.out]; simp
                · have hrw7 : ∀ k, k < w₀.heap.size → W7.heap[k]? = w₀.heap[k]? := fun k hk => (hk7.block k (by have := H6.out.2.1.size; omega) (.inl (hRd k hk))).trans (H6.out.2.2.2 k hk)
                  have way7 := H6.out.1.kept (hk7.block g H6.out.1.lt (.inr rfl))
                  clear c2 c3
                  have c2 := HCELL.out _ _ _ HQ.out.1 W7 hrw7
                  have c3 := HCELL.out _ _ _ HQ.out.2.1 W7 hrw7
                  have hown7 : (W7.alloc (.cells #[.pointer (some ⟨h0', hoA + i * 2, none⟩), .int .i64 0] 131)).ownsRow W.heap.size 131 2 (.slice (some ⟨g, 0, none⟩) (n + 1) cap) (n + 1) (wcells (ini ++ [(a1, p + 1)])) := by
                    have h := way7
                    unfold Way at h
                    rw [show (ini ++ [(a1, p + 1)]).length = n + 1 by simp [HN.out]] at h
                    exact h.alloc _
                  have hbase : W.heap.size ≤ (W7.alloc (.cells #[.pointer (some ⟨h0', hoA + i * 2, none⟩), .int .i64 0] 131)).heap.size := by have := way7.lt; simp; omega
                  have H7 := Lib.hid (And.intro way7 hown7)
                  have HJX := Lib.hid (And.intro hJx7 hk7)
                  have HBASE := Lib.hid hbase
                  clear hrw7 way7 hown7 hbase hJx7 hk7
                  gi_wp2_with (gi_at_builtin; refine wpListIn_append_own_at _ (by rfl) _ _ _ (by rfl) W.heap.size 131 i0 _ 2 16 Tryd.underlying132 hi0 hz0 hz1 hz2 rfl (by decide) (.slice (some ⟨g, 0, none⟩) (n + 1) cap) (n + 1) (wcells (ini ++ [(a1, p + 1)])) (by rfl) H7.out.2 ⟨W7.heap.size, 0, none⟩ 1 1 [.pointer (some ⟨h0', hoA + i * 2, none⟩), .int .i64 0] (by rfl) (by rfl) (World.news_of_block (cs := #[.pointer (some ⟨h0', hoA + i * 2, none⟩), .int .i64 0]) (t := 131) (fr := (0, 0)) (heap_alloc_new W7 _)) (by simp [Value.oneCell']) (by unfold maxLen; omega) (by omega) HBASE.out ?_; intro v8 w8 hown8 hgrow8 hnil8 hat8; obtain ⟨g8, cap8, rfl, _, _⟩ := hown8.form (by omega); have H8 := Lib.hid (And.intro hown8 (And.intro hgrow8 hat8)); clear hown8 hgrow8 hat8 hnil8)
                  have hold : ∀ k, k < W7.heap.size → k ≠ g → w8.heap[k]? = W7.heap[k]? := fun k h1 h2 => by
                    have hgl := H7.out.1.lt
                    rw [H8.out.2.1.block k (by simp; omega) (by simp [Value.ownBlock]; exact h2), old_blk _ _ _ h1]
                  have hkp : ∀ K : Nat → Prop, ¬ K g → Keep K W7 w8 := fun K hK => ⟨H8.out.2.1.os, H8.out.2.1.tape, H8.out.2.1.output, by have := H8.out.2.1.size; simp at this; omega, fun k h1 h2 => hold k h1 (fun e => hK (e ▸ h2))⟩
                  refine bodyPost_ret (results_none rfl _ _ _) rfl ?_
                  exact ⟨⟨_, rfl⟩, (H6.out.2.1.trans (HJX.out.2.mono (fun k _ h => .inl h))).trans (hkp _ (fun h => by have := hbnd g h; have := H7.out.1.blk.1; omega)), .inr ⟨_, HPRE.out, hJx _ _ W7 Pv _ HJX.out.1 (hkp _ (fun h => h (.inr rfl))) (fun k h => .inl (.inl h))⟩⟩
              · exfalso; omega
            · by_cases hk1 : i < a1.ks.length
              · obtain rfl := HE.out.1.resolve_left (show ¬ a1.ks.length = 0 by omega)
                have hdown5 : Down (ini ++ [(a1, p + 1)]) := by
                  obtain ⟨d1, _, d3⟩ := List.pairwise_append.1 HDOWN.out
                  exact List.pairwise_append.2 ⟨d1, List.pairwise_singleton _ _, fun x hx y hy => by obtain rfl := List.mem_singleton.1 hy; exact d3 x hx (a1, p) (by simp)⟩
                have hfr5 : p + 1 ≤ 2 * max a1.cs.length a1.ks.length → ∀ f ∈ ini ++ [(a1, p + 1)], AT w₀ f.1 ∧ f.2 ≤ 2 * max f.1.cs.length f.1.ks.length ∧ f.1.weight ≤ 1048576 := fun hpp f hf => by
                  rcases List.mem_append.1 hf with hf | hf
                  · exact HFR.out f (by simp [hf])
                  · obtain rfl := List.mem_singleton.1 hf
                    exact ⟨(HFR.out (a1, p) (by simp)).1, hpp, hw1⟩
                have HD5 := Lib.hid (And.intro hdown5 hfr5)
                clear hdown5 hfr5
                have hpar : ((p : Int) % 2 == 1) = true := by rw [beq_iff_eq]; omega
                have hik : ¬ (a1.ks.length : Int) ≤ (i : Int) := by omega
                have hik1 : (i : Int) < (a1.ks.length : Int) := by omega
                have hrem := remS_step (a := a1) (p := p) (by omega)
                have hhev : hev a1 (ATr.evss a1.cs) p = [.key a1 (a1.ks.getD i 0)] := by rw [hpi]; exact hev_key hk1
                rw [hhev] at hrem
                clear hhev
                have hpre : pre ++ [.key a1 (a1.ks.getD i 0)] <+: a.evs := by rw [← HEVR.out, restS_snoc, hrem]; exact ⟨remS (a1, p + 1) ++ restS ini, by simp⟩
                have HPRE := Lib.hid hpre
                have HREM := Lib.hid hrem
                have HPI := Lib.hid hpi
                clear hpre hrem hpi
                gi_quiet (fail)
                generalize hW6 : W5.drewN _ = W6
                obtain ⟨m6, hW6⟩ : ∃ m, W5.drewN m = W6 := ⟨_, hW6⟩
                obtain ⟨way6, k6, j6, rw6⟩ := HGO.out m6
                rw [hW6] at way6 k6 j6 rw6
                clear hW6 c2 c3
                have c2 := HCELL.out _ _ _ HQ.out.1 W6 rw6
                have c3 := HCELL.out _ _ _ HQ.out.2.1 W6 rw6
                have ck := HCELL.out _ _ _ (HQ.out.2.2.1 i hk1) W6 rw6
                obtain ⟨fn2, tmps2, assign2, body2, hy2, hR2⟩ := HY.out pre (.key a1 (a1.ks.getD i 0)) (fun k => Pv k ∨ k = g) W6 j6 k6 (fun _ h => .inl h) (HBND.out W6 k6 way6.lt) HPRE.out
                dsimp only [Step.enc] at hy2
                unfold ATr.addr at hy2
                obtain ⟨kk, hkk⟩ : ∃ kk, kk = a1.ks.getD i 0 := ⟨_, rfl⟩
                rw [← hkk] at ck hy2
                have HKK := Lib.hid hkk
                clear hkk
                have HR2 := Lib.hid hR2
                have H6 := Lib.hid (And.intro way6 (And.intro k6 (And.intro j6 rw6)))
                clear hR2 way6 k6 j6 rw6
                gi_wp2
                (try refine ⟨fun h => (by cases h), ?_⟩)
                refine (HR2.out _).mono ?_
                rintro e W7 ⟨hk7, (⟨rfl, hJ7⟩ | ⟨rfl, hJx7⟩)⟩
                · gi_wp2
                  gi_roundg (mu (ini ++ [(a1, p + 1)]))
                  case measure =>
                    have h := HK.out
                    rw [mu_snoc] at h ⊢
                    have h2 := mu1_odd (a := a1) (i := i) (by omega)
                    rw [← HPI.out] at h2
                    omega
                  case rel =>
                    refine ⟨pre ++ [.key a1 (a1.ks.getD i 0)], ini ++ [(a1, p + 1)], g, cap, by simp [HN.out], H6.out.1.kept (hk7.block g H6.out.1.lt (.inr rfl)), HD5.out.2 (by omega), HD5.out.1, hJ7, H6.out.2.1.trans (hk7.mono (fun k _ h => .inl h)), ?_, Nat.le_refl _⟩
                    rw [← HEVR.out, restS_snoc, restS_snoc, HREM.out]; simp
                · gi_wp2
                  refine bodyPost_ret (results_none rfl _ _ _) rfl ?_
                  exact ⟨⟨_, rfl⟩, H6.out.2.1.trans (hk7.mono (fun k _ h => .inl h)), .inr ⟨_, HPRE.out, hJx _ _ W7 Pv _ hJx7 (Keep.refl _ _) (fun k h => .inl (.inl h))⟩⟩
              · have hdown5 : Down (ini ++ [(a1, p + 1)]) := by
                  obtain ⟨d1, _, d3⟩ := List.pairwise_append.1 HDOWN.out
                  exact List.pairwise_append.2 ⟨d1, List.pairwise_singleton _ _, fun x hx y hy => by obtain rfl := List.mem_singleton.1 hy; exact d3 x hx (a1, p) (by simp)⟩
                have hfr5 : p + 1 ≤ 2 * max a1.cs.length a1.ks.length → ∀ f ∈ ini ++ [(a1, p + 1)], AT w₀ f.1 ∧ f.2 ≤ 2 * max f.1.cs.length f.1.ks.length ∧ f.1.weight ≤ 1048576 := fun hpp f hf => by
                  rcases List.mem_append.1 hf with hf | hf
                  · exact HFR.out f (by simp [hf])
                  · obtain rfl := List.mem_singleton.1 hf
                    exact ⟨(HFR.out (a1, p) (by simp)).1, hpp, hw1⟩
                have HD5 := Lib.hid (And.intro hdown5 hfr5)
                clear hdown5 hfr5
                have hpar : ((p : Int) % 2 == 1) = true := by rw [beq_iff_eq]; omega
                have hno : ¬ (i : Int) < (a1.ks.length : Int) := by omega
                have hrem := remS_step (a := a1) (p := p) (by omega)
                have hhev : hev a1 (ATr.evss a1.cs) p = [] := by rw [hpi]; exact hev_nokey hk1
                rw [hhev, List.nil_append] at hrem
                clear hhev
                have hik : ¬ ((max a1.cs.length a1.ks.length : Nat) : Int) ≤ (i : Int) := by omega
                have hikA : ¬ (a1.cs.length : Int) ≤ (i : Int) := by omega
                have HREM := Lib.hid hrem
                have HPI := Lib.hid hpi
                clear hrem hpi hik
                gi_quiet (fail)
                generalize hW6 : W5.drewN _ = W6
                obtain ⟨m6, hW6⟩ : ∃ m, W5.drewN m = W6 := ⟨_, hW6⟩
                obtain ⟨way6, k6, j6, rw6⟩ := HGO.out m6
                rw [hW6] at way6 k6 j6 rw6
                clear hW6 c2 c3
                have c2 := HCELL.out _ _ _ HQ.out.1 W6 rw6
                have c3 := HCELL.out _ _ _ HQ.out.2.1 W6 rw6
                have H6 := Lib.hid (And.intro way6 (And.intro k6 (And.intro j6 rw6)))
                clear way6 k6 j6 rw6
                gi_wp2
                gi_roundg (mu (ini ++ [(a1, p + 1)]))
                case measure =>
                  have h := HK.out
                  rw [mu_snoc] at h ⊢
                  have h2 := mu1_odd (a := a1) (i := i) (by omega)
                  rw [← HPI.out] at h2
                  omega
                case rel =>
                  refine ⟨pre, ini ++ [(a1, p + 1)], g, cap, by simp [HN.out], H6.out.1, HD5.out.2 (by omega), HD5.out.1, H6.out.2.2.1, H6.out.2.1, ?_, Nat.le_refl _⟩
                  rw [← HEVR.out, restS_snoc, restS_snoc, HREM.out]
  · gi_wp2
    refine bodyPost_ret (results_none rfl _ _ _) rfl ?_
    exact ⟨⟨_, rfl⟩, (hk1 _ hbnd).trans hk2, .inr ⟨_, by rw [HEV.out]; exact ⟨_, rfl⟩, hJx2⟩⟩
end Go.Proofs.YtdcifdpkfcgmhaaDoor
