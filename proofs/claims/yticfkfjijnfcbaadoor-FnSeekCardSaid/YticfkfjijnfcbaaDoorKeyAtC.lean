/- The contract of the method keyAt. -/
import Derived.Test.YticfkfjijnfcbaaDoorProg
import Derived.Test.YticfkfjijnfcbaaDoorSh0
import Derived.Test.YticfkfjijnfcbaaDoorSh3
import Derived.Test.YticfkfjijnfcbaaDoorIter
import Derived.Test.YticfkfjijnfcbaaDoorKeys
import Derived.Test.YticfkfjijnfcbaaDoorSh5
import Derived.Test.YticfkfjijnfcbaaDoorSh27
import Derived.Test.YticfkfjijnfcbaaDoorSh26
import Derived.RangeFuncNested
import Derived.Shelf.RegionOpen
import Derived.WalkKit
import Derived.OwnWalkIn
import Derived.TacticsInMore
import Derived.LoopIn
namespace Go.Proofs.YticfkfjijnfcbaaDoor
open Go.RowKit
attribute [local go_sem] Oper.semAt_some

theorem keyL_at {pre post : List Int} {k : Int} : keyL (pre ++ [k] ++ post) (pre.length : Int) = (k, true) := by
  unfold keyL
  rw [if_pos (by simp; omega)]
  simp [List.getD_eq_getElem?_getD]
theorem keyL_in {pre mid post : List Int} {r : Nat} (h1 : pre.length ≤ r) (h2 : r - pre.length < mid.length) : keyL (pre ++ mid ++ post) (r : Int) = keyL mid ((r - pre.length : Nat) : Int) := by
  unfold keyL
  rw [if_pos (by simp; omega), if_pos (by omega)]
  have e : (pre ++ mid ++ post).getD r 0 = mid.getD (r - pre.length) 0 := by
    simp only [List.getD_eq_getElem?_getD]
    rw [List.append_assoc, List.getElem?_append_right h1, List.getElem?_append_left h2]
  simpa using e
theorem keyL_out {keys : List Int} {r : Nat} (h : keys.length ≤ r) : keyL keys (r : Int) = (0, false) := by
  unfold keyL; rw [if_neg (by omega)]

set_option maxRecDepth 100000 in
set_option maxHeartbeats 4000000 in
theorem keyAt_c {w₀ : World} {lo hi b : Nat} {t : Tr} (ht : NodeIn w₀ lo hi b t) : t.weight ≤ 1048576 → hi ≤ w₀.heap.size → ∀ (K' : Nat → Option Nat), Counted w₀ K' b t → ∀ (r mb : Nat) (W : World), r ≤ 9223372036854775807 → Keep (fun k => lo ≤ k ∧ k < hi) w₀ W → CMap W mb K' →
    Calls Tryd.prog 90 #[.pointer (some ⟨b, 0, none⟩), .int .i64 r, .map (some mb)] W fun e W' => e = .returned (.tuple #[.int .i64 (keyL t.keys r).1, .bool (keyL t.keys r).2]) ∧ Below W.heap.size W W' := by
  induction ht with
  | mk ks cs lo hi b kv a cap ps s hlo hhi hs0 hsn hs hbox hk hlen hcap hat hkids ih =>
    intro hwt hhi' K' hcn r mb W hr9 hkeep hmap
    obtain ⟨i0, hi0, hi1⟩ := Option.map_eq_some_iff.1 Tryd.infoNodeSz
    have hsz : i0.size ≠ 0 := by simpa using hi1
    obtain ⟨iz, hiz, hizz⟩ := Option.map_eq_some_iff.1 Tryd.infoIntZ
    simp only [Tr.weight] at hwt
    have hl0 := Tr.length_le_weights cs
    have hit := parts_iter hhi' hlo hhi hbox hk hlen hcap hat (by omega) (by omega)
    have hfl := flat_all cs ps ks
    have hbW : b < W.heap.size := by have := hkeep.size; have := (Array.getElem?_eq_some_iff.1 hbox).1; omega
    have hpsk : ∀ i (hi : i < cs.length), K' (ps i) = some cs[i].keys.length ∧ Counted w₀ K' (ps i) cs[i] := fun i hi => by
      rcases hat with h | ⟨qb, qo, rfl, q1, q2, q3⟩
      · omega
      · have hka : kidAt w₀ b i (ps i) := ⟨_, _, _, _, _, hbox, q3 i hi⟩
        exact ⟨(hcn.parts.2 i hi _ hka).told, hcn.parts.2 i hi _ hka⟩
    have HIT := Lib.hid hit
    have HFL := Lib.hid hfl
    have IH := Lib.hid ih
    have HS := Lib.hid hs
    have HKD := Lib.hid hkids
    have HPS := Lib.hid hpsk
    have HKEEP := Lib.hid hkeep
    have HMAP := Lib.hid hmap
    have HSZ := Lib.hid (And.intro hi0 (And.intro hsz (And.intro hiz hizz)))
    clear hit hfl ih hs hkids hpsk hkeep hmap hbox hk hat hcn hi0 hi1 hsz hiz hizz
    refine (callsIn_wide (n := 9)).1 (callsIn_of_wp_marks Tryd.func90 rfl trivial ?_ rfl)
    simp only [Tryd.ntmps90, List.size_toArray, List.length_cons, List.length_nil, Nat.reduceAdd, Nat.reduceSub, Array.replicate_succ, Array.replicate_zero, List.push_toArray, List.append_toArray, List.nil_append, List.cons_append]
    gi_wp2
    obtain ⟨W1, hW1⟩ : ∃ W1, W1 = (((W.alloc (.cells #[.int .i64 r] 3)).alloc (.cells #[.map (some mb)] 101)).alloc (.cells #[.int .i64 0] 3)).alloc (.cells #[.bool false] 4) := ⟨_, rfl⟩
    rw [← hW1]
    have hs1 : W1.heap.size = W.heap.size + 4 := by rw [hW1]; simp
    have hk1 : ∀ P, Keep P W W1 := fun P => by rw [hW1]; exact (((Keep.alloc P _ _).trans (Keep.alloc P _ _)).trans (Keep.alloc P _ _)).trans (Keep.alloc P _ _)
    have e0 : W1.heap[W.heap.size]? = some (.cells #[.int .i64 r] 3 (0, 0)) := by rw [hW1, old_blk _ _ _ (by simp <;> omega), old_blk _ _ _ (by simp <;> omega), old_blk _ _ _ (by simp), new_blk]
    have e1 : W1.heap[W.heap.size + 1]? = some (.cells #[.map (some mb)] 101 (0, 0)) := by
      have h := new_blk (W.alloc (.cells #[.int .i64 r] 3)) (.cells #[.map (some mb)] 101)
      rw [World.size_alloc] at h
      rw [hW1, old_blk _ _ _ (by simp <;> omega), old_blk _ _ _ (by simp <;> omega)]; exact h
    have e2 : W1.heap[W.heap.size + 2]? = some (.cells #[.int .i64 0] 3 (0, 0)) := by
      have h := new_blk ((W.alloc (.cells #[.int .i64 r] 3)).alloc (.cells #[.map (some mb)] 101)) (.cells #[.int .i64 0] 3)
      rw [World.size_alloc, World.size_alloc] at h
      rw [hW1, old_blk _ _ _ (by simp)]; exact h
    have e3 : W1.heap[W.heap.size + 3]? = some (.cells #[.bool false] 4 (0, 0)) := by
      have h := new_blk (((W.alloc (.cells #[.int .i64 r] 3)).alloc (.cells #[.map (some mb)] 101)).alloc (.cells #[.int .i64 0] 3)) (.cells #[.bool false] 4)
      rw [World.size_alloc, World.size_alloc, World.size_alloc] at h
      rw [hW1]; exact h
    have HE := Lib.hid (And.intro e0 (And.intro e1 (And.intro e2 e3)))
    have HK1 := Lib.hid hk1
    clear hW1 e0 e1 e2 e3 hk1
    refine wp_loop (fb := #[.pointer (some ⟨b, 0, none⟩)]) (lb := #[]) rfl (enters_of Tryd.func119 (by kernel_rfl) rfl) HIT.out (HKEEP.out.trans (HK1.out _)) (fun x => by cases x <;> rfl)
      (fun k => k < W.heap.size) (fun k h => by have := HKEEP.out.size; omega) (fun k h => by omega)
      (fun pre Pv W' => ¬ Pv W.heap.size ∧ ¬ Pv (W.heap.size + 1) ∧ ¬ Pv (W.heap.size + 2) ∧ ¬ Pv (W.heap.size + 3) ∧ (flat (Tr.keyss cs) pre).length ≤ r ∧ W'.heap[W.heap.size]? = some (.cells #[.int .i64 ((r - (flat (Tr.keyss cs) pre).length : Nat) : Int)] 3 (0, 0)) ∧
        W'.heap[W.heap.size + 1]? = some (.cells #[.map (some mb)] 101 (0, 0)) ∧ W'.heap[W.heap.size + 2]? = some (.cells #[.int .i64 0] 3 (0, 0)) ∧ W'.heap[W.heap.size + 3]? = some (.cells #[.bool false] 4 (0, 0)))
      (fun c pre Pv W' => c = .ret ∧ ¬ Pv (W.heap.size + 2) ∧ ¬ Pv (W.heap.size + 3) ∧ W'.heap[W.heap.size + 2]? = some (.cells #[.int .i64 (keyL (Tr.mk ks cs).keys r).1] 3 (0, 0)) ∧ W'.heap[W.heap.size + 3]? = some (.cells #[.bool (keyL (Tr.mk ks cs).keys r).2] 4 (0, 0)))
      (fun pre Pv A Pv' B h hk hp => by
        obtain ⟨h1, h2, h3, h4, h5, h6, h7, h8, h9⟩ := h
        have q6 := (Array.getElem?_eq_some_iff.1 h6).1
        have q7 := (Array.getElem?_eq_some_iff.1 h7).1
        have q8 := (Array.getElem?_eq_some_iff.1 h8).1
        have q9 := (Array.getElem?_eq_some_iff.1 h9).1
        exact ⟨fun h => (hp _ h).elim h1 (fun h => by omega), fun h => (hp _ h).elim h2 (fun h => by omega), fun h => (hp _ h).elim h3 (fun h => by omega), fun h => (hp _ h).elim h4 (fun h => by omega), h5,
          (hk.block _ q6 h1).trans h6, (hk.block _ q7 h2).trans h7, (hk.block _ q8 h3).trans h8, (hk.block _ q9 h4).trans h9⟩)
      (fun c pre Pv A Pv' B h hk hp => by
        obtain ⟨h0, h3, h4, h8, h9⟩ := h
        have q8 := (Array.getElem?_eq_some_iff.1 h8).1
        have q9 := (Array.getElem?_eq_some_iff.1 h9).1
        exact ⟨h0, fun h => (hp _ h).elim h3 (fun h => by omega), fun h => (hp _ h).elim h4 (fun h => by omega), (hk.block _ q8 h3).trans h8, (hk.block _ q9 h4).trans h9⟩)
      ⟨by omega, by omega, by omega, by omega, Nat.zero_le _, HE.out.1, HE.out.2.1, HE.out.2.2.1, HE.out.2.2.2⟩
      (fun x => { tmps := #[.pointer (some ⟨b, 0, none⟩), .int .i64 r, .map (some mb), undef, .pointer (some ⟨W.heap.size, 0, none⟩), .pointer (some ⟨W.heap.size + 1, 0, none⟩), .pointer (some ⟨W.heap.size + 1 + 1, 0, none⟩), .pointer (some ⟨W.heap.size + 1 + 1 + 1, 0, none⟩), x.enc.getD 0 undef, x.enc.getD 1 undef,
        .pointer (some ⟨b, 0, none⟩), .func (.func 119) #[.pointer (some ⟨b, 0, none⟩)] #[], x.enc.getD 0 undef, x.enc.getD 1 undef, undef, undef, undef, undef, undef, undef, undef, undef, undef, undef, undef, undef, undef, undef, undef, undef, undef, undef, undef, undef, undef, undef, undef, undef, undef, undef, undef, undef, undef, undef], defers := [] })
      ?assign ?body ?done ?stop
    case assign =>
      intro l' m x W' K hK
      cases x <;> (dsimp only [Part.enc] at hK ⊢; gi_wp2; exact hK)
    case body =>
      intro l' m pre x Pv W' hI hkW hsub hbnd hp
      obtain ⟨h1, h2, h3, h4, h5, h6, h7, h8, h9⟩ := hI
      have hfm := flat_mono (Tr.keyss cs) hp
      rw [HFL.out, flat_append] at hfm
      have hap := flat_append (Tr.keyss cs) pre [x]
      have hwold : ∀ k, k < W.heap.size → W'.heap[k]? = W.heap[k]? := fun k hk => (hkW.block k (by omega) hk).trans ((HK1.out (fun _ => True)).block k hk trivial)
      have hszW := hkW.size
      have hmW := HMAP.out.kept hwold
      obtain ⟨c4, f4⟩ := box1 h6
      obtain ⟨c5, f5⟩ := box1 h7
      obtain ⟨c6, f6⟩ := box1 h8
      obtain ⟨c7, f7⟩ := box1 h9
      have HH := Lib.hid (And.intro h6 (And.intro h7 (And.intro h8 h9)))
      have HB := Lib.hid hbnd
      obtain ⟨d, hd⟩ : ∃ d, d = r - (flat (Tr.keyss cs) pre).length := ⟨_, rfl⟩
      rw [← hd] at c4
      have HD := Lib.hid (And.intro hd h5)
      have HWO := Lib.hid hwold
      have hd9 : d ≤ 9223372036854775807 := by omega
      cases x with
      | key k =>
        have hki : flat (Tr.keyss cs) [Part.key k] = [k] := rfl
        rw [hki] at hfm hap
        have HAP := Lib.hid hap
        have HFM := Lib.hid hfm
        dsimp only [Part.enc]
        clear h5 h6 h7 h8 h9 hfm hap hp hd hwold hmW hki hbnd hkW hsub
        by_cases hd0 : d = 0
        · have hres : keyL (Tr.mk ks cs).keys r = (k, true) := by
            obtain ⟨post, hpost⟩ := HFM.out
            rw [← hpost]
            have e : r = (flat (Tr.keyss cs) pre).length := by have := HD.out; omega
            rw [e]; exact keyL_at
          have HRES := Lib.hid hres
          have hdi : ((d : Int) == 0) = true := by simp [hd0]
          have HD0 := Lib.hid hd0
          clear hres hd0
          gi_wp2
          refine ⟨(Keep.setCell _ _ _ _ h3).trans (Keep.setCell _ _ _ _ h4), rfl, h3, h4, ?_, ?_⟩
          · rw [set_other _ _ _ _ _ (by omega), HRES.out]; exact set_blk (o := 0) (.int .i64 k) HH.out.2.2.1
          · rw [HRES.out]; exact set_blk (o := 0) (.bool true) ((set_other _ _ _ _ _ (by omega)).trans HH.out.2.2.2)
        · obtain ⟨d', rfl⟩ : ∃ d', d = d' + 1 := ⟨d - 1, by omega⟩
          have hdi : ((((d' + 1 : Nat) : Int)) == 0) = false := by rw [beq_eq_false_iff_ne]; omega
          have hdi' : (((d' : Int) + 1) == 0) = false := by rw [beq_eq_false_iff_ne]; omega
          have hdj : ((d' + 1 : Nat) : Int) - 1 = (d' : Int) := by omega
          clear hd0
          gi_wp2
          refine ⟨Keep.setCell _ _ _ _ h1, h1, h2, h3, h4, by rw [HAP.out]; have := HD.out; simp; omega, ?_, ?_, ?_, ?_⟩
          · have e : r - (flat (Tr.keyss cs) (pre ++ [Part.key k])).length = d' := by rw [HAP.out]; have := HD.out; simp; omega
            rw [e]; exact set_blk (o := 0) _ HH.out.1
          · rw [set_other _ _ _ _ _ (by omega)]; exact HH.out.2.1
          · rw [set_other _ _ _ _ _ (by omega)]; exact HH.out.2.2.1
          · rw [set_other _ _ _ _ _ (by omega)]; exact HH.out.2.2.2
      | kid i b' =>
        obtain ⟨hi', rfl⟩ := kid_mem (hp.subset (by simp : Part.kid i b' ∈ pre ++ [Part.kid i b']))
        have hki : flat (Tr.keyss cs) [Part.kid i (ps i)] = cs[i].keys := by
          have h := Tr.keyss_get cs i hi'
          simp [flat, List.getD_eq_getElem?_getD, h]
        rw [hki] at hfm hap
        have hkn := HKD.out i hi'
        have hpa : PAddr W' ⟨ps i, 0, none⟩ := by
          obtain ⟨c, hc⟩ := node_cells hkn
          have hlt := (Array.getElem?_eq_some_iff.1 hc).1
          have hks := HKEEP.out.size
          have g1 := steps_le HS.out 0 i (by omega) (by omega)
          have g2 := steps_le HS.out (i + 1) cs.length (by omega) (by omega)
          have g3 := hkn.range
          exact ⟨c, _, ((HWO.out _ (by omega)).trans (HKEEP.out.block _ hlt ⟨by omega, by omega⟩)).trans hc⟩
        have hlook := cmap_lookup W' Tryd.underlying101 Tryd.underlying99 HSZ.out.1 HSZ.out.2.1 HSZ.out.2.2.1 HSZ.out.2.2.2 hmW hpa (HPS.out i hi').1
        have hkj := Tr.keys_length_le cs[i]
        have hwj := Tr.weight_get_le cs i hi'
        have hwi : cs[i].weight ≤ 1048576 := by omega
        have HAP := Lib.hid hap
        have HFM := Lib.hid hfm
        have HMW := Lib.hid hmW
        have HKN := Lib.hid hkn
        dsimp only [Part.enc]
        by_cases hlt : d < cs[i].keys.length
        · have hres : keyL cs[i].keys ((d : Nat) : Int) = keyL (Tr.mk ks cs).keys r := by
            obtain ⟨post, hpost⟩ := HFM.out
            have h := HD.out
            rw [← hpost, keyL_in (by omega) (by omega), ← hd]
          have g1 := steps_le HS.out 0 i (by omega) (by omega)
          have g2 := steps_le HS.out (i + 1) cs.length (by omega) (by omega)
          have hks := HKEEP.out.size
          have hkeepW : Keep (fun k => s i ≤ k ∧ k < s (i + 1)) w₀ W' := (HKEEP.out.mono (fun k _ h => ⟨by omega, by omega⟩)).trans ((HK1.out _).trans (hkW.mono (fun k _ h => by omega)))
          have hcall := IH.out i hi' hwi (by omega) K' (HPS.out i hi').2 d mb W' hd9 hkeepW HMW.out
          rw [hres] at hcall
          generalize hn : cs[i].keys.length = n at hlt hlook hkj
          generalize hres2 : keyL (Tr.mk ks cs).keys r = res at hcall
          have hdl : (d : Int) < (n : Int) := by omega
          have HC := Lib.hid hcall
          have HN := Lib.hid hn
          have HR2 := Lib.hid hres2
          clear h5 h6 h7 h8 h9 hfm hap hp hd hwold hmW hki hbnd hkW hsub hkn hpa hcall hkeepW hres hn hres2
          gi_wp2
          refine ⟨trivial, fun h => (by cases h), ?_⟩
          refine (CallsIn.inRound l' ((callsIn_wide (n := m - 1)).2 HC.out)).mono ?_
          rintro e w4 ⟨rfl, hb4⟩
          have hs4 := hb4.size
          have e2 := (hb4.block (W.heap.size + 2) (by omega)).trans HH.out.2.2.1
          have e3 := (hb4.block (W.heap.size + 3) (by omega)).trans HH.out.2.2.2
          clear c4 f4 c5 f5 c6 f6 c7 f7
          obtain ⟨c6, f6⟩ := box1 e2
          obtain ⟨c7, f7⟩ := box1 e3
          have H4 := Lib.hid (And.intro hb4 (And.intro e2 e3))
          obtain ⟨ra, rb⟩ := res
          clear hb4 e2 e3
          gi_wp2
          refine ⟨((Keep.of_below H4.out.1 (fun k h _ => h)).trans (Keep.setCell _ _ _ _ h3)).trans (Keep.setCell _ _ _ _ h4), rfl, h3, h4, ?_, ?_⟩
          · rw [set_other _ _ _ _ _ (by omega)]; exact set_blk (o := 0) (.int .i64 ra) H4.out.2.1
          · exact set_blk (o := 0) (.bool rb) ((set_other _ _ _ _ _ (by omega)).trans H4.out.2.2)
        · generalize hn : cs[i].keys.length = n at hlt hlook hkj
          have hdl : ¬ ((d : Int) < (n : Int)) := by omega
          have hdn : (d : Int) - (n : Int) = ((d - n : Nat) : Int) := by omega
          have HN := Lib.hid hn
          clear h5 h6 h7 h8 h9 hfm hap hp hd hwold hmW hki hbnd hkW hsub hkn hpa hn
          gi_wp2
          refine ⟨Keep.setCell _ _ _ _ h1, h1, h2, h3, h4, by rw [HAP.out]; have := HD.out; have := HN.out; simp; omega, ?_, ?_, ?_, ?_⟩
          · have e : r - (flat (Tr.keyss cs) (pre ++ [Part.kid i (ps i)])).length = d - n := by rw [HAP.out]; have := HD.out; have := HN.out; simp; omega
            rw [e]; exact set_blk (o := 0) _ HH.out.1
          · rw [set_other _ _ _ _ _ (by omega)]; exact HH.out.2.1
          · rw [set_other _ _ _ _ _ (by omega)]; exact HH.out.2.2.1
          · rw [set_other _ _ _ _ _ (by omega)]; exact HH.out.2.2.2
    case done =>
      intro W3 hk3 hI hlt hD
      obtain ⟨h1, h2, h3, h4, h5, h6, h7, h8, h9⟩ := hI
      rw [HFL.out] at h5
      have hres := keyL_out h5
      obtain ⟨c6, f6⟩ := box1 h8
      obtain ⟨c7, f7⟩ := box1 h9
      have HH := Lib.hid (And.intro h8 (And.intro h9 hk3))
      have HD := Lib.hid hD
      have HRES := Lib.hid hres
      clear h1 h2 h3 h4 h5 h6 h7 h8 h9 hk3 hD hres
      gi_wp2
      obtain ⟨W5, hW5⟩ : ∃ W5, W5 = ((W3.setCell ⟨W.heap.size + 1 + 1, 0, none⟩ (.int .i64 0)).setCell ⟨W.heap.size + 1 + 1 + 1, 0, none⟩ (.bool false)).putObj W1.heap.size (.deferred none) := ⟨_, rfl⟩
      have hD5 : ((W3.setCell ⟨W.heap.size + 1 + 1, 0, none⟩ (.int .i64 0)).setCell ⟨W.heap.size + 1 + 1 + 1, 0, none⟩ (.bool false)).heap[W1.heap.size]? = some (.deferred (some [])) := by
        rw [set_other _ _ _ _ _ (by omega), set_other _ _ _ _ _ (by omega)]; exact HD.out
      refine ⟨by simp, .inl ⟨_, _, rfl, run_takeDeferred hD5, ?_⟩⟩
      have q2 : W5.heap[W.heap.size + 1 + 1]? = some (.cells #[.int .i64 0] 3 (0, 0)) := by
        rw [hW5]; refine (World.putObj_heap_other (by omega)).trans ?_
        rw [set_other _ _ _ _ _ (by omega)]; exact set_blk (o := 0) _ HH.out.1
      have q3 : W5.heap[W.heap.size + 1 + 1 + 1]? = some (.cells #[.bool false] 4 (0, 0)) := by
        rw [hW5]; refine (World.putObj_heap_other (by omega)).trans ?_
        exact set_blk (o := 0) (.bool false) ((set_other _ _ _ _ _ (by omega)).trans HH.out.2.1)
      have c2' := (box1 q2).1
      have c3' := (box1 q3).1
      have hk5 : Keep (fun k => k < W.heap.size) W3 W5 := by rw [hW5]; exact ((Keep.setCell _ _ _ _ (by show ¬ W.heap.size + 1 + 1 < W.heap.size; omega)).trans (Keep.setCell _ _ _ _ (by show ¬ W.heap.size + 1 + 1 + 1 < W.heap.size; omega))).trans (Keep.putObj _ _ _ _ (by omega))
      rw [← hW5]
      refine ⟨.tuple #[.int .i64 0, .bool false], by simp [results, Tryd.results90, go_sem, c2', c3'], by rw [HRES.out], ?_⟩
      exact (((HK1.out _).trans HH.out.2.2).trans hk5).below (Nat.le_refl _) (fun k h => h)
    case stop =>
      rintro c pre' W3 hk3 hp ⟨rfl, h3, h4, h8, h9⟩ hlt hD
      have HH := Lib.hid (And.intro h8 (And.intro h9 hk3))
      have HD := Lib.hid hD
      clear h3 h4 h8 h9 hk3 hD
      gi_wp2
      refine ⟨by simp, .inl ⟨_, _, rfl, run_takeDeferred HD.out, ?_⟩⟩
      obtain ⟨W5, hW5⟩ : ∃ W5, W5 = W3.putObj W1.heap.size (.deferred none) := ⟨_, rfl⟩
      have q2 : W5.heap[W.heap.size + 1 + 1]? = some (.cells #[.int .i64 (keyL (Tr.mk ks cs).keys r).1] 3 (0, 0)) := by
        rw [hW5]; exact (World.putObj_heap_other (by omega)).trans HH.out.1
      have q3 : W5.heap[W.heap.size + 1 + 1 + 1]? = some (.cells #[.bool (keyL (Tr.mk ks cs).keys r).2] 4 (0, 0)) := by
        rw [hW5]; exact (World.putObj_heap_other (by omega)).trans HH.out.2.1
      have c2' := (box1 q2).1
      have c3' := (box1 q3).1
      have hk5 : Keep (fun k => k < W.heap.size) W3 W5 := by rw [hW5]; exact Keep.putObj _ _ _ _ (by omega)
      rw [← hW5]
      refine ⟨.tuple #[.int .i64 (keyL (Tr.mk ks cs).keys r).1, .bool (keyL (Tr.mk ks cs).keys r).2], by simp [results, Tryd.results90, go_sem, c2', c3'], rfl, ?_⟩
      exact (((HK1.out _).trans HH.out.2.2).trans hk5).below (Nat.le_refl _) (fun k h => h)
end Go.Proofs.YticfkfjijnfcbaaDoor
