/- How many nodes are visited to find a range, how many keys it has: plain data. -/
import Derived.Test.YtjnkdbgebkajoaaProg
import Derived.Test.YtjnkdbgebkajoaaSq0
import Derived.Test.YtjnkdbgebkajoaaSq4
import Derived.Test.YtjnkdbgebkajoaaPlant
import Derived.Test.YtjnkdbgebkajoaaSq10
import Derived.Test.YtjnkdbgebkajoaaSq11
import Derived.Test.YtjnkdbgebkajoaaPlace
import Derived.Test.YtjnkdbgebkajoaaSq18
import Derived.Test.YtjnkdbgebkajoaaDown
import Derived.Shelf.RegionOpen
import Derived.OwnWalkIn
import Derived.TacticsInMore
import Derived.LoopIn
import Derived.Sort.CutIn
import Derived.Lib.SliceRun
import Derived.IntWalk
import Derived.Test.YtjnkdbgebkajoaaSq17
import Derived.Test.YtjnkdbgebkajoaaSq14

/- The contract of the program's RangeVisits. -/
namespace Go.Proofs.Ytjnkdbgebkajoaa
open Go.RowKit
attribute [local go_sem] wide_fn

theorem new_cell (w : World) (x : Value) (t : TypeId) : (w.alloc (.cells #[x] t)).cell? ⟨w.heap.size, 0, none⟩ = some x := (box1 (new_blk w (.cells #[x] t))).1
theorem IntsIn.drew {w : World} {B : Nat} {v : Value} {ks : List Int} (h : IntsIn w B v ks) : IntsIn w.drew B v ks := h
theorem IntsIn.alloc {w : World} {B : Nat} {v : Value} {ks : List Int} (h : IntsIn w B v ks) (hB : B ≤ w.heap.size) (o : Obj) : IntsIn (w.alloc o) B v ks := h.later ((Below.refl B w).alloc hB o) (Nat.le_refl _)

set_option maxRecDepth 100000 in
set_option maxHeartbeats 4000000 in
theorem rangeVisits_c (low high : Int) (hlh : low ≤ high) {w : World} {lo hi b : Nat} {t : Tr} (ht : NodeIn w lo hi b t) : t.weight ≤ 1048576 → Tr.Well t → ∀ w', Below hi w w' → hi ≤ w'.heap.size →
    Calls Try.prog 81 #[.pointer (some ⟨b, 0, none⟩), .int .i64 low, .int .i64 high] w' fun e w'' => e = .returned (.int .i64 (t.rv low high)) ∧ Below w'.heap.size w' w'' := by
  induction ht with
  | mk ks cs lo hi b kv a cap ps s hlo hhi hs0 hsn hs hbox hk hlen hcap hat hkids ih =>
    intro hwt hwell w' hbw hB
    have hbox' := (hbw.block b hhi).trans hbox
    have hk' : IntsR w' lo hi kv ks := hk.same (fun k _ h => hbw.block k h)
    have hki := hk'.in
    have hinner := fun h => Tr.Well.inner hwell h
    have hwk := fun i hi => Tr.Well.kid hwell i hi
    have hpw := Tr.Well.keys hwell
    simp only [Tr.weight] at hwt
    have hkl : ks.length ≤ 1048576 := by omega
    have hl0 := Tr.length_le_weights cs
    have hcount := Tr.counts_le cs
    have hpart := Tr.rv_part low high ks cs
    have hspan := Tr.place_span hpw hlh
    have hpl1 := place_le (low + 1) ks
    have hpl2 := place_le high ks
    obtain ⟨ka, kcap, rfl, k1, k2, k3, k4⟩ := hk'
    unfold maxLen at hcap k2
    obtain ⟨x1, x2, x3, x4⟩ := box2 hbox'
    have HBW := Lib.hid hbw
    have HKI := Lib.hid hki
    have HAT := Lib.hid hat
    have IH := Lib.hid ih
    have HIN := Lib.hid hinner
    have HWK := Lib.hid hwk
    have HPW := Lib.hid hpw
    have HKL := Lib.hid hkl
    have HPART := Lib.hid hpart
    have HS := Lib.hid hs
    have HBOX := Lib.hid hbox'
    clear hbw hki hat ih hkids hinner hwk hpw hkl hpart hs hbox hbox' hk k3 k4 hwell
    by_cases hc : cs.length = 0
    · have hr := Tr.rv_leaf (low := low) (high := high) (k := ks) hc
      have HR := Lib.hid hr
      have hleaf : ((cs.length : Int) == 0) = true := by simp [hc]
      have HC := Lib.hid hc
      clear hr hc
      go_enter Try.func81, Try.ntmps81
      go_wp2_with fail
      go_ret
      exact ⟨ret_int (by rw [HR.out]; rfl), Below.refl _ _⟩
    · have hcl := HIN.out hc
      have hleaf : ((cs.length : Int) == 0) = false := by rw [beq_eq_false_iff_ne]; omega
      have hr := Tr.rv_span (low := low) (high := high) (k := ks) (c := cs) (by omega)
      have HR := Lib.hid hr
      have HCL := Lib.hid hcl
      clear hr hc hcl
      refine (callsIn_wide (n := 9)).1 (callsIn_of_wp Try.func81 rfl trivial ?_ rfl)
      simp only [Try.ntmps81, List.size_toArray, List.length_cons, List.length_nil, Nat.reduceAdd, Nat.reduceSub, Array.replicate_succ, Array.replicate_zero, List.push_toArray, List.append_toArray, List.nil_append, List.cons_append]
      have hn1 : (w'.alloc (.cells #[.int .i64 low] 3)).cell? ⟨w'.heap.size, 0, none⟩ = some (.int .i64 low) := new_cell w' (.int .i64 low) 3
      have hn2 : ((w'.alloc (.cells #[.int .i64 low] 3)).alloc (.cells #[.int .i64 high] 3)).cell? ⟨w'.heap.size + 1, 0, none⟩ = some (.int .i64 high) := by
        have h := new_cell (w'.alloc (.cells #[.int .i64 low] 3)) (.int .i64 high) 3
        rw [World.size_alloc] at h; exact h
      have hp1 := place_upTo_c (w'.alloc (.cells #[.int .i64 low] 3)).drew hi (HKI.out.alloc hB _).drew HPW.out HKL.out low (low + 1) (Lib.hid rfl) w'.heap.size hn1
      have hp2 := place_less_c ((w'.alloc (.cells #[.int .i64 low] 3)).alloc (.cells #[.int .i64 high] 3)).drew hi ((HKI.out.alloc hB _).alloc (by simp; omega) _).drew HPW.out HKL.out high high (Lib.hid rfl) (w'.heap.size + 1) hn2
      clear hn1 hn2
      have x1a := Lib.cell?_alloc_some (.cells #[.int .i64 low] 3) x1
      have x1b := Lib.cell?_alloc_some (.cells #[.int .i64 high] 3) x1a
      have HP1 := Lib.hid hp1
      have HP2 := Lib.hid hp2
      clear hp1 hp2
      have hw9 : Value.int .i64 (IntKind.i64.wrap ((place high ks : Int) + 1)) = .int .i64 ((place high ks + 1 : Nat) : Int) := by
        rw [IntWalk.i64_in _ (by omega)]; rfl
      have HW9 := Lib.hid hw9
      clear hw9
      gi_upto_region 4 with (fail)
      gi_cut [8, 9] from 19 (fun s8 s9 wc => s8 = .int .i64 (place (low + 1) ks) ∧ s9 = .int .i64 ((place high ks + 1 : Nat) : Int) ∧ Below w'.heap.size w' wc)
      case first =>
        gi_region_with (first
          | (gi_at_call 80; refine CallsIn.mono ((callsIn_wide (n := _)).2 (upTo_c low _)) ?_; rintro e w8 ⟨rfl, rfl⟩)
          | (gi_at_call 79; refine CallsIn.mono ((callsIn_wide (n := _)).2 (less_c high _)) ?_; rintro e w8 ⟨rfl, rfl⟩)
          | (gi_at_call 78; ((with_reducible refine CallsIn.mono ((callsIn_wide (n := _)).2 HP1.out) ?_); rintro e w8 ⟨rfl, rfl⟩))
          | (gi_at_call 78; ((with_reducible refine CallsIn.mono ((callsIn_wide (n := _)).2 HP2.out) ?_); rintro e w8 ⟨rfl, rfl⟩)))
        all_goals (
          gi_wp2_with fail
          gi_meet
          refine ⟨rfl, ?_, (((Below.refl _ _).alloc (Nat.le_refl _) _).alloc (by simp) _).drew⟩
          exact HW9.out)
      case rest =>
        obtain ⟨rfl, rfl, hbc⟩ := hcut
        have hbx := (hbc.block b (by omega)).trans HBOX.out
        clear x1 x2 x3 x4 x1a x1b
        obtain ⟨x1, x2, x3, x4⟩ := box2 hbx
        obtain ⟨f, hf⟩ : ∃ f, f = place (low + 1) ks := ⟨_, rfl⟩
        obtain ⟨p, hp⟩ : ∃ p, p = place high ks := ⟨_, rfl⟩
        rw [← hf, ← hp] at hspan
        rw [← hf] at hpl1 ⊢
        rw [← hp] at hpl2 ⊢
        have HF := Lib.hid (And.intro hf hp)
        have HBC := Lib.hid hbc
        have hcl2 := HCL.out
        have hfi : (f : Int) ≤ (p : Int) + 1 := by omega
        have hpi : (p : Int) + 1 ≤ (cs.length : Int) := by omega
        have hci : (cs.length : Int) ≤ (cap : Int) := by omega
        clear hf hp hbx hbc hcl2
        rcases HAT.out with h | ⟨qb, qo, rfl, q1, q2, q3⟩
        · exfalso; have := HCL.out; omega
        have Q3 := Lib.hid q3
        clear q3
        by_cases hfp : p + 1 = f
        · have hz := rsum_ahead (f := f) (to := p + 1) (vs := Tr.rvs low high cs) (n := p + 1) (by omega)
          have HZ := Lib.hid hz
          clear hz
          gi_wp2_with fail
          gi_loopw [7, 45] (fun o i wr => o = .int .i64 1 ∧ i = .int .i64 0 ∧ wr = wc) (fun _ _ _ => 0)
          case atStart => exact ⟨rfl, rfl, rfl⟩
          case round =>
            obtain ⟨rfl, rfl, rfl⟩ := hrel
            have hz0 : p + 1 - f = 0 := by omega
            gi_wp2_with fail
            go_ret
            refine ⟨ret_int ?_, HBC.out⟩
            rw [HR.out, ← HF.out.1, ← HF.out.2, HZ.out]; rfl
        · have hsp := Tr.rvs_get low high cs
          have hpt := fun n => HPART.out n
          rw [← HF.out.1, ← HF.out.2] at hpt
          have HPT := Lib.hid hpt
          have HSP := Lib.hid hsp
          have hmm : (((p + 1 - f : Nat)) : Int) = (p : Int) + 1 - (f : Int) := by omega
          clear hsp hpt hmm
          gi_wp2_with fail
          obtain ⟨m, hm⟩ : ∃ m, m = p + 1 - f := ⟨_, rfl⟩
          rw [← hm]
          have HM := Lib.hid hm
          have hz := rsum_ahead (f := f) (to := p + 1) (vs := Tr.rvs low high cs) (n := f) (Nat.le_refl _)
          have HZ := Lib.hid hz
          clear hm hz
          gi_loopw [7, 45] (fun o i wr => ∃ (j : Nat), j ≤ m ∧ i = .int .i64 j ∧ o = .int .i64 ((1 + rsum f (p + 1) (Tr.rvs low high cs) (f + j) : Nat) : Int) ∧ Below w'.heap.size w' wr) (fun _ i _ => m - (intOf i).toNat)
          case atStart => exact ⟨0, Nat.zero_le _, rfl, by rw [show f + 0 = f from rfl, HZ.out]; rfl, HBC.out⟩
          case round =>
            obtain ⟨j, hj, rfl, rfl, hbel⟩ := hrel
            have HBEL := Lib.hid hbel
            have hsr := hbel.size
            clear hbel x1 x2 x3 x4
            by_cases hlt : j < m
            · have hk : f + j < cs.length := by have := HM.out; have := HCL.out; omega
              have hcell : wr.cell? ⟨qb, qo + f + j, none⟩ = some (.pointer (some ⟨ps (f + j), 0, none⟩)) := by
                rw [Nat.add_assoc, below_cell (HBW.out.trans (HBEL.out.mono hB)) q2]; exact Q3.out _ hk
              have hjm : (j : Int) < (m : Int) := by omega
              have hp1 := HPT.out (f + j)
              have hp2 := HPT.out (f + j + 1)
              have hin := rsum_in (f := f) (to := p + 1) (vs := Tr.rvs low high cs) (n := f + j) (by have := HM.out; omega)
              rw [HSP.out _ hk] at hin
              generalize hG1 : rsum f (p + 1) (Tr.rvs low high cs) (f + j) = g1 at hp1 hin ⊢
              generalize hG2 : rsum f (p + 1) (Tr.rvs low high cs) (f + j + 1) = g2 at hp2 hin
              have hsi := steps_le HS.out (f + j + 1) cs.length (by omega) (by omega)
              have hcall := IH.out (f + j) hk (by have := Tr.weight_get_le cs _ hk; omega) (HWK.out _ hk) wr ((HBW.out.trans (HBEL.out.mono hB)).mono (by omega)) (by omega)
              have hrl := Tr.rv_le low high cs[f + j]
              have hrc := Tr.count_le cs[f + j]
              have hrw := Tr.weight_get_le cs _ hk
              generalize hRV : cs[f + j].rv low high = rvj at hrl hin hcall
              have HIN2 := Lib.hid hin
              have HG := Lib.hid hG2
              have HC := Lib.hid hcall
              clear hin hG1 hG2 hRV hcall
              gi_wp2_with fail
              refine CallsIn.mono ((callsIn_wide (n := _)).2 HC.out) ?_
              rintro e w3 ⟨rfl, hb3⟩
              have H3 := Lib.hid (HBEL.out.trans (hb3.mono hsr))
              clear hb3
              gi_wp2_with fail
              go_roundw
              case rel => (repeat apply Exists.intro); exact ⟨⟨j + 1, by omega, by go_num, by rw [show f + (j + 1) = f + j + 1 from rfl, HG.out, HIN2.out]; go_num, H3.out⟩, rfl⟩
              case measure => simp [intOf]; omega
            · obtain rfl : j = m := by omega
              gi_wp2_with fail
              go_ret
              refine ⟨ret_int ?_, HBEL.out⟩
              rw [HR.out, ← HF.out.1, ← HF.out.2, show f + j = p + 1 by have := HM.out; omega]

set_option maxRecDepth 100000 in
set_option maxHeartbeats 1000000 in
theorem impl_rangeVisits {w : World} {B : Nat} {kv cv : Value} {t : Tr} (ht : TreeIn w B kv cv t) (hw : t.weight ≤ 1048576) (low high : Int) (w' : World) (hbw : Below B w w') (hB : B ≤ w'.heap.size) :
    Calls Try.prog 25 #[.agg #[kv, cv], .int .i64 low, .int .i64 high] w' fun e w'' => e = .returned (.int .i64 (t.rvB low high)) ∧ Below w'.heap.size w' w'' := by
  obtain ⟨a5, n5, m5, a6, n6, m6, rfl, rfl⟩ := ht.slices
  obtain ⟨W1, hW1⟩ : ∃ W1, W1 = w'.alloc (.cells #[.slice a5 n5 m5, .slice a6 n6 m6] 26) := ⟨_, rfl⟩
  have hs1 : W1.heap.size = w'.heap.size + 1 := by rw [hW1]; simp
  have hb1 : Below w'.heap.size w' W1 := by rw [hW1]; exact (Below.refl _ _).alloc (Nat.le_refl _) _
  have kb : W1.heap[w'.heap.size]? = some (.cells #[.slice a5 n5 m5, .slice a6 n6 m6] 26 (0, 0)) := by rw [hW1, new_blk]
  obtain ⟨x1, x2, x3, x4⟩ := box2 kb
  have hv := Tr.rvB_is low high t
  have HB := Lib.hid hbw
  have HT := Lib.hid ht
  have HW1 := Lib.hid hW1
  have H1 := Lib.hid (And.intro hb1 kb)
  have HV := Lib.hid hv
  clear hbw ht hW1 hb1 kb hv
  go_enter Try.func25, Try.ntmps25
  go_wp2_with fail
  rw [← HW1.out]
  refine (validForSome_c HT.out hw W1 (HB.out.trans (H1.out.1.mono hB)) (by omega)).mono ?_
  rintro e w2 ⟨rfl, hb2⟩
  have hs2 := hb2.size
  have kb2 := (hb2.block w'.heap.size (by omega)).trans H1.out.2
  clear x1 x2 x3 x4
  obtain ⟨x1, x2, x3, x4⟩ := box2 kb2
  have H2 := Lib.hid (H1.out.1.trans (hb2.mono (by omega)))
  clear hb2 kb2
  cases hsb : t.someB with
  | false =>
    have h := HV.out.2.1 hsb
    have HZ := Lib.hid h
    have HSB := Lib.hid hsb
    clear h hsb
    go_wp2_with fail
    go_ret
    exact ⟨ret_int HZ.out.symm, H2.out⟩
  | true =>
    by_cases hlh : low ≤ high
    · have h := HV.out.1 hsb hlh
      have hwell := Tr.Well.of_some hsb
      have HWL := Lib.hid hwell
      have HZ := Lib.hid h
      have HSB := Lib.hid hsb
      have hlh' : ¬ (low > high) := by omega
      clear h hsb hwell
      go_wp2_with fail
      refine (plant_c HT.out hw _ (HB.out.trans (H2.out.mono hB)) (by omega)).mono ?_
      rintro e w3 ⟨nb, rfl, hnd, hb3⟩
      have HND := Lib.hid hnd
      have hs3 := hb3.size
      have H3 := Lib.hid (H2.out.trans (hb3.mono (by omega)))
      clear hb3 hnd
      go_wp2_with fail
      refine (rangeVisits_c low high hlh HND.out hw HWL.out w3 (Below.refl _ _) (Nat.le_refl _)).mono ?_
      rintro e w4 ⟨rfl, hb4⟩
      have H4 := Lib.hid (H3.out.trans (hb4.mono (by omega)))
      clear hb4
      go_wp2_with fail
      go_ret
      exact ⟨ret_int HZ.out.symm, H4.out⟩
    · have h := HV.out.2.2 (by omega)
      have HZ := Lib.hid h
      have HSB := Lib.hid hsb
      have hlh' : low > high := by omega
      clear h hsb
      go_wp2_with fail
      go_ret
      exact ⟨ret_int HZ.out.symm, H2.out⟩
end Go.Proofs.Ytjnkdbgebkajoaa

/- How many nodes are visited to find a range, how many keys it has: plain data. -/
namespace Go.Proofs.Ytjnkdbgebkajoaa
open Go.RowKit

theorem rsum_one {f to : Nat} {vs : List Nat} (h : to ≤ f + 1) : ∀ n, rsum f to vs n ≤ vs.getD f 0
  | 0 => by simp [rsum]
  | n + 1 => by
    by_cases hn : f ≤ n ∧ n < to
    · have e : n = f := by omega
      subst e
      rw [rsum_in hn, rsum_ahead (Nat.le_refl _)]
      omega
    · rw [rsum_out hn]
      exact rsum_one h n
theorem rsum_mono {f f' to to' : Nat} {vs vs' : List Nat} (hf : f ≤ f') (ht : to' ≤ to) (hv : ∀ i, vs'.getD i 0 ≤ vs.getD i 0) : ∀ n, rsum f' to' vs' n ≤ rsum f to vs n
  | 0 => Nat.le_refl _
  | n + 1 => by
    have ih := rsum_mono (vs := vs) (vs' := vs') hf ht hv n
    have hvn := hv n
    rw [rsum, rsum]
    split
    · rw [if_pos (by omega)]; omega
    · split <;> omega
namespace Tr
theorem rv_pos (low high : Int) (t : Tr) : 1 ≤ t.rv low high := by
  cases t with
  | mk k c => simp only [rv]; omega
theorem depth_get (c : List Tr) (i : Nat) (h : i < c.length) : c[i].depth ≤ depths c := by
  induction c generalizing i with
  | nil => simp at h
  | cons t r ih =>
    cases i with
    | zero => simp only [depths, List.getElem_cons_zero]; omega
    | succ i => have := ih i (by simpa using h); simp only [depths, List.getElem_cons_succ]; omega
/-- One key is looked for on one way down. -/
theorem rv_one (x : Int) : ∀ (n : Nat) (t : Tr), t.weight ≤ n → t.rv x x ≤ t.depth := by
  intro n
  induction n with
  | zero =>
    rintro ⟨k, c⟩ hn
    simp only [weight] at hn
    have hc : c.length = 0 := by have := length_le_weights c; omega
    rw [rv_leaf hc]
    simp only [depth]; omega
  | succ n ih =>
    rintro ⟨k, c⟩ hn
    simp only [weight] at hn
    have h1 := rsum_one (f := place (x + 1) k) (to := place x k + 1) (vs := rvs x x c) (by have := place_mono k (a := x) (b := x + 1) (by omega); omega) c.length
    simp only [rv, depth]
    by_cases hp : place (x + 1) k < c.length
    · have hw := weight_get_le c _ hp
      have h2 := ih c[place (x + 1) k] (by omega)
      have h3 := depth_get c _ hp
      rw [rvs_get _ _ _ _ hp] at h1
      omega
    · rw [List.getD_eq_getElem?_getD, List.getElem?_eq_none (by rw [rvs_length]; omega)] at h1
      simp at h1
      omega
/-- A part of a range takes no more. -/
theorem rv_mono {low low' high high' : Int} (hl : low ≤ low') (hh : high' ≤ high) : ∀ (n : Nat) (t : Tr), t.weight ≤ n → t.rv low' high' ≤ t.rv low high := by
  intro n
  induction n with
  | zero =>
    rintro ⟨k, c⟩ hn
    simp only [weight] at hn
    have hc : c.length = 0 := by have := length_le_weights c; omega
    rw [rv_leaf hc, rv_leaf hc]
    exact Nat.le_refl _
  | succ n ih =>
    rintro ⟨k, c⟩ hn
    simp only [weight] at hn
    simp only [rv]
    have := rsum_mono (f := place (low + 1) k) (f' := place (low' + 1) k) (to := place high k + 1) (to' := place high' k + 1) (vs := rvs low high c) (vs' := rvs low' high' c)
      (place_mono k (by omega)) (by have := place_mono k hh; omega) (fun i => by
        by_cases hi : i < c.length
        · rw [rvs_get _ _ _ _ hi, rvs_get _ _ _ _ hi]
          have hw := weight_get_le c i hi
          exact ih c[i] (by omega)
        · rw [List.getD_eq_getElem?_getD, List.getElem?_eq_none (by rw [rvs_length]; omega)]
          simp) c.length
    omega
end Tr

/-- As many keys lie in a range as ranks tell. -/
theorem rangeL_count {low high : Int} (hlh : low ≤ high) {keys : List Int} (hs : keys.Pairwise (· < ·)) :
    ((rangeL low high keys).length : Int) = (place (high + 1) keys : Int) - (place low keys : Int) := by
  have h1 := Tr.place_mono keys (a := low) (b := high + 1) (by omega)
  have h2 := place_le (high + 1) keys
  rw [rangeL_cut hlh hs, List.length_take, List.length_drop]
  omega
theorem place_next {x : Int} {keys : List Int} (hs : keys.Pairwise (· < ·)) : (place (x + 1) keys : Int) = (place x keys : Int) + (if x ∈ keys then 1 else 0) := by
  by_cases hx : x ∈ keys
  · rw [if_pos hx]
    obtain ⟨h1, h2⟩ := place_mem hs hx
    have : place (x + 1) keys = place x keys + 1 := place_eq (by omega) (fun i hi => by
        by_cases he : i = place x keys
        · rw [he, h2]; omega
        · have := place_lt (c := x) (k := keys) (i := i) (by omega)
          omega) (fun h => by
        have := sorted_get hs (i := place x keys) (j := place x keys + 1) (by omega) h
        omega)
    omega
  · rw [if_neg hx]
    have : place (x + 1) keys = place x keys := place_eq (place_le _ _) (fun i hi => by have := place_lt hi; omega) (fun h => by
      have h1 := place_ge h
      have h2 : keys.getD (place x keys) 0 ≠ x := fun e => hx (by
        rw [← e, List.getD_eq_getElem?_getD, List.getElem?_eq_getElem h]
        exact List.getElem_mem h)
      omega)
    omega
end Go.Proofs.Ytjnkdbgebkajoaa
