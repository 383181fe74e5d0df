/- What is next, ahead and between; plain data. -/
import Derived.Test.YthiohdbcclbgkaaProg
import Derived.Test.YthiohdbcclbgkaaBase
import Derived.Test.YthiohdbcclbgkaaNa0
import Derived.Test.YthiohdbcclbgkaaNa3
import Derived.Test.YthiohdbcclbgkaaNa5
import Derived.Test.YthiohdbcclbgkaaNa10
import Derived.Test.YthiohdbcclbgkaaPathData
import Derived.Test.YthiohdbcclbgkaaPlace
import Derived.Test.YthiohdbcclbgkaaNa16
import Derived.Test.YthiohdbcclbgkaaNa17
import Derived.Lib.SliceRun
import Derived.Test.YthiohdbcclbgkaaKeys
import Derived.Test.YthiohdbcclbgkaaSorted
import Derived.Test.YthiohdbcclbgkaaFindData

/- The contract of the program's RangeOf. -/
namespace Go.Proofs.Ythiohdbcclbgkaa
open Go.RowKit

theorem new_cell' (w : World) (x : Value) (t : TypeId) : (w.alloc (.cells #[x] t)).cell? ⟨w.heap.size, 0, none⟩ = some x := (box1 (new_blk w (.cells #[x] t))).1
theorem IntsIn.alloc' {w : World} {B : Nat} {v : Value} {ks : List Int} (h : IntsIn w B v ks) (hB : B ≤ w.heap.size) (o : Obj) : IntsIn (w.alloc o) B v ks := h.later ((Below.refl B w).alloc hB o) (Nat.le_refl _)

set_option maxRecDepth 100000 in
set_option maxHeartbeats 2000000 in
theorem impl_range {w : World} {B : Nat} {kv cv : Value} {t : Tr} (ht : TreeIn w B kv cv t) (hw : t.weight ≤ 1048576) (low high : Int) (w' : World) (hbw : Below B w w') (hB : B ≤ w'.heap.size) :
    Calls Try.prog 36 #[.agg #[kv, cv], .int .i64 low, .int .i64 high] w' fun e w'' => ∃ v, e = .returned v ∧ IntsCut w'' w'.heap.size v (t.rangeB low high) ∧ Below w'.heap.size w' w'' := by
  obtain ⟨a5, n5, m5, a6, n6, m6, rfl, rfl⟩ := ht.slices
  obtain ⟨W1, hW1⟩ : ∃ W1, W1 = w'.alloc (.cells #[.slice a5 n5 m5, .slice a6 n6 m6] 25) := ⟨_, rfl⟩
  have hs1 : W1.heap.size = w'.heap.size + 1 := by rw [hW1]; simp
  have hb1 : Below w'.heap.size w' W1 := by rw [hW1]; exact (Below.refl _ _).alloc (Nat.le_refl _) _
  have kb : W1.heap[w'.heap.size]? = some (.cells #[.slice a5 n5 m5, .slice a6 n6 m6] 25 (0, 0)) := by rw [hW1, new_blk]
  obtain ⟨x1, x2, x3, x4⟩ := box2 kb
  have hv := rangeB_is low high t
  have HB := Lib.hid hbw
  have HT := Lib.hid ht
  have HW1 := Lib.hid hW1
  have H1 := Lib.hid (And.intro hb1 kb)
  have HV := Lib.hid hv
  clear hbw ht hW1 hb1 kb hv
  go_enter Try.func36, Try.ntmps36
  go_wp2_with fail
  rw [← HW1.out]
  refine (validForSome_c HT.out hw W1 (HB.out.trans (H1.out.1.mono hB)) (by omega)).mono ?_
  rintro e w2 ⟨rfl, hb2⟩
  have hs2 := hb2.size
  have kb2 := (hb2.block w'.heap.size (by omega)).trans H1.out.2
  clear x1 x2 x3 x4
  obtain ⟨x1, x2, x3, x4⟩ := box2 kb2
  have H2 := Lib.hid (H1.out.1.trans (hb2.mono (by omega)))
  clear hb2 kb2
  cases hsb : t.someB with
  | false =>
    have h := HV.out.2 hsb
    have HZ := Lib.hid h
    have HSB := Lib.hid hsb
    clear h hsb
    go_wp2_with fail
    go_ret
    exact ⟨_, rfl, by rw [HZ.out]; exact IntsCut.none, H2.out⟩
  | true =>
    have h := HV.out.1 hsb
    have hwell := Tr.Well.of_some hsb
    have HWL := Lib.hid hwell.2
    have HZ := Lib.hid h
    have HSB := Lib.hid hsb
    clear h hsb hwell
    by_cases hlh : low ≤ high
    · have hlh' : ¬ (low > high) := by omega
      go_wp2_with fail
      refine (plant_c HT.out hw _ (HB.out.trans (H2.out.mono hB)) (by omega)).mono ?_
      rintro e w3 ⟨nb, rfl, hnd, hb3⟩
      have HND := Lib.hid hnd
      have hs3 := hb3.size
      have H3 := Lib.hid (H2.out.trans (hb3.mono (by omega)))
      clear hb3 hnd x1 x2 x3 x4
      go_wp2_with fail
      refine (collect_c HND.out hw (Nat.le_refl _)).mono ?_
      rintro e w4 ⟨v, rfl, hown, hb4⟩
      have hkl := Tr.keys_length_le t
      have hcut := rangeL_cut hlh HWL.out
      have hpl1 := place_le low t.keys
      have hpl2 := place_le (high + 1) t.keys
      have hmono : place low t.keys ≤ place (high + 1) t.keys := by
        generalize t.keys = l
        induction l with
        | nil => simp [place]
        | cons x r ih =>
          simp only [place]
          by_cases h1 : x < low
          · rw [if_pos h1, if_pos (by omega)]; omega
          · rw [if_neg h1]; omega
      obtain ⟨va, vc, rfl⟩ := IntsOwn.shown hown
      have hs4 := hb4.size
      have H4 := Lib.hid (And.intro (H3.out.trans (hb4.mono (by omega))) hown)
      have HKI := Lib.hid (IntsOwn.in hown)
      have HCUT := Lib.hid hcut
      have hkn : t.keys.length ≤ 1048576 := by omega
      have HKN := Lib.hid hkn
      clear hb4 hown hcut
      generalize t.keys = ks at *
      have hn2 : ((w4.alloc (.cells #[.int .i64 low] 3)).alloc (.cells #[.int .i64 high] 3)).cell? ⟨w4.heap.size + 1, 0, none⟩ = some (.int .i64 high) := by
        have h := new_cell' (w4.alloc (.cells #[.int .i64 low] 3)) (.int .i64 high) 3
        rw [World.size_alloc] at h; exact h
      have hp1 := place_less_c (w4.alloc (.cells #[.int .i64 low] 3)) w4.heap.size (HKI.out.alloc' (Nat.le_refl _) _) HWL.out hkn low low (Lib.hid rfl) w4.heap.size (new_cell' w4 (.int .i64 low) 3)
      have hp2 := place_upTo_c ((w4.alloc (.cells #[.int .i64 low] 3)).alloc (.cells #[.int .i64 high] 3)) w4.heap.size ((HKI.out.alloc' (Nat.le_refl _) _).alloc' (by simp) _) HWL.out hkn high (high + 1) (Lib.hid rfl) (w4.heap.size + 1) hn2
      obtain ⟨f, hf⟩ : ∃ f, f = place low ks := ⟨_, rfl⟩
      obtain ⟨p, hp⟩ : ∃ p, p = place (high + 1) ks := ⟨_, rfl⟩
      rw [← hf] at hpl1 hmono hp1
      rw [← hp] at hpl2 hmono hp2
      have HF := Lib.hid (And.intro hf hp)
      have HP1 := Lib.hid hp1
      have HP2 := Lib.hid hp2
      clear hf hp hp1 hp2 hn2
      have hcl : ks.length ≤ vc := by
        obtain ⟨_, _, hv, h1, h2, _, h⟩ := HKI.out
        injection hv with e1 _ e3
        omega
      have hvn : va = none → p - f = 0 := by
        obtain ⟨_, _, hv, h1, h2, h3, h⟩ := HKI.out
        injection hv with e1 _ e3
        subst e1 e3
        intro h9
        have := h3 h9
        omega
      have HVN := Lib.hid hvn
      clear hvn
      go_wp2_with fail
      refine (less_c low _).mono ?_
      rintro e w8 ⟨rfl, rfl⟩
      go_wp2_with fail
      refine HP1.out.mono ?_
      rintro e w8 ⟨rfl, rfl⟩
      go_wp2_with fail
      refine (upTo_c high _).mono ?_
      rintro e w8 ⟨rfl, rfl⟩
      go_wp2_with fail
      refine HP2.out.mono ?_
      rintro e w8 ⟨rfl, rfl⟩
      have hbe : Below w4.heap.size w4 ((w4.alloc (.cells #[.int .i64 low] 3)).alloc (.cells #[.int .i64 high] 3)) := ((Below.refl _ _).alloc (Nat.le_refl _) _).alloc (by simp) _
      have hres : t.rangeB low high = (ks.drop f).take (p - f) := by rw [HZ.out, HCUT.out, ← HF.out.1, ← HF.out.2]
      have HBE := Lib.hid hbe
      have HRES := Lib.hid hres
      clear hbe hres
      by_cases hfp : p = f
      · have e0 : p - f = 0 := by omega
        have h := IntsOwn.cut (f := f) (p := p) H4.out.2 hmono hpl2 va (.inl e0) (fun _ => e0)
        rw [← HRES.out] at h
        rw [e0] at h
        have HC := Lib.hid h
        clear h e0
        go_wp2_with fail
        go_ret
        exact ⟨_, rfl, IntsCut.lower (IntsCut.later HC.out HBE.out (Nat.le_refl _)) (by omega), H4.out.1.trans (HBE.out.mono (by omega))⟩
      · have h := IntsOwn.cut (f := f) (p := p) H4.out.2 hmono hpl2 (va.map (fun x => x.add f)) (.inr rfl) (fun h => HVN.out (by simpa using h))
        rw [← HRES.out] at h
        have HC := Lib.hid h
        clear h
        go_wp2_with fail
        go_ret
        exact ⟨_, rfl, IntsCut.lower (IntsCut.later HC.out HBE.out (Nat.le_refl _)) (by omega), H4.out.1.trans (HBE.out.mono (by omega))⟩
    · have hlh' : low > high := by omega
      have hz := rangeL_none hlh t.keys
      have HZ2 := Lib.hid hz
      clear hz
      go_wp2_with fail
      go_ret
      exact ⟨_, rfl, by rw [HZ.out, HZ2.out]; exact IntsCut.none, H2.out⟩
end Go.Proofs.Ythiohdbcclbgkaa

/- What is next, ahead and between; plain data. -/
namespace Go.Proofs.Ythiohdbcclbgkaa
open Go.RowKit

namespace Tr
theorem some_sorted {t : Tr} (h : t.someB = true) : sortedB t.keys = true := by
  have hv : ∃ w : Int, validB w t = true := by
    unfold someB at h
    simp only [Bool.or_eq_true] at h
    rcases h with (((h | h) | h) | h) | h
    all_goals exact ⟨_, h⟩
  obtain ⟨w, hv⟩ := hv
  unfold validB at hv
  simp only [Bool.and_eq_true] at hv
  exact hv.2.2
theorem some_keys {t : Tr} (h : t.someB = true) {x : Int} (hx : x ∈ t.keys) : 0 ≤ x ∧ x ≤ 99 := by
  obtain ⟨i, hi, rfl⟩ := List.mem_iff_getElem.1 hx
  have h1 := okAt_get (some_sorted h) i hi
  simp only [okAt, inB, Bool.and_eq_true, decide_eq_true_eq] at h1
  have e : t.keys.getD i 0 = t.keys[i] := by simp [List.getD_eq_getElem?_getD, hi]
  rw [e] at h1
  exact h1.1

/-- What holds of a key that is next. -/
theorem next_fact {t : Tr} {key n : Int} (h : t.nextB key = (n, true)) : t.someB = true ∧ key < n ∧ 0 ≤ n ∧ n ≤ 99 ∧ (t.pathB n).2 = true ∧
    ((t.prevB n).2 = true → (t.prevB n).1 ≤ key) ∧ ((t.pathB key).2 = true → (t.prevB n).2 = true ∧ (t.prevB n).1 = key) ∧ t.rangeB (key + 1) (n - 1) = [] := by
  have hs : t.someB = true := by
    cases hs : t.someB with
    | true => rfl
    | false =>
      have := (nextB_is key t).2 hs
      rw [this] at h
      simp at h
  have hw := (Well.of_some hs).2
  rw [(nextB_is key t).1 hs, find_place] at h
  have hpl : place (key + 1) t.keys < t.keys.length := by
    rcases Nat.lt_or_ge (place (key + 1) t.keys) t.keys.length with g | g
    · exact g
    · rw [List.getElem?_eq_none g] at h
      simp [optOr] at h
  rw [List.getElem?_eq_getElem hpl] at h
  simp only [optOr, Prod.mk.injEq, and_true] at h
  have hge := place_ge hpl
  have e : t.keys.getD (place (key + 1) t.keys) 0 = n := by rw [← h]; simp [List.getD_eq_getElem?_getD, hpl]
  rw [e] at hge
  have hmem : n ∈ t.keys := by rw [← h]; exact List.getElem_mem hpl
  have hb := some_keys hs hmem
  have hpn : place n t.keys = place (key + 1) t.keys := by
    have := place_get hw hpl
    rwa [e] at this
  have hbelow : ∀ i, i < place (key + 1) t.keys → t.keys.getD i 0 ≤ key := fun i hi => by
    have := place_lt (c := key + 1) (k := t.keys) hi
    omega
  have hprev : t.prevB n = if 0 < place (key + 1) t.keys then (t.keys.getD (place (key + 1) t.keys - 1) 0, true) else (0, false) := by
    rw [(prevB_is n t).1 hs, prevOf, hpn]
  refine ⟨hs, by omega, hb.1, hb.2, (hasB_iff n t hs).2 hmem, ?_, ?_, ?_⟩
  · rw [hprev]
    split
    · intro _; exact hbelow _ (by omega)
    · intro h; cases h
  · intro hk
    have hkm := (hasB_iff key t hs).1 hk
    obtain ⟨h1, h2⟩ := place_mem hw hkm
    have hlt : place key t.keys < place (key + 1) t.keys := by
      rcases Nat.lt_or_ge (place key t.keys) (place (key + 1) t.keys) with g | g
      · exact g
      · exfalso
        rcases Nat.lt_or_ge (place (key + 1) t.keys) (place key t.keys) with g2 | g2
        · have := sorted_get hw g2 h1
          rw [e, h2] at this
          omega
        · have e3 : place key t.keys = place (key + 1) t.keys := by omega
          rw [e3, e] at h2
          omega
    rw [hprev, if_pos (by omega)]
    refine ⟨rfl, ?_⟩
    show t.keys.getD (place (key + 1) t.keys - 1) 0 = key
    have hle := hbelow (place (key + 1) t.keys - 1) (by omega)
    rcases Nat.lt_or_ge (place key t.keys) (place (key + 1) t.keys - 1) with g | g
    · have := sorted_get hw g (by omega)
      rw [h2] at this
      omega
    · rw [show place (key + 1) t.keys - 1 = place key t.keys by omega]
      exact h2
  · rw [(rangeB_is (key + 1) (n - 1) t).1 hs]
    unfold rangeL
    refine List.filter_eq_nil_iff.2 (fun x hx => ?_)
    obtain ⟨i, hi, rfl⟩ := List.mem_iff_getElem.1 hx
    have e4 : t.keys.getD i 0 = t.keys[i] := by simp [List.getD_eq_getElem?_getD, hi]
    simp only [inB, Bool.and_eq_true, decide_eq_true_eq]
    rintro ⟨g1, g2⟩
    rw [← e4] at g1 g2
    rcases Nat.lt_or_ge i (place (key + 1) t.keys) with g | g
    · have := hbelow i g
      omega
    · rcases Nat.lt_or_ge (place (key + 1) t.keys) i with g3 | g3
      · have := sorted_get hw g3 hi
        rw [e] at this
        omega
      · rw [show i = place (key + 1) t.keys by omega, e] at g2
        omega
end Tr
end Go.Proofs.Ythiohdbcclbgkaa
