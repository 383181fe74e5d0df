/- Finding: plain data: how many nodes are visited to find a range. -/
import Derived.Test.YtjnkdbgebkajoaaProg
import Derived.Test.YtjnkdbgebkajoaaSq0
import Derived.Test.YtjnkdbgebkajoaaSq4
import Derived.Test.YtjnkdbgebkajoaaPlant
import Derived.Test.YtjnkdbgebkajoaaSq10
import Derived.Test.YtjnkdbgebkajoaaPlace
import Derived.Test.YtjnkdbgebkajoaaSq17
import Derived.Lib.SliceRun
import Derived.Test.YtjnkdbgebkajoaaFindData

/- The contract of the program's RangeOf. -/
namespace Go.Proofs.Ytjnkdbgebkajoaa
open Go.RowKit

theorem new_cell' (w : World) (x : Value) (t : TypeId) : (w.alloc (.cells #[x] t)).cell? ⟨w.heap.size, 0, none⟩ = some x := (box1 (new_blk w (.cells #[x] t))).1
theorem IntsIn.alloc' {w : World} {B : Nat} {v : Value} {ks : List Int} (h : IntsIn w B v ks) (hB : B ≤ w.heap.size) (o : Obj) : IntsIn (w.alloc o) B v ks := h.later ((Below.refl B w).alloc hB o) (Nat.le_refl _)

set_option maxRecDepth 100000 in
set_option maxHeartbeats 2000000 in
theorem impl_range {w : World} {B : Nat} {kv cv : Value} {t : Tr} (ht : TreeIn w B kv cv t) (hw : t.weight ≤ 1048576) (low high : Int) (w' : World) (hbw : Below B w w') (hB : B ≤ w'.heap.size) :
    Calls Try.prog 24 #[.agg #[kv, cv], .int .i64 low, .int .i64 high] w' fun e w'' => ∃ v, e = .returned v ∧ IntsCut w'' w'.heap.size v (t.rangeB low high) ∧ Below w'.heap.size w' w'' := by
  obtain ⟨a5, n5, m5, a6, n6, m6, rfl, rfl⟩ := ht.slices
  obtain ⟨W1, hW1⟩ : ∃ W1, W1 = w'.alloc (.cells #[.slice a5 n5 m5, .slice a6 n6 m6] 26) := ⟨_, rfl⟩
  have hs1 : W1.heap.size = w'.heap.size + 1 := by rw [hW1]; simp
  have hb1 : Below w'.heap.size w' W1 := by rw [hW1]; exact (Below.refl _ _).alloc (Nat.le_refl _) _
  have kb : W1.heap[w'.heap.size]? = some (.cells #[.slice a5 n5 m5, .slice a6 n6 m6] 26 (0, 0)) := by rw [hW1, new_blk]
  obtain ⟨x1, x2, x3, x4⟩ := box2 kb
  have hv := rangeB_is low high t
  have HB := Lib.hid hbw
  have HT := Lib.hid ht
  have HW1 := Lib.hid hW1
  have H1 := Lib.hid (And.intro hb1 kb)
  have HV := Lib.hid hv
  clear hbw ht hW1 hb1 kb hv
  go_enter Try.func24, Try.ntmps24
  go_wp2_with fail
  rw [← HW1.out]
  refine (validForSome_c HT.out hw W1 (HB.out.trans (H1.out.1.mono hB)) (by omega)).mono ?_
  rintro e w2 ⟨rfl, hb2⟩
  have hs2 := hb2.size
  have kb2 := (hb2.block w'.heap.size (by omega)).trans H1.out.2
  clear x1 x2 x3 x4
  obtain ⟨x1, x2, x3, x4⟩ := box2 kb2
  have H2 := Lib.hid (H1.out.1.trans (hb2.mono (by omega)))
  clear hb2 kb2
  cases hsb : t.someB with
  | false =>
    have h := HV.out.2 hsb
    have HZ := Lib.hid h
    have HSB := Lib.hid hsb
    clear h hsb
    go_wp2_with fail
    go_ret
    exact ⟨_, rfl, by rw [HZ.out]; exact IntsCut.none, H2.out⟩
  | true =>
    have h := HV.out.1 hsb
    have hwell := Tr.Well.of_some hsb
    have HWL := Lib.hid hwell.2
    have HZ := Lib.hid h
    have HSB := Lib.hid hsb
    clear h hsb hwell
    by_cases hlh : low ≤ high
    · have hlh' : ¬ (low > high) := by omega
      go_wp2_with fail
      refine (plant_c HT.out hw _ (HB.out.trans (H2.out.mono hB)) (by omega)).mono ?_
      rintro e w3 ⟨nb, rfl, hnd, hb3⟩
      have HND := Lib.hid hnd
      have hs3 := hb3.size
      have H3 := Lib.hid (H2.out.trans (hb3.mono (by omega)))
      clear hb3 hnd x1 x2 x3 x4
      go_wp2_with fail
      refine (collect_c HND.out hw (Nat.le_refl _)).mono ?_
      rintro e w4 ⟨v, rfl, hown, hb4⟩
      have hkl := Tr.keys_length_le t
      have hcut := rangeL_cut hlh HWL.out
      have hpl1 := place_le low t.keys
      have hpl2 := place_le (high + 1) t.keys
      have hmono : place low t.keys ≤ place (high + 1) t.keys := by
        generalize t.keys = l
        induction l with
        | nil => simp [place]
        | cons x r ih =>
          simp only [place]
          by_cases h1 : x < low
          · rw [if_pos h1, if_pos (by omega)]; omega
          · rw [if_neg h1]; omega
      obtain ⟨va, vc, rfl⟩ := IntsOwn.shown hown
      have hs4 := hb4.size
      have H4 := Lib.hid (And.intro (H3.out.trans (hb4.mono (by omega))) hown)
      have HKI := Lib.hid (IntsOwn.in hown)
      have HCUT := Lib.hid hcut
      have hkn : t.keys.length ≤ 1048576 := by omega
      have HKN := Lib.hid hkn
      clear hb4 hown hcut
      generalize t.keys = ks at *
      have hn2 : ((w4.alloc (.cells #[.int .i64 low] 3)).alloc (.cells #[.int .i64 high] 3)).cell? ⟨w4.heap.size + 1, 0, none⟩ = some (.int .i64 high) := by
        have h := new_cell' (w4.alloc (.cells #[.int .i64 low] 3)) (.int .i64 high) 3
        rw [World.size_alloc] at h; exact h
      have hp1 := place_less_c (w4.alloc (.cells #[.int .i64 low] 3)) w4.heap.size (HKI.out.alloc' (Nat.le_refl _) _) HWL.out hkn low low (Lib.hid rfl) w4.heap.size (new_cell' w4 (.int .i64 low) 3)
      have hp2 := place_upTo_c ((w4.alloc (.cells #[.int .i64 low] 3)).alloc (.cells #[.int .i64 high] 3)) w4.heap.size ((HKI.out.alloc' (Nat.le_refl _) _).alloc' (by simp) _) HWL.out hkn high (high + 1) (Lib.hid rfl) (w4.heap.size + 1) hn2
      obtain ⟨f, hf⟩ : ∃ f, f = place low ks := ⟨_, rfl⟩
      obtain ⟨p, hp⟩ : ∃ p, p = place (high + 1) ks := ⟨_, rfl⟩
      rw [← hf] at hpl1 hmono hp1
      rw [← hp] at hpl2 hmono hp2
      have HF := Lib.hid (And.intro hf hp)
      have HP1 := Lib.hid hp1
      have HP2 := Lib.hid hp2
      clear hf hp hp1 hp2 hn2
      have hcl : ks.length ≤ vc := by
        obtain ⟨_, _, hv, h1, h2, _, h⟩ := HKI.out
        injection hv with e1 _ e3
        omega
      have hvn : va = none → p - f = 0 := by
        obtain ⟨_, _, hv, h1, h2, h3, h⟩ := HKI.out
        injection hv with e1 _ e3
        subst e1 e3
        intro h9
        have := h3 h9
        omega
      have HVN := Lib.hid hvn
      clear hvn
      go_wp2_with fail
      refine (less_c low _).mono ?_
      rintro e w8 ⟨rfl, rfl⟩
      go_wp2_with fail
      refine HP1.out.mono ?_
      rintro e w8 ⟨rfl, rfl⟩
      go_wp2_with fail
      refine (upTo_c high _).mono ?_
      rintro e w8 ⟨rfl, rfl⟩
      go_wp2_with fail
      refine HP2.out.mono ?_
      rintro e w8 ⟨rfl, rfl⟩
      have hbe : Below w4.heap.size w4 ((w4.alloc (.cells #[.int .i64 low] 3)).alloc (.cells #[.int .i64 high] 3)) := ((Below.refl _ _).alloc (Nat.le_refl _) _).alloc (by simp) _
      have hres : t.rangeB low high = (ks.drop f).take (p - f) := by rw [HZ.out, HCUT.out, ← HF.out.1, ← HF.out.2]
      have HBE := Lib.hid hbe
      have HRES := Lib.hid hres
      clear hbe hres
      by_cases hfp : p = f
      · have e0 : p - f = 0 := by omega
        have h := IntsOwn.cut (f := f) (p := p) H4.out.2 hmono hpl2 va (.inl e0) (fun _ => e0)
        rw [← HRES.out] at h
        rw [e0] at h
        have HC := Lib.hid h
        clear h e0
        go_wp2_with fail
        go_ret
        exact ⟨_, rfl, IntsCut.lower (IntsCut.later HC.out HBE.out (Nat.le_refl _)) (by omega), H4.out.1.trans (HBE.out.mono (by omega))⟩
      · have h := IntsOwn.cut (f := f) (p := p) H4.out.2 hmono hpl2 (va.map (fun x => x.add f)) (.inr rfl) (fun h => HVN.out (by simpa using h))
        rw [← HRES.out] at h
        have HC := Lib.hid h
        clear h
        go_wp2_with fail
        go_ret
        exact ⟨_, rfl, IntsCut.lower (IntsCut.later HC.out HBE.out (Nat.le_refl _)) (by omega), H4.out.1.trans (HBE.out.mono (by omega))⟩
    · have hlh' : low > high := by omega
      have hz := rangeL_none hlh t.keys
      have HZ2 := Lib.hid hz
      clear hz
      go_wp2_with fail
      go_ret
      exact ⟨_, rfl, by rw [HZ.out, HZ2.out]; exact IntsCut.none, H2.out⟩
end Go.Proofs.Ytjnkdbgebkajoaa

/- Finding: plain data: how many nodes are visited to find a range. -/
namespace Go.Proofs.Ytjnkdbgebkajoaa
open Go.RowKit

/-- The sum of some numbers from place f up to place to, as far as the first n go. -/
def rsum (f to : Nat) (vs : List Nat) : Nat → Nat
  | 0 => 0
  | n + 1 => rsum f to vs n + (if f ≤ n ∧ n < to then vs.getD n 0 else 0)
theorem rsum_in {f to : Nat} {vs : List Nat} {n : Nat} (h : f ≤ n ∧ n < to) : rsum f to vs (n + 1) = rsum f to vs n + vs.getD n 0 := by rw [rsum, if_pos h]
theorem rsum_out {f to : Nat} {vs : List Nat} {n : Nat} (h : ¬ (f ≤ n ∧ n < to)) : rsum f to vs (n + 1) = rsum f to vs n := by rw [rsum, if_neg h]; rfl
theorem rsum_ahead {f to : Nat} {vs : List Nat} : ∀ {n : Nat}, n ≤ f → rsum f to vs n = 0
  | 0, _ => rfl
  | n + 1, h => by rw [rsum_out (by omega), rsum_ahead (by omega)]
theorem rsum_behind {f to : Nat} {vs : List Nat} : ∀ {n : Nat}, to ≤ n → rsum f to vs n = rsum f to vs to
  | 0, h => by rw [show to = 0 by omega]
  | n + 1, h => by
    by_cases e : to = n + 1
    · rw [e]
    · rw [rsum_out (by omega), rsum_behind (by omega)]
theorem rsum_le {f to : Nat} {vs : List Nat} : ∀ (n : Nat), rsum f to vs n ≤ (vs.take n).sum
  | 0 => by simp [rsum]
  | n + 1 => by
    have := rsum_le (f := f) (to := to) (vs := vs) n
    rw [rsum, List.take_add_one, List.sum_append]
    split
    · cases h : vs[n]? with
      | none => simp [List.getD_eq_getElem?_getD, h]; omega
      | some v => simp [List.getD_eq_getElem?_getD, h]; omega
    · omega
theorem take_sum_le (vs : List Nat) (n : Nat) : (vs.take n).sum ≤ vs.sum := by
  conv => rhs; rw [← List.take_append_drop n vs, List.sum_append]
  omega

namespace Tr
mutual
/-- How many nodes are visited. -/
def rv (low high : Int) : Tr → Nat
  | .mk k c => 1 + rsum (place (low + 1) k) (place high k + 1) (rvs low high c) c.length
def rvs (low high : Int) : List Tr → List Nat
  | [] => []
  | t :: r => rv low high t :: rvs low high r
end
theorem rvs_length (low high : Int) (c : List Tr) : (rvs low high c).length = c.length := by
  induction c with
  | nil => rfl
  | cons t r ih => simp only [rvs, List.length_cons, ih]
theorem rvs_get (low high : Int) (c : List Tr) (i : Nat) (h : i < c.length) : (rvs low high c).getD i 0 = c[i].rv low high := by
  induction c generalizing i with
  | nil => simp at h
  | cons t r ih =>
    cases i with
    | zero => simp [rvs]
    | succ i => simpa [rvs] using ih i (by simpa using h)
mutual
theorem rv_le (low high : Int) : ∀ t : Tr, t.rv low high ≤ t.count
  | .mk k c => by
    have h1 := rvs_le low high c
    have h2 := rsum_le (f := place (low + 1) k) (to := place high k + 1) (vs := rvs low high c) c.length
    have h3 := take_sum_le (rvs low high c) c.length
    simp only [rv, count]; omega
theorem rvs_le (low high : Int) : ∀ c : List Tr, (rvs low high c).sum ≤ counts c
  | [] => by simp [rvs, counts]
  | t :: r => by have := rv_le low high t; have := rvs_le low high r; simp only [rvs, counts, List.sum_cons]; omega
end
theorem rv_part (low high : Int) (k : List Int) (c : List Tr) (n : Nat) : rsum (place (low + 1) k) (place high k + 1) (rvs low high c) n ≤ counts c :=
  Nat.le_trans (rsum_le n) (Nat.le_trans (take_sum_le _ _) (rvs_le low high c))
theorem rv_leaf {low high : Int} {k : List Int} {c : List Tr} (h : c.length = 0) : (Tr.mk k c).rv low high = 1 := by
  rw [rv, h]; rfl
/-- As the program adds them up: from the first to the last that are visited. -/
theorem rv_span {low high : Int} {k : List Int} {c : List Tr} (h : place high k + 1 ≤ c.length) : (Tr.mk k c).rv low high = 1 + rsum (place (low + 1) k) (place high k + 1) (rvs low high c) (place high k + 1) := by
  rw [rv, rsum_behind h]

/-- In a list that ascends a key is less than a number exactly if it stands ahead of the number's place. -/
theorem lt_iff_place {k : List Int} (hs : k.Pairwise (· < ·)) {c : Int} {i : Nat} (hi : i < k.length) : k.getD i 0 < c ↔ i < place c k := by
  constructor
  · intro h
    by_cases hp : place c k < k.length
    · have hg := place_ge hp
      by_cases hlt : i < place c k
      · exact hlt
      · exfalso
        by_cases he : place c k = i
        · rw [he] at hg; omega
        · have h1 := List.pairwise_iff_getElem.1 hs (place c k) i hp hi (by omega)
          have e1 : k.getD i 0 = k[i] := by simp [List.getD_eq_getElem?_getD, hi]
          have e2 : k.getD (place c k) 0 = k[place c k] := by simp [List.getD_eq_getElem?_getD, hp]
          rw [e1] at h; rw [e2] at hg; omega
    · have := place_le c k; omega
  · intro h; exact place_lt h
theorem place_mono (k : List Int) {a b : Int} (h : a ≤ b) : place a k ≤ place b k := by
  induction k with
  | nil => simp [place]
  | cons x r ih =>
    simp only [place]
    by_cases h1 : x < a
    · rw [if_pos h1, if_pos (by omega)]; omega
    · rw [if_neg h1]; omega
/-- At most one key lies in a step of one. -/
theorem place_step {k : List Int} (hs : k.Pairwise (· < ·)) (c : Int) : place (c + 1) k ≤ place c k + 1 := by
  induction k with
  | nil => simp [place]
  | cons x r ih =>
    have hr := (List.pairwise_cons.1 hs).2
    simp only [place]
    by_cases h1 : x < c
    · rw [if_pos h1, if_pos (by omega)]; have := ih hr; omega
    · rw [if_neg h1]
      by_cases h2 : x < c + 1
      · rw [if_pos h2]
        have h3 : place (c + 1) r = 0 := by
          cases r with
          | nil => rfl
          | cons y r' =>
            have := (List.pairwise_cons.1 hs).1 y (by simp)
            simp only [place]; rw [if_neg (by omega)]
        omega
      · rw [if_neg h2]; omega
theorem place_span {k : List Int} (hs : k.Pairwise (· < ·)) {low high : Int} (h : low ≤ high) : place (low + 1) k ≤ place high k + 1 := by
  have h1 := place_step hs low
  have h2 := place_mono k h
  omega

/-- How many nodes are visited, in a tree that is valid. -/
def rvB (low high : Int) (t : Tr) : Int := if t.someB = true ∧ low ≤ high then (t.rv low high : Int) else -1
theorem rvB_is (low high : Int) (t : Tr) : (t.someB = true → low ≤ high → t.rvB low high = (t.rv low high : Int)) ∧ (t.someB = false → t.rvB low high = -1) ∧ (¬ low ≤ high → t.rvB low high = -1) := by
  unfold rvB
  refine ⟨fun h1 h2 => by rw [if_pos ⟨h1, h2⟩], fun h => by rw [if_neg]; rw [h]; simp, fun h => by rw [if_neg (fun x => h x.2)]⟩
end Tr
end Go.Proofs.Ytjnkdbgebkajoaa
