/- A range, gone through by a cursor: plain data. -/
import Derived.Test.YticfkfjijnfcbaaDoorProg
import Derived.Test.YticfkfjijnfcbaaDoorSh0
import Derived.Test.YticfkfjijnfcbaaDoorSh3
import Derived.Test.YticfkfjijnfcbaaDoorPlant
import Derived.Test.YticfkfjijnfcbaaDoorSh6
import Derived.Test.YticfkfjijnfcbaaDoorSh7
import Derived.Test.YticfkfjijnfcbaaDoorSh12
import Derived.Test.YticfkfjijnfcbaaDoorSh29
import Derived.Lib.SliceRun
import Derived.Test.YticfkfjijnfcbaaDoorKeys
import Derived.Test.YticfkfjijnfcbaaDoorSh11
import Derived.Test.YticfkfjijnfcbaaDoorSh26
import Derived.Test.YticfkfjijnfcbaaDoorCurWalk
import Derived.Test.YticfkfjijnfcbaaDoorSh24

/- The contract of the program's RangeOf. -/
namespace Go.Proofs.YticfkfjijnfcbaaDoor
open Go.RowKit

theorem new_cell' (w : World) (x : Value) (t : TypeId) : (w.alloc (.cells #[x] t)).cell? ⟨w.heap.size, 0, none⟩ = some x := (box1 (new_blk w (.cells #[x] t))).1
theorem IntsIn.alloc' {w : World} {B : Nat} {v : Value} {ks : List Int} (h : IntsIn w B v ks) (hB : B ≤ w.heap.size) (o : Obj) : IntsIn (w.alloc o) B v ks := h.later ((Below.refl B w).alloc hB o) (Nat.le_refl _)

set_option maxRecDepth 100000 in
set_option maxHeartbeats 2000000 in
theorem impl_range {w : World} {B : Nat} {kv cv : Value} {t : Tr} (ht : TreeIn w B kv cv t) (hw : t.weight ≤ 1048576) (low high : Int) (w' : World) (hbw : Below B w w') (hB : B ≤ w'.heap.size) :
    Calls Tryd.prog 54 #[.agg #[kv, cv], .int .i64 low, .int .i64 high] w' fun e w'' => ∃ v, e = .returned v ∧ IntsCut w'' w'.heap.size v (t.rangeB low high) ∧ Below w'.heap.size w' w'' := by
  obtain ⟨a5, n5, m5, a6, n6, m6, rfl, rfl⟩ := ht.slices
  obtain ⟨W1, hW1⟩ : ∃ W1, W1 = w'.alloc (.cells #[.slice a5 n5 m5, .slice a6 n6 m6] 33) := ⟨_, rfl⟩
  have hs1 : W1.heap.size = w'.heap.size + 1 := by rw [hW1]; simp
  have hb1 : Below w'.heap.size w' W1 := by rw [hW1]; exact (Below.refl _ _).alloc (Nat.le_refl _) _
  have kb : W1.heap[w'.heap.size]? = some (.cells #[.slice a5 n5 m5, .slice a6 n6 m6] 33 (0, 0)) := by rw [hW1, new_blk]
  obtain ⟨x1, x2, x3, x4⟩ := box2 kb
  have hv := rangeB_is low high t
  have HB := Lib.hid hbw
  have HT := Lib.hid ht
  have HW1 := Lib.hid hW1
  have H1 := Lib.hid (And.intro hb1 kb)
  have HV := Lib.hid hv
  clear hbw ht hW1 hb1 kb hv
  go_enter Tryd.func54, Tryd.ntmps54
  go_wp2_with fail
  rw [← HW1.out]
  refine (validForSome_c HT.out hw W1 (HB.out.trans (H1.out.1.mono hB)) (by omega)).mono ?_
  rintro e w2 ⟨rfl, hb2⟩
  have hs2 := hb2.size
  have kb2 := (hb2.block w'.heap.size (by omega)).trans H1.out.2
  clear x1 x2 x3 x4
  obtain ⟨x1, x2, x3, x4⟩ := box2 kb2
  have H2 := Lib.hid (H1.out.1.trans (hb2.mono (by omega)))
  clear hb2 kb2
  cases hsb : t.someB with
  | false =>
    have h := HV.out.2 hsb
    have HZ := Lib.hid h
    have HSB := Lib.hid hsb
    clear h hsb
    go_wp2_with fail
    go_ret
    exact ⟨_, rfl, by rw [HZ.out]; exact IntsCut.none, H2.out⟩
  | true =>
    have h := HV.out.1 hsb
    have hwell := Tr.Well.of_some hsb
    have HWL := Lib.hid hwell.2
    have HZ := Lib.hid h
    have HSB := Lib.hid hsb
    clear h hsb hwell
    by_cases hlh : low ≤ high
    · have hlh' : ¬ (low > high) := by omega
      go_wp2_with fail
      refine (plant_c HT.out hw _ (HB.out.trans (H2.out.mono hB)) (by omega)).mono ?_
      rintro e w3 ⟨nb, rfl, hnd, hb3⟩
      have HND := Lib.hid hnd
      have hs3 := hb3.size
      have H3 := Lib.hid (H2.out.trans (hb3.mono (by omega)))
      clear hb3 hnd x1 x2 x3 x4
      go_wp2_with fail
      refine (collect_c HND.out hw (Nat.le_refl _)).mono ?_
      rintro e w4 ⟨v, rfl, hown, hb4⟩
      have hkl := Tr.keys_length_le t
      have hcut := rangeL_cut hlh HWL.out
      have hpl1 := place_le low t.keys
      have hpl2 := place_le (high + 1) t.keys
      have hmono : place low t.keys ≤ place (high + 1) t.keys := by
        generalize t.keys = l
        induction l with
        | nil => simp [place]
        | cons x r ih =>
          simp only [place]
          by_cases h1 : x < low
          · rw [if_pos h1, if_pos (by omega)]; omega
          · rw [if_neg h1]; omega
      obtain ⟨va, vc, rfl⟩ := IntsOwn.shown hown
      have hs4 := hb4.size
      have H4 := Lib.hid (And.intro (H3.out.trans (hb4.mono (by omega))) hown)
      have HKI := Lib.hid (IntsOwn.in hown)
      have HCUT := Lib.hid hcut
      have hkn : t.keys.length ≤ 1048576 := by omega
      have HKN := Lib.hid hkn
      clear hb4 hown hcut
      generalize t.keys = ks at *
      have hn2 : ((w4.alloc (.cells #[.int .i64 low] 3)).alloc (.cells #[.int .i64 high] 3)).cell? ⟨w4.heap.size + 1, 0, none⟩ = some (.int .i64 high) := by
        have h := new_cell' (w4.alloc (.cells #[.int .i64 low] 3)) (.int .i64 high) 3
        rw [World.size_alloc] at h; exact h
      have hp1 := place_less_c (w4.alloc (.cells #[.int .i64 low] 3)) w4.heap.size (HKI.out.alloc' (Nat.le_refl _) _) HWL.out hkn low low (Lib.hid rfl) w4.heap.size (new_cell' w4 (.int .i64 low) 3)
      have hp2 := place_upTo_c ((w4.alloc (.cells #[.int .i64 low] 3)).alloc (.cells #[.int .i64 high] 3)) w4.heap.size ((HKI.out.alloc' (Nat.le_refl _) _).alloc' (by simp) _) HWL.out hkn high (high + 1) (Lib.hid rfl) (w4.heap.size + 1) hn2
      obtain ⟨f, hf⟩ : ∃ f, f = place low ks := ⟨_, rfl⟩
      obtain ⟨p, hp⟩ : ∃ p, p = place (high + 1) ks := ⟨_, rfl⟩
      rw [← hf] at hpl1 hmono hp1
      rw [← hp] at hpl2 hmono hp2
      have HF := Lib.hid (And.intro hf hp)
      have HP1 := Lib.hid hp1
      have HP2 := Lib.hid hp2
      clear hf hp hp1 hp2 hn2
      have hcl : ks.length ≤ vc := by
        obtain ⟨_, _, hv, h1, h2, _, h⟩ := HKI.out
        injection hv with e1 _ e3
        omega
      have hvn : va = none → p - f = 0 := by
        obtain ⟨_, _, hv, h1, h2, h3, h⟩ := HKI.out
        injection hv with e1 _ e3
        subst e1 e3
        intro h9
        have := h3 h9
        omega
      have HVN := Lib.hid hvn
      clear hvn
      go_wp2_with fail
      refine (less_c low _).mono ?_
      rintro e w8 ⟨rfl, rfl⟩
      go_wp2_with fail
      refine HP1.out.mono ?_
      rintro e w8 ⟨rfl, rfl⟩
      go_wp2_with fail
      refine (upTo_c high _).mono ?_
      rintro e w8 ⟨rfl, rfl⟩
      go_wp2_with fail
      refine HP2.out.mono ?_
      rintro e w8 ⟨rfl, rfl⟩
      have hbe : Below w4.heap.size w4 ((w4.alloc (.cells #[.int .i64 low] 3)).alloc (.cells #[.int .i64 high] 3)) := ((Below.refl _ _).alloc (Nat.le_refl _) _).alloc (by simp) _
      have hres : t.rangeB low high = (ks.drop f).take (p - f) := by rw [HZ.out, HCUT.out, ← HF.out.1, ← HF.out.2]
      have HBE := Lib.hid hbe
      have HRES := Lib.hid hres
      clear hbe hres
      by_cases hfp : p = f
      · have e0 : p - f = 0 := by omega
        have h := IntsOwn.cut (f := f) (p := p) H4.out.2 hmono hpl2 va (.inl e0) (fun _ => e0)
        rw [← HRES.out] at h
        rw [e0] at h
        have HC := Lib.hid h
        clear h e0
        go_wp2_with fail
        go_ret
        exact ⟨_, rfl, IntsCut.lower (IntsCut.later HC.out HBE.out (Nat.le_refl _)) (by omega), H4.out.1.trans (HBE.out.mono (by omega))⟩
      · have h := IntsOwn.cut (f := f) (p := p) H4.out.2 hmono hpl2 (va.map (fun x => x.add f)) (.inr rfl) (fun h => HVN.out (by simpa using h))
        rw [← HRES.out] at h
        have HC := Lib.hid h
        clear h
        go_wp2_with fail
        go_ret
        exact ⟨_, rfl, IntsCut.lower (IntsCut.later HC.out HBE.out (Nat.le_refl _)) (by omega), H4.out.1.trans (HBE.out.mono (by omega))⟩
    · have hlh' : low > high := by omega
      have hz := rangeL_none hlh t.keys
      have HZ2 := Lib.hid hz
      clear hz
      go_wp2_with fail
      go_ret
      exact ⟨_, rfl, by rw [HZ.out, HZ2.out]; exact IntsCut.none, H2.out⟩
end Go.Proofs.YticfkfjijnfcbaaDoor

/- Ranks tell keys, and keys tell ranks; plain data. -/
namespace Go.Proofs.YticfkfjijnfcbaaDoor
open Go.RowKit

namespace Tr
theorem at_fact {t : Tr} {r k : Int} (h : t.keyAtB r = (k, true)) : t.rankB k = r ∧ (t.pathB k).2 = true := by
  have hs : t.someB = true := by
    cases hs : t.someB with
    | true => rfl
    | false => rw [(keyAtB_is r t).2 hs] at h; simp at h
  have hw := (Well.of_some hs).2
  rw [(keyAtB_is r t).1 hs, keyL] at h
  split at h
  · rename_i hr
    simp only [Prod.mk.injEq, and_true] at h
    have hlt : r.toNat < t.keys.length := by omega
    subst h
    refine ⟨?_, (hasB_iff _ t hs).2 ?_⟩
    · rw [(rankB_is _ t).1 hs, place_get hw hlt]
      omega
    · rw [List.getD_eq_getElem?_getD, List.getElem?_eq_getElem hlt]
      exact List.getElem_mem hlt
  · simp at h
theorem has_fact {t : Tr} {key : Int} (hs : t.someB = true) (h : (t.pathB key).2 = true) : t.keyAtB (t.rankB key) = (key, true) := by
  have hw := (Well.of_some hs).2
  obtain ⟨h1, h2⟩ := place_mem hw ((hasB_iff key t hs).1 h)
  rw [(rankB_is key t).1 hs, (keyAtB_is _ t).1 hs, keyL, if_pos ⟨by omega, by omega⟩]
  simp only [Int.toNat_natCast, h2]
theorem rank_some {t : Tr} {key : Int} (h : 0 ≤ t.rankB key) : t.someB = true := by
  cases hs : t.someB with
  | true => rfl
  | false => rw [(rankB_is key t).2 hs] at h; omega
theorem rank_le {t : Tr} {key : Int} : -1 ≤ t.rankB key ∧ t.rankB key ≤ t.weight := by
  cases hs : t.someB with
  | true =>
    rw [(rankB_is key t).1 hs]
    have := place_le key t.keys
    have := keys_length_le t
    omega
  | false => rw [(rankB_is key t).2 hs]; omega
end Tr
end Go.Proofs.YticfkfjijnfcbaaDoor

/- A range, gone through by a cursor: plain data. -/
namespace Go.Proofs.YticfkfjijnfcbaaDoor
open Go.RowKit

def rowLen : Value → Nat | .slice _ n _ => n | _ => 0

theorem get_mem {K : List Int} {x : Int} (h : x ∈ K) : ∃ i, i < K.length ∧ K.getD i 0 = x := by
  obtain ⟨i, hi, rfl⟩ := List.getElem_of_mem h
  exact ⟨i, hi, by simp [List.getD_eq_getElem?_getD, hi]⟩
theorem take_mem {K : List Int} {p : Nat} {x : Int} (h : x ∈ K.take p) : ∃ i, i < p ∧ i < K.length ∧ K.getD i 0 = x := by
  obtain ⟨i, hi, rfl⟩ := List.getElem_of_mem h
  rw [List.length_take] at hi
  exact ⟨i, by omega, by omega, by simp [List.getD_eq_getElem?_getD, show i < K.length by omega]⟩
theorem drop_mem {K : List Int} {p : Nat} {x : Int} (h : x ∈ K.drop p) : ∃ i, p ≤ i ∧ i < K.length ∧ K.getD i 0 = x := by
  obtain ⟨i, hi, rfl⟩ := List.getElem_of_mem h
  rw [List.length_drop] at hi
  exact ⟨p + i, by omega, by omega, by simp [List.getD_eq_getElem?_getD, show p + i < K.length by omega]⟩
theorem sorted_le {K : List Int} (hs : K.Pairwise (· < ·)) {i j : Nat} (h : i ≤ j) (hj : j < K.length) : K.getD i 0 ≤ K.getD j 0 := by
  by_cases e : i = j
  · rw [e]; exact Int.le_refl _
  · have := sorted_get hs (show i < j by omega) hj
    omega
theorem part_snoc {K : List Int} {p n : Nat} (h : p + n < K.length) : (K.drop p).take n ++ [K.getD (p + n) 0] = (K.drop p).take (n + 1) := by
  rw [List.take_succ_eq_append_getElem (by rw [List.length_drop]; omega), List.getElem_drop]
  simp [List.getD_eq_getElem?_getD, h]

theorem rangeL_walk {low high : Int} {K : List Int} (hs : K.Pairwise (· < ·)) {n : Nat} (hle : ∀ x ∈ (K.drop (place low K)).take n, x ≤ high)
    (hend : place low K + n = K.length ∨ (place low K + n < K.length ∧ high < K.getD (place low K + n) 0)) : rangeL low high K = (K.drop (place low K)).take n := by
  have hlow : ∀ i, place low K ≤ i → i < K.length → low ≤ K.getD i 0 := fun i h1 h2 => by
    have := place_ge (c := low) (k := K) (by omega)
    have := sorted_le hs h1 h2
    omega
  have hbel : ∀ i, i < place low K → K.getD i 0 < low := fun i h => place_lt h
  obtain ⟨p, hp⟩ : ∃ p, p = place low K := ⟨_, rfl⟩
  rw [← hp] at hle hend hlow hbel ⊢
  have e : K = K.take p ++ ((K.drop p).take n ++ K.drop (p + n)) := by
    rw [← List.drop_drop, List.take_append_drop, List.take_append_drop]
  have f1 : rangeL low high (K.take p) = [] := by
    unfold rangeL
    rw [List.filter_eq_nil_iff]
    intro x hx
    obtain ⟨i, h1, h2, rfl⟩ := take_mem hx
    have := hbel i h1
    generalize K.getD i 0 = z at this ⊢
    simp [inB]
    omega
  have f2 : rangeL low high ((K.drop p).take n) = (K.drop p).take n := by
    unfold rangeL
    refine filter_all (fun x hx => ?_)
    have h1 := hle x hx
    obtain ⟨i, h2, h3, rfl⟩ := drop_mem (List.mem_of_mem_take hx)
    have := hlow i h2 h3
    exact inB_true this h1
  have f3 : rangeL low high (K.drop (p + n)) = [] := by
    unfold rangeL
    rw [List.filter_eq_nil_iff]
    intro x hx
    obtain ⟨i, h1, h2, rfl⟩ := drop_mem hx
    rcases hend with h | ⟨h, hh⟩
    · omega
    · have := sorted_le hs h1 h2
      generalize K.getD i 0 = z at this ⊢
      generalize K.getD (p + n) 0 = z2 at this hh
      simp [inB]
      omega
  have : rangeL low high K = rangeL low high (K.take p ++ ((K.drop p).take n ++ K.drop (p + n))) := by rw [← e]
  rw [this]
  unfold rangeL at f1 f2 f3 ⊢
  rw [List.filter_append, List.filter_append, f1, f2, f3]
  simp
end Go.Proofs.YticfkfjijnfcbaaDoor
