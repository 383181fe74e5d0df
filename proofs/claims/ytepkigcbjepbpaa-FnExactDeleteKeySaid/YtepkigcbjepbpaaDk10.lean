/- Whether a tree is valid for some width: the program. -/
import Derived.Test.YtepkigcbjepbpaaProg
import Derived.Test.YtepkigcbjepbpaaDk0
import Derived.Test.YtepkigcbjepbpaaDk2
import Derived.Test.YtepkigcbjepbpaaDk3
import Derived.Test.YtepkigcbjepbpaaKeys
import Derived.Test.YtepkigcbjepbpaaDk8
import Derived.Test.YtepkigcbjepbpaaDk7

/- How many keys the fullest leaf has; the model's RoomOf. -/
namespace Go.Proofs.Ytepkigcbjepbpaa
open Go.RowKit

namespace Tr
mutual
/-- How many keys the leaf has that has most. -/
def leafMax : Tr → Nat
  | .mk k c => max (if c.length = 0 then k.length else 0) (leafMaxs c)
def leafMaxs : List Tr → Nat
  | [] => 0
  | t :: r => max (leafMax t) (leafMaxs r)
end
theorem leafMaxs_append (a b : List Tr) : leafMaxs (a ++ b) = max (leafMaxs a) (leafMaxs b) := by
  induction a with
  | nil => simp [leafMaxs]
  | cons t r ih => simp only [leafMaxs, ih, List.cons_append]; omega
theorem leafMaxs_take_succ (cs : List Tr) (j : Nat) (h : j < cs.length) : leafMaxs (cs.take (j + 1)) = max (leafMaxs (cs.take j)) cs[j].leafMax := by
  rw [List.take_succ_eq_append_getElem h, leafMaxs_append]; simp [leafMaxs]
theorem leafMax_get (cs : List Tr) (j : Nat) (h : j < cs.length) : cs[j].leafMax ≤ leafMaxs cs := by
  induction cs generalizing j with
  | nil => simp at h
  | cons t r ih =>
    cases j with
    | zero => simp only [leafMaxs, List.getElem_cons_zero]; omega
    | succ j => have := ih j (by simpa using h); simp only [leafMaxs, List.getElem_cons_succ]; omega
mutual
theorem leafMax_le {wide : Int} (h0 : 0 ≤ wide) : ∀ (t : Tr) (least depth : Int), nodesB wide least depth t = true → (t.leafMax : Int) ≤ wide
  | .mk k c, least, depth, h => by
    simp only [nodesB, Bool.and_eq_true, Bool.or_eq_true] at h
    have h1 : (k.length : Int) ≤ wide := by have := h.1.1; simp [inB] at this; omega
    rcases h.2 with h2 | h2
    · have hc : c = [] := by simpa using h2
      subst hc
      simp [leafMax, leafMaxs]; omega
    · have := leafMaxs_le h0 c _ h2.2
      simp only [leafMax]
      split <;> omega
theorem leafMaxs_le {wide : Int} (h0 : 0 ≤ wide) : ∀ (c : List Tr) (depth : Int), nodesAllB wide depth c = true → (leafMaxs c : Int) ≤ wide
  | [], depth, _ => by simpa [leafMaxs] using h0
  | t :: r, depth, h => by
    simp only [nodesAllB, Bool.and_eq_true] at h
    have h1 := leafMax_le h0 t _ _ h.1
    have h2 := leafMaxs_le h0 r _ h.2
    simp only [leafMaxs]; omega
end
/-- What RoomOf tells. -/
def roomB (wide : Int) (t : Tr) : Int := if validB wide t then wide - t.leafMax else -1
theorem valid_wide {wide : Int} {t : Tr} (h : validB wide t = true) : 2 ≤ wide ∧ wide ≤ 6 := by
  simp only [validB, Bool.and_eq_true, inB, decide_eq_true_eq] at h
  exact h.1
theorem valid_leafMax {wide : Int} {t : Tr} (h : validB wide t = true) : (t.leafMax : Int) ≤ wide := by
  have := valid_wide h
  simp only [validB, Bool.and_eq_true] at h
  exact leafMax_le (by omega) t _ _ h.2.1
end Tr



end Go.Proofs.Ytepkigcbjepbpaa

/- A tree that is valid for some width has few keys. -/
namespace Go.Proofs.Ytepkigcbjepbpaa
open Go.RowKit

namespace Tr
theorem keys_length (k : List Int) (c : List Tr) : (Tr.mk k c).keys.length = lens (keyss c) + k.length := by
  have hk := length_keyss c
  simp only [keys, upto_length]
  rw [List.take_of_length_le (by omega), List.take_of_length_le (by omega)]
mutual
theorem small {wide : Int} (h2 : 2 ≤ wide) : ∀ (t : Tr) (d : Int), nodesB wide (wide / 2) d t = true → t.weight + 1 ≤ 2 * t.keys.length
  | .mk k c, d, h => by
    simp only [nodesB, Bool.and_eq_true, Bool.or_eq_true] at h
    have h1 : wide / 2 ≤ (k.length : Int) := by have := h.1.1; simp [inB] at this; omega
    rw [keys_length]
    simp only [weight]
    rcases h.2 with h3 | h3
    · have hc : c = [] := by simpa using h3
      subst hc
      simp [weights, keyss, lens]; omega
    · have := smalls h2 c _ h3.2
      omega
theorem smalls {wide : Int} (h2 : 2 ≤ wide) : ∀ (c : List Tr) (d : Int), nodesAllB wide d c = true → weights c ≤ 2 * lens (keyss c)
  | [], d, _ => by simp [weights]
  | t :: r, d, h => by
    simp only [nodesAllB, Bool.and_eq_true] at h
    have h3 := small h2 t _ h.1
    have h4 := smalls h2 r _ h.2
    simp only [weights, keyss, lens]; omega
end
theorem few : ∀ (l : List Int) (lo : Int), l.Pairwise (· < ·) → (∀ x, x ∈ l → lo ≤ x ∧ x ≤ 99) → (l.length : Int) ≤ max 0 (100 - lo)
  | [], lo, _, _ => by simp; omega
  | a :: r, lo, hp, hm => by
    rw [List.pairwise_cons] at hp
    have h1 := hm a (by simp)
    have h2 := few r (a + 1) hp.2 (fun x hx => ⟨by have := hp.1 x hx; omega, (hm x (by simp [hx])).2⟩)
    simp only [List.length_cons]
    omega
theorem sorted_mem {ks : List Int} (h : sortedB ks = true) : ∀ x, x ∈ ks → 0 ≤ x ∧ x ≤ 99 := fun x hx => by
  obtain ⟨i, hi, rfl⟩ := List.mem_iff_getElem.1 hx
  simp only [sortedB, List.all_eq_true, List.mem_range] at h
  have h1 := h i hi
  simp only [okAt, Bool.and_eq_true, inB, decide_eq_true_eq] at h1
  have h2 := h1.1
  simpa [List.getD_eq_getElem?_getD, hi] using h2
theorem valid_keys {wide : Int} {t : Tr} (h : validB wide t = true) : sortedB t.keys = true := by
  simp only [validB, Bool.and_eq_true] at h; exact h.2.2
theorem valid_well {wide : Int} {t : Tr} (h : validB wide t = true) : Well t := by
  have h' := h
  simp only [validB, Bool.and_eq_true] at h'
  exact ⟨⟨wide, 0, _, h'.2.1⟩, pairwise_of_sorted h'.2.2⟩
theorem valid_small {wide : Int} {t : Tr} (h : validB wide t = true) : t.weight ≤ 200 := by
  have hk := valid_keys h
  have hf := few t.keys 0 (pairwise_of_sorted hk) (sorted_mem hk)
  have hw := valid_wide h
  simp only [validB, Bool.and_eq_true] at h
  cases t with
  | mk k c =>
    rw [keys_length] at hf
    have h' := h.2.1
    simp only [nodesB, Bool.and_eq_true, Bool.or_eq_true] at h'
    simp only [weight]
    rcases h'.2 with h3 | h3
    · have hc : c = [] := by simpa using h3
      subst hc
      simp [weights] at hf ⊢; omega
    · have := smalls hw.1 c _ h3.2
      omega
end Tr
end Go.Proofs.Ytepkigcbjepbpaa

/- Whether a tree is valid for some width: the program. -/
namespace Go.Proofs.Ytepkigcbjepbpaa
open Go.RowKit

set_option maxRecDepth 100000 in
set_option maxHeartbeats 1000000 in
theorem validForSome_c {w : World} {B : Nat} {kv cv : Value} {t : Tr} (ht : TreeIn w B kv cv t) (hw : t.weight ≤ 1048576) (w' : World) (hbw : Below B w w') (hB : B ≤ w'.heap.size) :
    Calls Try.prog 59 #[.agg #[kv, cv]] w' fun e w'' => e = .returned (.bool t.someB) ∧ Below w'.heap.size w' w'' := by
  obtain ⟨a5, n5, m5, a6, n6, m6, rfl, rfl⟩ := ht.slices
  obtain ⟨W1, hW1⟩ : ∃ W1, W1 = w'.alloc (.cells #[.slice a5 n5 m5, .slice a6 n6 m6] 29) := ⟨_, rfl⟩
  have hs1 : W1.heap.size = w'.heap.size + 1 := by rw [hW1]; simp
  have hb1 : Below w'.heap.size w' W1 := by rw [hW1]; exact (Below.refl _ _).alloc (Nat.le_refl _) _
  have kb : W1.heap[w'.heap.size]? = some (.cells #[.slice a5 n5 m5, .slice a6 n6 m6] 29 (0, 0)) := by rw [hW1, new_blk]
  have HT := Lib.hid ht
  have HBW := Lib.hid hbw
  have HW1 := Lib.hid hW1
  have H1 := Lib.hid (And.intro hb1 kb)
  have hsb := someB_of t
  have HSB := Lib.hid hsb
  clear ht hbw hW1 hb1 kb hsb
  go_enter Try.func59, Try.ntmps59
  go_wp2_with fail
  rw [← HW1.out]
  go_loopw [3] (fun i wr => ∃ (j : Nat), 2 ≤ j ∧ j ≤ 7 ∧ i = .int .i64 j ∧ (∀ q : Nat, 2 ≤ q → q < j → Tr.validB q t = false) ∧ Below W1.heap.size W1 wr) (fun i _ => 7 - (intOf i).toNat)
  case atStart => exact ⟨2, Nat.le_refl _, by omega, rfl, fun q h1 h2 => by omega, Below.refl _ _⟩
  case round =>
    obtain ⟨j, hj2, hj7, rfl, hall, hbel⟩ := hrel
    have hsr := hbel.size
    obtain ⟨x1, x2, x3, x4⟩ := box2 ((hbel.block w'.heap.size (by omega)).trans H1.out.2)
    have HALL := Lib.hid hall
    have HBEL := Lib.hid hbel
    clear hall hbel
    by_cases hlt : j ≤ 6
    · have hlt' : (j : Int) ≤ 6 := by omega
      go_wp2_with fail
      refine (impl_valid _ _ _ _ _ (j : Int) HT.out hw (by omega) (by omega) wr (HBW.out.trans ((H1.out.1.mono hB).trans (HBEL.out.mono (by omega)))) (by omega)).mono ?_
      rintro e w2 ⟨rfl, hb2⟩
      have HB2 := Lib.hid (HBEL.out.trans (hb2.mono hsr))
      clear hb2
      cases hv : Tr.validB j t with
      | true =>
        have hso := HSB.out.1 j hj2 (by omega) hv
        have HSO := Lib.hid hso
        have HV := Lib.hid hv
        clear hso hv
        go_wp2_with fail
        go_ret
        exact ⟨ret_bool HSO.out.symm, H1.out.1.trans (HB2.out.mono (by omega))⟩
      | false =>
        have HV := Lib.hid hv
        clear hv
        go_wp2_with fail
        go_roundw
        case rel =>
          refine ⟨j + 1, by omega, by omega, by go_num, fun q h1 h2 => ?_, HB2.out⟩
          by_cases hq : q = j
          · rw [hq]; exact HV.out
          · exact HALL.out q h1 (by omega)
        case measure => simp [intOf]; omega
    · have hlt' : ¬ (j : Int) ≤ 6 := by omega
      have hso := HSB.out.2 (fun q h1 h2 => HALL.out q h1 (by omega))
      have HSO := Lib.hid hso
      clear hso
      go_wp2_with fail
      go_ret
      exact ⟨ret_bool HSO.out.symm, H1.out.1.trans (HBEL.out.mono (by omega))⟩
end Go.Proofs.Ytepkigcbjepbpaa
