/- Keys one behind the other, and back: plain data. -/
import Derived.Test.YthiohdbcclbgkaaProg
import Derived.Test.YthiohdbcclbgkaaBase
import Derived.Test.YthiohdbcclbgkaaValid
import Derived.Test.YthiohdbcclbgkaaSorted
import Derived.Test.YthiohdbcclbgkaaKeys
import Derived.Test.YthiohdbcclbgkaaPathData
import Derived.Test.YthiohdbcclbgkaaNa0
import Derived.Test.YthiohdbcclbgkaaFindData
import Derived.Test.YthiohdbcclbgkaaNa16
import Derived.Test.YthiohdbcclbgkaaNa18

/- How many keys the fullest leaf has; the model's RoomOf. -/
namespace Go.Proofs.Ythiohdbcclbgkaa
open Go.RowKit

namespace Tr
mutual
/-- How many keys the leaf has that has most. -/
def leafMax : Tr → Nat
  | .mk k c => max (if c.length = 0 then k.length else 0) (leafMaxs c)
def leafMaxs : List Tr → Nat
  | [] => 0
  | t :: r => max (leafMax t) (leafMaxs r)
end
theorem leafMaxs_append (a b : List Tr) : leafMaxs (a ++ b) = max (leafMaxs a) (leafMaxs b) := by
  induction a with
  | nil => simp [leafMaxs]
  | cons t r ih => simp only [leafMaxs, ih, List.cons_append]; omega
theorem leafMaxs_take_succ (cs : List Tr) (j : Nat) (h : j < cs.length) : leafMaxs (cs.take (j + 1)) = max (leafMaxs (cs.take j)) cs[j].leafMax := by
  rw [List.take_succ_eq_append_getElem h, leafMaxs_append]; simp [leafMaxs]
theorem leafMax_get (cs : List Tr) (j : Nat) (h : j < cs.length) : cs[j].leafMax ≤ leafMaxs cs := by
  induction cs generalizing j with
  | nil => simp at h
  | cons t r ih =>
    cases j with
    | zero => simp only [leafMaxs, List.getElem_cons_zero]; omega
    | succ j => have := ih j (by simpa using h); simp only [leafMaxs, List.getElem_cons_succ]; omega
mutual
theorem leafMax_le {wide : Int} (h0 : 0 ≤ wide) : ∀ (t : Tr) (least depth : Int), nodesB wide least depth t = true → (t.leafMax : Int) ≤ wide
  | .mk k c, least, depth, h => by
    simp only [nodesB, Bool.and_eq_true, Bool.or_eq_true] at h
    have h1 : (k.length : Int) ≤ wide := by have := h.1.1; simp [inB] at this; omega
    rcases h.2 with h2 | h2
    · have hc : c = [] := by simpa using h2
      subst hc
      simp [leafMax, leafMaxs]; omega
    · have := leafMaxs_le h0 c _ h2.2
      simp only [leafMax]
      split <;> omega
theorem leafMaxs_le {wide : Int} (h0 : 0 ≤ wide) : ∀ (c : List Tr) (depth : Int), nodesAllB wide depth c = true → (leafMaxs c : Int) ≤ wide
  | [], depth, _ => by simpa [leafMaxs] using h0
  | t :: r, depth, h => by
    simp only [nodesAllB, Bool.and_eq_true] at h
    have h1 := leafMax_le h0 t _ _ h.1
    have h2 := leafMaxs_le h0 r _ h.2
    simp only [leafMaxs]; omega
end
/-- What RoomOf tells. -/
def roomB (wide : Int) (t : Tr) : Int := if validB wide t then wide - t.leafMax else -1
theorem valid_wide {wide : Int} {t : Tr} (h : validB wide t = true) : 2 ≤ wide ∧ wide ≤ 6 := by
  simp only [validB, Bool.and_eq_true, inB, decide_eq_true_eq] at h
  exact h.1
theorem valid_leafMax {wide : Int} {t : Tr} (h : validB wide t = true) : (t.leafMax : Int) ≤ wide := by
  have := valid_wide h
  simp only [validB, Bool.and_eq_true] at h
  exact leafMax_le (by omega) t _ _ h.2.1
end Tr

set_option maxHeartbeats 1000000 in
theorem specRoom_c {w : World} {B : Nat} {kv cv : Value} {t : Tr} (ht : TreeIn w B kv cv t) (wide : Int) (hwd : 2 ≤ wide ∧ wide ≤ 6) (hw : t.weight ≤ 1048576) (hle : (t.leafMax : Int) ≤ wide) :
    ∀ w', Below B w w' → B ≤ w'.heap.size →
    Calls Try.prog 113 #[.agg #[kv, cv], .int .i64 wide] w' fun e w'' => e = .returned (.int .i64 (wide - t.leafMax)) ∧ Below w'.heap.size w' w'' := by
  induction ht with
  | mk ks cs kv a cap kvs cvs hk hlen hcap hat hkids ih =>
    intro w' hbw hB
    simp only [Tr.weight] at hw
    unfold maxLen at hcap
    obtain ⟨ka, kcap, rfl, k1, k2, _, k3⟩ := hk
    unfold maxLen at k2
    have hl0 := Tr.length_le_weights cs
    have hcl : (Tr.leafMaxs cs : Int) ≤ wide := by simp only [Tr.leafMax] at hle; omega
    have HAT := Lib.hid (hat.later hbw (Nat.le_refl _))
    have IH := Lib.hid ih
    have HKI := Lib.hid hkids
    clear k3 hat ih hkids
    by_cases hc : cs.length = 0
    · have hv : ((Tr.mk ks cs).leafMax : Int) = ks.length := by
        have : cs = [] := List.length_eq_zero_iff.1 hc
        subst this; simp [Tr.leafMax, Tr.leafMaxs]
      have HV := Lib.hid hv
      clear hv hle
      go_enter Try.func113, Try.ntmps113
      go_wp2_with fail
      all_goals (
        go_ret
        exact ⟨ret_int (by rw [HV.out]), (Below.refl _ _).alloc (Nat.le_refl _) _⟩)
    · have hv : ((Tr.mk ks cs).leafMax : Int) = (Tr.leafMaxs cs : Int) := by simp [Tr.leafMax, hc]
      have HV := Lib.hid hv
      have hc0 : ((cs.length : Int) == 0) = false := by simpa using hc
      clear hv hle
      go_enter Try.func113, Try.ntmps113
      go_wp2_with fail
      go_loopw [5, 21] (fun l i wr => ∃ (j : Nat) (L : Int), j ≤ cs.length ∧ i = .int .i64 j ∧ l = .int .i64 L ∧ Hid ((j = 0 ∧ L = -1) ∨ (0 < j ∧ L = wide - (Tr.leafMaxs (cs.take j) : Int))) ∧ Below w'.heap.size w' wr) (fun _ i _ => cs.length - (intOf i).toNat)
      case atStart => exact ⟨0, -1, Nat.zero_le _, rfl, rfl, Lib.hid (.inl ⟨rfl, rfl⟩), (Below.refl _ _).alloc (Nat.le_refl _) _⟩
      case round =>
        obtain ⟨j, L, hj, rfl, rfl, HL, hbel⟩ := hrel
        by_cases hlt : j < cs.length
        · rcases HAT.out with h | ⟨b, off, rfl, hb, hat⟩
          · omega
          obtain ⟨ha, hc⟩ := hat j hlt
          obtain ⟨a1, n1, c1, a2, n2, c2, e1, e2⟩ := (HKI.out j hlt).slices
          rw [← below_cell hbel (by omega)] at ha hc
          rw [e1] at ha
          rw [e2] at hc
          have hz := hbel.size
          have hlm := Tr.leafMax_get cs j hlt
          have hC := fun w1 h1 h2 => IH.out j hlt (by have := Tr.weight_get_le cs j hlt; omega) (by omega) w1 h1 h2
          rw [e1, e2] at hC
          obtain ⟨N, hN⟩ : ∃ N : Int, N = wide - (cs[j].leafMax : Int) := ⟨_, rfl⟩
          rw [← hN] at hC
          have hN0 : 0 ≤ N := by omega
          have hN6 : N ≤ 6 := by omega
          have HN := Lib.hid (And.intro hN (Tr.leafMaxs_take_succ cs j hlt))
          have HC := Lib.hid hC
          clear hat hC e1 e2 hN hlm
          have hcase : (j = 0 ∧ L = -1) ∨ (0 < j ∧ 0 ≤ L ∧ L ≤ 6) := by
            rcases HL.out with h | ⟨h1, h2⟩
            · exact .inl h
            · have : Tr.leafMaxs (cs.take j) ≤ Tr.leafMaxs cs := by
                conv => rhs; rw [← List.take_append_drop j cs, Tr.leafMaxs_append]
                omega
              exact .inr ⟨h1, by omega, by omega⟩
          have hL0 : -1 ≤ L := by omega
          have hL6 : L ≤ 6 := by omega
          have hfN : (L < 0 ∨ N < L) → (j + 1 = 0 ∧ N = -1) ∨ (0 < j + 1 ∧ N = wide - (Tr.leafMaxs (cs.take (j + 1)) : Int)) := fun hx => by
            refine .inr ⟨by omega, ?_⟩
            rw [HN.out.2]
            rcases HL.out with ⟨h5, h6⟩ | ⟨h5, h6⟩
            · subst h5
              simp only [List.take_zero, Tr.leafMaxs]
              have := HN.out.1
              omega
            · have := HN.out.1
              omega
          have hfL : (0 ≤ L ∧ L ≤ N) → (j + 1 = 0 ∧ L = -1) ∨ (0 < j + 1 ∧ L = wide - (Tr.leafMaxs (cs.take (j + 1)) : Int)) := fun hx => by
            refine .inr ⟨by omega, ?_⟩
            rw [HN.out.2]
            rcases HL.out with ⟨h5, h6⟩ | ⟨h5, h6⟩
            · omega
            · have := HN.out.1
              omega
          have FN := Lib.hid hfN
          have FL := Lib.hid hfL
          clear hcase hfN hfL
          go_wp2_with fail
          refine (HC.out _ (hbw.trans ((hbel.alloc hz _).mono hB)) (by simp; omega)).mono ?_
          rintro e w1 ⟨rfl, hb1⟩
          have hb1' : Below w'.heap.size w' w1 := (hbel.alloc hz _).trans (hb1.mono (by simp; omega))
          clear hb1
          go_wp2_with fail
          all_goals (
            go_roundw
            case rel =>
              first
                | exact ⟨j + 1, N, by omega, by go_num, rfl, Lib.hid (FN.out (by omega)), hb1'⟩
                | exact ⟨j + 1, L, by omega, by go_num, rfl, Lib.hid (FL.out (by omega)), hb1'⟩
                | ((repeat apply Exists.intro); exact ⟨⟨j + 1, N, by omega, by go_num, rfl, Lib.hid (FN.out (by omega)), hb1'⟩, rfl⟩)
                | exact ⟨.int .i64 N, _, .int .i64 N, .int .i64 ((j : Int) + 1), ⟨j + 1, by omega, by go_num, N, rfl, Lib.hid (FN.out (by omega))⟩, rfl, rfl, rfl, rfl⟩
                | ((repeat apply Exists.intro); exact ⟨⟨j + 1, L, by omega, by go_num, rfl, Lib.hid (FL.out (by omega)), hb1'⟩, rfl⟩)
            case measure => simp [intOf]; omega)
        · obtain rfl : j = cs.length := by omega
          have hL : L = wide - (Tr.leafMaxs cs : Int) := by
            rcases HL.out with h | ⟨h1, h2⟩
            · omega
            · rw [List.take_length] at h2; exact h2
          have HLE := Lib.hid hL
          clear hL
          go_wp2_with fail
          go_ret
          exact ⟨ret_int (by rw [HV.out]; exact HLE.out), hbel⟩

theorem specRoomOf_c {w : World} {B : Nat} {kv cv : Value} {t : Tr} (ht : TreeIn w B kv cv t) (hw : t.weight ≤ 1048576) (wide : Int) (w' : World) (hbw : Below B w w') (hB : B ≤ w'.heap.size) :
    Calls Try.prog 61 #[.agg #[kv, cv], .int .i64 wide] w' fun e w'' => e = .returned (.int .i64 (Tr.roomB wide t)) ∧ Below w'.heap.size w' w'' := by
  obtain ⟨a5, n5, m5, a6, n6, m6, rfl, rfl⟩ := ht.slices
  have HT := Lib.hid ht
  have HB := Lib.hid hbw
  obtain ⟨W1, hW1⟩ : ∃ W1, W1 = w'.alloc (.cells #[.slice a5 n5 m5, .slice a6 n6 m6] 25) := ⟨_, rfl⟩
  have hs1 : W1.heap.size = w'.heap.size + 1 := by rw [hW1]; simp
  have hb1 : Below w'.heap.size w' W1 := by rw [hW1]; exact (Below.refl _ _).alloc (Nat.le_refl _) _
  have kb : W1.heap[w'.heap.size]? = some (.cells #[.slice a5 n5 m5, .slice a6 n6 m6] 25 (0, 0)) := by rw [hW1, new_blk]
  obtain ⟨x1, x2, x3, x4⟩ := box2 kb
  have HW1 := Lib.hid hW1
  have HB1 := Lib.hid (And.intro hb1 kb)
  clear ht hbw hW1 hb1 kb
  go_enter Try.func61, Try.ntmps61
  go_wp2_with fail
  rw [← HW1.out]
  refine (specTreeValid_c HT.out hw wide W1 (HB.out.trans (HB1.out.1.mono hB)) (by omega)).mono ?_
  rintro e w2 ⟨rfl, hb2⟩
  have hs2 := hb2.size
  clear x1 x2 x3 x4
  obtain ⟨x1, x2, x3, x4⟩ := box2 ((hb2.block _ (by omega)).trans HB1.out.2)
  have hb2' := HB1.out.1.trans (hb2.mono (by omega))
  have HB2 := Lib.hid hb2'
  clear hb2 hb2'
  cases hv : Tr.validB wide t with
  | false =>
    have HV := Lib.hid (show Tr.roomB wide t = -1 by simp [Tr.roomB, hv])
    clear hv
    go_wp2_with fail
    go_ret
    exact ⟨ret_int HV.out.symm, HB2.out⟩
  | true =>
    have hwd := Tr.valid_wide hv
    have hlm := Tr.valid_leafMax hv
    have HV := Lib.hid (show Tr.roomB wide t = wide - t.leafMax by simp [Tr.roomB, hv])
    have HW := Lib.hid hwd
    have HL := Lib.hid hlm
    clear hv hwd hlm
    go_wp2_with fail
    refine (specRoom_c HT.out wide HW.out hw HL.out w2 (HB.out.trans (HB2.out.mono hB)) (by omega)).mono ?_
    rintro e w3 ⟨rfl, hb3⟩
    have HB3 := Lib.hid (HB2.out.trans (hb3.mono (by omega)))
    clear hb3
    go_wp2_with fail
    go_ret
    exact ⟨ret_int HV.out.symm, HB3.out⟩

end Go.Proofs.Ythiohdbcclbgkaa

/- A tree that is valid for some width has few keys. -/
namespace Go.Proofs.Ythiohdbcclbgkaa
open Go.RowKit

namespace Tr
theorem keys_length (k : List Int) (c : List Tr) : (Tr.mk k c).keys.length = lens (keyss c) + k.length := by
  have hk := length_keyss c
  simp only [keys, upto_length]
  rw [List.take_of_length_le (by omega), List.take_of_length_le (by omega)]
mutual
theorem small {wide : Int} (h2 : 2 ≤ wide) : ∀ (t : Tr) (d : Int), nodesB wide (wide / 2) d t = true → t.weight + 1 ≤ 2 * t.keys.length
  | .mk k c, d, h => by
    simp only [nodesB, Bool.and_eq_true, Bool.or_eq_true] at h
    have h1 : wide / 2 ≤ (k.length : Int) := by have := h.1.1; simp [inB] at this; omega
    rw [keys_length]
    simp only [weight]
    rcases h.2 with h3 | h3
    · have hc : c = [] := by simpa using h3
      subst hc
      simp [weights, keyss, lens]; omega
    · have := smalls h2 c _ h3.2
      omega
theorem smalls {wide : Int} (h2 : 2 ≤ wide) : ∀ (c : List Tr) (d : Int), nodesAllB wide d c = true → weights c ≤ 2 * lens (keyss c)
  | [], d, _ => by simp [weights]
  | t :: r, d, h => by
    simp only [nodesAllB, Bool.and_eq_true] at h
    have h3 := small h2 t _ h.1
    have h4 := smalls h2 r _ h.2
    simp only [weights, keyss, lens]; omega
end
theorem few : ∀ (l : List Int) (lo : Int), l.Pairwise (· < ·) → (∀ x, x ∈ l → lo ≤ x ∧ x ≤ 99) → (l.length : Int) ≤ max 0 (100 - lo)
  | [], lo, _, _ => by simp; omega
  | a :: r, lo, hp, hm => by
    rw [List.pairwise_cons] at hp
    have h1 := hm a (by simp)
    have h2 := few r (a + 1) hp.2 (fun x hx => ⟨by have := hp.1 x hx; omega, (hm x (by simp [hx])).2⟩)
    simp only [List.length_cons]
    omega
theorem sorted_mem {ks : List Int} (h : sortedB ks = true) : ∀ x, x ∈ ks → 0 ≤ x ∧ x ≤ 99 := fun x hx => by
  obtain ⟨i, hi, rfl⟩ := List.mem_iff_getElem.1 hx
  simp only [sortedB, List.all_eq_true, List.mem_range] at h
  have h1 := h i hi
  simp only [okAt, Bool.and_eq_true, inB, decide_eq_true_eq] at h1
  have h2 := h1.1
  simpa [List.getD_eq_getElem?_getD, hi] using h2
theorem valid_keys {wide : Int} {t : Tr} (h : validB wide t = true) : sortedB t.keys = true := by
  simp only [validB, Bool.and_eq_true] at h; exact h.2.2
theorem valid_well {wide : Int} {t : Tr} (h : validB wide t = true) : Well t := by
  have h' := h
  simp only [validB, Bool.and_eq_true] at h'
  exact ⟨⟨wide, 0, _, h'.2.1⟩, pairwise_of_sorted h'.2.2⟩
theorem valid_small {wide : Int} {t : Tr} (h : validB wide t = true) : t.weight ≤ 200 := by
  have hk := valid_keys h
  have hf := few t.keys 0 (pairwise_of_sorted hk) (sorted_mem hk)
  have hw := valid_wide h
  simp only [validB, Bool.and_eq_true] at h
  cases t with
  | mk k c =>
    rw [keys_length] at hf
    have h' := h.2.1
    simp only [nodesB, Bool.and_eq_true, Bool.or_eq_true] at h'
    simp only [weight]
    rcases h'.2 with h3 | h3
    · have hc : c = [] := by simpa using h3
      subst hc
      simp [weights] at hf ⊢; omega
    · have := smalls hw.1 c _ h3.2
      omega
end Tr
end Go.Proofs.Ythiohdbcclbgkaa

/- Keys one behind the other, and back: plain data. -/
namespace Go.Proofs.Ythiohdbcclbgkaa
open Go.RowKit

def lenOf : Value → Nat | .slice _ n _ => n | _ => 0

/-- A row of one int, just laid, is its holder's own. -/
theorem IntsOwn.one (w : World) (k : Int) (lo : Nat) (h : lo ≤ w.heap.size) : IntsOwn (w.alloc (.cells #[.int .i64 k] 3)) lo (.slice (some ⟨w.heap.size, 0, none⟩) 1 1) [k] :=
  ⟨by simp, .inr ⟨_, 1, #[.int .i64 k], rfl, h, new_blk _ _, Nat.le_refl _, by unfold maxLen; omega, rfl, by simp⟩⟩

/-- Where the walk through the keys stands, ahead and back. -/
def curAt (K : List Int) (j : Nat) : Int := if j = 0 then -1 else K.getD (j - 1) 0
def backAt (K : List Int) (j : Nat) : Int := if j = 0 then 100 else K.getD (K.length - j) 0

theorem getD_mem' {K : List Int} {i : Nat} (h : i < K.length) : K.getD i 0 ∈ K := by
  rw [List.getD_eq_getElem?_getD, List.getElem?_eq_getElem h]
  exact List.getElem_mem h

namespace Tr
theorem some_few {t : Tr} (hs : t.someB = true) : t.keys.length ≤ 100 := by
  have := few t.keys 0 (Well.of_some hs).2 (fun x hx => some_keys hs hx)
  omega
theorem next_cur {t : Tr} (hs : t.someB = true) {j : Nat} (h : j < t.keys.length) : t.nextB (curAt t.keys j) = (t.keys.getD j 0, true) := by
  have hw := (Well.of_some hs).2
  have hp : place (curAt t.keys j + 1) t.keys = j := by
    refine place_eq (by omega) (fun i hi => ?_) (fun _ => ?_)
    · unfold curAt
      rw [if_neg (by omega)]
      by_cases hij : i = j - 1
      · rw [hij]; omega
      · have := sorted_get hw (i := i) (j := j - 1) (by omega) (by omega)
        omega
    · unfold curAt
      by_cases hj : j = 0
      · rw [if_pos hj]
        have := some_keys hs (getD_mem' h)
        omega
      · rw [if_neg hj]
        have := sorted_get hw (i := j - 1) (j := j) (by omega) h
        omega
  rw [(nextB_is _ t).1 hs, find_place, hp, List.getElem?_eq_getElem h]
  simp [optOr, List.getD_eq_getElem?_getD, h]
theorem next_end {t : Tr} (hs : t.someB = true) : t.nextB (curAt t.keys t.keys.length) = (0, false) := by
  have hw := (Well.of_some hs).2
  have hp : place (curAt t.keys t.keys.length + 1) t.keys = t.keys.length := by
    refine place_eq (Nat.le_refl _) (fun i hi => ?_) (fun h => by omega)
    unfold curAt
    rw [if_neg (by omega)]
    by_cases hij : i = t.keys.length - 1
    · rw [hij]; omega
    · have := sorted_get hw (i := i) (j := t.keys.length - 1) (by omega) (by omega)
      omega
  rw [(nextB_is _ t).1 hs, find_place, hp, List.getElem?_eq_none (Nat.le_refl _)]
  rfl
theorem prev_back {t : Tr} (hs : t.someB = true) {j : Nat} (h : j < t.keys.length) : t.prevB (backAt t.keys j) = (t.keys.getD (t.keys.length - j - 1) 0, true) := by
  have hw := (Well.of_some hs).2
  have hp : place (backAt t.keys j) t.keys = t.keys.length - j := by
    unfold backAt
    by_cases hj : j = 0
    · rw [if_pos hj]
      refine place_eq (by omega) (fun i hi => ?_) (fun h => by omega)
      have := some_keys hs (getD_mem' (K := t.keys) (i := i) (by omega))
      omega
    · rw [if_neg hj]
      exact place_get hw (by omega)
  rw [(prevB_is _ t).1 hs, prevOf, hp, if_pos (by omega)]
end Tr

theorem cur_snoc {K : List Int} {j : Nat} (h : j < K.length) : K.take j ++ [K.getD j 0] = K.take (j + 1) := by
  rw [List.take_add_one, List.getElem?_eq_getElem h, List.getD_eq_getElem?_getD, List.getElem?_eq_getElem h]
  rfl
theorem back_cons {K : List Int} {j : Nat} (h : j < K.length) : [K.getD (K.length - j - 1) 0] ++ K.drop (K.length - j) = K.drop (K.length - (j + 1)) := by
  have e : K.length - (j + 1) = K.length - j - 1 := by omega
  have h2 : K.length - j - 1 < K.length := by omega
  rw [e, List.drop_eq_getElem_cons h2, List.getD_eq_getElem?_getD, List.getElem?_eq_getElem h2, show K.length - j - 1 + 1 = K.length - j by omega]
  rfl
theorem cur_succ (K : List Int) (j : Nat) : curAt K (j + 1) = K.getD j 0 := by unfold curAt; simp
theorem back_succ (K : List Int) (j : Nat) : backAt K (j + 1) = K.getD (K.length - j - 1) 0 := by
  unfold backAt
  rw [if_neg (by omega), show K.length - (j + 1) = K.length - j - 1 by omega]
end Go.Proofs.Ythiohdbcclbgkaa
