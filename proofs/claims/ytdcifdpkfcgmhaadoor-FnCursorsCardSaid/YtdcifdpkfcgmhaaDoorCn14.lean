/- The laws' own comparing of cursors. -/
import Derived.Test.YtdcifdpkfcgmhaaDoorProg
import Derived.Test.YtdcifdpkfcgmhaaDoorCn0
import Derived.Test.YtdcifdpkfcgmhaaDoorCn12
import Derived.Test.YtdcifdpkfcgmhaaDoorCnS3
import Derived.Test.YtdcifdpkfcgmhaaDoorCnS4
import Derived.Test.YtdcifdpkfcgmhaaDoorCn13
import Derived.Test.YtdcifdpkfcgmhaaDoorCnS10
import Derived.Deep.QuietTactic
import Derived.BigQuiet
import Derived.WalkSmall

/- Whether a tree is valid for some width: the model. -/
namespace Go.Proofs.YtdcifdpkfcgmhaaDoor
open Go.RowKit

/-- Valid for some width. -/
def Tr.someB (t : Tr) : Bool := Tr.validB 2 t || Tr.validB 3 t || Tr.validB 4 t || Tr.validB 5 t || Tr.validB 6 t
theorem someB_of (t : Tr) : (∀ q : Nat, 2 ≤ q → q ≤ 6 → Tr.validB q t = true → t.someB = true) ∧ ((∀ q : Nat, 2 ≤ q → q ≤ 6 → Tr.validB q t = false) → t.someB = false) := by
  constructor
  · intro q h1 h2 h
    have hq : q = 2 ∨ q = 3 ∨ q = 4 ∨ q = 5 ∨ q = 6 := by omega
    unfold Tr.someB
    rcases hq with rfl | rfl | rfl | rfl | rfl
    · have h' : Tr.validB 2 t = true := h
      simp [h']
    · have h' : Tr.validB 3 t = true := h
      simp [h']
    · have h' : Tr.validB 4 t = true := h
      simp [h']
    · have h' : Tr.validB 5 t = true := h
      simp [h']
    · have h' : Tr.validB 6 t = true := h
      simp [h']
  · intro h
    have a2 : Tr.validB 2 t = false := h 2 (by omega) (by omega)
    have a3 : Tr.validB 3 t = false := h 3 (by omega) (by omega)
    have a4 : Tr.validB 4 t = false := h 4 (by omega) (by omega)
    have a5 : Tr.validB 5 t = false := h 5 (by omega) (by omega)
    have a6 : Tr.validB 6 t = false := h 6 (by omega) (by omega)
    unfold Tr.someB
    simp [a2, a3, a4, a5, a6]

set_option maxRecDepth 100000 in
set_option maxHeartbeats 1000000 in
theorem l2Valid_c {w : World} {B : Nat} {kv cv : Value} {t : Tr} (ht : TreeIn w B kv cv t) (hw : t.weight ≤ 1048576) (w' : World) (hbw : Below B w w') (hB : B ≤ w'.heap.size) :
    Calls Tryd.prog 57 #[.agg #[kv, cv]] w' fun e w'' => e = .returned (.bool t.someB) ∧ Below w'.heap.size w' w'' := by
  obtain ⟨a5, n5, m5, a6, n6, m6, rfl, rfl⟩ := ht.slices
  obtain ⟨W1, hW1⟩ : ∃ W1, W1 = w'.alloc (.cells #[.slice a5 n5 m5, .slice a6 n6 m6] 33) := ⟨_, rfl⟩
  have hs1 : W1.heap.size = w'.heap.size + 1 := by rw [hW1]; simp
  have hb1 : Below w'.heap.size w' W1 := by rw [hW1]; exact (Below.refl _ _).alloc (Nat.le_refl _) _
  have kb : W1.heap[w'.heap.size]? = some (.cells #[.slice a5 n5 m5, .slice a6 n6 m6] 33 (0, 0)) := by rw [hW1, new_blk]
  have HT := Lib.hid ht
  have HBW := Lib.hid hbw
  have HW1 := Lib.hid hW1
  have H1 := Lib.hid (And.intro hb1 kb)
  have hsb := someB_of t
  have HSB := Lib.hid hsb
  clear ht hbw hW1 hb1 kb hsb
  go_enter Tryd.func57, Tryd.ntmps57
  go_wp2_with fail
  rw [← HW1.out]
  go_loopw [3] (fun i wr => ∃ (j : Nat), 2 ≤ j ∧ j ≤ 7 ∧ i = .int .i64 j ∧ (∀ q : Nat, 2 ≤ q → q < j → Tr.validB q t = false) ∧ Below W1.heap.size W1 wr) (fun i _ => 7 - (intOf i).toNat)
  case atStart => exact ⟨2, Nat.le_refl _, by omega, rfl, fun q h1 h2 => by omega, Below.refl _ _⟩
  case round =>
    obtain ⟨j, hj2, hj7, rfl, hall, hbel⟩ := hrel
    have hsr := hbel.size
    obtain ⟨x1, x2, x3, x4⟩ := box2 ((hbel.block w'.heap.size (by omega)).trans H1.out.2)
    have HALL := Lib.hid hall
    have HBEL := Lib.hid hbel
    clear hall hbel
    by_cases hlt : j ≤ 6
    · have hlt' : (j : Int) ≤ 6 := by omega
      go_wp2_with fail
      refine (specTreeValid_c HT.out hw (j : Int) wr (HBW.out.trans ((H1.out.1.mono hB).trans (HBEL.out.mono (by omega)))) (by omega)).mono ?_
      rintro e w2 ⟨rfl, hb2⟩
      have HB2 := Lib.hid (HBEL.out.trans (hb2.mono hsr))
      clear hb2
      cases hv : Tr.validB j t with
      | true =>
        have hso := HSB.out.1 j hj2 (by omega) hv
        have HSO := Lib.hid hso
        have HV := Lib.hid hv
        clear hso hv
        go_wp2_with fail
        go_ret
        exact ⟨ret_bool HSO.out.symm, H1.out.1.trans (HB2.out.mono (by omega))⟩
      | false =>
        have HV := Lib.hid hv
        clear hv
        go_wp2_with fail
        go_roundw
        case rel =>
          refine ⟨j + 1, by omega, by omega, by go_num, fun q h1 h2 => ?_, HB2.out⟩
          by_cases hq : q = j
          · rw [hq]; exact HV.out
          · exact HALL.out q h1 (by omega)
        case measure => simp [intOf]; omega
    · have hlt' : ¬ (j : Int) ≤ 6 := by omega
      have hso := HSB.out.2 (fun q h1 h2 => HALL.out q h1 (by omega))
      have HSO := Lib.hid hso
      clear hso
      go_wp2_with fail
      go_ret
      exact ⟨ret_bool HSO.out.symm, H1.out.1.trans (HBEL.out.mono (by omega))⟩

end Go.Proofs.YtdcifdpkfcgmhaaDoor

/- Finding: plain data: places in a node, the way down. -/
namespace Go.Proofs.YtdcifdpkfcgmhaaDoor
open Go.RowKit

/-- How many keys stand ahead of the first that is not less than a number. -/
def place (key : Int) : List Int → Nat
  | [] => 0
  | k :: r => if k < key then place key r + 1 else 0

theorem place_le (key : Int) (ks : List Int) : place key ks ≤ ks.length := by
  induction ks with
  | nil => simp [place]
  | cons k r ih => simp only [place, List.length_cons]; split <;> omega

theorem place_eq {key : Int} : ∀ {ks : List Int} {j : Nat}, j ≤ ks.length → (∀ i, i < j → ks.getD i 0 < key) → (j < ks.length → ¬ ks.getD j 0 < key) → place key ks = j
  | [], j, h, _, _ => by simp at h; simp [place, h]
  | k :: r, 0, _, _, h2 => by
    have := h2 (by simp)
    simp only [List.getD_cons_zero] at this
    simp [place, this]
  | k :: r, j + 1, h, h1, h2 => by
    have h0 := h1 0 (by omega)
    simp only [List.getD_cons_zero] at h0
    have := place_eq (key := key) (ks := r) (j := j) (by simpa using h) (fun i hi => by have := h1 (i + 1) (by omega); simpa using this) (fun hj => by have := h2 (by simpa using hj); simpa using this)
    simp [place, h0, this]

namespace Tr
def ks : Tr → List Int | .mk k _ => k
def cs : Tr → List Tr | .mk _ c => c
mutual
/-- Which kids one goes to, and whether the key is there. -/
def path (key : Int) : Tr → List Int × Bool
  | .mk k c =>
    if place key k < k.length ∧ k.getD (place key k) 0 = key then ([], true)
    else if c.length = 0 then ([], false)
    else ((place key k : Int) :: ((paths key c).getD (place key k) ([], false)).1, ((paths key c).getD (place key k) ([], false)).2)
def paths (key : Int) : List Tr → List (List Int × Bool)
  | [] => []
  | t :: r => path key t :: paths key r
end
theorem paths_get (key : Int) (c : List Tr) (i : Nat) (h : i < c.length) : (paths key c).getD i ([], false) = c[i].path key := by
  induction c generalizing i with
  | nil => simp at h
  | cons t r ih =>
    cases i with
    | zero => simp [paths]
    | succ i => simpa [paths] using ih i (by simpa using h)
theorem path_found {key : Int} {k : List Int} {c : List Tr} (h : place key k < k.length ∧ k.getD (place key k) 0 = key) : (Tr.mk k c).path key = ([], true) := by
  rw [path, if_pos h]
theorem path_leaf {key : Int} {k : List Int} {c : List Tr} (h : ¬ (place key k < k.length ∧ k.getD (place key k) 0 = key)) (h0 : c.length = 0) : (Tr.mk k c).path key = ([], false) := by
  rw [path, if_neg h, if_pos h0]
theorem path_inner {key : Int} {k : List Int} {c : List Tr} (h : ¬ (place key k < k.length ∧ k.getD (place key k) 0 = key)) (hi : place key k < c.length) :
    (Tr.mk k c).path key = ((place key k : Int) :: (c[place key k].path key).1, (c[place key k].path key).2) := by
  rw [path, if_neg h, if_neg (by omega), paths_get key c _ hi]
theorem paths_length (key : Int) (c : List Tr) : (paths key c).length = c.length := by
  induction c with
  | nil => rfl
  | cons t r ih => simp only [paths, List.length_cons, ih]
theorem path_len' (key : Int) : ∀ (n : Nat) (t : Tr), t.weight ≤ n → (t.path key).1.length ≤ t.weight
  | n, .mk k c, hn => by
    rw [path]
    split
    · simp
    · split
      · simp
      · simp only [List.length_cons, weight] at *
        by_cases hi : place key k < c.length
        · rw [paths_get key c _ hi]
          have h1 := weight_get_le c _ hi
          cases n with
          | zero => omega
          | succ n =>
            have := path_len' key n c[place key k] (by omega)
            omega
        · have h2 := paths_length key c
          rw [List.getD_eq_getElem?_getD, List.getElem?_eq_none (by omega)]
          have := length_le_weights c
          simp; omega
theorem path_len (key : Int) (t : Tr) : (t.path key).1.length ≤ t.weight := path_len' key t.weight t (Nat.le_refl _)
/-- The path in a tree that is valid for some width. -/
def pathB (key : Int) (t : Tr) : List Int × Bool := if t.someB then t.path key else ([], false)

/-- Each node has one kid more than keys, or none; and its keys ascend. -/
def Well (t : Tr) : Prop := (∃ wide least d, nodesB wide least d t = true) ∧ t.keys.Pairwise (· < ·)

theorem Well.inner {k : List Int} {c : List Tr} (h : Well (.mk k c)) (h0 : c.length ≠ 0) : c.length = k.length + 1 := by
  obtain ⟨⟨w, l, d, h⟩, _⟩ := h
  rcases (nodesB_parts h).2 with ⟨h1, _⟩ | ⟨_, _, h3, _⟩
  · exact absurd h1 h0
  · exact h3

theorem part_sub (kss : List (List Int)) (ks : List Int) (n i : Nat) (h : i < n) : (part kss ks i).Sublist (upto kss ks n) := by
  induction n with
  | zero => omega
  | succ n ih =>
    rw [upto_succ]
    by_cases hi : i < n
    · exact (ih hi).trans (List.sublist_append_left _ _)
    · obtain rfl : i = n := by omega
      exact List.sublist_append_right _ _

theorem kid_sub {k : List Int} {c : List Tr} (i : Nat) (hi : i < c.length) : (c[i].keys).Sublist (Tr.mk k c).keys := by
  have h := part_sub (keyss c) k (max k.length c.length) i (by omega)
  refine List.Sublist.trans ?_ h
  unfold part
  rw [keyss_get c i hi]
  exact List.sublist_append_left _ _

theorem take_sub (kss : List (List Int)) (ks : List Int) (n : Nat) : (ks.take n).Sublist (upto kss ks n) := by
  induction n with
  | zero => simp
  | succ n ih =>
    rw [upto_succ, List.take_add_one]
    refine List.Sublist.append ih ?_
    unfold part
    exact List.sublist_append_right _ _

theorem own_sub (k : List Int) (c : List Tr) : k.Sublist (Tr.mk k c).keys := by
  have h := take_sub (keyss c) k (max k.length c.length)
  rw [List.take_of_length_le (by omega)] at h
  exact h

theorem Well.keys {k : List Int} {c : List Tr} (h : Well (.mk k c)) : k.Pairwise (· < ·) := h.2.sublist (own_sub k c)

theorem Well.kid {k : List Int} {c : List Tr} (h : Well (.mk k c)) (i : Nat) (hi : i < c.length) : Well c[i] := by
  obtain ⟨⟨w, l, d, hn⟩, hp⟩ := h
  rcases (nodesB_parts hn).2 with ⟨h1, _⟩ | ⟨_, _, _, _, h5⟩
  · omega
  · exact ⟨⟨_, _, _, h5 i hi⟩, hp.sublist (kid_sub i hi)⟩

theorem pairwise_of_sorted {ks : List Int} (h : sortedB ks = true) : ks.Pairwise (· < ·) := by
  have hstep : ∀ i, i + 1 < ks.length → ks.getD i 0 < ks.getD (i + 1) 0 := fun i hi => by
    have h1 := okAt_get h (i + 1) hi
    simp only [okAt, inB, Bool.and_eq_true, decide_eq_true_eq, Bool.or_eq_true, Nat.add_sub_cancel] at h1
    omega
  have hall : ∀ d i, i + d + 1 < ks.length → ks.getD i 0 < ks.getD (i + d + 1) 0 := by
    intro d
    induction d with
    | zero => intro i hi; exact hstep i hi
    | succ d ih => intro i hi; have := ih i (by omega); have := hstep (i + d + 1) (by omega); rw [show i + (d + 1) + 1 = i + d + 1 + 1 by omega]; omega
  rw [List.pairwise_iff_getElem]
  intro i j hi hj hij
  have := hall (j - i - 1) i (by omega)
  rw [show i + (j - i - 1) + 1 = j by omega] at this
  simpa [List.getD_eq_getElem?_getD, hi, hj] using this

theorem Well.of_some {t : Tr} (h : t.someB = true) : Well t := by
  have hv : ∃ w : Int, validB w t = true := by
    unfold someB at h
    simp only [Bool.or_eq_true] at h
    rcases h with (((h | h) | h) | h) | h
    all_goals exact ⟨_, h⟩
  obtain ⟨w, hv⟩ := hv
  unfold validB at hv
  simp only [Bool.and_eq_true] at hv
  exact ⟨⟨w, 0, _, hv.2.1⟩, pairwise_of_sorted hv.2.2⟩
end Tr

theorem someB_path (key : Int) (t : Tr) : (t.someB = true → t.pathB key = t.path key) ∧ (t.someB = false → t.pathB key = ([], false)) := by
  unfold Tr.pathB
  constructor <;> intro h <;> simp [h]
end Go.Proofs.YtdcifdpkfcgmhaaDoor

/- A tree that is valid for some width has few keys. -/
namespace Go.Proofs.YtdcifdpkfcgmhaaDoor
open Go.RowKit

namespace Tr
theorem keys_length (k : List Int) (c : List Tr) : (Tr.mk k c).keys.length = lens (keyss c) + k.length := by
  have hk := length_keyss c
  simp only [keys, upto_length]
  rw [List.take_of_length_le (by omega), List.take_of_length_le (by omega)]
mutual
theorem small {wide : Int} (h2 : 2 ≤ wide) : ∀ (t : Tr) (d : Int), nodesB wide (wide / 2) d t = true → t.weight + 1 ≤ 2 * t.keys.length
  | .mk k c, d, h => by
    simp only [nodesB, Bool.and_eq_true, Bool.or_eq_true] at h
    have h1 : wide / 2 ≤ (k.length : Int) := by have := h.1.1; simp [inB] at this; omega
    rw [keys_length]
    simp only [weight]
    rcases h.2 with h3 | h3
    · have hc : c = [] := by simpa using h3
      subst hc
      simp [weights, keyss, lens]; omega
    · have := smalls h2 c _ h3.2
      omega
theorem smalls {wide : Int} (h2 : 2 ≤ wide) : ∀ (c : List Tr) (d : Int), nodesAllB wide d c = true → weights c ≤ 2 * lens (keyss c)
  | [], d, _ => by simp [weights]
  | t :: r, d, h => by
    simp only [nodesAllB, Bool.and_eq_true] at h
    have h3 := small h2 t _ h.1
    have h4 := smalls h2 r _ h.2
    simp only [weights, keyss, lens]; omega
end
theorem few : ∀ (l : List Int) (lo : Int), l.Pairwise (· < ·) → (∀ x, x ∈ l → lo ≤ x ∧ x ≤ 99) → (l.length : Int) ≤ max 0 (100 - lo)
  | [], lo, _, _ => by simp; omega
  | a :: r, lo, hp, hm => by
    rw [List.pairwise_cons] at hp
    have h1 := hm a (by simp)
    have h2 := few r (a + 1) hp.2 (fun x hx => ⟨by have := hp.1 x hx; omega, (hm x (by simp [hx])).2⟩)
    simp only [List.length_cons]
    omega
theorem sorted_mem {ks : List Int} (h : sortedB ks = true) : ∀ x, x ∈ ks → 0 ≤ x ∧ x ≤ 99 := fun x hx => by
  obtain ⟨i, hi, rfl⟩ := List.mem_iff_getElem.1 hx
  simp only [sortedB, List.all_eq_true, List.mem_range] at h
  have h1 := h i hi
  simp only [okAt, Bool.and_eq_true, inB, decide_eq_true_eq] at h1
  have h2 := h1.1
  simpa [List.getD_eq_getElem?_getD, hi] using h2
theorem valid_keys {wide : Int} {t : Tr} (h : validB wide t = true) : sortedB t.keys = true := by
  simp only [validB, Bool.and_eq_true] at h; exact h.2.2
theorem valid_well {wide : Int} {t : Tr} (h : validB wide t = true) : Well t := by
  have h' := h
  simp only [validB, Bool.and_eq_true] at h'
  exact ⟨⟨wide, 0, _, h'.2.1⟩, pairwise_of_sorted h'.2.2⟩
theorem valid_small {wide : Int} {t : Tr} (h : validB wide t = true) : t.weight ≤ 200 := by
  have hk := valid_keys h
  have hf := few t.keys 0 (pairwise_of_sorted hk) (sorted_mem hk)
  have hw := valid_wide h
  simp only [validB, Bool.and_eq_true] at h
  cases t with
  | mk k c =>
    rw [keys_length] at hf
    have h' := h.2.1
    simp only [nodesB, Bool.and_eq_true, Bool.or_eq_true] at h'
    simp only [weight]
    rcases h'.2 with h3 | h3
    · have hc : c = [] := by simpa using h3
      subst hc
      simp [weights] at hf ⊢; omega
    · have := smalls hw.1 c _ h3.2
      omega
end Tr
end Go.Proofs.YtdcifdpkfcgmhaaDoor

/- Two lists that are the same: the laws' own function. -/
namespace Go.Proofs.YtdcifdpkfcgmhaaDoor
open Go.RowKit

set_option maxHeartbeats 1000000 in
theorem ftSame_c (ks : List Int) (v v' : Value) (w : World) (B : Nat) (hB : B ≤ w.heap.size) (hk : IntsIn w B v ks) (hk' : IntsIn w B v' ks) :
    Calls Tryd.prog 53 #[v, v'] w fun e w' => e = .returned (.bool true) ∧ Below w.heap.size w w' := by
  obtain ⟨a, cap, rfl, h1, h2, _, h3⟩ := hk
  obtain ⟨a', cap', rfl, h1', h2', _, h3'⟩ := hk'
  unfold maxLen at h2 h2'
  have HK := Lib.hid h3
  have HK' := Lib.hid h3'
  clear h3 h3'
  have heq : ((ks.length : Int) == ks.length) = true := by simp
  have hmin : min (ks.length : Int) (ks.length : Int) = (ks.length : Int) := by simp
  go_enter Tryd.func53, Tryd.ntmps53
  go_wp2_with fail
  go_loopw [5, 11] (fun s5 i wr => ∃ (j : Nat), j ≤ ks.length ∧ i = .int .i64 j ∧ Below w.heap.size w wr) (fun _ i _ => ks.length - (intOf i).toNat)
  case atStart => exact ⟨0, Nat.zero_le _, rfl, Below.refl _ _⟩
  case round =>
    obtain ⟨j, hj, rfl, hbel⟩ := hrel
    by_cases hlt : j < ks.length
    · rcases HK.out with h | ⟨b, off, rfl, hb, hat⟩
      · simp [h] at hlt
      rcases HK'.out with h | ⟨b', off', rfl, hb', hat'⟩
      · simp [h] at hlt
      have ha1 : wr.cell? ⟨b, off + j, none⟩ = some (.int .i64 (ks.getD j 0)) := by rw [below_cell hbel (by omega)]; exact hat j hlt
      have ha2 : wr.cell? ⟨b', off' + j, none⟩ = some (.int .i64 (ks.getD j 0)) := by rw [below_cell hbel (by omega)]; exact hat' j hlt
      have hne2 : ((ks.getD j 0 : Int) != ks.getD j 0) = false := by simp
      have hjl : (j : Int) < (ks.length : Int) := by omega
      clear hat hat'
      generalize ks.getD j 0 = x at ha1 ha2 hne2
      go_wp2_with fail
      go_quiet (fail)
      go_wp2_with fail
      go_roundw
      case rel => exact ⟨j + 1, by omega, by go_num, below_drewN hbel _⟩
      case measure => simp [intOf]; omega
    · obtain rfl : j = ks.length := by omega
      have hjl : ¬ ((ks.length : Nat) : Int) < (ks.length : Int) := by omega
      go_wp2_with fail
      go_ret
      exact ⟨rfl, hbel⟩
end Go.Proofs.YtdcifdpkfcgmhaaDoor

/- The laws' own comparing of cursors. -/
namespace Go.Proofs.YtdcifdpkfcgmhaaDoor
open Go.RowKit

set_option maxHeartbeats 1000000 in
set_option maxRecDepth 100000 in
theorem ftCursor_c (ks : List Int) (v v' : Value) (at' : Int) (w : World) (B : Nat) (hB : B ≤ w.heap.size) (hk : IntsIn w B v ks) (hk' : IntsIn w B v' ks) :
    Calls Tryd.prog 35 #[.agg #[v, .int .i64 at'], .agg #[v', .int .i64 at']] w fun e w' => e = .returned (.bool true) ∧ Below w.heap.size w w' := by
  have HK := Lib.hid hk
  have HK' := Lib.hid hk'
  obtain ⟨va, vcap, rfl, -⟩ := hk
  obtain ⟨vb, vcap', rfl, -⟩ := hk'
  obtain ⟨W2, hW2⟩ : ∃ W2, W2 = ((w.alloc (.cells #[.slice va ks.length vcap, .int .i64 at'] 28)).alloc (.cells #[.slice vb ks.length vcap', .int .i64 at'] 28)) := ⟨_, rfl⟩
  have hb2 : Below w.heap.size w W2 := by rw [hW2]; exact ((Below.refl _ _).alloc (Nat.le_refl _) _).alloc (by simp) _
  have hs2 : W2.heap.size = w.heap.size + 2 := by rw [hW2]; simp
  have k0 : W2.heap[w.heap.size]? = some (.cells #[.slice va ks.length vcap, .int .i64 at'] 28 (0, 0)) := by rw [hW2, old_blk _ _ _ (by simp), new_blk]
  have k1 : W2.heap[w.heap.size + 1]? = some (.cells #[.slice vb ks.length vcap', .int .i64 at'] 28 (0, 0)) := by
    rw [hW2, show w.heap.size + 1 = (w.alloc (.cells #[.slice va ks.length vcap, .int .i64 at'] 28)).heap.size by simp, new_blk]
  have k0x := k0
  have k1x := k1
  rw [hW2] at k0x k1x
  obtain ⟨x1, x2, x3, x4⟩ := box2 k0x
  obtain ⟨y1, y2, y3, y4⟩ := box2 k1x
  have HX := Lib.hid (And.intro hb2 (And.intro hs2 (And.intro k0 k1)))
  have HW2 := Lib.hid hW2
  clear hb2 hs2 k0 k1 k0x k1x hW2
  go_enter Tryd.func35, Tryd.ntmps35
  go_wp2_with fail
  rw [← HW2.out]
  refine (ftSame_c ks _ _ W2 B (by have := HX.out.2.1; omega) (HK.out.later HX.out.1 hB) (HK'.out.later HX.out.1 hB)).mono ?_
  rintro e w3 ⟨rfl, hb3⟩
  have hs2 := HX.out.2.1
  have j0 := (hb3.block w.heap.size (by omega)).trans HX.out.2.2.1
  have j1 := (hb3.block (w.heap.size + 1) (by omega)).trans HX.out.2.2.2
  clear x1 x2 x3 x4 y1 y2 y3 y4
  obtain ⟨x1, x2, x3, x4⟩ := box2 j0
  obtain ⟨y1, y2, y3, y4⟩ := box2 j1
  have heq : (at' == at') = true := by simp
  have H3 := Lib.hid (HX.out.1.trans (hb3.mono (by omega)))
  clear hb3 j0 j1 hs2
  go_wp2_with fail
  go_ret
  exact ⟨rfl, H3.out⟩
end Go.Proofs.YtdcifdpkfcgmhaaDoor
