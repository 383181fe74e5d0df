/- The program's own copy of a tree: nodes behind pointers; how they lie in memory; the contract of slices.Clone at ints. -/
import Derived.Test.YticfkfjijnfcbaaDoorProg
import Derived.Test.YticfkfjijnfcbaaDoorSh0
import Derived.Test.YticfkfjijnfcbaaDoorKeys
import Derived.Test.YticfkfjijnfcbaaDoorSh2
import Derived.Deep.RegionWith
import Derived.Deep.QuietTactic
import Derived.BigQuiet
import Derived.WalkSmall
import Derived.Deep.RegionHeld3
import Derived.Deep.AppendLies
import Derived.Lib.SliceRun

/- The contracts of the model's l1Sorted and TreeValid. -/
namespace Go.Proofs.YticfkfjijnfcbaaDoor
open Go.RowKit

/-- Whether number i of a list is a key, and greater than the one ahead. -/
def okAt (ks : List Int) (i : Nat) : Bool := inB (ks.getD i 0) 0 99 && (decide (i = 0) || decide (ks.getD (i - 1) 0 < ks.getD i 0))
def sortedB (ks : List Int) : Bool := (List.range ks.length).all (okAt ks)
theorem sortedB_of {ks : List Int} (h : ∀ i, i < ks.length → okAt ks i = true) : sortedB ks = true := by
  simp only [sortedB, List.all_eq_true, List.mem_range]; exact h
theorem sortedB_not {ks : List Int} (i : Nat) (hi : i < ks.length) (h : okAt ks i = false) : sortedB ks = false := by
  cases hh : sortedB ks with
  | false => rfl
  | true =>
    simp only [sortedB, List.all_eq_true, List.mem_range] at hh
    rw [hh i hi] at h; cases h

set_option maxHeartbeats 1000000 in
theorem l1Sorted_c (ks : List Int) (v : Value) (w : World) (B : Nat) (_hB : B ≤ w.heap.size) (hk : IntsIn w B v ks) :
    Calls Tryd.prog 129 #[v] w fun e w' => e = .returned (.bool (sortedB ks)) ∧ w = w' := by
  obtain ⟨a, cap, rfl, h1, h2, _, h3⟩ := hk
  unfold maxLen at h2
  have HK := Lib.hid h3
  clear h3
  go_enter Tryd.func129, Tryd.ntmps129
  go_wp2_with fail
  go_loop [7] (fun i => ∃ (j : Nat), j ≤ ks.length ∧ i = .int .i64 j ∧ (∀ i, i < j → okAt ks i = true)) (fun i => ks.length - (intOf i).toNat)
  case atStart => exact ⟨0, Nat.zero_le _, rfl, fun i h => by omega⟩
  case round =>
    obtain ⟨j, hj, rfl, hall⟩ := hrel
    have HALL := Lib.hid hall
    clear hall
    by_cases hlt : j < ks.length
    · rcases HK.out with h | ⟨b, off, rfl, hb, hat⟩
      · simp [h] at hlt
      have ha1 := hat j hlt
      obtain ⟨x, hx⟩ : ∃ x, x = ks.getD j 0 := ⟨_, rfl⟩
      rw [← hx] at ha1
      have HX := Lib.hid hx
      clear hx
      by_cases hin : 0 ≤ x ∧ x ≤ 99
      · have hin' := inB_true hin.1 hin.2
        rcases Nat.eq_zero_or_pos j with hj0 | hj0
        · have hok : okAt ks j = true := by simp only [okAt, ← HX.out, hin']; simp [hj0]
          have HOK := Lib.hid hok
          have hgt : ¬ (0 : Int) < j := by omega
          clear hok hat
          have HJ0 := Lib.hid hj0
          clear hj0
          go_wp2_with fail
          refine (l1In_c x 0 99 _).mono ?_
          rintro e w1 ⟨rfl, rfl⟩
          rw [hin']
          go_wp2_with fail
          go_round
          case rel =>
            refine ⟨j + 1, by omega, by go_num, fun i hi => ?_⟩
            by_cases e : i = j
            · subst e; exact HOK.out
            · exact HALL.out i (by omega)
          case measure => simp [intOf]; omega
        · have ha2 := hat (j - 1) (by omega)
          obtain ⟨y, hy⟩ : ∃ y, y = ks.getD (j - 1) 0 := ⟨_, rfl⟩
          rw [← hy] at ha2
          have HY := Lib.hid hy
          obtain ⟨m, rfl⟩ : ∃ m, j = m + 1 := ⟨j - 1, by omega⟩
          rw [Nat.add_sub_cancel] at ha2
          clear hy hat
          by_cases hyx : y < x
          · have hok : okAt ks (m + 1) = true := by
              have h1 := HY.out; rw [Nat.add_sub_cancel] at h1
              simp only [okAt, ← HX.out, hin', Nat.add_sub_cancel, ← h1]; simp [hyx]
            have HOK := Lib.hid hok
            clear hok
            go_wp2_with fail
            refine (l1In_c x 0 99 _).mono ?_
            rintro e w1 ⟨rfl, rfl⟩
            rw [hin']
            go_wp2_with fail
            go_round
            case rel =>
              refine ⟨m + 1 + 1, by omega, by go_num, fun i hi => ?_⟩
              by_cases e : i = m + 1
              · subst e; exact HOK.out
              · exact HALL.out i (by omega)
            case measure => simp [intOf]; omega
          · have hok : okAt ks (m + 1) = false := by
              have h1 := HY.out; rw [Nat.add_sub_cancel] at h1
              simp only [okAt, ← HX.out, hin', Nat.add_sub_cancel, ← h1]; simp [hyx]
            have HOK := Lib.hid hok
            clear hok
            go_wp2_with fail
            refine (l1In_c x 0 99 _).mono ?_
            rintro e w1 ⟨rfl, rfl⟩
            rw [hin']
            go_wp2_with fail
            go_ret
            exact ⟨ret_bool (sortedB_not _ hlt HOK.out).symm, rfl⟩
      · have hin' := inB_false hin
        have hok : okAt ks j = false := by simp only [okAt, ← HX.out, hin']; rfl
        have HOK := Lib.hid hok
        clear hok hin hat
        go_wp2_with fail
        refine (l1In_c x 0 99 _).mono ?_
        rintro e w1 ⟨rfl, rfl⟩
        rw [hin']
        go_wp2_with fail
        go_ret
        exact ⟨ret_bool (sortedB_not _ hlt HOK.out).symm, rfl⟩
    · obtain rfl : j = ks.length := by omega
      go_wp2_with fail
      go_ret
      exact ⟨ret_bool (sortedB_of (fun i hi => HALL.out i hi)).symm, rfl⟩

/-- The model's TreeValid. -/
def Tr.validB (wide : Int) (t : Tr) : Bool := inB wide 2 6 && (Tr.nodesB wide 0 t.depth t && sortedB t.keys)

theorem l1Wide_is (n : Int) (b : Bool) (h : inB n 2 6 = b) (w : World) : Calls Tryd.prog 126 #[.int .i64 n] w fun e w' => e = .returned (.bool b) ∧ w' = w :=
  (l1Wide_c n w).mono (by rintro e w' ⟨rfl, rfl⟩; exact ⟨by rw [h], rfl⟩)

set_option maxHeartbeats 2000000 in
set_option maxRecDepth 100000 in
theorem specTreeValid_no {kv cv : Value} {t : Tr} (wide : Int) (hwd : inB wide 2 6 = false) (w' : World) :
    Calls Tryd.prog 103 #[.agg #[kv, cv], .int .i64 wide] w' fun e w'' => e = .returned (.bool (Tr.validB wide t)) ∧ Below w'.heap.size w' w'' := by
  have hfin : Tr.validB wide t = false := by simp only [Tr.validB, hwd]; rfl
  have HF := Lib.hid hfin
  have HW := Lib.hid hwd
  clear hfin hwd
  go_enter Tryd.func103, Tryd.ntmps103
  go_wp2_with fail
  go_quiet ((go_at_call 126; exact Calls.quiet_of_same (l1Wide_is wide false HW.out _)))
  go_wp2_with fail
  go_ret
  exact ⟨ret_bool HF.out.symm, below_drewN ((Below.refl _ _).alloc (Nat.le_refl _) _) _⟩

theorem size_le_drew {n : Nat} {w : World} (h : n ≤ w.heap.size) : n ≤ w.drew.heap.size := h

theorem l1Nodes_is (b : Bool) (wide : Int) (hw1 : 2 ≤ wide) (hw2 : wide ≤ 6) {w : World} {B : Nat} {kv cv : Value} {t : Tr} (ht : TreeIn w B kv cv t) (hw : t.weight ≤ 1048576) (depth : Int) (h : Tr.nodesB wide 0 depth t = b)
    (w' : World) (hbw : Below B w w') (hB : B ≤ w'.heap.size) (hd1 : 1 ≤ depth) (hd2 : depth ≤ 1048577) :
    Calls Tryd.prog 127 #[.agg #[kv, cv], .int .i64 wide, .bool true, .int .i64 depth] w' fun e w'' => e = .returned (.bool b) ∧ Below w'.heap.size w' w'' :=
  (l1Nodes_c wide hw1 hw2 ht hw w' true depth hbw hB hd1 hd2).mono (by rintro e w'' ⟨rfl, hb⟩; exact ⟨by rw [← h]; rfl, hb⟩)

set_option maxHeartbeats 4000000 in
set_option maxRecDepth 100000 in
theorem specTreeValid_yes {w : World} {B : Nat} {kv cv : Value} {t : Tr} (ht : TreeIn w B kv cv t) (hw : t.weight ≤ 1048576) (wide : Int) (hwd : inB wide 2 6 = true)
    (hno : Tr.nodesB wide 0 t.depth t = true) (w' : World) (hbw : Below B w w') (hB : B ≤ w'.heap.size) :
    Calls Tryd.prog 103 #[.agg #[kv, cv], .int .i64 wide] w' fun e w'' => e = .returned (.bool (Tr.validB wide t)) ∧ Below w'.heap.size w' w'' := by
  have hfin : Tr.validB wide t = sortedB t.keys := by simp only [Tr.validB, hwd, hno]; rfl
  have hr : 2 ≤ wide ∧ wide ≤ 6 := by simpa [inB] using hwd
  have hd1 : (1 : Int) ≤ (t.depth : Int) := by cases t; simp only [Tr.depth]; omega
  have hd2 : (t.depth : Int) ≤ 1048577 := by have h1 := Tr.depth_le t; have h2 := Tr.count_le t; omega
  have HF := Lib.hid hfin
  have HW := Lib.hid hwd
  have HNO := Lib.hid hno
  have HBW := Lib.hid hbw
  obtain ⟨a1, n1, c1, a2, n2, c2, rfl, rfl⟩ := ht.slices
  obtain ⟨W1, hW1⟩ : ∃ W1, W1 = w'.alloc (.cells #[.slice a1 n1 c1, .slice a2 n2 c2] 33) := ⟨_, rfl⟩
  have hs1 : W1.heap.size = w'.heap.size + 1 := by rw [hW1]; simp
  have hb1 : Below w'.heap.size w' W1 := by rw [hW1]; exact (Below.refl _ _).alloc (Nat.le_refl _) _
  have kb : W1.heap[w'.heap.size]? = some (.cells #[.slice a1 n1 c1, .slice a2 n2 c2] 33 (0, 0)) := by rw [hW1, new_blk]
  have HW1 := Lib.hid hW1
  have HB1 := Lib.hid hb1
  have HKB := Lib.hid kb
  have HS1 := Lib.hid hs1
  obtain ⟨x1, x2, x3, x4⟩ := box2 kb
  clear hfin hwd hno hW1 hb1 kb hs1 hbw
  go_enter Tryd.func103, Tryd.ntmps103
  go_wp2_with fail
  rw [← HW1.out]
  go_region_held3 (fun x => x.cell? ⟨w'.heap.size, 0, none⟩ = some (.slice a1 n1 c1) ∧ x.cell? ⟨w'.heap.size, 1, none⟩ = some (.slice a2 n2 c2))
    (first | exact ⟨x1, x2⟩ | exact ⟨y1, y2⟩ | exact ⟨z1, z2⟩ | exact ⟨v1, v2⟩ | go_keep)
    (first
      | (go_at_call 126; refine (l1Wide_is wide true HW.out _).mono ?_; rintro e w1 ⟨rfl, rfl⟩)
      | (go_at_call 128; refine (specDepth_c ht hw _ (HBW.out.trans (HB1.out.drew.mono hB)) (by have := HS1.out; simp; omega)).mono ?_; rintro e w2 ⟨rfl, hb2⟩; have hs2 := hb2.size; have y0 := (hb2.block w'.heap.size (by have := HS1.out; simp; omega)).trans HKB.out; obtain ⟨y1, y2, y3, y4⟩ := box2 y0; have hb2' := HB1.out.drew.trans (hb2.mono (by have := HS1.out; simp; omega)); have HB2 := Lib.hid hb2'; have HY := Lib.hid y0; have HS2 : Hid (w'.heap.size + 1 ≤ w2.heap.size) := Lib.hid (by have := HS1.out; simp at hs2; omega); clear hb2 hs2 hb2' y0)
      | (go_at_call 127; refine (l1Nodes_is true wide hr.1 hr.2 ht hw _ HNO.out _ (HBW.out.trans (HB2.out.mono hB)) (by have := HS2.out; omega) hd1 hd2).mono ?_; rintro e w3 ⟨rfl, hb3⟩; have hs3 := hb3.size; have z0 := (hb3.block w'.heap.size (by have := HS2.out; omega)).trans HY.out; obtain ⟨z1, z2, z3, z4⟩ := box2 z0; have hb3' := HB2.out.trans (hb3.mono (by have := HS2.out; omega)); have HB3 := Lib.hid hb3'; have HS3 : Hid (w'.heap.size + 1 ≤ w3.heap.size) := Lib.hid (by have := HS2.out; omega); have HZ := Lib.hid z0; clear hb3 hs3 hb3' z0)
      | (go_at_call 99; refine (specKeys_c ht hw _ (HBW.out.trans (HB3.out.mono hB)) (by have := HS3.out; omega)).mono ?_; rintro e w4 ⟨v, rfl, hown, hb4⟩; have HO := Lib.hid hown; have hb4' := HB3.out.trans (hb4.mono (by have := HS3.out; omega)); have HB4 := Lib.hid hb4'; obtain ⟨v1, v2, v3, v4⟩ := box2 ((hb4.block w'.heap.size (by have := HS3.out; omega)).trans HZ.out); clear hown hb4 hb4')
      | (go_at_call 129; refine (l1Sorted_c _ _ _ _ (Nat.le_refl _) (IntsOwn.in HO.out)).mono ?_; rintro e w5 ⟨rfl, rfl⟩))
  go_wp2_with fail
  go_ret
  exact ⟨ret_bool HF.out.symm, HB4.out⟩

set_option maxHeartbeats 4000000 in
set_option maxRecDepth 100000 in
theorem specTreeValid_not {w : World} {B : Nat} {kv cv : Value} {t : Tr} (ht : TreeIn w B kv cv t) (hw : t.weight ≤ 1048576) (wide : Int) (hwd : inB wide 2 6 = true)
    (hno : Tr.nodesB wide 0 t.depth t = false) (w' : World) (hbw : Below B w w') (hB : B ≤ w'.heap.size) :
    Calls Tryd.prog 103 #[.agg #[kv, cv], .int .i64 wide] w' fun e w'' => e = .returned (.bool (Tr.validB wide t)) ∧ Below w'.heap.size w' w'' := by
  have hfin : Tr.validB wide t = false := by simp only [Tr.validB, hwd, hno]; rfl
  have hr : 2 ≤ wide ∧ wide ≤ 6 := by simpa [inB] using hwd
  have hd1 : (1 : Int) ≤ (t.depth : Int) := by cases t; simp only [Tr.depth]; omega
  have hd2 : (t.depth : Int) ≤ 1048577 := by have h1 := Tr.depth_le t; have h2 := Tr.count_le t; omega
  have HF := Lib.hid hfin
  have HW := Lib.hid hwd
  have HNO := Lib.hid hno
  have HBW := Lib.hid hbw
  obtain ⟨a1, n1, c1, a2, n2, c2, rfl, rfl⟩ := ht.slices
  obtain ⟨W1, hW1⟩ : ∃ W1, W1 = w'.alloc (.cells #[.slice a1 n1 c1, .slice a2 n2 c2] 33) := ⟨_, rfl⟩
  have hs1 : W1.heap.size = w'.heap.size + 1 := by rw [hW1]; simp
  have hb1 : Below w'.heap.size w' W1 := by rw [hW1]; exact (Below.refl _ _).alloc (Nat.le_refl _) _
  have kb : W1.heap[w'.heap.size]? = some (.cells #[.slice a1 n1 c1, .slice a2 n2 c2] 33 (0, 0)) := by rw [hW1, new_blk]
  have HW1 := Lib.hid hW1
  have HB1 := Lib.hid hb1
  have HKB := Lib.hid kb
  have HS1 := Lib.hid hs1
  obtain ⟨x1, x2, x3, x4⟩ := box2 kb
  clear hfin hwd hno hW1 hb1 kb hs1 hbw
  go_enter Tryd.func103, Tryd.ntmps103
  go_wp2_with fail
  rw [← HW1.out]
  go_region_with (first
      | (go_at_call 126; refine (l1Wide_is wide true HW.out _).mono ?_; rintro e w1 ⟨rfl, rfl⟩)
      | (go_at_call 128; refine (specDepth_c ht hw _ (HBW.out.trans (HB1.out.drew.mono hB)) (by have := HS1.out; simp; omega)).mono ?_; rintro e w2 ⟨rfl, hb2⟩; have hs2 := hb2.size; have y0 := (hb2.block w'.heap.size (by have := HS1.out; simp; omega)).trans HKB.out; obtain ⟨y1, y2, y3, y4⟩ := box2 y0; have hb2' := HB1.out.drew.trans (hb2.mono (by have := HS1.out; simp; omega)); have HB2 := Lib.hid hb2'; have HY := Lib.hid y0; have HS2 : Hid (w'.heap.size + 1 ≤ w2.heap.size) := Lib.hid (by have := HS1.out; simp at hs2; omega); clear hb2 hs2 hb2' y0)
      | (go_at_call 127; refine (l1Nodes_is false wide hr.1 hr.2 ht hw _ HNO.out _ (HBW.out.trans (HB2.out.mono hB)) (by have := HS2.out; omega) hd1 hd2).mono ?_; rintro e w3 ⟨rfl, hb3⟩; have hs3 := hb3.size; have z0 := (hb3.block w'.heap.size (by have := HS2.out; omega)).trans HY.out; obtain ⟨z1, z2, z3, z4⟩ := box2 z0; have hb3' := HB2.out.trans (hb3.mono (by have := HS2.out; omega)); have HB3 := Lib.hid hb3'; have HS3 : Hid (w'.heap.size + 1 ≤ w3.heap.size) := Lib.hid (by have := HS2.out; omega); have HZ := Lib.hid z0; clear hb3 hs3 hb3' z0))
  all_goals (go_wp2_with fail)
  all_goals (go_ret; refine ⟨?_, HB3.out⟩; rw [HF.out]; rfl)

theorem specTreeValid_c {w : World} {B : Nat} {kv cv : Value} {t : Tr} (ht : TreeIn w B kv cv t) (hw : t.weight ≤ 1048576) (wide : Int) (w' : World) (hbw : Below B w w') (hB : B ≤ w'.heap.size) :
    Calls Tryd.prog 103 #[.agg #[kv, cv], .int .i64 wide] w' fun e w'' => e = .returned (.bool (Tr.validB wide t)) ∧ Below w'.heap.size w' w'' := by
  cases hwd : inB wide 2 6 with
  | false => exact specTreeValid_no wide hwd w'
  | true =>
    cases hno : Tr.nodesB wide 0 t.depth t with
    | false => exact specTreeValid_not ht hw wide hwd hno w' hbw hB
    | true => exact specTreeValid_yes ht hw wide hwd hno w' hbw hB

end Go.Proofs.YticfkfjijnfcbaaDoor

/- Whether a tree is valid for some width: the model. -/
namespace Go.Proofs.YticfkfjijnfcbaaDoor
open Go.RowKit

/-- Valid for some width. -/
def Tr.someB (t : Tr) : Bool := Tr.validB 2 t || Tr.validB 3 t || Tr.validB 4 t || Tr.validB 5 t || Tr.validB 6 t
theorem someB_of (t : Tr) : (∀ q : Nat, 2 ≤ q → q ≤ 6 → Tr.validB q t = true → t.someB = true) ∧ ((∀ q : Nat, 2 ≤ q → q ≤ 6 → Tr.validB q t = false) → t.someB = false) := by
  constructor
  · intro q h1 h2 h
    have hq : q = 2 ∨ q = 3 ∨ q = 4 ∨ q = 5 ∨ q = 6 := by omega
    unfold Tr.someB
    rcases hq with rfl | rfl | rfl | rfl | rfl
    · have h' : Tr.validB 2 t = true := h
      simp [h']
    · have h' : Tr.validB 3 t = true := h
      simp [h']
    · have h' : Tr.validB 4 t = true := h
      simp [h']
    · have h' : Tr.validB 5 t = true := h
      simp [h']
    · have h' : Tr.validB 6 t = true := h
      simp [h']
  · intro h
    have a2 : Tr.validB 2 t = false := h 2 (by omega) (by omega)
    have a3 : Tr.validB 3 t = false := h 3 (by omega) (by omega)
    have a4 : Tr.validB 4 t = false := h 4 (by omega) (by omega)
    have a5 : Tr.validB 5 t = false := h 5 (by omega) (by omega)
    have a6 : Tr.validB 6 t = false := h 6 (by omega) (by omega)
    unfold Tr.someB
    simp [a2, a3, a4, a5, a6]

set_option maxRecDepth 100000 in
set_option maxHeartbeats 1000000 in
theorem l2Valid_c {w : World} {B : Nat} {kv cv : Value} {t : Tr} (ht : TreeIn w B kv cv t) (hw : t.weight ≤ 1048576) (w' : World) (hbw : Below B w w') (hB : B ≤ w'.heap.size) :
    Calls Tryd.prog 57 #[.agg #[kv, cv]] w' fun e w'' => e = .returned (.bool t.someB) ∧ Below w'.heap.size w' w'' := by
  obtain ⟨a5, n5, m5, a6, n6, m6, rfl, rfl⟩ := ht.slices
  obtain ⟨W1, hW1⟩ : ∃ W1, W1 = w'.alloc (.cells #[.slice a5 n5 m5, .slice a6 n6 m6] 33) := ⟨_, rfl⟩
  have hs1 : W1.heap.size = w'.heap.size + 1 := by rw [hW1]; simp
  have hb1 : Below w'.heap.size w' W1 := by rw [hW1]; exact (Below.refl _ _).alloc (Nat.le_refl _) _
  have kb : W1.heap[w'.heap.size]? = some (.cells #[.slice a5 n5 m5, .slice a6 n6 m6] 33 (0, 0)) := by rw [hW1, new_blk]
  have HT := Lib.hid ht
  have HBW := Lib.hid hbw
  have HW1 := Lib.hid hW1
  have H1 := Lib.hid (And.intro hb1 kb)
  have hsb := someB_of t
  have HSB := Lib.hid hsb
  clear ht hbw hW1 hb1 kb hsb
  go_enter Tryd.func57, Tryd.ntmps57
  go_wp2_with fail
  rw [← HW1.out]
  go_loopw [3] (fun i wr => ∃ (j : Nat), 2 ≤ j ∧ j ≤ 7 ∧ i = .int .i64 j ∧ (∀ q : Nat, 2 ≤ q → q < j → Tr.validB q t = false) ∧ Below W1.heap.size W1 wr) (fun i _ => 7 - (intOf i).toNat)
  case atStart => exact ⟨2, Nat.le_refl _, by omega, rfl, fun q h1 h2 => by omega, Below.refl _ _⟩
  case round =>
    obtain ⟨j, hj2, hj7, rfl, hall, hbel⟩ := hrel
    have hsr := hbel.size
    obtain ⟨x1, x2, x3, x4⟩ := box2 ((hbel.block w'.heap.size (by omega)).trans H1.out.2)
    have HALL := Lib.hid hall
    have HBEL := Lib.hid hbel
    clear hall hbel
    by_cases hlt : j ≤ 6
    · have hlt' : (j : Int) ≤ 6 := by omega
      go_wp2_with fail
      refine (specTreeValid_c HT.out hw (j : Int) wr (HBW.out.trans ((H1.out.1.mono hB).trans (HBEL.out.mono (by omega)))) (by omega)).mono ?_
      rintro e w2 ⟨rfl, hb2⟩
      have HB2 := Lib.hid (HBEL.out.trans (hb2.mono hsr))
      clear hb2
      cases hv : Tr.validB j t with
      | true =>
        have hso := HSB.out.1 j hj2 (by omega) hv
        have HSO := Lib.hid hso
        have HV := Lib.hid hv
        clear hso hv
        go_wp2_with fail
        go_ret
        exact ⟨ret_bool HSO.out.symm, H1.out.1.trans (HB2.out.mono (by omega))⟩
      | false =>
        have HV := Lib.hid hv
        clear hv
        go_wp2_with fail
        go_roundw
        case rel =>
          refine ⟨j + 1, by omega, by omega, by go_num, fun q h1 h2 => ?_, HB2.out⟩
          by_cases hq : q = j
          · rw [hq]; exact HV.out
          · exact HALL.out q h1 (by omega)
        case measure => simp [intOf]; omega
    · have hlt' : ¬ (j : Int) ≤ 6 := by omega
      have hso := HSB.out.2 (fun q h1 h2 => HALL.out q h1 (by omega))
      have HSO := Lib.hid hso
      clear hso
      go_wp2_with fail
      go_ret
      exact ⟨ret_bool HSO.out.symm, H1.out.1.trans (HBEL.out.mono (by omega))⟩

end Go.Proofs.YticfkfjijnfcbaaDoor

/- The program's own copy of a tree: nodes behind pointers; how they lie in memory; the contract of slices.Clone at ints. -/
namespace Go.Proofs.YticfkfjijnfcbaaDoor
open Go.RowKit

/-- A slice of ints in the blocks from lo up to hi. -/
def IntsR (w : World) (lo hi : Nat) (v : Value) (ks : List Int) : Prop :=
  ∃ (a : Option Addr) (cap : Nat), v = .slice a ks.length cap ∧ ks.length ≤ cap ∧ cap ≤ maxLen ∧ (a = none → cap = 0) ∧
    (ks = [] ∨ ∃ b o, a = some ⟨b, o, none⟩ ∧ lo ≤ b ∧ b < hi ∧ ∀ i, i < ks.length → w.cell? ⟨b, o + i, none⟩ = some (.int .i64 (ks.getD i 0)))

/-- A slice of pointers to the starts of blocks. -/
def PtrsR (w : World) (lo hi : Nat) (a : Option Addr) (n : Nat) (ps : Nat → Nat) : Prop :=
  n = 0 ∨ ∃ b o, a = some ⟨b, o, none⟩ ∧ lo ≤ b ∧ b < hi ∧ ∀ i, i < n → w.cell? ⟨b, o + i, none⟩ = some (.pointer (some ⟨ps i, 0, none⟩))

/-- A node at block b, all that it reaches in the blocks from lo up to hi; the kids in parts of that which lie apart. -/
inductive NodeIn (w : World) : Nat → Nat → Nat → Tr → Prop where
  | mk (ks : List Int) (cs : List Tr) (lo hi b : Nat) (kv : Value) (a : Option Addr) (cap : Nat) (ps s : Nat → Nat)
      (hlo : lo ≤ b) (hhi : b < hi) (hs0 : b < s 0) (hsn : s cs.length ≤ hi) (hs : ∀ i, i < cs.length → s i ≤ s (i + 1))
      (hbox : w.heap[b]? = some (.cells #[kv, .slice a cs.length cap] 110 (0, 0)))
      (hk : IntsR w lo hi kv ks) (hlen : cs.length ≤ cap) (hcap : cap ≤ maxLen) (hat : PtrsR w lo hi a cs.length ps)
      (hkids : ∀ i (h : i < cs.length), NodeIn w (s i) (s (i + 1)) (ps i) cs[i]) :
      NodeIn w lo hi b (.mk ks cs)

theorem cell_of_blk {w w' : World} {b o : Nat} (h : w'.heap[b]? = w.heap[b]?) : w'.cell? ⟨b, o, none⟩ = w.cell? ⟨b, o, none⟩ := World.cell?_of_block (w := w) (a := ⟨b, o, none⟩) h

theorem IntsR.same {w w' : World} {lo hi : Nat} {v : Value} {ks : List Int} (h : IntsR w lo hi v ks) (hb : ∀ k, lo ≤ k → k < hi → w'.heap[k]? = w.heap[k]?) : IntsR w' lo hi v ks := by
  obtain ⟨a, cap, hv, h1, h2, hnl, h3⟩ := h
  refine ⟨a, cap, hv, h1, h2, hnl, ?_⟩
  rcases h3 with h3 | ⟨b, o, h3, h4, h5, h6⟩
  · exact .inl h3
  · exact .inr ⟨b, o, h3, h4, h5, fun i hi => by rw [cell_of_blk (hb b h4 h5)]; exact h6 i hi⟩

theorem IntsR.widen {w : World} {lo hi lo' hi' : Nat} {v : Value} {ks : List Int} (h : IntsR w lo hi v ks) (h1 : lo' ≤ lo) (h2 : hi ≤ hi') : IntsR w lo' hi' v ks := by
  obtain ⟨a, cap, hv, g1, g2, hnl, h3⟩ := h
  refine ⟨a, cap, hv, g1, g2, hnl, ?_⟩
  rcases h3 with h3 | ⟨b, o, h3, h4, h5, h6⟩
  · exact .inl h3
  · exact .inr ⟨b, o, h3, by omega, by omega, h6⟩

theorem IntsR.in {w : World} {lo hi : Nat} {v : Value} {ks : List Int} (h : IntsR w lo hi v ks) : IntsIn w hi v ks := by
  obtain ⟨a, cap, hv, g1, g2, hnl, h3⟩ := h
  refine ⟨a, cap, hv, g1, g2, hnl, ?_⟩
  rcases h3 with h3 | ⟨b, o, h3, h4, h5, h6⟩
  · exact .inl h3
  · exact .inr ⟨b, o, h3, h5, h6⟩

theorem PtrsR.same {w w' : World} {lo hi n : Nat} {a : Option Addr} {ps : Nat → Nat} (h : PtrsR w lo hi a n ps) (hb : ∀ k, lo ≤ k → k < hi → w'.heap[k]? = w.heap[k]?) : PtrsR w' lo hi a n ps := by
  rcases h with h3 | ⟨b, o, h3, h4, h5, h6⟩
  · exact .inl h3
  · exact .inr ⟨b, o, h3, h4, h5, fun i hi => by rw [cell_of_blk (hb b h4 h5)]; exact h6 i hi⟩

theorem PtrsR.widen {w : World} {lo hi lo' hi' n : Nat} {a : Option Addr} {ps : Nat → Nat} (h : PtrsR w lo hi a n ps) (h1 : lo' ≤ lo) (h2 : hi ≤ hi') : PtrsR w lo' hi' a n ps := by
  rcases h with h3 | ⟨b, o, h3, h4, h5, h6⟩
  · exact .inl h3
  · exact .inr ⟨b, o, h3, by omega, by omega, h6⟩

theorem steps_le {s : Nat → Nat} {n : Nat} (hs : ∀ i, i < n → s i ≤ s (i + 1)) : ∀ i j, i ≤ j → j ≤ n → s i ≤ s j := by
  intro i j hij
  induction hij with
  | refl => intro _; exact Nat.le_refl _
  | step h ih => intro hj; exact Nat.le_trans (ih (by omega)) (hs _ (by omega))

theorem NodeIn.widen {w : World} {lo hi b : Nat} {t : Tr} (h : NodeIn w lo hi b t) : ∀ {lo' hi' : Nat}, lo' ≤ lo → hi ≤ hi' → NodeIn w lo' hi' b t := by
  cases h with
  | mk ks cs lo hi b kv a cap ps s hlo hhi hs0 hsn hs hbox hk hlen hcap hat hkids =>
    intro lo' hi' h1 h2
    exact .mk ks cs lo' hi' b kv a cap ps s (by omega) (by omega) hs0 (by omega) hs hbox (hk.widen h1 h2) hlen hcap (hat.widen h1 h2) hkids

theorem NodeIn.same {w w' : World} {lo hi b : Nat} {t : Tr} (h : NodeIn w lo hi b t) : (∀ k, lo ≤ k → k < hi → w'.heap[k]? = w.heap[k]?) → NodeIn w' lo hi b t := by
  induction h with
  | mk ks cs lo hi b kv a cap ps s hlo hhi hs0 hsn hs hbox hk hlen hcap hat hkids ih =>
    intro hb
    refine .mk ks cs lo hi b kv a cap ps s hlo hhi hs0 hsn hs ((hb b hlo hhi).trans hbox) (hk.same hb) hlen hcap (hat.same hb) (fun i hi' => ih i hi' (fun k h1 h2 => hb k ?_ ?_))
    · have := steps_le hs 0 i (by omega) (by omega); omega
    · have := steps_le hs (i + 1) cs.length (by omega) (by omega); omega

theorem NodeIn.range {w : World} {lo hi b : Nat} {t : Tr} (h : NodeIn w lo hi b t) : lo ≤ b ∧ b < hi ∧ b < w.heap.size := by
  cases h with
  | mk ks cs lo hi b kv a cap ps s hlo hhi hs0 hsn hs hbox hk hlen hcap hat hkids => exact ⟨hlo, hhi, (Array.getElem?_eq_some_iff.1 hbox).1⟩

/-- Its parts. -/
theorem NodeIn.parts {w : World} {lo hi b : Nat} {ks : List Int} {cs : List Tr} (h : NodeIn w lo hi b (.mk ks cs)) :
    ∃ (kv : Value) (a : Option Addr) (cap : Nat) (ps s : Nat → Nat), lo ≤ b ∧ b < hi ∧ b < s 0 ∧ s cs.length ≤ hi ∧ (∀ i, i < cs.length → s i ≤ s (i + 1)) ∧
      w.heap[b]? = some (.cells #[kv, .slice a cs.length cap] 110 (0, 0)) ∧ IntsR w lo hi kv ks ∧ cs.length ≤ cap ∧ cap ≤ maxLen ∧ PtrsR w lo hi a cs.length ps ∧
      ∀ i (h : i < cs.length), NodeIn w (s i) (s (i + 1)) (ps i) cs[i] := by
  cases h with
  | mk ks cs lo hi b kv a cap ps s hlo hhi hs0 hsn hs hbox hk hlen hcap hat hkids => exact ⟨kv, a, cap, ps, s, hlo, hhi, hs0, hsn, hs, hbox, hk, hlen, hcap, hat, hkids⟩

theorem IntsOwn.inR {w : World} {lo : Nat} {v : Value} {ks : List Int} (h : IntsOwn w lo v ks) : IntsR w lo w.heap.size v ks := by
  have h0 := h
  obtain ⟨h1, ⟨h2, h3⟩ | ⟨g, cap, cur, hv, hb, hg, hn, hm, hs, ht⟩⟩ := h
  · obtain rfl : ks = [] := List.length_eq_zero_iff.1 h3
    exact ⟨none, 0, h2, by simp, by unfold maxLen; omega, fun _ => rfl, .inl rfl⟩
  · refine ⟨_, cap, hv, hn, hm, by simp, .inr ⟨g, 0, rfl, hb, (Array.getElem?_eq_some_iff.1 hg).1, fun i hi => ?_⟩⟩
    subst hv
    rw [Nat.zero_add, World.ownsRow.cellAt h0 i (by omega)]
    simp [hi]

set_option maxRecDepth 100000 in
set_option maxHeartbeats 1000000 in
theorem clone_c {v : Value} {ks : List Int} (w : World) (hk : IntsAt w v ks) (hn : ks.length ≤ 1048576) :
    Calls Tryd.prog 117 #[v] w fun e w' => ∃ v', e = .returned v' ∧ IntsOwn w' w.heap.size v' ks ∧ Below w.heap.size w w' := by
  obtain ⟨a, cap, rfl, hnl, h3⟩ := hk
  have q22 : ∀ (w : World) (a : Option Addr) (n c n' c' : Nat), (binOp .eql 22 (.slice a n c) (.slice none n' c')).run Tryd.prog w = .ok (.bool a.isNone) w := fun w a n c n' c' => Lib.run_eql_slice_nil w _ _ a n c n' c' Tryd.underlying22
  have h00 : IntsOwn (w.alloc (.cells #[] 3)) w.heap.size (.slice (some ⟨w.heap.size, 0, none⟩) 0 0) [] := World.ownsRow_made w #[] 0 (Nat.le_refl _) (by unfold maxLen; omega) rfl
  have hb0 : Below w.heap.size w (w.alloc (.cells #[] 3)) := (Below.refl _ _).alloc (Nat.le_refl _) _
  rcases a with _ | p
  · obtain rfl := hnl rfl
    obtain rfl : ks = [] := by
      rcases h3 with h | ⟨b, o, h, _⟩
      · exact h
      · cases h
    clear h3 h00 hb0
    go_enter Tryd.func117, Tryd.ntmps117
    go_wp2_with fail
    go_ret
    exact ⟨_, rfl, ⟨rfl, .inl ⟨rfl, rfl⟩⟩, Below.refl _ _⟩
  · have hsrc : IntsAt (w.alloc (.cells #[] 3)) (.slice (some p) ks.length cap) ks := by
      refine ⟨some p, cap, rfl, by simp, ?_⟩
      rcases h3 with h | ⟨b, o, h, hc⟩
      · exact .inl h
      · refine .inr ⟨b, o, h, fun i hi => ?_⟩
        have h1 := hc i hi
        rw [below_cell hb0 (World.block_lt_of_cell? w _ h1)]
        exact h1
    have H00 := Lib.hid h00
    have HB0 := Lib.hid hb0
    have HSRC := Lib.hid hsrc
    have hln : ([] : List Int).length + ks.length ≤ 17592186044416 := by simp; omega
    have hlo : w.heap.size ≤ (w.alloc (.cells #[] 3)).heap.size := by simp
    have HLN := Lib.hid hln
    have HLO := Lib.hid hlo
    clear h3 h00 hb0 hsrc hn hnl hln hlo
    go_enter Tryd.func117, Tryd.ntmps117
    go_wp2_with (at_builtin; refine wpList_append_ints rfl _ _ rfl w.heap.size _ _ [] ks rfl H00.out rfl HSRC.out HLN.out HLO.out ?_; intro v2 w2 hown2 hbel2 _ hsh2; obtain ⟨a2, c2, rfl⟩ := hsh2; have HOX := Lib.hid hown2; have HBX := Lib.hid hbel2; clear hown2 hbel2)
    go_ret
    exact ⟨_, rfl, by simpa using HOX.out, HB0.out.trans HBX.out⟩
end Go.Proofs.YticfkfjijnfcbaaDoor
