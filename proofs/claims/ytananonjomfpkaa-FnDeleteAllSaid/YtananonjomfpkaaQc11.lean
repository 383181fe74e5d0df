/- The iterator that recurs: all keys in order. -/
import Derived.Test.YtananonjomfpkaaQc8
import Derived.Deep.RegionWith
import Derived.Deep.RegionHeld3
/- The contracts of the model's l1Sorted and TreeValid. -/
namespace Go.Proofs.Ytananonjomfpkaa
open Go.RowKit
def okAt (ks : List Int) (i : Nat) : Bool := inB (ks.getD i 0) 0 99 && (decide (i = 0) || decide (ks.getD (i - 1) 0 < ks.getD i 0))
def sortedB (ks : List Int) : Bool := (List.range ks.length).all (okAt ks)
theorem sortedB_of {ks : List Int} (h : ∀ i, i < ks.length → okAt ks i = true) : sortedB ks = true := by
 simp only [sortedB, List.all_eq_true, List.mem_range]; exact h
theorem sortedB_not {ks : List Int} (i : Nat) (hi : i < ks.length) (h : okAt ks i = false) : sortedB ks = false := by
 cases hh : sortedB ks with
 | false => rfl
 | true =>
   simp only [sortedB, List.all_eq_true, List.mem_range] at hh
   rw [hh i hi] at h; cases h
set_option maxHeartbeats 1000000 in
theorem l1Sorted_c (ks : List Int) (v : Value) (w : World) (B : Nat) (_hB : B ≤ w.heap.size) (hk : IntsIn w B v ks) :
   Calls Try.prog 113 #[v] w fun e w' => e = .returned (.bool (sortedB ks)) ∧ w = w' := by
 obtain ⟨a, cap, rfl, h1, h2, _, h3⟩ := hk
 unfold maxLen at h2
 have HK := Lib.hid h3
 clear h3
 go_enter Try.func113, Try.ntmps113
 go_wp2_with fail
 go_loop [7] (fun i => ∃ (j : Nat), j ≤ ks.length ∧ i = .int .i64 j ∧ (∀ i, i < j → okAt ks i = true)) (fun i => ks.length - (intOf i).toNat)
 case atStart => exact ⟨0, Nat.zero_le _, rfl, fun i h => by omega⟩
 case round =>
   obtain ⟨j, hj, rfl, hall⟩ := hrel
   have HALL := Lib.hid hall
   clear hall
   by_cases hlt : j < ks.length
   · rcases HK.out with h | ⟨b, off, rfl, hb, hat⟩
     · simp [h] at hlt
     have ha1 := hat j hlt
     obtain ⟨x, hx⟩ : ∃ x, x = ks.getD j 0 := ⟨_, rfl⟩
     rw [← hx] at ha1
     have HX := Lib.hid hx
     clear hx
     by_cases hin : 0 ≤ x ∧ x ≤ 99
     · have hin' := inB_true hin.1 hin.2
       rcases Nat.eq_zero_or_pos j with hj0 | hj0
       · have hok : okAt ks j = true := by simp only [okAt, ← HX.out, hin']; simp [hj0]
         have HOK := Lib.hid hok
         have hgt : ¬ (0 : Int) < j := by omega
         clear hok hat
         have HJ0 := Lib.hid hj0
         clear hj0
         go_wp2_with fail
         refine (l1In_c x 0 99 _).mono ?_
         rintro e w1 ⟨rfl, rfl⟩
         rw [hin']
         go_wp2_with fail
         go_round
         case rel =>
           refine ⟨j + 1, by omega, by go_num, fun i hi => ?_⟩
           by_cases e : i = j
           · subst e; exact HOK.out
           · exact HALL.out i (by omega)
         case measure => simp [intOf]; omega
       · have ha2 := hat (j - 1) (by omega)
         obtain ⟨y, hy⟩ : ∃ y, y = ks.getD (j - 1) 0 := ⟨_, rfl⟩
         rw [← hy] at ha2
         have HY := Lib.hid hy
         obtain ⟨m, rfl⟩ : ∃ m, j = m + 1 := ⟨j - 1, by omega⟩
         rw [Nat.add_sub_cancel] at ha2
         clear hy hat
         by_cases hyx : y < x
         · have hok : okAt ks (m + 1) = true := by
             have h1 := HY.out; rw [Nat.add_sub_cancel] at h1
             simp only [okAt, ← HX.out, hin', Nat.add_sub_cancel, ← h1]; simp [hyx]
           have HOK := Lib.hid hok
           clear hok
           go_wp2_with fail
           refine (l1In_c x 0 99 _).mono ?_
           rintro e w1 ⟨rfl, rfl⟩
           rw [hin']
           go_wp2_with fail
           go_round
           case rel =>
             refine ⟨m + 1 + 1, by omega, by go_num, fun i hi => ?_⟩
             by_cases e : i = m + 1
             · subst e; exact HOK.out
             · exact HALL.out i (by omega)
           case measure => simp [intOf]; omega
         · have hok : okAt ks (m + 1) = false := by
             have h1 := HY.out; rw [Nat.add_sub_cancel] at h1
             simp only [okAt, ← HX.out, hin', Nat.add_sub_cancel, ← h1]; simp [hyx]
           have HOK := Lib.hid hok
           clear hok
           go_wp2_with fail
           refine (l1In_c x 0 99 _).mono ?_
           rintro e w1 ⟨rfl, rfl⟩
           rw [hin']
           go_wp2_with fail
           go_ret
           exact ⟨ret_bool (sortedB_not _ hlt HOK.out).symm, rfl⟩
     · have hin' := inB_false hin
       have hok : okAt ks j = false := by simp only [okAt, ← HX.out, hin']; rfl
       have HOK := Lib.hid hok
       clear hok hin hat
       go_wp2_with fail
       refine (l1In_c x 0 99 _).mono ?_
       rintro e w1 ⟨rfl, rfl⟩
       rw [hin']
       go_wp2_with fail
       go_ret
       exact ⟨ret_bool (sortedB_not _ hlt HOK.out).symm, rfl⟩
   · obtain rfl : j = ks.length := by omega
     go_wp2_with fail
     go_ret
     exact ⟨ret_bool (sortedB_of (fun i hi => HALL.out i hi)).symm, rfl⟩
def Tr.validB (wide : Int) (t : Tr) : Bool := inB wide 2 6 && (Tr.nodesB wide 0 t.depth t && sortedB t.keys)
theorem l1Wide_is (n : Int) (b : Bool) (h : inB n 2 6 = b) (w : World) : Calls Try.prog 110 #[.int .i64 n] w fun e w' => e = .returned (.bool b) ∧ w' = w :=
 (l1Wide_c n w).mono (by rintro e w' ⟨rfl, rfl⟩; exact ⟨by rw [h], rfl⟩)
set_option maxHeartbeats 2000000 in
set_option maxRecDepth 100000 in
theorem specTreeValid_no {kv cv : Value} {t : Tr} (wide : Int) (hwd : inB wide 2 6 = false) (w' : World) :
   Calls Try.prog 75 #[.agg #[kv, cv], .int .i64 wide] w' fun e w'' => e = .returned (.bool (Tr.validB wide t)) ∧ Below w'.heap.size w' w'' := by
 have hfin : Tr.validB wide t = false := by simp only [Tr.validB, hwd]; rfl
 have HF := Lib.hid hfin
 have HW := Lib.hid hwd
 clear hfin hwd
 go_enter Try.func75, Try.ntmps75
 go_wp2_with fail
 go_quiet ((go_at_call 110; exact Calls.quiet_of_same (l1Wide_is wide false HW.out _)))
 go_wp2_with fail
 go_ret
 exact ⟨ret_bool HF.out.symm, below_drewN ((Below.refl _ _).alloc (Nat.le_refl _) _) _⟩
theorem l1Nodes_is (b : Bool) (wide : Int) (hw1 : 2 ≤ wide) (hw2 : wide ≤ 6) {w : World} {B : Nat} {kv cv : Value} {t : Tr} (ht : TreeIn w B kv cv t) (hw : t.weight ≤ 1048576) (depth : Int) (h : Tr.nodesB wide 0 depth t = b)
   (w' : World) (hbw : Below B w w') (hB : B ≤ w'.heap.size) (hd1 : 1 ≤ depth) (hd2 : depth ≤ 1048577) :
   Calls Try.prog 111 #[.agg #[kv, cv], .int .i64 wide, .bool true, .int .i64 depth] w' fun e w'' => e = .returned (.bool b) ∧ Below w'.heap.size w' w'' :=
 (l1Nodes_c wide hw1 hw2 ht hw w' true depth hbw hB hd1 hd2).mono (by rintro e w'' ⟨rfl, hb⟩; exact ⟨by rw [← h]; rfl, hb⟩)
set_option maxHeartbeats 4000000 in
set_option maxRecDepth 100000 in
theorem specTreeValid_yes {w : World} {B : Nat} {kv cv : Value} {t : Tr} (ht : TreeIn w B kv cv t) (hw : t.weight ≤ 1048576) (wide : Int) (hwd : inB wide 2 6 = true)
   (hno : Tr.nodesB wide 0 t.depth t = true) (w' : World) (hbw : Below B w w') (hB : B ≤ w'.heap.size) :
   Calls Try.prog 75 #[.agg #[kv, cv], .int .i64 wide] w' fun e w'' => e = .returned (.bool (Tr.validB wide t)) ∧ Below w'.heap.size w' w'' := by
 have hfin : Tr.validB wide t = sortedB t.keys := by simp only [Tr.validB, hwd, hno]; rfl
 have hr : 2 ≤ wide ∧ wide ≤ 6 := by simpa [inB] using hwd
 have hd1 : (1 : Int) ≤ (t.depth : Int) := by cases t; simp only [Tr.depth]; omega
 have hd2 : (t.depth : Int) ≤ 1048577 := by have h1 := Tr.depth_le t; have h2 := Tr.count_le t; omega
 have HF := Lib.hid hfin
 have HW := Lib.hid hwd
 have HNO := Lib.hid hno
 have HBW := Lib.hid hbw
 obtain ⟨a1, n1, c1, a2, n2, c2, rfl, rfl⟩ := ht.slices
 obtain ⟨W1, hW1⟩ : ∃ W1, W1 = w'.alloc (.cells #[.slice a1 n1 c1, .slice a2 n2 c2] 26) := ⟨_, rfl⟩
 have hs1 : W1.heap.size = w'.heap.size + 1 := by rw [hW1]; simp
 have hb1 : Below w'.heap.size w' W1 := by rw [hW1]; exact (Below.refl _ _).alloc (Nat.le_refl _) _
 have kb : W1.heap[w'.heap.size]? = some (.cells #[.slice a1 n1 c1, .slice a2 n2 c2] 26 (0, 0)) := by rw [hW1, new_blk]
 have HW1 := Lib.hid hW1
 have HB1 := Lib.hid hb1
 have HKB := Lib.hid kb
 have HS1 := Lib.hid hs1
 obtain ⟨x1, x2, x3, x4⟩ := box2 kb
 clear hfin hwd hno hW1 hb1 kb hs1 hbw
 go_enter Try.func75, Try.ntmps75
 go_wp2_with fail
 rw [← HW1.out]
 go_region_held3 (fun x => x.cell? ⟨w'.heap.size, 0, none⟩ = some (.slice a1 n1 c1) ∧ x.cell? ⟨w'.heap.size, 1, none⟩ = some (.slice a2 n2 c2))
   (first | exact ⟨x1, x2⟩ | exact ⟨y1, y2⟩ | exact ⟨z1, z2⟩ | exact ⟨v1, v2⟩ | go_keep)
   (first
     | (go_at_call 110; refine (l1Wide_is wide true HW.out _).mono ?_; rintro e w1 ⟨rfl, rfl⟩)
     | (go_at_call 112; refine (specDepth_c ht hw _ (HBW.out.trans (HB1.out.drew.mono hB)) (by have := HS1.out; simp; omega)).mono ?_; rintro e w2 ⟨rfl, hb2⟩; have hs2 := hb2.size; have y0 := (hb2.block w'.heap.size (by have := HS1.out; simp; omega)).trans HKB.out; obtain ⟨y1, y2, y3, y4⟩ := box2 y0; have hb2' := HB1.out.drew.trans (hb2.mono (by have := HS1.out; simp; omega)); have HB2 := Lib.hid hb2'; have HY := Lib.hid y0; have HS2 : Hid (w'.heap.size + 1 ≤ w2.heap.size) := Lib.hid (by have := HS1.out; simp at hs2; omega); clear hb2 hs2 hb2' y0)
     | (go_at_call 111; refine (l1Nodes_is true wide hr.1 hr.2 ht hw _ HNO.out _ (HBW.out.trans (HB2.out.mono hB)) (by have := HS2.out; omega) hd1 hd2).mono ?_; rintro e w3 ⟨rfl, hb3⟩; have hs3 := hb3.size; have z0 := (hb3.block w'.heap.size (by have := HS2.out; omega)).trans HY.out; obtain ⟨z1, z2, z3, z4⟩ := box2 z0; have hb3' := HB2.out.trans (hb3.mono (by have := HS2.out; omega)); have HB3 := Lib.hid hb3'; have HS3 : Hid (w'.heap.size + 1 ≤ w3.heap.size) := Lib.hid (by have := HS2.out; omega); have HZ := Lib.hid z0; clear hb3 hs3 hb3' z0)
     | (go_at_call 74; refine (specKeys_c ht hw _ (HBW.out.trans (HB3.out.mono hB)) (by have := HS3.out; omega)).mono ?_; rintro e w4 ⟨v, rfl, hown, hb4⟩; have HO := Lib.hid hown; have hb4' := HB3.out.trans (hb4.mono (by have := HS3.out; omega)); have HB4 := Lib.hid hb4'; obtain ⟨v1, v2, v3, v4⟩ := box2 ((hb4.block w'.heap.size (by have := HS3.out; omega)).trans HZ.out); clear hown hb4 hb4')
     | (go_at_call 113; refine (l1Sorted_c _ _ _ _ (Nat.le_refl _) (IntsOwn.in HO.out)).mono ?_; rintro e w5 ⟨rfl, rfl⟩))
 go_wp2_with fail
 go_ret
 exact ⟨ret_bool HF.out.symm, HB4.out⟩
set_option maxHeartbeats 4000000 in
set_option maxRecDepth 100000 in
theorem specTreeValid_not {w : World} {B : Nat} {kv cv : Value} {t : Tr} (ht : TreeIn w B kv cv t) (hw : t.weight ≤ 1048576) (wide : Int) (hwd : inB wide 2 6 = true)
   (hno : Tr.nodesB wide 0 t.depth t = false) (w' : World) (hbw : Below B w w') (hB : B ≤ w'.heap.size) :
   Calls Try.prog 75 #[.agg #[kv, cv], .int .i64 wide] w' fun e w'' => e = .returned (.bool (Tr.validB wide t)) ∧ Below w'.heap.size w' w'' := by
 have hfin : Tr.validB wide t = false := by simp only [Tr.validB, hwd, hno]; rfl
 have hr : 2 ≤ wide ∧ wide ≤ 6 := by simpa [inB] using hwd
 have hd1 : (1 : Int) ≤ (t.depth : Int) := by cases t; simp only [Tr.depth]; omega
 have hd2 : (t.depth : Int) ≤ 1048577 := by have h1 := Tr.depth_le t; have h2 := Tr.count_le t; omega
 have HF := Lib.hid hfin
 have HW := Lib.hid hwd
 have HNO := Lib.hid hno
 have HBW := Lib.hid hbw
 obtain ⟨a1, n1, c1, a2, n2, c2, rfl, rfl⟩ := ht.slices
 obtain ⟨W1, hW1⟩ : ∃ W1, W1 = w'.alloc (.cells #[.slice a1 n1 c1, .slice a2 n2 c2] 26) := ⟨_, rfl⟩
 have hs1 : W1.heap.size = w'.heap.size + 1 := by rw [hW1]; simp
 have hb1 : Below w'.heap.size w' W1 := by rw [hW1]; exact (Below.refl _ _).alloc (Nat.le_refl _) _
 have kb : W1.heap[w'.heap.size]? = some (.cells #[.slice a1 n1 c1, .slice a2 n2 c2] 26 (0, 0)) := by rw [hW1, new_blk]
 have HW1 := Lib.hid hW1
 have HB1 := Lib.hid hb1
 have HKB := Lib.hid kb
 have HS1 := Lib.hid hs1
 obtain ⟨x1, x2, x3, x4⟩ := box2 kb
 clear hfin hwd hno hW1 hb1 kb hs1 hbw
 go_enter Try.func75, Try.ntmps75
 go_wp2_with fail
 rw [← HW1.out]
 go_region_with (first
     | (go_at_call 110; refine (l1Wide_is wide true HW.out _).mono ?_; rintro e w1 ⟨rfl, rfl⟩)
     | (go_at_call 112; refine (specDepth_c ht hw _ (HBW.out.trans (HB1.out.drew.mono hB)) (by have := HS1.out; simp; omega)).mono ?_; rintro e w2 ⟨rfl, hb2⟩; have hs2 := hb2.size; have y0 := (hb2.block w'.heap.size (by have := HS1.out; simp; omega)).trans HKB.out; obtain ⟨y1, y2, y3, y4⟩ := box2 y0; have hb2' := HB1.out.drew.trans (hb2.mono (by have := HS1.out; simp; omega)); have HB2 := Lib.hid hb2'; have HY := Lib.hid y0; have HS2 : Hid (w'.heap.size + 1 ≤ w2.heap.size) := Lib.hid (by have := HS1.out; simp at hs2; omega); clear hb2 hs2 hb2' y0)
     | (go_at_call 111; refine (l1Nodes_is false wide hr.1 hr.2 ht hw _ HNO.out _ (HBW.out.trans (HB2.out.mono hB)) (by have := HS2.out; omega) hd1 hd2).mono ?_; rintro e w3 ⟨rfl, hb3⟩; have hs3 := hb3.size; have z0 := (hb3.block w'.heap.size (by have := HS2.out; omega)).trans HY.out; obtain ⟨z1, z2, z3, z4⟩ := box2 z0; have hb3' := HB2.out.trans (hb3.mono (by have := HS2.out; omega)); have HB3 := Lib.hid hb3'; have HS3 : Hid (w'.heap.size + 1 ≤ w3.heap.size) := Lib.hid (by have := HS2.out; omega); have HZ := Lib.hid z0; clear hb3 hs3 hb3' z0))
 all_goals (go_wp2_with fail)
 all_goals (go_ret; refine ⟨?_, HB3.out⟩; rw [HF.out]; rfl)
theorem specTreeValid_c {w : World} {B : Nat} {kv cv : Value} {t : Tr} (ht : TreeIn w B kv cv t) (hw : t.weight ≤ 1048576) (wide : Int) (w' : World) (hbw : Below B w w') (hB : B ≤ w'.heap.size) :
   Calls Try.prog 75 #[.agg #[kv, cv], .int .i64 wide] w' fun e w'' => e = .returned (.bool (Tr.validB wide t)) ∧ Below w'.heap.size w' w'' := by
 cases hwd : inB wide 2 6 with
 | false => exact specTreeValid_no wide hwd w'
 | true =>
   cases hno : Tr.nodesB wide 0 t.depth t with
   | false => exact specTreeValid_not ht hw wide hwd hno w' hbw hB
   | true => exact specTreeValid_yes ht hw wide hwd hno w' hbw hB
end Go.Proofs.Ytananonjomfpkaa
/- The iterator over the parts of a node: kids and keys by turns. -/
namespace Go.Proofs.Ytananonjomfpkaa
open Go.RowKit
attribute [local go_sem] Oper.semAt_some
inductive Part where
 | kid (i b : Nat)
 | key (k : Int)
def Part.enc : Part → Array Value
 | .kid _ b => #[.pointer (some ⟨b, 0, none⟩), .int .i64 0]
 | .key k => #[.pointer none, .int .i64 k]
def partAt (n : Nat) (ps : Nat → Nat) (ks : List Int) (i : Nat) : List Part :=
 (if i < n then [.kid i (ps i)] else []) ++ (if i < ks.length then [.key (ks.getD i 0)] else [])
def partsTo (n : Nat) (ps : Nat → Nat) (ks : List Int) (j : Nat) : List Part := (List.range j).flatMap (partAt n ps ks)
theorem partsTo_succ (n : Nat) (ps : Nat → Nat) (ks : List Int) (j : Nat) : partsTo n ps ks (j + 1) = partsTo n ps ks j ++ partAt n ps ks j := by
 simp [partsTo, List.range_succ]
theorem partsTo_pre (n : Nat) (ps : Nat → Nat) (ks : List Int) (j m : Nat) (h : j ≤ m) : partsTo n ps ks j <+: partsTo n ps ks m := by
 induction h with
 | refl => exact List.prefix_refl _
 | step _ ih => rw [partsTo_succ]; exact ih.trans (List.prefix_append _ _)
theorem parts_both {n : Nat} {ps : Nat → Nat} {ks : List Int} {j : Nat} (h1 : j < n) (h2 : j < ks.length) : partsTo n ps ks (j + 1) = partsTo n ps ks j ++ [.kid j (ps j)] ++ [.key (ks.getD j 0)] := by
 rw [partsTo_succ, partAt, if_pos h1, if_pos h2, List.append_assoc]
theorem parts_kid {n : Nat} {ps : Nat → Nat} {ks : List Int} {j : Nat} (h1 : j < n) (h2 : ¬ j < ks.length) : partsTo n ps ks (j + 1) = partsTo n ps ks j ++ [.kid j (ps j)] := by
 rw [partsTo_succ, partAt, if_pos h1, if_neg h2, List.append_nil]
theorem parts_key {n : Nat} {ps : Nat → Nat} {ks : List Int} {j : Nat} (h1 : ¬ j < n) (h2 : j < ks.length) : partsTo n ps ks (j + 1) = partsTo n ps ks j ++ [.key (ks.getD j 0)] := by
 rw [partsTo_succ, partAt, if_neg h1, if_pos h2, List.nil_append]
theorem pre_kid {n : Nat} {ps : Nat → Nat} {ks : List Int} {j M : Nat} (h1 : j < n) (hM : j < M) : partsTo n ps ks j ++ [.kid j (ps j)] <+: partsTo n ps ks M := by
 refine List.IsPrefix.trans ?_ (partsTo_pre n ps ks (j + 1) M hM)
 by_cases h2 : j < ks.length
 · rw [parts_both h1 h2]; exact List.prefix_append _ _
 · rw [parts_kid h1 h2]; exact List.prefix_refl _
theorem pre_both {n : Nat} {ps : Nat → Nat} {ks : List Int} {j M : Nat} (h1 : j < n) (h2 : j < ks.length) (hM : j < M) : partsTo n ps ks j ++ [.kid j (ps j)] ++ [.key (ks.getD j 0)] <+: partsTo n ps ks M := by
 rw [← parts_both h1 h2]; exact partsTo_pre n ps ks (j + 1) M hM
theorem pre_key {n : Nat} {ps : Nat → Nat} {ks : List Int} {j M : Nat} (h1 : ¬ j < n) (h2 : j < ks.length) (hM : j < M) : partsTo n ps ks j ++ [.key (ks.getD j 0)] <+: partsTo n ps ks M := by
 rw [← parts_key h1 h2]; exact partsTo_pre n ps ks (j + 1) M hM
set_option maxRecDepth 100000 in
set_option maxHeartbeats 2000000 in
theorem parts_iter {w₀ : World} {lo hi b : Nat} {ks : List Int} {cs : List Tr} {kv : Value} {a : Option Addr} {cap : Nat} {ps : Nat → Nat} (hhi : hi ≤ w₀.heap.size)
   (hlo : lo ≤ b) (hb : b < hi) (hbox : w₀.heap[b]? = some (.cells #[kv, .slice a cs.length cap] 99 (0, 0))) (hk : IntsR w₀ lo hi kv ks) (_hlen : cs.length ≤ cap) (_hcap : cap ≤ maxLen)
   (hat : PtrsR w₀ lo hi a cs.length ps) (_hsz1 : ks.length ≤ 1048576) (hsz2 : cs.length ≤ 1048576) :
   Iter Try.prog 133 #[.pointer (some ⟨b, 0, none⟩)] #[] Part.enc (fun k => lo ≤ k ∧ k < hi) (partsTo cs.length ps ks (max cs.length ks.length)) w₀ := by
 intro l J Jx Pv W hkeep hRd hbnd hJ hJx hY h0
 have hbl : ∀ k, lo ≤ k → k < hi → W.heap[k]? = w₀.heap[k]? := fun k h1 h2 => hkeep.block k (by omega) ⟨h1, h2⟩
 have hbox' := (hbl b hlo hb).trans hbox
 have hk' := hk.same hbl
 have hat' := hat.same hbl
 clear hbox hk hat hbl hkeep
 obtain ⟨ka, kcap, rfl, k1, k2, k3, k4⟩ := hk'
 unfold maxLen at _hcap k2
 refine callsIn_wide (n := 9).1 (callsIn_of_wp Try.func133 rfl trivial ?_ rfl)
 simp only [Try.ntmps133, List.size_toArray, List.length_cons, List.length_nil, Nat.reduceAdd, Nat.reduceSub, Array.replicate_succ, Array.replicate_zero, List.push_toArray, List.append_toArray, List.nil_append, List.cons_append]
 obtain ⟨x1, x2, x3, x4⟩ := box2 hbox'
 obtain ⟨M, hM⟩ : ∃ M, M = max cs.length ks.length := ⟨_, rfl⟩
 have HM := Lib.hid hM
 have K4 := Lib.hid k4
 have HAT := Lib.hid hat'
 have HBOX := Lib.hid hbox'
 clear k4 hat' hbox' hM
 rcases Nat.lt_or_ge cs.length ks.length with hlt | hge
 · gi_wp2
   gi_quiet (fail)
   gi_wp2
   have e0 : (ks.length : Int) = (M : Int) := by have := HM.out; omega
   rw [e0]
   clear e0
   gi_loopw [17] (fun i wr => ∃ (j : Nat), i = .int .i64 j ∧ j ≤ M ∧ J (partsTo cs.length ps ks j) Pv wr ∧ Keep Pv W wr) (fun i _ => M - (intOf i).toNat)
   case atStart => exact ⟨0, rfl, Nat.zero_le _, hJ _ _ _ _ _ h0 (Keep.drewN _ _ _) (fun k h => .inl h), Keep.drewN _ _ _⟩
   case round =>
     obtain ⟨j, rfl, hj, hJs, hkp⟩ := hrel
     have hM1 : cs.length ≤ M := by have := HM.out; omega
     have hM2 : ks.length ≤ M := by have := HM.out; omega
     by_cases hjM : j < M
     · have hbW := (Array.getElem?_eq_some_iff.1 HBOX.out).1
       obtain ⟨y1, y2, y3, y4⟩ := box2 ((hkp.block b hbW (hRd b ⟨hlo, hb⟩)).trans HBOX.out)
       clear x1 x2 x3 x4
       by_cases hkid : j < cs.length
       · rcases HAT.out with h | ⟨qb, qo, rfl, q1, q2, q3⟩
         · omega
         have cq : wr.cell? ⟨qb, qo + j, none⟩ = some (.pointer (some ⟨ps j, 0, none⟩)) := by
           have hb0 := World.block_lt_of_cell? W _ (q3 j hkid)
           rw [cell_of_blk (hkp.block qb hb0 (hRd qb ⟨q1, q2⟩))]; exact q3 j hkid
         clear q3
         have hkidB : decide ((j : Int) < (cs.length : Int)) = true := by simp [hkid]
         obtain ⟨fn, tmps, assign, body, hy, hR⟩ := hY _ (.kid j (ps j)) Pv wr hJs hkp (fun _ h => h) (fun k h => Nat.lt_of_lt_of_le (hbnd k h) hkp.size) (by rw [← HM.out]; exact pre_kid hkid hjM)
         dsimp only [Part.enc] at hy
         gi_wp2
         refine (hR _).mono ?_
         rintro e W3 ⟨hk3, (⟨rfl, hJ3⟩ | ⟨rfl, hJx3⟩)⟩
         · have hk3' := hkp.trans hk3
           clear y1 y2 y3 y4 hy hR
           obtain ⟨y1, y2, y3, y4⟩ := box2 ((hk3'.block b hbW (hRd b ⟨hlo, hb⟩)).trans HBOX.out)
           by_cases hkey : j < ks.length
           · have hpre := pre_both (ps := ps) hkid hkey hjM
             have hnext := parts_both (ps := ps) hkid hkey
             rcases K4.out with h | ⟨pb, po, rfl, g1, g2, g3⟩
             · rw [h] at hkey; simp at hkey
             have ck : W3.cell? ⟨pb, po + j, none⟩ = some (.int .i64 (ks.getD j 0)) := by
               have hb0 := World.block_lt_of_cell? W _ (g3 j hkey)
               rw [cell_of_blk ((hk3').block pb hb0 (hRd pb ⟨g1, g2⟩))]; exact g3 j hkey
             have hkeyB : decide ((j : Int) < (ks.length : Int)) = true := by simp [hkey]
             obtain ⟨fn2, tmps2, assign2, body2, hy2, hR2⟩ := hY _ (.key (ks.getD j 0)) Pv W3 hJ3 (hk3') (fun _ h => h) (fun k h => Nat.lt_of_lt_of_le (hbnd k h) (hk3').size) (by rw [← HM.out]; exact hpre)
             dsimp only [Part.enc] at hy2
             have HPRE := Lib.hid hpre
             have HNEXT := Lib.hid hnext
             clear hpre hnext
             obtain ⟨kk, hkk⟩ : ∃ kk, kk = ks.getD j 0 := ⟨_, rfl⟩
             rw [← hkk] at ck hy2
             have HKK := Lib.hid hkk
             clear g3 hkk
             gi_wp2
             refine (hR2 _).mono ?_
             rintro e W4 ⟨hk4, (⟨rfl, hJ4⟩ | ⟨rfl, hJx4⟩)⟩
             · gi_wp2
               go_roundw
               case rel => exact ⟨j + 1, by go_num, by omega, by rw [HNEXT.out]; exact hJ4, (hk3').trans hk4⟩
               case measure => simp [intOf]; omega
             · gi_wp2
               refine bodyPost_ret (results_none rfl _ _ _) rfl ?_
               exact ⟨⟨_, rfl⟩, (hk3').trans hk4, .inr ⟨_, by rw [← HM.out]; exact HPRE.out, hJx4⟩⟩
           · exfalso; omega
         · gi_wp2
           refine bodyPost_ret (results_none rfl _ _ _) rfl ?_
           exact ⟨⟨_, rfl⟩, hkp.trans hk3, .inr ⟨_, by rw [← HM.out]; exact pre_kid hkid hjM, hJx3⟩⟩
       · have hkidB : decide ((j : Int) < (cs.length : Int)) = false := by simp; omega
         by_cases hkey : j < ks.length
         · have hpre := pre_key (ps := ps) hkid hkey hjM
           have hnext := parts_key (ps := ps) hkid hkey
           rcases K4.out with h | ⟨pb, po, rfl, g1, g2, g3⟩
           · rw [h] at hkey; simp at hkey
           have ck : wr.cell? ⟨pb, po + j, none⟩ = some (.int .i64 (ks.getD j 0)) := by
             have hb0 := World.block_lt_of_cell? W _ (g3 j hkey)
             rw [cell_of_blk ((hkp).block pb hb0 (hRd pb ⟨g1, g2⟩))]; exact g3 j hkey
           have hkeyB : decide ((j : Int) < (ks.length : Int)) = true := by simp [hkey]
           obtain ⟨fn2, tmps2, assign2, body2, hy2, hR2⟩ := hY _ (.key (ks.getD j 0)) Pv wr hJs (hkp) (fun _ h => h) (fun k h => Nat.lt_of_lt_of_le (hbnd k h) (hkp).size) (by rw [← HM.out]; exact hpre)
           dsimp only [Part.enc] at hy2
           have HPRE := Lib.hid hpre
           have HNEXT := Lib.hid hnext
           clear hpre hnext
           obtain ⟨kk, hkk⟩ : ∃ kk, kk = ks.getD j 0 := ⟨_, rfl⟩
           rw [← hkk] at ck hy2
           have HKK := Lib.hid hkk
           clear g3 hkk
           gi_wp2
           refine ⟨fun _ h => (by cases h), ?_⟩
           gi_wp2
           refine (hR2 _).mono ?_
           rintro e W4 ⟨hk4, (⟨rfl, hJ4⟩ | ⟨rfl, hJx4⟩)⟩
           · gi_wp2
             go_roundw
             case rel => exact ⟨j + 1, by go_num, by omega, by rw [HNEXT.out]; exact hJ4, (hkp).trans hk4⟩
             case measure => simp [intOf]; omega
           · gi_wp2
             refine bodyPost_ret (results_none rfl _ _ _) rfl ?_
             exact ⟨⟨_, rfl⟩, (hkp).trans hk4, .inr ⟨_, by rw [← HM.out]; exact HPRE.out, hJx4⟩⟩
         · exfalso; have := HM.out; omega
     · obtain rfl : j = M := by omega
       gi_wp2
       go_end0
       exact ⟨⟨_, rfl⟩, hkp, .inl (by rw [← HM.out]; exact hJs)⟩
 · gi_wp2
   gi_quiet (fail)
   gi_wp2
   have e0 : (cs.length : Int) = (M : Int) := by have := HM.out; omega
   rw [e0]
   clear e0
   gi_loopw [17] (fun i wr => ∃ (j : Nat), i = .int .i64 j ∧ j ≤ M ∧ J (partsTo cs.length ps ks j) Pv wr ∧ Keep Pv W wr) (fun i _ => M - (intOf i).toNat)
   case atStart => exact ⟨0, rfl, Nat.zero_le _, hJ _ _ _ _ _ h0 (Keep.drewN _ _ _) (fun k h => .inl h), Keep.drewN _ _ _⟩
   case round =>
     obtain ⟨j, rfl, hj, hJs, hkp⟩ := hrel
     have hM1 : cs.length ≤ M := by have := HM.out; omega
     have hM2 : ks.length ≤ M := by have := HM.out; omega
     by_cases hjM : j < M
     · have hbW := (Array.getElem?_eq_some_iff.1 HBOX.out).1
       obtain ⟨y1, y2, y3, y4⟩ := box2 ((hkp.block b hbW (hRd b ⟨hlo, hb⟩)).trans HBOX.out)
       clear x1 x2 x3 x4
       by_cases hkid : j < cs.length
       · rcases HAT.out with h | ⟨qb, qo, rfl, q1, q2, q3⟩
         · omega
         have cq : wr.cell? ⟨qb, qo + j, none⟩ = some (.pointer (some ⟨ps j, 0, none⟩)) := by
           have hb0 := World.block_lt_of_cell? W _ (q3 j hkid)
           rw [cell_of_blk (hkp.block qb hb0 (hRd qb ⟨q1, q2⟩))]; exact q3 j hkid
         clear q3
         have hkidB : decide ((j : Int) < (cs.length : Int)) = true := by simp [hkid]
         obtain ⟨fn, tmps, assign, body, hy, hR⟩ := hY _ (.kid j (ps j)) Pv wr hJs hkp (fun _ h => h) (fun k h => Nat.lt_of_lt_of_le (hbnd k h) hkp.size) (by rw [← HM.out]; exact pre_kid hkid hjM)
         dsimp only [Part.enc] at hy
         gi_wp2
         refine (hR _).mono ?_
         rintro e W3 ⟨hk3, (⟨rfl, hJ3⟩ | ⟨rfl, hJx3⟩)⟩
         · have hk3' := hkp.trans hk3
           clear y1 y2 y3 y4 hy hR
           obtain ⟨y1, y2, y3, y4⟩ := box2 ((hk3'.block b hbW (hRd b ⟨hlo, hb⟩)).trans HBOX.out)
           by_cases hkey : j < ks.length
           · have hpre := pre_both (ps := ps) hkid hkey hjM
             have hnext := parts_both (ps := ps) hkid hkey
             rcases K4.out with h | ⟨pb, po, rfl, g1, g2, g3⟩
             · rw [h] at hkey; simp at hkey
             have ck : W3.cell? ⟨pb, po + j, none⟩ = some (.int .i64 (ks.getD j 0)) := by
               have hb0 := World.block_lt_of_cell? W _ (g3 j hkey)
               rw [cell_of_blk ((hk3').block pb hb0 (hRd pb ⟨g1, g2⟩))]; exact g3 j hkey
             have hkeyB : decide ((j : Int) < (ks.length : Int)) = true := by simp [hkey]
             obtain ⟨fn2, tmps2, assign2, body2, hy2, hR2⟩ := hY _ (.key (ks.getD j 0)) Pv W3 hJ3 (hk3') (fun _ h => h) (fun k h => Nat.lt_of_lt_of_le (hbnd k h) (hk3').size) (by rw [← HM.out]; exact hpre)
             dsimp only [Part.enc] at hy2
             have HPRE := Lib.hid hpre
             have HNEXT := Lib.hid hnext
             clear hpre hnext
             obtain ⟨kk, hkk⟩ : ∃ kk, kk = ks.getD j 0 := ⟨_, rfl⟩
             rw [← hkk] at ck hy2
             have HKK := Lib.hid hkk
             clear g3 hkk
             gi_wp2
             refine (hR2 _).mono ?_
             rintro e W4 ⟨hk4, (⟨rfl, hJ4⟩ | ⟨rfl, hJx4⟩)⟩
             · gi_wp2
               go_roundw
               case rel => exact ⟨j + 1, by go_num, by omega, by rw [HNEXT.out]; exact hJ4, (hk3').trans hk4⟩
               case measure => simp [intOf]; omega
             · gi_wp2
               refine bodyPost_ret (results_none rfl _ _ _) rfl ?_
               exact ⟨⟨_, rfl⟩, (hk3').trans hk4, .inr ⟨_, by rw [← HM.out]; exact HPRE.out, hJx4⟩⟩
           · have hnext := parts_kid (ps := ps) hkid hkey
             have HNEXT := Lib.hid hnext
             clear hnext
             have hkeyB : decide ((j : Int) < (ks.length : Int)) = false := by simp; omega
             gi_wp2
             refine ⟨fun _ h => (by cases h), ?_⟩
             gi_wp2
             go_roundw
             case rel => exact ⟨j + 1, by go_num, by omega, by rw [HNEXT.out]; exact hJ3, hk3'⟩
             case measure => simp [intOf]; omega
         · gi_wp2
           refine bodyPost_ret (results_none rfl _ _ _) rfl ?_
           exact ⟨⟨_, rfl⟩, hkp.trans hk3, .inr ⟨_, by rw [← HM.out]; exact pre_kid hkid hjM, hJx3⟩⟩
       · have hkidB : decide ((j : Int) < (cs.length : Int)) = false := by simp; omega
         exfalso; have := HM.out; omega
     · obtain rfl : j = M := by omega
       gi_wp2
       go_end0
       exact ⟨⟨_, rfl⟩, hkp, .inl (by rw [← HM.out]; exact hJs)⟩
end Go.Proofs.Ytananonjomfpkaa
/- The iterator that recurs: all keys in order. -/
namespace Go.Proofs.Ytananonjomfpkaa
open Go.RowKit
attribute [local go_sem] Oper.semAt_some
def flat (kss : List (List Int)) : List Part → List Int
 | [] => []
 | .kid i _ :: r => kss.getD i [] ++ flat kss r
 | .key k :: r => k :: flat kss r
theorem flat_append (kss : List (List Int)) (a b : List Part) : flat kss (a ++ b) = flat kss a ++ flat kss b := by
 induction a with
 | nil => rfl
 | cons x r ih => cases x <;> simp [flat, ih]
theorem flat_mono (kss : List (List Int)) {a b : List Part} (h : a <+: b) : flat kss a <+: flat kss b := by
 obtain ⟨r, rfl⟩ := h
 rw [flat_append]; exact List.prefix_append _ _
theorem flat_partAt (kss : List (List Int)) (ps : Nat → Nat) (ks : List Int) (i : Nat) : flat kss (partAt kss.length ps ks i) = Tr.part kss ks i := by
 unfold partAt Tr.part
 by_cases h1 : i < kss.length
 · by_cases h2 : i < ks.length
   · simp [flat, h1, h2, List.getD_eq_getElem?_getD]
   · simp [flat, h1, h2, List.getD_eq_getElem?_getD]
 · by_cases h2 : i < ks.length
   · simp [flat, h1, h2, List.getD_eq_getElem?_getD]
   · simp [flat, h1, h2]
theorem flat_partsTo (kss : List (List Int)) (ps : Nat → Nat) (ks : List Int) (j : Nat) : flat kss (partsTo kss.length ps ks j) = Tr.upto kss ks j := by
 induction j with
 | zero => rfl
 | succ j ih => rw [partsTo_succ, flat_append, ih, Tr.upto_succ, flat_partAt]
theorem flat_all (cs : List Tr) (ps : Nat → Nat) (ks : List Int) : flat (Tr.keyss cs) (partsTo cs.length ps ks (max cs.length ks.length)) = (Tr.mk ks cs).keys := by
 have h := flat_partsTo (Tr.keyss cs) ps ks (max cs.length ks.length)
 rw [Tr.length_keyss] at h
 rw [h, Tr.keys, Nat.max_comm]
def intEnc (k : Int) : Array Value := #[.int .i64 k]
theorem kid_mem {n : Nat} {ps : Nat → Nat} {ks : List Int} {j i b : Nat} (h : Part.kid i b ∈ partsTo n ps ks j) : i < n ∧ b = ps i := by
 simp only [partsTo, List.mem_flatMap, partAt, List.mem_append] at h
 obtain ⟨i', _, h | h⟩ := h
 · split at h
   · simp at h; obtain ⟨rfl, rfl⟩ := h; exact ⟨by assumption, rfl⟩
   · simp at h
 · split at h <;> simp at h
def Under (X : (Nat → Prop) → World → Prop) (Pv₀ : Nat → Prop) (B3 B4 : Nat) (o3 o4 : Obj) (Pv : Nat → Prop) (W : World) : Prop :=
 ∃ Pv2, X Pv2 W ∧ (∀ k, Pv k → k < W.heap.size → Pv2 k) ∧ (∀ k, Pv₀ k → Pv2 k) ∧ Pv2 B3 ∧ Pv2 B4 ∧ ¬ Pv B3 ∧ ¬ Pv B4 ∧ (∀ k, Pv2 k → k < W.heap.size) ∧ W.heap[B3]? = some o3 ∧ W.heap[B4]? = some o4
theorem Under.abide {X : (Nat → Prop) → World → Prop} (hX : ∀ Pv A Pv' B, X Pv A → Keep (fun k => ¬ Pv k) A B → (∀ k, Pv' k → Pv k ∨ A.heap.size ≤ k) → X Pv' B) {Pv₀ : Nat → Prop} {B3 B4 : Nat} {o3 o4 : Obj} :
   ∀ Pv A Pv' B, Under X Pv₀ B3 B4 o3 o4 Pv A → Keep (fun k => ¬ Pv k) A B → (∀ k, Pv' k → Pv k ∨ A.heap.size ≤ k) → Under X Pv₀ B3 B4 o3 o4 Pv' B := by
 rintro Pv A Pv' B ⟨Pv2, hx, h1, h2, h3, h4, h5, h6, h7, h8, h9⟩ hk hp
 have l3 := h7 _ h3
 have l4 := h7 _ h4
 refine ⟨fun k => Pv2 k ∨ (A.heap.size ≤ k ∧ k < B.heap.size), hX _ A _ B hx (hk.mono (fun k hlt hn hP => hn (h1 k hP hlt))) (fun k h => h.imp id (·.1)), fun k hP hlt => ?_, fun k h => .inl (h2 k h), .inl h3, .inl h4, ?_, ?_, fun k h => ?_, (hk.block _ l3 h5).trans h8, (hk.block _ l4 h6).trans h9⟩
 · rcases hp k hP with h | h
   · by_cases hA : k < A.heap.size
     · exact .inl (h1 k h hA)
     · exact .inr ⟨by omega, hlt⟩
   · exact .inr ⟨h, hlt⟩
 · intro h
   rcases hp _ h with h | h
   · exact h5 h
   · omega
 · intro h
   rcases hp _ h with h | h
   · exact h6 h
   · omega
 · have := hk.size
   rcases h with h | h
   · have := h7 k h; omega
   · exact h.2
set_option maxRecDepth 100000 in
set_option maxHeartbeats 2000000 in
theorem yieldKeys_c {w₀ : World} {lo hi b : Nat} {t : Tr} (ht : NodeIn w₀ lo hi b t) : t.weight ≤ 1048576 → hi ≤ w₀.heap.size →
   ∀ (l : Nat) (J Jx : List Int → (Nat → Prop) → World → Prop) (xs pre : List Int) (Pv₀ Pv : Nat → Prop) (W₀ W : World), Keep (fun k => lo ≤ k ∧ k < hi) w₀ W → (∀ k, lo ≤ k → k < hi → Pv k) → (∀ k, Pv k → k < W.heap.size) → Abide J → Abide Jx →
     Rounds Try.prog l intEnc J Jx xs Pv₀ W₀ → Keep Pv₀ W₀ W → (∀ k, Pv₀ k → Pv k) → J pre Pv W → pre ++ t.keys <+: xs →
   Calls Try.prog 127 #[.pointer (some ⟨b, 0, none⟩), .func (.yield l) #[] #[]] W fun e W' => Keep Pv W W' ∧
     ((e = .returned (.bool true) ∧ J (pre ++ t.keys) Pv W') ∨ (e = .returned (.bool false) ∧ ∃ q, q <+: t.keys ∧ Jx (pre ++ q) Pv W')) := by
 induction ht with
 | mk ks cs lo hi b kv a cap ps s hlo hhi hs0 hsn hs hbox hk hlen hcap hat hkids ih =>
   intro hwt hhi' l J Jx xs pre Pv₀ Pv W₀ W hkeep hRd hPv hJ hJx hY hK0 hsub0 h0 hpre
   simp only [Tr.weight] at hwt
   have hl0 := Tr.length_le_weights cs
   have hit := parts_iter hhi' hlo hhi hbox hk hlen hcap hat (by omega) (by omega)
   have hfl := flat_all cs ps ks
   have HIT := Lib.hid hit
   have HFL := Lib.hid hfl
   have IH := Lib.hid ih
   have HS := Lib.hid hs
   have HY := Lib.hid hY
   have HPRE := Lib.hid hpre
   clear hit hfl ih hs hbox hk hat hY hpre
   refine (callsIn_wide (n := 9)).1 (callsIn_of_wp_marks Try.func127 rfl trivial ?_ rfl)
   simp only [Try.ntmps127, List.size_toArray, List.length_cons, List.length_nil, Nat.reduceAdd, Nat.reduceSub, Array.replicate_succ, Array.replicate_zero, List.push_toArray, List.append_toArray, List.nil_append, List.cons_append]
   gi_wp2
   obtain ⟨W2, hW2⟩ : ∃ W2, W2 = (W.alloc (.cells #[.func (.yield l) #[] #[]] 81)).alloc (.cells #[.bool false] 4) := ⟨_, rfl⟩
   rw [← hW2]
   have hs2 : W2.heap.size = W.heap.size + 2 := by rw [hW2]; simp
   have hk2 : ∀ K, Keep K W W2 := fun K => by rw [hW2]; exact (Keep.alloc K _ _).trans (Keep.alloc K _ _)
   have b3 : W2.heap[W.heap.size]? = some (.cells #[.func (.yield l) #[] #[]] 81 (0, 0)) := by rw [hW2, old_blk _ _ _ (by simp), new_blk]
   have b4 : W2.heap[W.heap.size + 1]? = some (.cells #[.bool false] 4 (0, 0)) := by
     rw [hW2]
     have h := new_blk (W.alloc (.cells #[.func (.yield l) #[] #[]] 81)) (.cells #[.bool false] 4)
     rw [World.size_alloc] at h; exact h
   have h02 : Under (J (pre ++ flat (Tr.keyss cs) [])) Pv (W.heap.size) (W.heap.size + 1) (.cells #[.func (.yield l) #[] #[]] 81 (0, 0)) (.cells #[.bool false] 4 (0, 0)) Pv W2 := by
     refine ⟨fun k => Pv k ∨ (W.heap.size ≤ k ∧ k < W2.heap.size), ?_, fun k h _ => .inl h, fun k h => .inl h, .inr ⟨Nat.le_refl _, by omega⟩, .inr ⟨by omega, by omega⟩, fun h => ?_, fun h => ?_, fun k h => ?_, b3, b4⟩
     · refine hJ _ _ W _ W2 (by simpa [flat] using h0) (hk2 _) (fun k h => h.imp id (·.1))
     · have := hPv _ h; omega
     · have := hPv _ h; omega
     · rcases h with h | h
       · have := hPv _ h; omega
       · exact h.2
   have H02 := Lib.hid h02
   clear h02 hW2 b3 b4
   refine wp_loop (fb := #[.pointer (some ⟨b, 0, none⟩)]) (lb := #[]) rfl (enters_of Try.func133 (by kernel_rfl) rfl) HIT.out (hkeep.trans (hk2 _)) (fun x => by cases x <;> rfl)
     Pv (fun k h => hRd k h.1 h.2) (fun k h => by have := hPv k h; omega)
     (fun pre' Pv' W' => Under (J (pre ++ flat (Tr.keyss cs) pre')) Pv (W.heap.size) (W.heap.size + 1) (.cells #[.func (.yield l) #[] #[]] 81 (0, 0)) (.cells #[.bool false] 4 (0, 0)) Pv' W')
     (fun c pre' Pv' W' => c = .ret ∧ Under (fun Pv W => ∃ q, q <+: (Tr.mk ks cs).keys ∧ Jx (pre ++ q) Pv W) Pv (W.heap.size) (W.heap.size + 1) (.cells #[.func (.yield l) #[] #[]] 81 (0, 0)) (.cells #[.bool false] 4 (0, 0)) Pv' W')
     (fun pre' Pv1 A Pv2 B h hk hp => Under.abide (fun Pv A Pv' B h hk hp => hJ _ _ _ _ _ h hk hp) _ _ _ _ h hk hp)
     (fun c pre' Pv1 A Pv2 B h hk hp => ⟨h.1, Under.abide (fun Pv A Pv' B h hk hp => by obtain ⟨q, hq, hx⟩ := h; exact ⟨q, hq, hJx _ _ _ _ _ hx hk hp⟩) _ _ _ _ h.2 hk hp⟩)
     H02.out
     (fun x => { tmps := #[.pointer (some ⟨b, 0, none⟩), .func (.yield l) #[] #[], undef, .pointer (some ⟨W.heap.size, 0, none⟩), .pointer (some ⟨W.heap.size + 1, 0, none⟩), x.enc.getD 0 undef, x.enc.getD 1 undef, .pointer (some ⟨b, 0, none⟩), .func (.func 133) #[.pointer (some ⟨b, 0, none⟩)] #[], x.enc.getD 0 undef, x.enc.getD 1 undef, undef, undef, undef, undef, undef, undef, undef, undef, undef, undef, undef, undef, undef, undef, undef, undef], defers := [] })
     ?assign ?body ?done ?stop
   case assign =>
     intro l' m x W' K hK
     cases x <;> (dsimp only [Part.enc] at hK ⊢; gi_wp2; exact hK)
   case body =>
     intro l' m pre' x Pv' W' hI hkW hsubW hbnd hp
     obtain ⟨Pv2, hj, e1, e2, e3, e4, e5, e6, e7, e8, e9⟩ := hI
     obtain ⟨c3, f3⟩ := box1 e8
     have hKW : Keep Pv₀ W₀ W' := hK0.trans (((hk2 _).trans hkW).mono (fun k _ h => hsub0 k h))
     have hfm := flat_mono (Tr.keyss cs) hp
     rw [HFL.out, flat_append] at hfm
     have HP := Lib.hid hp
     have hsz' : W2.heap.size ≤ W'.heap.size := hkW.size
     cases x with
     | kid i b' =>
       obtain ⟨hi', rfl⟩ := kid_mem (hp.subset (by simp : Part.kid i b' ∈ pre' ++ [Part.kid i b']))
       have hki : flat (Tr.keyss cs) [Part.kid i (ps i)] = cs[i].keys := by
         have h := Tr.keyss_get cs i hi'
         simp [flat, List.getD_eq_getElem?_getD, h]
       have hnx : flat (Tr.keyss cs) (pre' ++ [Part.kid i (ps i)]) = flat (Tr.keyss cs) pre' ++ cs[i].keys := by rw [flat_append, hki]
       rw [hki] at hfm
       have hpk : (pre ++ flat (Tr.keyss cs) pre') ++ cs[i].keys <+: xs := by
         rw [List.append_assoc]
         exact ((List.prefix_append_right_inj pre).2 hfm).trans HPRE.out
       have g1 := steps_le HS.out 0 i (by omega) (by omega)
       have g2 := steps_le HS.out (i + 1) cs.length (by omega) (by omega)
       have hC := IH.out i hi' (by have := Tr.weight_get_le cs i hi'; omega) (by omega) l J Jx xs (pre ++ flat (Tr.keyss cs) pre') Pv₀ Pv2 W₀ W'
         ((hkeep.mono (fun k _ h => ⟨by omega, by omega⟩)).trans (((hk2 _).trans hkW).mono (fun k _ h => hRd k (by omega) (by omega)))) (fun k h1 h2 => e2 k (hRd k (by omega) (by omega))) e7 hJ hJx HY.out hKW (fun k h => e2 k (hsub0 k h)) hj hpk
       have HC := Lib.hid hC
       have HNX := Lib.hid hnx
       have HFM := Lib.hid hfm
       have E1 := Lib.hid e1
       have E2 := Lib.hid e2
       have E7 := Lib.hid e7
       have E89 := Lib.hid (And.intro e8 e9)
       have HB := Lib.hid hbnd
       clear hC hki hnx hfm hpk hp hj e1 e2 e7 e8 e9 hbnd
       dsimp only [Part.enc]
       gi_wp2
       refine ⟨trivial, fun h => (by cases h), ?_⟩
       refine (CallsIn.inRound l' ((callsIn_wide (n := m - 1)).2 HC.out)).mono ?_
       rintro e W4 ⟨hk4, (⟨rfl, hj4⟩ | ⟨rfl, q, hq, hx4⟩)⟩
       · gi_wp2
         refine ⟨fun _ h => (by cases h), ?_⟩
         gi_wp2
         refine ⟨hk4.mono (fun k hlt h => E1.out k h hlt), Pv2, ?_, fun k h _ => E1.out k h (HB.out k h), E2.out, e3, e4, e5, e6, fun k h => Nat.lt_of_lt_of_le (E7.out k h) hk4.size, (hk4.block _ (E7.out _ e3) e3).trans E89.out.1, (hk4.block _ (E7.out _ e4) e4).trans E89.out.2⟩
         rw [HNX.out, ← List.append_assoc]; exact hj4
       · have q3 := (hk4.block _ (E7.out _ e3) e3).trans E89.out.1
         have q9 := (hk4.block _ (E7.out _ e4) e4).trans E89.out.2
         obtain ⟨c4, f4⟩ := box1 q9
         have HQ := Lib.hid (And.intro q3 q9)
         clear q3 q9
         gi_wp2
         have hk5 : Keep Pv' W4 (W4.setCell ⟨W.heap.size + 1, 0, none⟩ (.bool false)) := Keep.setCell _ _ _ _ e6
         refine ⟨(hk4.mono (fun k hlt h => E1.out k h hlt)).trans hk5, rfl, Pv2, ⟨flat (Tr.keyss cs) pre' ++ q, ?_, ?_⟩, fun k h _ => E1.out k h (HB.out k h), E2.out, e3, e4, e5, e6, fun k h => ?_, ?_, ?_⟩
         · exact ((List.prefix_append_right_inj _).2 hq).trans HFM.out
         · refine hJx _ Pv2 W4 Pv2 _ (by rw [← List.append_assoc]; exact hx4) (Keep.setCell _ _ _ _ (fun h => h e4)) (fun k h => .inl h)
         · have := E7.out k h; have := hk4.size; simp; omega
         · rw [set_other _ _ _ _ _ (by omega)]; exact HQ.out.1
         · exact set_blk (.bool false) HQ.out.2
     | key k =>
       have hki : flat (Tr.keyss cs) [Part.key k] = [k] := rfl
       have hnx : flat (Tr.keyss cs) (pre' ++ [Part.key k]) = flat (Tr.keyss cs) pre' ++ [k] := by rw [flat_append, hki]
       rw [hki] at hfm
       have hpk : (pre ++ flat (Tr.keyss cs) pre') ++ [k] <+: xs := by
         rw [List.append_assoc]
         exact ((List.prefix_append_right_inj pre).2 hfm).trans HPRE.out
       obtain ⟨fn, tmps, assign, body, hy, hR⟩ := HY.out (pre ++ flat (Tr.keyss cs) pre') k Pv2 W' hj hKW (fun k h => e2 k (hsub0 k h)) e7 hpk
       have HR := Lib.hid hR
       have HNX := Lib.hid hnx
       have HFM := Lib.hid hfm
       have E1 := Lib.hid e1
       have E2 := Lib.hid e2
       have E7 := Lib.hid e7
       have E89 := Lib.hid (And.intro e8 e9)
       have HB := Lib.hid hbnd
       clear hR hki hnx hfm hpk hp hj e1 e2 e7 e8 e9 hbnd
       dsimp only [Part.enc]
       dsimp only [intEnc] at hy
       gi_wp2
       refine ⟨trivial, ?_⟩
       gi_wp2
       (try refine ⟨fun h => (by cases h), ?_⟩)
       refine RoundIn.mono (F := Fence.wide.inRound l') (HR.out _) ?_
       rintro e W4 ⟨hk4, (⟨rfl, hj4⟩ | ⟨rfl, hx4⟩)⟩
       · gi_wp2
         refine ⟨hk4.mono (fun k hlt h => E1.out k h hlt), Pv2, ?_, fun k h _ => E1.out k h (HB.out k h), E2.out, e3, e4, e5, e6, fun k h => Nat.lt_of_lt_of_le (E7.out k h) hk4.size, (hk4.block _ (E7.out _ e3) e3).trans E89.out.1, (hk4.block _ (E7.out _ e4) e4).trans E89.out.2⟩
         rw [HNX.out, ← List.append_assoc]; exact hj4
       · have q3 := (hk4.block _ (E7.out _ e3) e3).trans E89.out.1
         have q9 := (hk4.block _ (E7.out _ e4) e4).trans E89.out.2
         obtain ⟨c4, f4⟩ := box1 q9
         have HQ := Lib.hid (And.intro q3 q9)
         clear q3 q9
         gi_wp2
         have hk5 : Keep Pv' W4 (W4.setCell ⟨W.heap.size + 1, 0, none⟩ (.bool false)) := Keep.setCell _ _ _ _ e6
         refine ⟨(hk4.mono (fun k hlt h => E1.out k h hlt)).trans hk5, rfl, Pv2, ⟨flat (Tr.keyss cs) pre' ++ [k], HFM.out, ?_⟩, fun k h _ => E1.out k h (HB.out k h), E2.out, e3, e4, e5, e6, fun k h => ?_, ?_, ?_⟩
         · refine hJx _ Pv2 W4 Pv2 _ (by rw [← List.append_assoc]; exact hx4) (Keep.setCell _ _ _ _ (fun h => h e4)) (fun k h => .inl h)
         · have := E7.out k h; have := hk4.size; simp; omega
         · rw [set_other _ _ _ _ _ (by omega)]; exact HQ.out.1
         · exact set_blk (.bool false) HQ.out.2
   case done =>
     intro W3 hk3 hI hlt hD
     obtain ⟨Pv2, hj, e1, e2, e3, e4, e5, e6, e7, e8, e9⟩ := hI
     obtain ⟨c4, f4⟩ := box1 e9
     have hsz3 := hk3.size
     rw [hs2] at hD
     have eD : Pv2 (W.heap.size + 2) := e1 _ (.inr (.inl hs2.symm)) (by omega)
     have E2 := Lib.hid e2
     have E9 := Lib.hid e9
     have HD := Lib.hid hD
     have HJ3 := Lib.hid hj
     clear e1 e2 e7 e8 e9 hD hj
     gi_wp2
     have hD2 : (W3.setCell ⟨W.heap.size + 1, 0, none⟩ (.bool true)).heap[W.heap.size + 2]? = some (.deferred (some [])) := by rw [set_other _ _ _ _ _ (by omega)]; exact HD.out
     have hc2 := (box1 (set_blk (o := 0) (.bool true) E9.out)).1
     refine ⟨by simp, .inl ⟨_, _, rfl, run_takeDeferred hD2, ?_⟩⟩
     obtain ⟨W5, hW5⟩ : ∃ W5, W5 = ((W3.setCell ⟨W.heap.size + 1, 0, none⟩ (.bool true)).putObj (W.heap.size + 2) (.deferred none)) := ⟨_, rfl⟩
     have hc5 : W5.cell? ⟨W.heap.size + 1, 0, none⟩ = some (.bool true) := by rw [hW5]; exact (cell_of_blk (World.putObj_heap_other (by omega))).trans hc2
     have hk5 : ∀ K : Nat → Prop, ¬ K (W.heap.size + 1) → ¬ K (W.heap.size + 2) → Keep K W3 W5 := fun K h1 h2 => by rw [hW5]; exact (Keep.setCell K _ _ _ h1).trans (Keep.putObj K _ _ _ h2)
     rw [← hW5]
     refine ⟨_, by simp [results, Try.results127, go_sem, hc5], (((hk2 _).trans hk3).trans (hk5 _ (fun h => by have := hPv _ h; omega) (fun h => by have := hPv _ h; omega))), .inl ⟨rfl, ?_⟩⟩
     refine hJ _ Pv2 W3 Pv W5 ?_ (hk5 _ (fun h => h e4) (fun h => h eD)) (fun k h => .inl (E2.out k h))
     rw [← HFL.out]; exact HJ3.out
   case stop =>
     rintro c pre' W3 hk3 hp ⟨rfl, Pv2, ⟨q, hq, hj⟩, e1, e2, e3, e4, e5, e6, e7, e8, e9⟩ hlt hD
     rw [hs2] at hD
     have eD : Pv2 (W.heap.size + 2) := e1 _ (.inr (.inl hs2.symm)) (by omega)
     have E2 := Lib.hid e2
     have E9 := Lib.hid e9
     have HJ3 := Lib.hid hj
     clear e1 e2 e7 e8 e9 hj
     gi_wp2
     refine ⟨by simp, .inl ⟨_, _, rfl, run_takeDeferred hD, ?_⟩⟩
     obtain ⟨W5, hW5⟩ : ∃ W5, W5 = W3.putObj (W.heap.size + 2) (.deferred none) := ⟨_, rfl⟩
     have hc5 : W5.cell? ⟨W.heap.size + 1, 0, none⟩ = some (.bool false) := by rw [hW5]; exact (cell_of_blk (World.putObj_heap_other (by omega))).trans (box1 E9.out).1
     have hk5 : ∀ K : Nat → Prop, ¬ K (W.heap.size + 2) → Keep K W3 W5 := fun K h2 => by rw [hW5]; exact Keep.putObj K _ _ _ h2
     rw [← hW5]
     refine ⟨_, by simp [results, Try.results127, go_sem, hc5], (((hk2 _).trans hk3).trans (hk5 _ (fun h => by have := hPv _ h; omega))), .inr ⟨rfl, q, hq, ?_⟩⟩
     exact hJx _ Pv2 W3 Pv W5 HJ3.out (hk5 _ (fun h => h eD)) (fun k h => .inl (E2.out k h))
end Go.Proofs.Ytananonjomfpkaa
