/- The program's evenDepth: plain data and contract. -/
import Derived.Test.YtananonjomfpkaaQf12
import Derived.Deep.RegionWith
import Derived.Deep.RegionHeld3
/- Draws of a tree, a width and a number by DrawInsertKey. -/
namespace Go.Proofs.Ytananonjomfpkaa
open Go.RowKit
set_option maxHeartbeats 1000000 in
set_option maxRecDepth 100000 in
theorem DrawDeleteKey_c {w : World} {B : Nat} {v : Value} {bs : List Nat} (h : BytesIn w B v bs) (w' : World) (hbw : Below B w w') (hB : B ≤ w'.heap.size) :
   Calls Try.prog 15 #[v] w' (InsDrawn w') := by
 obtain ⟨W1, hW1⟩ : ∃ W1, W1 = w'.alloc (.cells #[.slice none 0 0, .slice none 0 0] 26) := ⟨_, rfl⟩
 have hs1 : W1.heap.size = w'.heap.size + 1 := by rw [hW1]; simp
 have hb1 : Below w'.heap.size w' W1 := by rw [hW1]; exact (Below.refl _ _).alloc (Nat.le_refl _) _
 have hk1 : W1.heap[w'.heap.size]? = some (.cells #[.slice none 0 0, .slice none 0 0] 26 (0, 0)) := by rw [hW1, new_blk]
 have HD := Lib.hid (drawIns_c h W1 (hbw.trans (hb1.mono hB)) (by omega))
 have HW1 := Lib.hid hW1
 have H1 := Lib.hid (And.intro hb1 hk1)
 clear hW1 hb1 hk1 hbw h
 go_enter Try.func15, Try.ntmps15
 go_wp2_with fail
 rw [← HW1.out]
 refine HD.out.mono ?_
 rintro e w2 ⟨kv, cv, t, wide, key, rfl, hwd, ht2, hw2, hkey, hb2⟩
 obtain ⟨b1, b2, b3, b4, b5, b6, rfl, rfl⟩ := ht2.slices
 have hs2 := hb2.size
 have hk2 := (hb2.block w'.heap.size (by omega)).trans H1.out.2
 obtain ⟨r1, r2, r3, r4⟩ := box2 hk2
 have H2 := Lib.hid (And.intro ht2 (And.intro hkey (And.intro (H1.out.1.trans (hb2.mono (by omega))) (And.intro hk2 hwd))))
 clear ht2 hkey hb2 hk2 hwd
 go_wp2_with fail
 obtain ⟨wf, hwf⟩ : ∃ wf, wf = (w2.setCell ⟨w'.heap.size, 0, none⟩ (.slice b1 b2 b3)).setCell ⟨w'.heap.size, 1, none⟩ (.slice b4 b5 b6) := ⟨_, rfl⟩
 have hfb : wf.heap[w'.heap.size]? = some (.cells #[.slice b1 b2 b3, .slice b4 b5 b6] 26 (0, 0)) := by
   rw [hwf]; exact set_blk (o := 1) _ (set_blk (o := 0) _ H2.out.2.2.2.1)
 obtain ⟨d1, d2, d3, d4⟩ := box2 hfb
 have hsf : wf.heap.size = w2.heap.size := by rw [hwf]; simp
 rw [← hwf]
 refine bodyPost_ret (v := .tuple #[.agg #[.slice b1 b2 b3, .slice b4 b5 b6], .int .i64 wide, .int .i64 key]) (by simp [results, Try.results15, go_sem, d1, d2]) rfl ⟨_, _, t, wide, key, rfl, H2.out.2.2.2.2, ?_, hw2, H2.out.2.1, ?_⟩
 · refine H2.out.1.same (fun k hk => ?_) (fun k hk => ⟨by omega, by omega⟩)
   rw [hwf, set_other _ _ _ _ _ (by omega), set_other _ _ _ _ _ (by omega)]
 · rw [hwf]; exact (H2.out.2.2.1.setCell (by show w'.heap.size ≤ w'.heap.size; omega) _).setCell (by show w'.heap.size ≤ w'.heap.size; omega) _
end Go.Proofs.Ytananonjomfpkaa
/- The contracts of the model's l1Sorted and TreeValid. -/
namespace Go.Proofs.Ytananonjomfpkaa
open Go.RowKit
def okAt (ks : List Int) (i : Nat) : Bool := inB (ks.getD i 0) 0 99 && (decide (i = 0) || decide (ks.getD (i - 1) 0 < ks.getD i 0))
def sortedB (ks : List Int) : Bool := (List.range ks.length).all (okAt ks)
theorem sortedB_of {ks : List Int} (h : ∀ i, i < ks.length → okAt ks i = true) : sortedB ks = true := by
 simp only [sortedB, List.all_eq_true, List.mem_range]; exact h
theorem sortedB_not {ks : List Int} (i : Nat) (hi : i < ks.length) (h : okAt ks i = false) : sortedB ks = false := by
 cases hh : sortedB ks with
 | false => rfl
 | true =>
   simp only [sortedB, List.all_eq_true, List.mem_range] at hh
   rw [hh i hi] at h; cases h
set_option maxHeartbeats 1000000 in
theorem l1Sorted_c (ks : List Int) (v : Value) (w : World) (B : Nat) (_hB : B ≤ w.heap.size) (hk : IntsIn w B v ks) :
   Calls Try.prog 113 #[v] w fun e w' => e = .returned (.bool (sortedB ks)) ∧ w = w' := by
 obtain ⟨a, cap, rfl, h1, h2, _, h3⟩ := hk
 unfold maxLen at h2
 have HK := Lib.hid h3
 clear h3
 go_enter Try.func113, Try.ntmps113
 go_wp2_with fail
 go_loop [7] (fun i => ∃ (j : Nat), j ≤ ks.length ∧ i = .int .i64 j ∧ (∀ i, i < j → okAt ks i = true)) (fun i => ks.length - (intOf i).toNat)
 case atStart => exact ⟨0, Nat.zero_le _, rfl, fun i h => by omega⟩
 case round =>
   obtain ⟨j, hj, rfl, hall⟩ := hrel
   have HALL := Lib.hid hall
   clear hall
   by_cases hlt : j < ks.length
   · rcases HK.out with h | ⟨b, off, rfl, hb, hat⟩
     · simp [h] at hlt
     have ha1 := hat j hlt
     obtain ⟨x, hx⟩ : ∃ x, x = ks.getD j 0 := ⟨_, rfl⟩
     rw [← hx] at ha1
     have HX := Lib.hid hx
     clear hx
     by_cases hin : 0 ≤ x ∧ x ≤ 99
     · have hin' := inB_true hin.1 hin.2
       rcases Nat.eq_zero_or_pos j with hj0 | hj0
       · have hok : okAt ks j = true := by simp only [okAt, ← HX.out, hin']; simp [hj0]
         have HOK := Lib.hid hok
         have hgt : ¬ (0 : Int) < j := by omega
         clear hok hat
         have HJ0 := Lib.hid hj0
         clear hj0
         go_wp2_with fail
         refine (l1In_c x 0 99 _).mono ?_
         rintro e w1 ⟨rfl, rfl⟩
         rw [hin']
         go_wp2_with fail
         go_round
         case rel =>
           refine ⟨j + 1, by omega, by go_num, fun i hi => ?_⟩
           by_cases e : i = j
           · subst e; exact HOK.out
           · exact HALL.out i (by omega)
         case measure => simp [intOf]; omega
       · have ha2 := hat (j - 1) (by omega)
         obtain ⟨y, hy⟩ : ∃ y, y = ks.getD (j - 1) 0 := ⟨_, rfl⟩
         rw [← hy] at ha2
         have HY := Lib.hid hy
         obtain ⟨m, rfl⟩ : ∃ m, j = m + 1 := ⟨j - 1, by omega⟩
         rw [Nat.add_sub_cancel] at ha2
         clear hy hat
         by_cases hyx : y < x
         · have hok : okAt ks (m + 1) = true := by
             have h1 := HY.out; rw [Nat.add_sub_cancel] at h1
             simp only [okAt, ← HX.out, hin', Nat.add_sub_cancel, ← h1]; simp [hyx]
           have HOK := Lib.hid hok
           clear hok
           go_wp2_with fail
           refine (l1In_c x 0 99 _).mono ?_
           rintro e w1 ⟨rfl, rfl⟩
           rw [hin']
           go_wp2_with fail
           go_round
           case rel =>
             refine ⟨m + 1 + 1, by omega, by go_num, fun i hi => ?_⟩
             by_cases e : i = m + 1
             · subst e; exact HOK.out
             · exact HALL.out i (by omega)
           case measure => simp [intOf]; omega
         · have hok : okAt ks (m + 1) = false := by
             have h1 := HY.out; rw [Nat.add_sub_cancel] at h1
             simp only [okAt, ← HX.out, hin', Nat.add_sub_cancel, ← h1]; simp [hyx]
           have HOK := Lib.hid hok
           clear hok
           go_wp2_with fail
           refine (l1In_c x 0 99 _).mono ?_
           rintro e w1 ⟨rfl, rfl⟩
           rw [hin']
           go_wp2_with fail
           go_ret
           exact ⟨ret_bool (sortedB_not _ hlt HOK.out).symm, rfl⟩
     · have hin' := inB_false hin
       have hok : okAt ks j = false := by simp only [okAt, ← HX.out, hin']; rfl
       have HOK := Lib.hid hok
       clear hok hin hat
       go_wp2_with fail
       refine (l1In_c x 0 99 _).mono ?_
       rintro e w1 ⟨rfl, rfl⟩
       rw [hin']
       go_wp2_with fail
       go_ret
       exact ⟨ret_bool (sortedB_not _ hlt HOK.out).symm, rfl⟩
   · obtain rfl : j = ks.length := by omega
     go_wp2_with fail
     go_ret
     exact ⟨ret_bool (sortedB_of (fun i hi => HALL.out i hi)).symm, rfl⟩
def Tr.validB (wide : Int) (t : Tr) : Bool := inB wide 2 6 && (Tr.nodesB wide 0 t.depth t && sortedB t.keys)
theorem l1Wide_is (n : Int) (b : Bool) (h : inB n 2 6 = b) (w : World) : Calls Try.prog 110 #[.int .i64 n] w fun e w' => e = .returned (.bool b) ∧ w' = w :=
 (l1Wide_c n w).mono (by rintro e w' ⟨rfl, rfl⟩; exact ⟨by rw [h], rfl⟩)
set_option maxHeartbeats 2000000 in
set_option maxRecDepth 100000 in
theorem specTreeValid_no {kv cv : Value} {t : Tr} (wide : Int) (hwd : inB wide 2 6 = false) (w' : World) :
   Calls Try.prog 75 #[.agg #[kv, cv], .int .i64 wide] w' fun e w'' => e = .returned (.bool (Tr.validB wide t)) ∧ Below w'.heap.size w' w'' := by
 have hfin : Tr.validB wide t = false := by simp only [Tr.validB, hwd]; rfl
 have HF := Lib.hid hfin
 have HW := Lib.hid hwd
 clear hfin hwd
 go_enter Try.func75, Try.ntmps75
 go_wp2_with fail
 go_quiet ((go_at_call 110; exact Calls.quiet_of_same (l1Wide_is wide false HW.out _)))
 go_wp2_with fail
 go_ret
 exact ⟨ret_bool HF.out.symm, below_drewN ((Below.refl _ _).alloc (Nat.le_refl _) _) _⟩
theorem l1Nodes_is (b : Bool) (wide : Int) (hw1 : 2 ≤ wide) (hw2 : wide ≤ 6) {w : World} {B : Nat} {kv cv : Value} {t : Tr} (ht : TreeIn w B kv cv t) (hw : t.weight ≤ 1048576) (depth : Int) (h : Tr.nodesB wide 0 depth t = b)
   (w' : World) (hbw : Below B w w') (hB : B ≤ w'.heap.size) (hd1 : 1 ≤ depth) (hd2 : depth ≤ 1048577) :
   Calls Try.prog 111 #[.agg #[kv, cv], .int .i64 wide, .bool true, .int .i64 depth] w' fun e w'' => e = .returned (.bool b) ∧ Below w'.heap.size w' w'' :=
 (l1Nodes_c wide hw1 hw2 ht hw w' true depth hbw hB hd1 hd2).mono (by rintro e w'' ⟨rfl, hb⟩; exact ⟨by rw [← h]; rfl, hb⟩)
set_option maxHeartbeats 4000000 in
set_option maxRecDepth 100000 in
theorem specTreeValid_yes {w : World} {B : Nat} {kv cv : Value} {t : Tr} (ht : TreeIn w B kv cv t) (hw : t.weight ≤ 1048576) (wide : Int) (hwd : inB wide 2 6 = true)
   (hno : Tr.nodesB wide 0 t.depth t = true) (w' : World) (hbw : Below B w w') (hB : B ≤ w'.heap.size) :
   Calls Try.prog 75 #[.agg #[kv, cv], .int .i64 wide] w' fun e w'' => e = .returned (.bool (Tr.validB wide t)) ∧ Below w'.heap.size w' w'' := by
 have hfin : Tr.validB wide t = sortedB t.keys := by simp only [Tr.validB, hwd, hno]; rfl
 have hr : 2 ≤ wide ∧ wide ≤ 6 := by simpa [inB] using hwd
 have hd1 : (1 : Int) ≤ (t.depth : Int) := by cases t; simp only [Tr.depth]; omega
 have hd2 : (t.depth : Int) ≤ 1048577 := by have h1 := Tr.depth_le t; have h2 := Tr.count_le t; omega
 have HF := Lib.hid hfin
 have HW := Lib.hid hwd
 have HNO := Lib.hid hno
 have HBW := Lib.hid hbw
 obtain ⟨a1, n1, c1, a2, n2, c2, rfl, rfl⟩ := ht.slices
 obtain ⟨W1, hW1⟩ : ∃ W1, W1 = w'.alloc (.cells #[.slice a1 n1 c1, .slice a2 n2 c2] 26) := ⟨_, rfl⟩
 have hs1 : W1.heap.size = w'.heap.size + 1 := by rw [hW1]; simp
 have hb1 : Below w'.heap.size w' W1 := by rw [hW1]; exact (Below.refl _ _).alloc (Nat.le_refl _) _
 have kb : W1.heap[w'.heap.size]? = some (.cells #[.slice a1 n1 c1, .slice a2 n2 c2] 26 (0, 0)) := by rw [hW1, new_blk]
 have HW1 := Lib.hid hW1
 have HB1 := Lib.hid hb1
 have HKB := Lib.hid kb
 have HS1 := Lib.hid hs1
 obtain ⟨x1, x2, x3, x4⟩ := box2 kb
 clear hfin hwd hno hW1 hb1 kb hs1 hbw
 go_enter Try.func75, Try.ntmps75
 go_wp2_with fail
 rw [← HW1.out]
 go_region_held3 (fun x => x.cell? ⟨w'.heap.size, 0, none⟩ = some (.slice a1 n1 c1) ∧ x.cell? ⟨w'.heap.size, 1, none⟩ = some (.slice a2 n2 c2))
   (first | exact ⟨x1, x2⟩ | exact ⟨y1, y2⟩ | exact ⟨z1, z2⟩ | exact ⟨v1, v2⟩ | go_keep)
   (first
     | (go_at_call 110; refine (l1Wide_is wide true HW.out _).mono ?_; rintro e w1 ⟨rfl, rfl⟩)
     | (go_at_call 112; refine (specDepth_c ht hw _ (HBW.out.trans (HB1.out.drew.mono hB)) (by have := HS1.out; simp; omega)).mono ?_; rintro e w2 ⟨rfl, hb2⟩; have hs2 := hb2.size; have y0 := (hb2.block w'.heap.size (by have := HS1.out; simp; omega)).trans HKB.out; obtain ⟨y1, y2, y3, y4⟩ := box2 y0; have hb2' := HB1.out.drew.trans (hb2.mono (by have := HS1.out; simp; omega)); have HB2 := Lib.hid hb2'; have HY := Lib.hid y0; have HS2 : Hid (w'.heap.size + 1 ≤ w2.heap.size) := Lib.hid (by have := HS1.out; simp at hs2; omega); clear hb2 hs2 hb2' y0)
     | (go_at_call 111; refine (l1Nodes_is true wide hr.1 hr.2 ht hw _ HNO.out _ (HBW.out.trans (HB2.out.mono hB)) (by have := HS2.out; omega) hd1 hd2).mono ?_; rintro e w3 ⟨rfl, hb3⟩; have hs3 := hb3.size; have z0 := (hb3.block w'.heap.size (by have := HS2.out; omega)).trans HY.out; obtain ⟨z1, z2, z3, z4⟩ := box2 z0; have hb3' := HB2.out.trans (hb3.mono (by have := HS2.out; omega)); have HB3 := Lib.hid hb3'; have HS3 : Hid (w'.heap.size + 1 ≤ w3.heap.size) := Lib.hid (by have := HS2.out; omega); have HZ := Lib.hid z0; clear hb3 hs3 hb3' z0)
     | (go_at_call 74; refine (specKeys_c ht hw _ (HBW.out.trans (HB3.out.mono hB)) (by have := HS3.out; omega)).mono ?_; rintro e w4 ⟨v, rfl, hown, hb4⟩; have HO := Lib.hid hown; have hb4' := HB3.out.trans (hb4.mono (by have := HS3.out; omega)); have HB4 := Lib.hid hb4'; obtain ⟨v1, v2, v3, v4⟩ := box2 ((hb4.block w'.heap.size (by have := HS3.out; omega)).trans HZ.out); clear hown hb4 hb4')
     | (go_at_call 113; refine (l1Sorted_c _ _ _ _ (Nat.le_refl _) (IntsOwn.in HO.out)).mono ?_; rintro e w5 ⟨rfl, rfl⟩))
 go_wp2_with fail
 go_ret
 exact ⟨ret_bool HF.out.symm, HB4.out⟩
set_option maxHeartbeats 4000000 in
set_option maxRecDepth 100000 in
theorem specTreeValid_not {w : World} {B : Nat} {kv cv : Value} {t : Tr} (ht : TreeIn w B kv cv t) (hw : t.weight ≤ 1048576) (wide : Int) (hwd : inB wide 2 6 = true)
   (hno : Tr.nodesB wide 0 t.depth t = false) (w' : World) (hbw : Below B w w') (hB : B ≤ w'.heap.size) :
   Calls Try.prog 75 #[.agg #[kv, cv], .int .i64 wide] w' fun e w'' => e = .returned (.bool (Tr.validB wide t)) ∧ Below w'.heap.size w' w'' := by
 have hfin : Tr.validB wide t = false := by simp only [Tr.validB, hwd, hno]; rfl
 have hr : 2 ≤ wide ∧ wide ≤ 6 := by simpa [inB] using hwd
 have hd1 : (1 : Int) ≤ (t.depth : Int) := by cases t; simp only [Tr.depth]; omega
 have hd2 : (t.depth : Int) ≤ 1048577 := by have h1 := Tr.depth_le t; have h2 := Tr.count_le t; omega
 have HF := Lib.hid hfin
 have HW := Lib.hid hwd
 have HNO := Lib.hid hno
 have HBW := Lib.hid hbw
 obtain ⟨a1, n1, c1, a2, n2, c2, rfl, rfl⟩ := ht.slices
 obtain ⟨W1, hW1⟩ : ∃ W1, W1 = w'.alloc (.cells #[.slice a1 n1 c1, .slice a2 n2 c2] 26) := ⟨_, rfl⟩
 have hs1 : W1.heap.size = w'.heap.size + 1 := by rw [hW1]; simp
 have hb1 : Below w'.heap.size w' W1 := by rw [hW1]; exact (Below.refl _ _).alloc (Nat.le_refl _) _
 have kb : W1.heap[w'.heap.size]? = some (.cells #[.slice a1 n1 c1, .slice a2 n2 c2] 26 (0, 0)) := by rw [hW1, new_blk]
 have HW1 := Lib.hid hW1
 have HB1 := Lib.hid hb1
 have HKB := Lib.hid kb
 have HS1 := Lib.hid hs1
 obtain ⟨x1, x2, x3, x4⟩ := box2 kb
 clear hfin hwd hno hW1 hb1 kb hs1 hbw
 go_enter Try.func75, Try.ntmps75
 go_wp2_with fail
 rw [← HW1.out]
 go_region_with (first
     | (go_at_call 110; refine (l1Wide_is wide true HW.out _).mono ?_; rintro e w1 ⟨rfl, rfl⟩)
     | (go_at_call 112; refine (specDepth_c ht hw _ (HBW.out.trans (HB1.out.drew.mono hB)) (by have := HS1.out; simp; omega)).mono ?_; rintro e w2 ⟨rfl, hb2⟩; have hs2 := hb2.size; have y0 := (hb2.block w'.heap.size (by have := HS1.out; simp; omega)).trans HKB.out; obtain ⟨y1, y2, y3, y4⟩ := box2 y0; have hb2' := HB1.out.drew.trans (hb2.mono (by have := HS1.out; simp; omega)); have HB2 := Lib.hid hb2'; have HY := Lib.hid y0; have HS2 : Hid (w'.heap.size + 1 ≤ w2.heap.size) := Lib.hid (by have := HS1.out; simp at hs2; omega); clear hb2 hs2 hb2' y0)
     | (go_at_call 111; refine (l1Nodes_is false wide hr.1 hr.2 ht hw _ HNO.out _ (HBW.out.trans (HB2.out.mono hB)) (by have := HS2.out; omega) hd1 hd2).mono ?_; rintro e w3 ⟨rfl, hb3⟩; have hs3 := hb3.size; have z0 := (hb3.block w'.heap.size (by have := HS2.out; omega)).trans HY.out; obtain ⟨z1, z2, z3, z4⟩ := box2 z0; have hb3' := HB2.out.trans (hb3.mono (by have := HS2.out; omega)); have HB3 := Lib.hid hb3'; have HS3 : Hid (w'.heap.size + 1 ≤ w3.heap.size) := Lib.hid (by have := HS2.out; omega); have HZ := Lib.hid z0; clear hb3 hs3 hb3' z0))
 all_goals (go_wp2_with fail)
 all_goals (go_ret; refine ⟨?_, HB3.out⟩; rw [HF.out]; rfl)
theorem specTreeValid_c {w : World} {B : Nat} {kv cv : Value} {t : Tr} (ht : TreeIn w B kv cv t) (hw : t.weight ≤ 1048576) (wide : Int) (w' : World) (hbw : Below B w w') (hB : B ≤ w'.heap.size) :
   Calls Try.prog 75 #[.agg #[kv, cv], .int .i64 wide] w' fun e w'' => e = .returned (.bool (Tr.validB wide t)) ∧ Below w'.heap.size w' w'' := by
 cases hwd : inB wide 2 6 with
 | false => exact specTreeValid_no wide hwd w'
 | true =>
   cases hno : Tr.nodesB wide 0 t.depth t with
   | false => exact specTreeValid_not ht hw wide hwd hno w' hbw hB
   | true => exact specTreeValid_yes ht hw wide hwd hno w' hbw hB
end Go.Proofs.Ytananonjomfpkaa
/- Whether a tree is valid for some width: the model. -/
namespace Go.Proofs.Ytananonjomfpkaa
open Go.RowKit
def Tr.someB (t : Tr) : Bool := Tr.validB 2 t || Tr.validB 3 t || Tr.validB 4 t || Tr.validB 5 t || Tr.validB 6 t
theorem someB_of (t : Tr) : (∀ q : Nat, 2 ≤ q → q ≤ 6 → Tr.validB q t = true → t.someB = true) ∧ ((∀ q : Nat, 2 ≤ q → q ≤ 6 → Tr.validB q t = false) → t.someB = false) := by
 constructor
 · intro q h1 h2 h
   have hq : q = 2 ∨ q = 3 ∨ q = 4 ∨ q = 5 ∨ q = 6 := by omega
   unfold Tr.someB
   rcases hq with rfl | rfl | rfl | rfl | rfl
   · have h' : Tr.validB 2 t = true := h
     simp [h']
   · have h' : Tr.validB 3 t = true := h
     simp [h']
   · have h' : Tr.validB 4 t = true := h
     simp [h']
   · have h' : Tr.validB 5 t = true := h
     simp [h']
   · have h' : Tr.validB 6 t = true := h
     simp [h']
 · intro h
   have a2 : Tr.validB 2 t = false := h 2 (by omega) (by omega)
   have a3 : Tr.validB 3 t = false := h 3 (by omega) (by omega)
   have a4 : Tr.validB 4 t = false := h 4 (by omega) (by omega)
   have a5 : Tr.validB 5 t = false := h 5 (by omega) (by omega)
   have a6 : Tr.validB 6 t = false := h 6 (by omega) (by omega)
   unfold Tr.someB
   simp [a2, a3, a4, a5, a6]
set_option maxRecDepth 100000 in
set_option maxHeartbeats 1000000 in
theorem l2Valid_c {w : World} {B : Nat} {kv cv : Value} {t : Tr} (ht : TreeIn w B kv cv t) (hw : t.weight ≤ 1048576) (w' : World) (hbw : Below B w w') (hB : B ≤ w'.heap.size) :
   Calls Try.prog 143 #[.agg #[kv, cv]] w' fun e w'' => e = .returned (.bool t.someB) ∧ Below w'.heap.size w' w'' := by
 obtain ⟨a5, n5, m5, a6, n6, m6, rfl, rfl⟩ := ht.slices
 obtain ⟨W1, hW1⟩ : ∃ W1, W1 = w'.alloc (.cells #[.slice a5 n5 m5, .slice a6 n6 m6] 26) := ⟨_, rfl⟩
 have hs1 : W1.heap.size = w'.heap.size + 1 := by rw [hW1]; simp
 have hb1 : Below w'.heap.size w' W1 := by rw [hW1]; exact (Below.refl _ _).alloc (Nat.le_refl _) _
 have kb : W1.heap[w'.heap.size]? = some (.cells #[.slice a5 n5 m5, .slice a6 n6 m6] 26 (0, 0)) := by rw [hW1, new_blk]
 have HT := Lib.hid ht
 have HBW := Lib.hid hbw
 have HW1 := Lib.hid hW1
 have H1 := Lib.hid (And.intro hb1 kb)
 have hsb := someB_of t
 have HSB := Lib.hid hsb
 clear ht hbw hW1 hb1 kb hsb
 go_enter Try.func143, Try.ntmps143
 go_wp2_with fail
 rw [← HW1.out]
 go_loopw [3] (fun i wr => ∃ (j : Nat), 2 ≤ j ∧ j ≤ 7 ∧ i = .int .i64 j ∧ (∀ q : Nat, 2 ≤ q → q < j → Tr.validB q t = false) ∧ Below W1.heap.size W1 wr) (fun i _ => 7 - (intOf i).toNat)
 case atStart => exact ⟨2, Nat.le_refl _, by omega, rfl, fun q h1 h2 => by omega, Below.refl _ _⟩
 case round =>
   obtain ⟨j, hj2, hj7, rfl, hall, hbel⟩ := hrel
   have hsr := hbel.size
   obtain ⟨x1, x2, x3, x4⟩ := box2 ((hbel.block w'.heap.size (by omega)).trans H1.out.2)
   have HALL := Lib.hid hall
   have HBEL := Lib.hid hbel
   clear hall hbel
   by_cases hlt : j ≤ 6
   · have hlt' : (j : Int) ≤ 6 := by omega
     go_wp2_with fail
     refine (specTreeValid_c HT.out hw (j : Int) wr (HBW.out.trans ((H1.out.1.mono hB).trans (HBEL.out.mono (by omega)))) (by omega)).mono ?_
     rintro e w2 ⟨rfl, hb2⟩
     have HB2 := Lib.hid (HBEL.out.trans (hb2.mono hsr))
     clear hb2
     cases hv : Tr.validB j t with
     | true =>
       have hso := HSB.out.1 j hj2 (by omega) hv
       have HSO := Lib.hid hso
       have HV := Lib.hid hv
       clear hso hv
       go_wp2_with fail
       go_ret
       exact ⟨ret_bool HSO.out.symm, H1.out.1.trans (HB2.out.mono (by omega))⟩
     | false =>
       have HV := Lib.hid hv
       clear hv
       go_wp2_with fail
       go_roundw
       case rel =>
         refine ⟨j + 1, by omega, by omega, by go_num, fun q h1 h2 => ?_, HB2.out⟩
         by_cases hq : q = j
         · rw [hq]; exact HV.out
         · exact HALL.out q h1 (by omega)
       case measure => simp [intOf]; omega
   · have hlt' : ¬ (j : Int) ≤ 6 := by omega
     have hso := HSB.out.2 (fun q h1 h2 => HALL.out q h1 (by omega))
     have HSO := Lib.hid hso
     clear hso
     go_wp2_with fail
     go_ret
     exact ⟨ret_bool HSO.out.symm, H1.out.1.trans (HBEL.out.mono (by omega))⟩
end Go.Proofs.Ytananonjomfpkaa
/- The program's evenDepth: plain data and contract. -/
namespace Go.Proofs.Ytananonjomfpkaa
open Go.RowKit
def evenF (ds : List Nat) : Nat := if ds.getD 0 0 ≠ 0 ∧ ∀ x ∈ ds, x = ds.getD 0 0 then ds.getD 0 0 + 1 else 0
def Tr.evenD (wide : Int) : Nat → Int → Tr → Nat
 | 0, _, _ => 0
 | l + 1, least, .mk ks cs =>
   if (ks.length : Int) < least ∨ wide < (ks.length : Int) then 0
   else if cs.length = 0 then 1
   else if cs.length ≠ ks.length + 1 then 0
   else evenF (cs.map (Tr.evenD wide l (wide / 2)))
theorem evenF_no {ds : List Nat} (j : Nat) (hj : j < ds.length) (h : ds[j] = 0 ∨ ds[j] ≠ ds.getD 0 0) : evenF ds = 0 := by
 unfold evenF
 rw [if_neg]
 rintro ⟨h1, h2⟩
 have h3 := h2 ds[j] (List.getElem_mem hj)
 rcases h with h | h
 · exact h1 (by rw [← h3, h])
 · exact h h3
theorem evenF_yes {ds : List Nat} {d : Nat} (h0 : 0 < ds.length) (hd : d ≠ 0) (h : ∀ i (hi : i < ds.length), ds[i] = d) : evenF ds = d + 1 := by
 have e0 : ds.getD 0 0 = d := by have h1 := h 0 h0; simpa [List.getD_eq_getElem?_getD, h0] using h1
 unfold evenF
 rw [e0, if_pos]
 refine ⟨hd, fun x hx => ?_⟩
 obtain ⟨i, hi, rfl⟩ := List.getElem_of_mem hx
 exact h i hi
theorem Tr.evenD_le (wide : Int) : ∀ (l : Nat) (least : Int) (t : Tr), t.evenD wide l least ≤ l
 | 0, _, _ => by simp [Tr.evenD]
 | l + 1, least, .mk ks cs => by
   unfold Tr.evenD
   split
   · omega
   split
   · omega
   split
   · omega
   · unfold evenF
     split
     · rename_i _ h _ _
       cases cs with
       | nil => exact absurd rfl h
       | cons c r =>
         have := Tr.evenD_le wide l (wide / 2) c
         simp; omega
     · omega
set_option maxRecDepth 100000 in
set_option maxHeartbeats 2000000 in
theorem evenDepth_c (wide : Int) (hw1 : 2 ≤ wide) (hw2 : wide ≤ 6) : ∀ (l : Nat) (_hl : l ≤ 6) {w : World} {B : Nat} {kv cv : Value} {t : Tr} (_ht : TreeIn w B kv cv t) (_hwt : t.weight ≤ 1048576) (b o : Nat) (least : Int),
   -9223372036854775808 ≤ least → least ≤ 9223372036854775807 → w.cell? ⟨b, o, none⟩ = some kv → w.cell? ⟨b, o + 1, none⟩ = some cv → b < B → ∀ w', Below B w w' → B ≤ w'.heap.size →
   Calls Try.prog 62 #[.pointer (some ⟨b, o, none⟩), .int .i64 least, .int .i64 wide, .int .i64 l] w' fun e w'' => e = .returned (.int .i64 (t.evenD wide l least)) ∧ Below w'.heap.size w' w'' := by
 intro l
 induction l with
 | zero =>
   intro hl w B kv cv t ht hwt b o least hl1 hl2 c1 c2 hbB w' hbw hB
   obtain ⟨a5, n5, m5, a6, n6, m6, rfl, rfl⟩ := ht.slices
   have d1 : w'.cell? ⟨b, o, none⟩ = some _ := (below_cell hbw hbB).trans c1
   have d2 : w'.cell? ⟨b, o + 1, none⟩ = some _ := (below_cell hbw hbB).trans c2
   have hfin : t.evenD wide 0 least = 0 := rfl
   clear c1 c2
   go_enter Try.func62, Try.ntmps62
   go_wp2_with fail
   go_quiet (fail)
   go_wp2_with fail
   go_ret
   exact ⟨ret_int (by rw [hfin]; rfl), below_drewN (Below.refl _ _) _⟩
 | succ l ih =>
   intro hl w B kv cv t ht hwt b o least hl1 hl2 c1 c2 hbB w' hbw hB
   cases t with
   | mk ks cs =>
     obtain ⟨a, cap, kvs, cvs, rfl, hk, hlen, hcap, hat, hkids⟩ := ht.parts
     obtain ⟨ka, kcap, rfl, _⟩ := hk
     simp only [Tr.weight] at hwt
     have hl0 := Tr.length_le_weights cs
     have d1 : w'.cell? ⟨b, o, none⟩ = some _ := (below_cell hbw hbB).trans c1
     have d2 : w'.cell? ⟨b, o + 1, none⟩ = some _ := (below_cell hbw hbB).trans c2
     obtain ⟨L, hL⟩ : ∃ L : Int, L = ((l + 1 : Nat) : Int) := ⟨_, rfl⟩
     rw [← hL]
     have hL1 : 1 ≤ L := by omega
     have hL6 : L ≤ 6 := by omega
     have hLne : (L == 0) = false := by simp; omega
     have HL := Lib.hid hL
     have HAT := Lib.hid hat
     have HKI := Lib.hid hkids
     have IH := Lib.hid ih
     have HBW := Lib.hid hbw
     clear c1 c2 hL hat hkids ih hbw ht
     by_cases g1 : (ks.length : Int) < least
     · have hfin : Tr.evenD wide (l + 1) least (.mk ks cs) = 0 := by simp only [Tr.evenD]; rw [if_pos (.inl g1)]
       have HF := Lib.hid hfin
       clear hfin
       go_enter Try.func62, Try.ntmps62
       go_wp2_with fail
       go_quiet (fail)
       go_wp2_with fail
       go_ret
       exact ⟨ret_int (by rw [HF.out]; rfl), below_drewN (Below.refl _ _) _⟩
     have b1 : decide ((ks.length : Int) < least) = false := by simpa using g1
     by_cases g2 : wide < (ks.length : Int)
     · have hfin : Tr.evenD wide (l + 1) least (.mk ks cs) = 0 := by simp only [Tr.evenD]; rw [if_pos (.inr g2)]
       have HF := Lib.hid hfin
       clear hfin
       go_enter Try.func62, Try.ntmps62
       go_wp2_with fail
       go_quiet (fail)
       go_wp2_with fail
       go_ret
       exact ⟨ret_int (by rw [HF.out]; rfl), below_drewN (Below.refl _ _) _⟩
     have b2 : decide (wide < (ks.length : Int)) = false := by simpa using g2
     by_cases g3 : cs.length = 0
     · have hfin : Tr.evenD wide (l + 1) least (.mk ks cs) = 1 := by simp only [Tr.evenD]; rw [if_neg (by omega), if_pos g3]
       have HF := Lib.hid hfin
       have g3' : ((cs.length : Int) == 0) = true := by simp [g3]
       clear hfin
       go_enter Try.func62, Try.ntmps62
       go_wp2_with fail
       go_quiet (fail)
       go_wp2_with fail
       go_ret
       exact ⟨ret_int (by rw [HF.out]; rfl), below_drewN (Below.refl _ _) _⟩
     have g3' : ((cs.length : Int) == 0) = false := by rw [beq_eq_false_iff_ne]; omega
     by_cases g4 : cs.length ≠ ks.length + 1
     · have hfin : Tr.evenD wide (l + 1) least (.mk ks cs) = 0 := by simp only [Tr.evenD]; rw [if_neg (by omega), if_neg g3, if_pos g4]
       have HF := Lib.hid hfin
       have g4' : ((cs.length : Int) != (ks.length : Int) + 1) = true := by simp; omega
       clear hfin g4
       go_enter Try.func62, Try.ntmps62
       go_wp2_with fail
       go_quiet (fail)
       go_wp2_with fail
       go_ret
       exact ⟨ret_int (by rw [HF.out]; rfl), below_drewN (Below.refl _ _) _⟩
     have g4' : ((cs.length : Int) != (ks.length : Int) + 1) = false := by simp; omega
     have hfin : Tr.evenD wide (l + 1) least (.mk ks cs) = evenF (cs.map (Tr.evenD wide l (wide / 2))) := by simp only [Tr.evenD]; rw [if_neg (by omega), if_neg g3, if_neg g4]
     have HF := Lib.hid hfin
     clear hfin g4
     go_enter Try.func62, Try.ntmps62
     go_wp2_with fail
     go_quiet (fail)
     go_wp2_with fail
     obtain ⟨ds, hds⟩ : ∃ ds, ds = cs.map (Tr.evenD wide l (wide / 2)) := ⟨_, rfl⟩
     have hdl : ds.length = cs.length := by rw [hds]; simp
     have hdi : ∀ i (h : i < cs.length), ds.getD i 0 = Tr.evenD wide l (wide / 2) cs[i] := fun i h => by rw [hds]; simp [List.getD_eq_getElem?_getD, h]
     have HDS := Lib.hid hds
     have HDL := Lib.hid hdl
     have HDI := Lib.hid hdi
     obtain ⟨D, hD⟩ : ∃ D, D = ds.getD 0 0 := ⟨_, rfl⟩
     have HD := Lib.hid hD
     have hD6 : D ≤ 6 := by rw [hD, hdi 0 (by omega)]; have := Tr.evenD_le wide l (wide / 2) cs[0]; omega
     clear hds hdl hdi hD
     go_loopw [11, 47] (fun d i wr => ∃ (j E : Nat), j ≤ cs.length ∧ i = .int .i64 j ∧ d = .int .i64 E ∧ (j = 0 → E = 0) ∧ (0 < j → E = D) ∧ (∀ i', i' < cs.length → i' < j → ds.getD i' 0 = D ∧ D ≠ 0) ∧ Below w'.heap.size w' wr) (fun _ i _ => cs.length - (intOf i).toNat)
     case atStart => exact ⟨0, 0, Nat.zero_le _, rfl, rfl, fun _ => rfl, fun h => by omega, fun i _ h => by omega, below_drewN (Below.refl _ _) _⟩
     case round =>
       obtain ⟨j, E, hj, rfl, rfl, hE0, hE1, hall, hbel⟩ := hrel
       have HE0 := Lib.hid hE0
       have HE1 := Lib.hid hE1
       have HALL := Lib.hid hall
       have HBEL := Lib.hid hbel
       by_cases hlt : j < cs.length
       · rcases HAT.out with h | ⟨b2, off, rfl, hb, hat⟩
         · omega
         obtain ⟨ha, hc⟩ := hat j hlt
         have e2 : wr.cell? ⟨b, o + 1, none⟩ = some _ := (below_cell hbel (by omega)).trans d2
         have HA := Lib.hid ha
         have HC := Lib.hid hc
         clear ha hc hat hE0 hE1 hall hbel d1 d2
         go_wp2_with fail
         have hLl : L - 1 = (l : Int) := by have := HL.out; omega
         rw [hLl]
         clear hLl
         refine (IH.out (by omega) (HKI.out j hlt) (by have := Tr.weight_get_le cs j hlt; omega) b2 (off + j * 2) (wide / 2) (by omega) (by omega) HA.out HC.out hb wr (HBW.out.trans (HBEL.out.mono hB)) (by have := HBEL.out.size; omega)).mono ?_
         rintro e w1 ⟨rfl, hb1⟩
         have hX := HDI.out j hlt
         generalize Tr.evenD wide l (wide / 2) cs[j] = X at hX ⊢
         have hX6 : X ≤ 6 := by
           have := HDI.out j hlt
           have h2 := Tr.evenD_le wide l (wide / 2) cs[j]
           omega
         have HX := Lib.hid hX
         have hb1' := HBEL.out.trans (hb1.mono HBEL.out.size)
         have HB1 := Lib.hid hb1'
         clear hX hb1 hb1'
         by_cases x0 : X = 0
         · have x0' : ((X : Int) == 0) = true := by simp [x0]
           go_wp2_with fail
           go_ret
           refine ⟨ret_int ?_, HB1.out⟩
           rw [HF.out, ← HDS.out, evenF_no j (by rw [HDL.out]; exact hlt) (.inl ?_)]
           · rfl
           · have := HX.out; rw [List.getD_eq_getElem?_getD] at this; simp [HDL.out, hlt] at this; omega
         have x0' : ((X : Int) == 0) = false := by rw [beq_eq_false_iff_ne]; omega
         by_cases j0 : j = 0
         · have j0' : decide ((0 : Int) < (j : Int)) = false := by simp [j0]
           go_wp2_with fail
           go_roundw
           case rel =>
             refine ⟨j + 1, X, by omega, by go_num, rfl, fun h => by omega, fun _ => ?_, fun i hi hij => ?_, HB1.out⟩
             · rw [HD.out, ← HX.out, j0]
             · obtain rfl : i = j := by omega
               have h1 := HX.out
               have h2 := HD.out
               subst j0
               omega
           case measure => simp [intOf]; omega
         have j0' : decide ((0 : Int) < (j : Int)) = true := by simp; omega
         by_cases xe : X = E
         · have xe' : ((X : Int) != (E : Int)) = false := by simp [xe]
           go_wp2_with fail
           go_roundw
           case rel =>
             refine ⟨j + 1, X, by omega, by go_num, by rw [xe], fun h => by omega, fun _ => ?_, fun i hi hij => ?_, HB1.out⟩
             · rw [xe, HE1.out (by omega)]
             · by_cases hij' : i = j
               · subst hij'
                 have h1 := HX.out
                 have h2 := HE1.out (by omega)
                 omega
               · exact HALL.out i hi (by omega)
           case measure => simp [intOf]; omega
         · have xe' : ((X : Int) != (E : Int)) = true := by rw [bne_iff_ne]; omega
           go_wp2_with fail
           go_ret
           refine ⟨ret_int ?_, HB1.out⟩
           rw [HF.out, ← HDS.out, evenF_no j (by rw [HDL.out]; exact hlt) (.inr ?_)]
           · rfl
           · have h1 := HX.out
             have h2 := HE1.out (by omega)
             have h3 := HD.out
             rw [List.getD_eq_getElem?_getD] at h1
             simp only [HDL.out, hlt, List.getElem?_eq_getElem, Option.getD_some] at h1
             omega
       · obtain rfl : j = cs.length := by omega
         clear hE0 hE1 hall hbel
         have hE : E ≤ 6 := by have := HE1.out (by omega); omega
         go_wp2_with fail
         go_ret
         refine ⟨ret_int ?_, HBEL.out⟩
         have h0 := HALL.out 0 (by omega) (by omega)
         rw [HF.out, ← HDS.out, evenF_yes (d := D) (by rw [HDL.out]; omega) h0.2 (fun i hi => ?_)]
         · have := HE1.out (by omega); omega
         · have hi' : i < cs.length := by rw [HDL.out] at hi; exact hi
           have := (HALL.out i hi' hi').1
           rw [List.getD_eq_getElem?_getD] at this
           simpa [hi] using this
end Go.Proofs.Ytananonjomfpkaa
