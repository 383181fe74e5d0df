/- The contract of putAt, at ints and at pointers to nodes. -/
import Derived.Test.YtananonjomfpkaaQd16
/- Finding: the closures lessThan and notMoreThan, the place that a binary search finds by them. -/
namespace Go.Proofs.Ytananonjomfpkaa
open Go.RowKit
theorem place_pair {c : Int} {ks : List Int} (hs : ks.Pairwise (· < ·)) {i j : Nat} (hij : i ≤ j) (hj : j < ks.length) (h : ks.getD j 0 < c) : ks.getD i 0 < c := by
 by_cases e : i = j
 · subst e; exact h
 · have h1 := List.pairwise_iff_getElem.1 hs i j (by omega) hj (by omega)
   have e1 : ks.getD i 0 = ks[i] := by simp [List.getD_eq_getElem?_getD, show i < ks.length by omega]
   have e2 : ks.getD j 0 = ks[j] := by simp [List.getD_eq_getElem?_getD, hj]
   rw [e1]; rw [e2] at h; omega
theorem mid_le {l h : Nat} (hl : l < h) : l ≤ (l + h) / 2 ∧ (l + h) / 2 < h := by omega
theorem less1_c (k n : Int) (q : Nat) (w : World) (hq : w.cell? ⟨q, 0, none⟩ = some (.int .i64 n)) :
   Calls Try.prog 106 #[.int .i64 k, .pointer (some ⟨q, 0, none⟩)] w fun e w' => e = .returned (.bool (decide (k < n))) ∧ w' = w := by
 go_enter Try.func106, Try.ntmps106
 go_wp2_with fail
 go_ret
 exact ⟨rfl, rfl⟩
theorem less_c (n : Int) (w : World) :
   Calls Try.prog 70 #[.int .i64 n] w fun e w' => e = .returned (.func (.func 106) #[] #[.pointer (some ⟨w.heap.size, 0, none⟩)]) ∧ w' = w.alloc (.cells #[.int .i64 n] 3) := by
 go_enter Try.func70, Try.ntmps70
 go_wp2_with fail
 go_ret
 exact ⟨rfl, rfl⟩
set_option maxRecDepth 100000 in
set_option maxHeartbeats 1000000 in
theorem place_less_c {v : Value} {ks : List Int} (w : World) (B : Nat) (hk : IntsIn w B v ks) (hs : ks.Pairwise (· < ·)) (hn : ks.length ≤ 1048576) (n c : Int) (hc : Hid (c = n)) (q : Nat) (hq : w.cell? ⟨q, 0, none⟩ = some (.int .i64 n)) :
   Calls Try.prog 105 #[v, .func (.func 106) #[] #[.pointer (some ⟨q, 0, none⟩)]] w fun e w' => e = .returned (.int .i64 (place c ks)) ∧ w' = w := by
 obtain ⟨a, cap, rfl, h1, h2, _, h3⟩ := hk
 unfold maxLen at h2
 have HK := Lib.hid h3
 have HS := Lib.hid hs
 clear h3 hs
 go_enter Try.func105, Try.ntmps105
 go_wp2_with fail
 go_loop [5, 6] (fun u v => ∃ (l h : Nat), l ≤ h ∧ h ≤ ks.length ∧ u = .int .i64 l ∧ v = .int .i64 h ∧ (∀ i, i < l → ks.getD i 0 < c) ∧ (∀ i, h ≤ i → i < ks.length → c ≤ ks.getD i 0)) (fun u v => (intOf v).toNat - (intOf u).toNat)
 case atStart => exact ⟨0, ks.length, Nat.zero_le _, Nat.le_refl _, rfl, rfl, fun i h => by omega, fun i h h' => by omega⟩
 case round =>
   obtain ⟨l, h, hlh, hhl, rfl, rfl, hlo, hhi⟩ := hrel
   have HLO := Lib.hid hlo
   have HHI := Lib.hid hhi
   clear hlo hhi
   by_cases hlt : l < h
   · obtain ⟨m, hm⟩ : ∃ m, m = (l + h) / 2 := ⟨_, rfl⟩
     have hmm := mid_le hlt
     rw [← hm] at hmm
     have hmi : ((l : Int) + (h : Int)) / 2 = (m : Int) := by omega
     have HM := Lib.hid hm
     clear hm
     obtain ⟨m1, m2⟩ := hmm
     rcases HK.out with h0 | ⟨b, off, rfl, hb, hat⟩
     · rw [h0] at hhl; simp at hhl; omega
     have ha' : w.cell? ⟨b, off + m, none⟩ = some (.int .i64 (ks.getD m 0)) := hat m (by omega)
     obtain ⟨x, hx⟩ : ∃ x, x = ks.getD m 0 := ⟨_, rfl⟩
     rw [← hx] at ha'
     have HX := Lib.hid hx
     clear hat hx
     have m3 : (m : Int) < (ks.length : Int) := by omega
     by_cases hT : x < n
     · go_wp2_with fail
       refine (less1_c x n q w hq).mono ?_
       rintro e w' ⟨rfl, rfl⟩
       go_wp2_with fail
       go_round
       case rel =>
         refine ⟨m + 1, h, by omega, hhl, by go_num, rfl, fun i hi => place_pair HS.out (show i ≤ m by omega) (by omega) (by rw [← HX.out]; have := hc.out; omega), HHI.out⟩
       case measure => simp [intOf]; omega
     · go_wp2_with fail
       refine (less1_c x n q w hq).mono ?_
       rintro e w' ⟨rfl, rfl⟩
       go_wp2_with fail
       go_round
       case rel =>
         refine ⟨l, m, m1, by omega, rfl, rfl, HLO.out, fun i hi hi2 => Int.not_lt.1 (fun hlt2 => ?_)⟩
         have h1 := place_pair HS.out hi hi2 hlt2
         have h2 := hc.out
         rw [← HX.out] at h1; omega
       case measure => simp [intOf]; omega
   · obtain rfl : l = h := by omega
     have hp : place c ks = l := place_eq hhl HLO.out (fun h => Int.not_lt.2 (HHI.out l (Nat.le_refl _) h))
     have HP := Lib.hid hp
     clear hp
     go_wp2_with fail
     go_ret
     exact ⟨ret_int (by rw [HP.out]), rfl⟩
theorem place_less_d {v : Value} {ks : List Int} (w : World) (B : Nat) (hk : IntsIn w B v ks) (hs : ks.Pairwise (· < ·)) (hn : ks.length ≤ 1048576) (n c : Int) (hc : Hid (c = n)) (q : Nat) (hq : w.cell? ⟨q, 0, none⟩ = some (.int .i64 n)) (m : Nat) :
   Calls Try.prog 105 #[v, .func (.func 106) #[] #[.pointer (some ⟨q, 0, none⟩)]] (w.drewN m) fun e w' => e = .returned (.int .i64 (place c ks)) ∧ w' = w.drewN m :=
 place_less_c (w.drewN m) B hk hs hn n c hc q hq
end Go.Proofs.Ytananonjomfpkaa
/- The contract of putAt, at ints and at pointers to nodes. -/
namespace Go.Proofs.Ytananonjomfpkaa
open Go.RowKit
theorem put_row (xs : List Value) (y : Value) (i : Nat) (h : i ≤ xs.length) :
   (((xs ++ [y]).take (i + 1) ++ xs.drop i ++ (xs ++ [y]).drop (i + 1 + (xs.drop i).length)).take i ++ [y] ++ ((xs ++ [y]).take (i + 1) ++ xs.drop i ++ (xs ++ [y]).drop (i + 1 + (xs.drop i).length)).drop (i + 1)) = putAt xs i y := by
 have e1 : (xs ++ [y]).drop (i + 1 + (xs.drop i).length) = [] := by apply List.drop_eq_nil_of_le; simp; omega
 rw [e1, List.append_nil]
 have hl : ((xs ++ [y]).take (i + 1)).length = i + 1 := by simp; omega
 have e2 : ((xs ++ [y]).take (i + 1) ++ xs.drop i).drop (i + 1) = xs.drop i := by
   rw [List.drop_append_of_le_length (by omega), List.drop_eq_nil_of_le (by omega), List.nil_append]
 have e3 : ((xs ++ [y]).take (i + 1) ++ xs.drop i).take i = xs.take i := by
   rw [List.take_append_of_le_length (by omega), List.take_take, show min i (i + 1) = i by omega, List.take_append_of_le_length h]
 rw [e2, e3]
 simp [putAt]
set_option maxRecDepth 100000 in
set_option maxHeartbeats 2000000 in
theorem putInts_c (w : World) (F : Cells) (v : Value) (xs : List Value) (i : Nat) (n : Int) (hr : RowF w F v xs) (hi : i ≤ xs.length) (h1 : ∀ y ∈ xs, y.oneCell' = true) (hn : xs.length ≤ 1048576) :
   Calls Try.prog 147 #[v, .int .i64 i, .int .i64 n] w fun e w' => ∃ v' F', e = .returned v' ∧ RowF w' F' v' (putAt xs i (.int .i64 n)) ∧ (∀ q r, F' q r → F q r ∨ w.heap.size ≤ q) ∧ KeptF F w w' := by
 obtain ⟨i0, hi0, hz0, hz1, hz2⟩ := info_parts Try.appInfo
 obtain ⟨W1, hW1⟩ : ∃ W1, W1 = w.alloc (.cells #[.int .i64 n] 3) := ⟨_, rfl⟩
 have hs1 : W1.heap.size = w.heap.size + 1 := by rw [hW1]; simp
 have k1 : W1.heap[w.heap.size]? = some (.cells #[.int .i64 n] 3 (0, 0)) := by rw [hW1, new_blk]
 have hkp : KeptF (fun _ _ => False) w W1 := by rw [hW1]; exact KeptF.alloc _ _ _
 have hr1 : RowF W1 F v xs := hr.keep hkp (fun _ _ _ h => h)
 obtain ⟨va, vc, rfl⟩ := hr.shown
 have c1 := (box1 k1).1
 have HW1 := Lib.hid hW1
 have HR1 := Lib.hid hr1
 have HKP := Lib.hid hkp
 have H1 := Lib.hid h1
 have HS1 := Lib.hid hs1
 have HI := Lib.hid (And.intro hi0 (And.intro hz0 (And.intro hz1 hz2)))
 clear hW1 hr1 hkp hr h1 k1 hs1 hi0 hz0 hz1 hz2
 go_enter Try.func147, Try.ntmps147
 go_upto_region 1 with (fail)
 go_upto_region 2 with (at_builtin; rw [← HW1.out]; refine wpList_append_row rfl _ _ _ rfl 3 i0 _ 8 Try.underlying23 HI.out.1 HI.out.2.1 HI.out.2.2.1 HI.out.2.2.2 rfl F _ xs rfl HR1.out w.heap.size 0 1 (.int .i64 n) rfl c1 rfl (by unfold maxLen; omega) (by omega) ?_; intro b2 o2 cap2 F2 w2 hcap2 hr2 hF2 hk2; have H2 := Lib.hid (And.intro hr2 (And.intro hF2 hk2)); obtain ⟨-, -, hcm2, hown2, hat2⟩ := hr2.cells_of (by omega); have HO2 := Lib.hid (And.intro hown2 hat2); clear hr2 hF2 hk2 hown2 hat2)
 unfold maxLen at hcm2
 go_upto_region 2 with (fail)
 have hwr : IntKind.i64.wrap ((i : Int) + 1) = (i : Int) + 1 := IntWalk.i64_in _ (by omega)
 have h0 : (0 : Int) ≤ (i : Int) + 1 := by omega
 have h3 : ¬ cap2 = i := by omega
 have h2 : (i : Int) ≤ (xs.length : Int) + 1 := by omega
 obtain ⟨D, hD⟩ : ∃ D, D = xs.drop i := ⟨_, rfl⟩
 have hDl : D.length = Nat.min (xs.length + 1 - i) (xs.length - i) := by rw [hD, List.length_drop]; show _ = min _ _; omega
 have hDn : D.length = xs.length - i := by rw [hD, List.length_drop]
 have HD := Lib.hid (And.intro hD (And.intro hDl hDn))
 have HSRC := Lib.hid (show ∀ j u, D[j]? = some u → w2.cell? ((⟨b2, o2 + i, none⟩ : Addr).add j) = some u from fun j u hj => by
   have hj2 : j < D.length := by rcases Nat.lt_or_ge j D.length with h | h; exact h; rw [List.getElem?_eq_none h] at hj; cases hj
   have e : D[j]? = xs[i + j]? := by rw [hD, List.getElem?_drop]
   rw [e, List.getElem?_eq_getElem (by omega)] at hj
   rw [Addr.add_lit, Nat.add_assoc, HO2.out.2 (i + j) (by simp; omega), List.getElem_append_left (by omega)]
   exact hj)
 have HCC := Lib.hid (show ∀ j, j < D.length → (w2.cell? ⟨b2, o2 + (i + 1) + j, none⟩).isSome = true from fun j hj => by
   have := (HO2.out.1 (i + 1 + j) (by omega)).2.1; rwa [← Nat.add_assoc] at this)
 have HFF := Lib.hid (show ∀ j, j < D.length → w2.frozen? ⟨b2, o2 + (i + 1) + j, none⟩ = false from fun j hj => by
   have := (HO2.out.1 (i + 1 + j) (by omega)).2.2; rwa [← Nat.add_assoc] at this)
 have H1D := Lib.hid (show ∀ v ∈ D, v.oneCell' = true from fun v hv => H1.out v (by rw [hD] at hv; exact List.mem_of_mem_drop hv))
 have HST := Lib.hid (show ∀ w3, Hid (w3 = w2.drew.setCells b2 (o2 + (i + 1)) D) → ∃ u, w3.cell? ⟨b2, o2 + i, none⟩ = some u ∧ w3.frozen? ⟨b2, o2 + i, none⟩ = false from fun w3 h => by
   have h := h.out
   obtain ⟨g1, g2, g3⟩ := HO2.out.1 i (by omega)
   obtain ⟨u, hu⟩ := Option.isSome_iff_exists.1 g2
   exact ⟨u, by rw [h, World.cell?_setCells_out _ _ _ _ _ (fun _ _ => .inl (by show o2 + i < o2 + (i + 1); omega))]; exact hu, by rw [h, World.frozen?_setCells]; exact g3⟩)
 have HFIN := Lib.hid (show ∀ w3, Hid (w3 = w2.drew.setCells b2 (o2 + (i + 1)) D) → RowF (w3.setCell ⟨b2, o2 + i, none⟩ (.int .i64 n)) F2 (.slice (some ⟨b2, o2, none⟩) (xs.length + 1) cap2) (putAt xs i (.int .i64 n)) ∧ KeptF F w (w3.setCell ⟨b2, o2 + i, none⟩ (.int .i64 n)) from fun w3 h => by
   have h := h.out
   obtain ⟨hr2, hF2, hk2⟩ := H2.out
   have hr2' : RowF w2.drew F2 (.slice (some ⟨b2, o2, none⟩) (xs.length + 1) cap2) (xs ++ [.int .i64 n]) := hr2.keep (KeptF.drew (fun _ _ => False) w2) (fun _ _ _ h => h)
   have e1 := hr2'.splice (by omega) (i + 1) D (by simp; omega)
   have e2 := e1.splice (by omega) i [.int .i64 n] (by simp; omega)
   rw [hD, List.length_singleton, put_row xs _ i hi] at e2
   subst h
   rw [← hD] at e2
   refine ⟨e2, ?_⟩
   have q1 : KeptF F w W1 := HKP.out.mono (fun _ _ _ h => h.elim)
   have q2 : KeptF F W1 (w2.drew.setCells b2 (o2 + (i + 1)) D) := hk2.trans (((KeptF.drew _ _).trans ((KeptF.setCells b2 D _ _ (fun j hj => by
     have := (HO2.out.1 (i + 1 + j) (by omega)).1
     rw [← Nat.add_assoc] at this
     exact hF2 _ _ this)).mono (fun _ _ _ h => .inl h))))
   have q3 := q1.trans (q2.mono (fun x o hx h => .inl h))
   refine q3.trans (KeptF.setCell _ _ _ _ ?_)
   have hs := HS1.out
   rcases hF2 _ _ (HO2.out.1 i (by omega)).1 with h | h
   · exact .inl h
   · right; omega)
 clear hD hDl hDn
 have hF9 := H2.out.2.1
 have HF9 := Lib.hid (show ∀ q r, F2 q r → F q r ∨ w.heap.size ≤ q from fun q r h => (hF9 q r h).imp id (fun h => by have := HS1.out; omega))
 clear hF9
 by_cases hic : cap2 = i + 1
 · have HPOS := Lib.hid (show ∀ (dp sp : Option Addr), 0 < D.length → dp = some ⟨b2, o2 + (i + 1), none⟩ ∧ ∃ ad, sp = some ad ∧ ∀ j u, D[j]? = some u → w2.drew.cell? (ad.add j) = some u from fun dp sp h => by have := HD.out.2.2; omega)
   subst hic
   go_region_law (refine step_copy_cells rfl (.tmp 15) (.tmp 18) 23 23 rfl 3 Try.underlying23 (by rw [HI.out.1]; exact congrArg some HI.out.2.2.1) (some ⟨b2, o2, none⟩) (some ⟨b2, o2 + i, none⟩) 0 0 (xs.length + 1 - i) 1 (by go_simp) (by go_simp) b2 (o2 + (i + 1)) D (by have := HD.out.2.2; show _ = min _ 0; omega) (HPOS.out _ _) HCC.out HFF.out H1D.out ?_; intro w3 hw3; obtain ⟨u3, c3, f3⟩ := HST.out w3 hw3)
   all_goals (
     go_wp2_with fail
     go_ret
     exact ⟨_, _, rfl, (HFIN.out _ hw3).1, HF9.out, (HFIN.out _ hw3).2⟩)
 · go_region_law (refine step_copy_cells rfl (.tmp 15) (.tmp 18) 23 23 rfl 3 Try.underlying23 (by rw [HI.out.1]; exact congrArg some HI.out.2.2.1) (some ⟨b2, o2 + (i + 1), none⟩) (some ⟨b2, o2 + i, none⟩) (xs.length - i) (cap2 - (i + 1)) (xs.length + 1 - i) (cap2 - i) (by go_simp) (by go_simp) b2 (o2 + (i + 1)) D HD.out.2.1 (fun _ => ⟨rfl, _, rfl, HSRC.out⟩) HCC.out HFF.out H1D.out ?_; intro w3 hw3; obtain ⟨u3, c3, f3⟩ := HST.out w3 hw3)
   all_goals (
     go_wp2_with fail
     go_ret
     exact ⟨_, _, rfl, (HFIN.out _ hw3).1, HF9.out, (HFIN.out _ hw3).2⟩)
set_option maxRecDepth 100000 in
set_option maxHeartbeats 2000000 in
theorem putPtrs_c (w : World) (F : Cells) (v : Value) (xs : List Value) (i : Nat) (p : Nat) (hr : RowF w F v xs) (hi : i ≤ xs.length) (h1 : ∀ y ∈ xs, y.oneCell' = true) (hn : xs.length ≤ 1048576) :
   Calls Try.prog 165 #[v, .int .i64 i, .pointer (some ⟨p, 0, none⟩)] w fun e w' => ∃ v' F', e = .returned v' ∧ RowF w' F' v' (putAt xs i (.pointer (some ⟨p, 0, none⟩))) ∧ (∀ q r, F' q r → F q r ∨ w.heap.size ≤ q) ∧ KeptF F w w' := by
 obtain ⟨i0, hi0, hz0, hz1, hz2⟩ := info_parts Try.infoPtr
 obtain ⟨W1, hW1⟩ : ∃ W1, W1 = w.alloc (.cells #[.pointer (some ⟨p, 0, none⟩)] 70) := ⟨_, rfl⟩
 have hs1 : W1.heap.size = w.heap.size + 1 := by rw [hW1]; simp
 have k1 : W1.heap[w.heap.size]? = some (.cells #[.pointer (some ⟨p, 0, none⟩)] 70 (0, 0)) := by rw [hW1, new_blk]
 have hkp : KeptF (fun _ _ => False) w W1 := by rw [hW1]; exact KeptF.alloc _ _ _
 have hr1 : RowF W1 F v xs := hr.keep hkp (fun _ _ _ h => h)
 obtain ⟨va, vc, rfl⟩ := hr.shown
 have c1 := (box1 k1).1
 have HW1 := Lib.hid hW1
 have HR1 := Lib.hid hr1
 have HKP := Lib.hid hkp
 have H1 := Lib.hid h1
 have HS1 := Lib.hid hs1
 have HI := Lib.hid (And.intro hi0 (And.intro hz0 (And.intro hz1 hz2)))
 clear hW1 hr1 hkp hr h1 k1 hs1 hi0 hz0 hz1 hz2
 go_enter Try.func165, Try.ntmps165
 go_upto_region 1 with (fail)
 go_upto_region 2 with (at_builtin; rw [← HW1.out]; refine wpList_append_row rfl _ _ _ rfl 70 i0 _ 8 Try.underlying95 HI.out.1 HI.out.2.1 HI.out.2.2.1 HI.out.2.2.2 rfl F _ xs rfl HR1.out w.heap.size 0 1 (.pointer (some ⟨p, 0, none⟩)) rfl c1 rfl (by unfold maxLen; omega) (by omega) ?_; intro b2 o2 cap2 F2 w2 hcap2 hr2 hF2 hk2; have H2 := Lib.hid (And.intro hr2 (And.intro hF2 hk2)); obtain ⟨-, -, hcm2, hown2, hat2⟩ := hr2.cells_of (by omega); have HO2 := Lib.hid (And.intro hown2 hat2); clear hr2 hF2 hk2 hown2 hat2)
 unfold maxLen at hcm2
 go_upto_region 2 with (fail)
 have hwr : IntKind.i64.wrap ((i : Int) + 1) = (i : Int) + 1 := IntWalk.i64_in _ (by omega)
 have h0 : (0 : Int) ≤ (i : Int) + 1 := by omega
 have h3 : ¬ cap2 = i := by omega
 have h2 : (i : Int) ≤ (xs.length : Int) + 1 := by omega
 obtain ⟨D, hD⟩ : ∃ D, D = xs.drop i := ⟨_, rfl⟩
 have hDl : D.length = Nat.min (xs.length + 1 - i) (xs.length - i) := by rw [hD, List.length_drop]; show _ = min _ _; omega
 have hDn : D.length = xs.length - i := by rw [hD, List.length_drop]
 have HD := Lib.hid (And.intro hD (And.intro hDl hDn))
 have HSRC := Lib.hid (show ∀ j u, D[j]? = some u → w2.cell? ((⟨b2, o2 + i, none⟩ : Addr).add j) = some u from fun j u hj => by
   have hj2 : j < D.length := by rcases Nat.lt_or_ge j D.length with h | h; exact h; rw [List.getElem?_eq_none h] at hj; cases hj
   have e : D[j]? = xs[i + j]? := by rw [hD, List.getElem?_drop]
   rw [e, List.getElem?_eq_getElem (by omega)] at hj
   rw [Addr.add_lit, Nat.add_assoc, HO2.out.2 (i + j) (by simp; omega), List.getElem_append_left (by omega)]
   exact hj)
 have HCC := Lib.hid (show ∀ j, j < D.length → (w2.cell? ⟨b2, o2 + (i + 1) + j, none⟩).isSome = true from fun j hj => by
   have := (HO2.out.1 (i + 1 + j) (by omega)).2.1; rwa [← Nat.add_assoc] at this)
 have HFF := Lib.hid (show ∀ j, j < D.length → w2.frozen? ⟨b2, o2 + (i + 1) + j, none⟩ = false from fun j hj => by
   have := (HO2.out.1 (i + 1 + j) (by omega)).2.2; rwa [← Nat.add_assoc] at this)
 have H1D := Lib.hid (show ∀ v ∈ D, v.oneCell' = true from fun v hv => H1.out v (by rw [hD] at hv; exact List.mem_of_mem_drop hv))
 have HST := Lib.hid (show ∀ w3, Hid (w3 = w2.drew.setCells b2 (o2 + (i + 1)) D) → ∃ u, w3.cell? ⟨b2, o2 + i, none⟩ = some u ∧ w3.frozen? ⟨b2, o2 + i, none⟩ = false from fun w3 h => by
   have h := h.out
   obtain ⟨g1, g2, g3⟩ := HO2.out.1 i (by omega)
   obtain ⟨u, hu⟩ := Option.isSome_iff_exists.1 g2
   exact ⟨u, by rw [h, World.cell?_setCells_out _ _ _ _ _ (fun _ _ => .inl (by show o2 + i < o2 + (i + 1); omega))]; exact hu, by rw [h, World.frozen?_setCells]; exact g3⟩)
 have HFIN := Lib.hid (show ∀ w3, Hid (w3 = w2.drew.setCells b2 (o2 + (i + 1)) D) → RowF (w3.setCell ⟨b2, o2 + i, none⟩ (.pointer (some ⟨p, 0, none⟩))) F2 (.slice (some ⟨b2, o2, none⟩) (xs.length + 1) cap2) (putAt xs i (.pointer (some ⟨p, 0, none⟩))) ∧ KeptF F w (w3.setCell ⟨b2, o2 + i, none⟩ (.pointer (some ⟨p, 0, none⟩))) from fun w3 h => by
   have h := h.out
   obtain ⟨hr2, hF2, hk2⟩ := H2.out
   have hr2' : RowF w2.drew F2 (.slice (some ⟨b2, o2, none⟩) (xs.length + 1) cap2) (xs ++ [.pointer (some ⟨p, 0, none⟩)]) := hr2.keep (KeptF.drew (fun _ _ => False) w2) (fun _ _ _ h => h)
   have e1 := hr2'.splice (by omega) (i + 1) D (by simp; omega)
   have e2 := e1.splice (by omega) i [.pointer (some ⟨p, 0, none⟩)] (by simp; omega)
   rw [hD, List.length_singleton, put_row xs _ i hi] at e2
   subst h
   rw [← hD] at e2
   refine ⟨e2, ?_⟩
   have q1 : KeptF F w W1 := HKP.out.mono (fun _ _ _ h => h.elim)
   have q2 : KeptF F W1 (w2.drew.setCells b2 (o2 + (i + 1)) D) := hk2.trans (((KeptF.drew _ _).trans ((KeptF.setCells b2 D _ _ (fun j hj => by
     have := (HO2.out.1 (i + 1 + j) (by omega)).1
     rw [← Nat.add_assoc] at this
     exact hF2 _ _ this)).mono (fun _ _ _ h => .inl h))))
   have q3 := q1.trans (q2.mono (fun x o hx h => .inl h))
   refine q3.trans (KeptF.setCell _ _ _ _ ?_)
   have hs := HS1.out
   rcases hF2 _ _ (HO2.out.1 i (by omega)).1 with h | h
   · exact .inl h
   · right; omega)
 clear hD hDl hDn
 have hF9 := H2.out.2.1
 have HF9 := Lib.hid (show ∀ q r, F2 q r → F q r ∨ w.heap.size ≤ q from fun q r h => (hF9 q r h).imp id (fun h => by have := HS1.out; omega))
 clear hF9
 by_cases hic : cap2 = i + 1
 · have HPOS := Lib.hid (show ∀ (dp sp : Option Addr), 0 < D.length → dp = some ⟨b2, o2 + (i + 1), none⟩ ∧ ∃ ad, sp = some ad ∧ ∀ j u, D[j]? = some u → w2.drew.cell? (ad.add j) = some u from fun dp sp h => by have := HD.out.2.2; omega)
   subst hic
   go_region_law (refine step_copy_cells rfl (.tmp 15) (.tmp 18) 95 95 rfl 70 Try.underlying95 (by rw [HI.out.1]; exact congrArg some HI.out.2.2.1) (some ⟨b2, o2, none⟩) (some ⟨b2, o2 + i, none⟩) 0 0 (xs.length + 1 - i) 1 (by go_simp) (by go_simp) b2 (o2 + (i + 1)) D (by have := HD.out.2.2; show _ = min _ 0; omega) (HPOS.out _ _) HCC.out HFF.out H1D.out ?_; intro w3 hw3; obtain ⟨u3, c3, f3⟩ := HST.out w3 hw3)
   all_goals (
     go_wp2_with fail
     go_ret
     exact ⟨_, _, rfl, (HFIN.out _ hw3).1, HF9.out, (HFIN.out _ hw3).2⟩)
 · go_region_law (refine step_copy_cells rfl (.tmp 15) (.tmp 18) 95 95 rfl 70 Try.underlying95 (by rw [HI.out.1]; exact congrArg some HI.out.2.2.1) (some ⟨b2, o2 + (i + 1), none⟩) (some ⟨b2, o2 + i, none⟩) (xs.length - i) (cap2 - (i + 1)) (xs.length + 1 - i) (cap2 - i) (by go_simp) (by go_simp) b2 (o2 + (i + 1)) D HD.out.2.1 (fun _ => ⟨rfl, _, rfl, HSRC.out⟩) HCC.out HFF.out H1D.out ?_; intro w3 hw3; obtain ⟨u3, c3, f3⟩ := HST.out w3 hw3)
   all_goals (
     go_wp2_with fail
     go_ret
     exact ⟨_, _, rfl, (HFIN.out _ hw3).1, HF9.out, (HFIN.out _ hw3).2⟩)
end Go.Proofs.Ytananonjomfpkaa
