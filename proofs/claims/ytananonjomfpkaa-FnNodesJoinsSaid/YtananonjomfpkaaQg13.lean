/- The contract of halves. -/
import Derived.Test.YtananonjomfpkaaQg12
import Derived.Test.YtananonjomfpkaaQg11
import Derived.Deep.Cut
import Derived.BigRegion
/- The contract of putAt, at ints and at pointers to nodes. -/
namespace Go.Proofs.Ytananonjomfpkaa
open Go.RowKit
theorem put_row (xs : List Value) (y : Value) (i : Nat) (h : i ≤ xs.length) :
   (((xs ++ [y]).take (i + 1) ++ xs.drop i ++ (xs ++ [y]).drop (i + 1 + (xs.drop i).length)).take i ++ [y] ++ ((xs ++ [y]).take (i + 1) ++ xs.drop i ++ (xs ++ [y]).drop (i + 1 + (xs.drop i).length)).drop (i + 1)) = putAt xs i y := by
 have e1 : (xs ++ [y]).drop (i + 1 + (xs.drop i).length) = [] := by apply List.drop_eq_nil_of_le; simp; omega
 rw [e1, List.append_nil]
 have hl : ((xs ++ [y]).take (i + 1)).length = i + 1 := by simp; omega
 have e2 : ((xs ++ [y]).take (i + 1) ++ xs.drop i).drop (i + 1) = xs.drop i := by
   rw [List.drop_append_of_le_length (by omega), List.drop_eq_nil_of_le (by omega), List.nil_append]
 have e3 : ((xs ++ [y]).take (i + 1) ++ xs.drop i).take i = xs.take i := by
   rw [List.take_append_of_le_length (by omega), List.take_take, show min i (i + 1) = i by omega, List.take_append_of_le_length h]
 rw [e2, e3]
 simp [putAt]
set_option maxRecDepth 100000 in
set_option maxHeartbeats 2000000 in
theorem putInts_c (w : World) (F : Cells) (v : Value) (xs : List Value) (i : Nat) (n : Int) (hr : RowF w F v xs) (hi : i ≤ xs.length) (h1 : ∀ y ∈ xs, y.oneCell' = true) (hn : xs.length ≤ 1048576) :
   Calls Try.prog 147 #[v, .int .i64 i, .int .i64 n] w fun e w' => ∃ v' F', e = .returned v' ∧ RowF w' F' v' (putAt xs i (.int .i64 n)) ∧ (∀ q r, F' q r → F q r ∨ w.heap.size ≤ q) ∧ KeptF F w w' := by
 obtain ⟨i0, hi0, hz0, hz1, hz2⟩ := info_parts Try.appInfo
 obtain ⟨W1, hW1⟩ : ∃ W1, W1 = w.alloc (.cells #[.int .i64 n] 3) := ⟨_, rfl⟩
 have hs1 : W1.heap.size = w.heap.size + 1 := by rw [hW1]; simp
 have k1 : W1.heap[w.heap.size]? = some (.cells #[.int .i64 n] 3 (0, 0)) := by rw [hW1, new_blk]
 have hkp : KeptF (fun _ _ => False) w W1 := by rw [hW1]; exact KeptF.alloc _ _ _
 have hr1 : RowF W1 F v xs := hr.keep hkp (fun _ _ _ h => h)
 obtain ⟨va, vc, rfl⟩ := hr.shown
 have c1 := (box1 k1).1
 have HW1 := Lib.hid hW1
 have HR1 := Lib.hid hr1
 have HKP := Lib.hid hkp
 have H1 := Lib.hid h1
 have HS1 := Lib.hid hs1
 have HI := Lib.hid (And.intro hi0 (And.intro hz0 (And.intro hz1 hz2)))
 clear hW1 hr1 hkp hr h1 k1 hs1 hi0 hz0 hz1 hz2
 go_enter Try.func147, Try.ntmps147
 go_upto_region 1 with (fail)
 go_upto_region 2 with (at_builtin; rw [← HW1.out]; refine wpList_append_row rfl _ _ _ rfl 3 i0 _ 8 Try.underlying23 HI.out.1 HI.out.2.1 HI.out.2.2.1 HI.out.2.2.2 rfl F _ xs rfl HR1.out w.heap.size 0 1 (.int .i64 n) rfl c1 rfl (by unfold maxLen; omega) (by omega) ?_; intro b2 o2 cap2 F2 w2 hcap2 hr2 hF2 hk2; have H2 := Lib.hid (And.intro hr2 (And.intro hF2 hk2)); obtain ⟨-, -, hcm2, hown2, hat2⟩ := hr2.cells_of (by omega); have HO2 := Lib.hid (And.intro hown2 hat2); clear hr2 hF2 hk2 hown2 hat2)
 unfold maxLen at hcm2
 go_upto_region 2 with (fail)
 have hwr : IntKind.i64.wrap ((i : Int) + 1) = (i : Int) + 1 := IntWalk.i64_in _ (by omega)
 have h0 : (0 : Int) ≤ (i : Int) + 1 := by omega
 have h3 : ¬ cap2 = i := by omega
 have h2 : (i : Int) ≤ (xs.length : Int) + 1 := by omega
 obtain ⟨D, hD⟩ : ∃ D, D = xs.drop i := ⟨_, rfl⟩
 have hDl : D.length = Nat.min (xs.length + 1 - i) (xs.length - i) := by rw [hD, List.length_drop]; show _ = min _ _; omega
 have hDn : D.length = xs.length - i := by rw [hD, List.length_drop]
 have HD := Lib.hid (And.intro hD (And.intro hDl hDn))
 have HSRC := Lib.hid (show ∀ j u, D[j]? = some u → w2.cell? ((⟨b2, o2 + i, none⟩ : Addr).add j) = some u from fun j u hj => by
   have hj2 : j < D.length := by rcases Nat.lt_or_ge j D.length with h | h; exact h; rw [List.getElem?_eq_none h] at hj; cases hj
   have e : D[j]? = xs[i + j]? := by rw [hD, List.getElem?_drop]
   rw [e, List.getElem?_eq_getElem (by omega)] at hj
   rw [Addr.add_lit, Nat.add_assoc, HO2.out.2 (i + j) (by simp; omega), List.getElem_append_left (by omega)]
   exact hj)
 have HCC := Lib.hid (show ∀ j, j < D.length → (w2.cell? ⟨b2, o2 + (i + 1) + j, none⟩).isSome = true from fun j hj => by
   have := (HO2.out.1 (i + 1 + j) (by omega)).2.1; rwa [← Nat.add_assoc] at this)
 have HFF := Lib.hid (show ∀ j, j < D.length → w2.frozen? ⟨b2, o2 + (i + 1) + j, none⟩ = false from fun j hj => by
   have := (HO2.out.1 (i + 1 + j) (by omega)).2.2; rwa [← Nat.add_assoc] at this)
 have H1D := Lib.hid (show ∀ v ∈ D, v.oneCell' = true from fun v hv => H1.out v (by rw [hD] at hv; exact List.mem_of_mem_drop hv))
 have HST := Lib.hid (show ∀ w3, Hid (w3 = w2.drew.setCells b2 (o2 + (i + 1)) D) → ∃ u, w3.cell? ⟨b2, o2 + i, none⟩ = some u ∧ w3.frozen? ⟨b2, o2 + i, none⟩ = false from fun w3 h => by
   have h := h.out
   obtain ⟨g1, g2, g3⟩ := HO2.out.1 i (by omega)
   obtain ⟨u, hu⟩ := Option.isSome_iff_exists.1 g2
   exact ⟨u, by rw [h, World.cell?_setCells_out _ _ _ _ _ (fun _ _ => .inl (by show o2 + i < o2 + (i + 1); omega))]; exact hu, by rw [h, World.frozen?_setCells]; exact g3⟩)
 have HFIN := Lib.hid (show ∀ w3, Hid (w3 = w2.drew.setCells b2 (o2 + (i + 1)) D) → RowF (w3.setCell ⟨b2, o2 + i, none⟩ (.int .i64 n)) F2 (.slice (some ⟨b2, o2, none⟩) (xs.length + 1) cap2) (putAt xs i (.int .i64 n)) ∧ KeptF F w (w3.setCell ⟨b2, o2 + i, none⟩ (.int .i64 n)) from fun w3 h => by
   have h := h.out
   obtain ⟨hr2, hF2, hk2⟩ := H2.out
   have hr2' : RowF w2.drew F2 (.slice (some ⟨b2, o2, none⟩) (xs.length + 1) cap2) (xs ++ [.int .i64 n]) := hr2.keep (KeptF.drew (fun _ _ => False) w2) (fun _ _ _ h => h)
   have e1 := hr2'.splice (by omega) (i + 1) D (by simp; omega)
   have e2 := e1.splice (by omega) i [.int .i64 n] (by simp; omega)
   rw [hD, List.length_singleton, put_row xs _ i hi] at e2
   subst h
   rw [← hD] at e2
   refine ⟨e2, ?_⟩
   have q1 : KeptF F w W1 := HKP.out.mono (fun _ _ _ h => h.elim)
   have q2 : KeptF F W1 (w2.drew.setCells b2 (o2 + (i + 1)) D) := hk2.trans (((KeptF.drew _ _).trans ((KeptF.setCells b2 D _ _ (fun j hj => by
     have := (HO2.out.1 (i + 1 + j) (by omega)).1
     rw [← Nat.add_assoc] at this
     exact hF2 _ _ this)).mono (fun _ _ _ h => .inl h))))
   have q3 := q1.trans (q2.mono (fun x o hx h => .inl h))
   refine q3.trans (KeptF.setCell _ _ _ _ ?_)
   have hs := HS1.out
   rcases hF2 _ _ (HO2.out.1 i (by omega)).1 with h | h
   · exact .inl h
   · right; omega)
 clear hD hDl hDn
 have hF9 := H2.out.2.1
 have HF9 := Lib.hid (show ∀ q r, F2 q r → F q r ∨ w.heap.size ≤ q from fun q r h => (hF9 q r h).imp id (fun h => by have := HS1.out; omega))
 clear hF9
 by_cases hic : cap2 = i + 1
 · have HPOS := Lib.hid (show ∀ (dp sp : Option Addr), 0 < D.length → dp = some ⟨b2, o2 + (i + 1), none⟩ ∧ ∃ ad, sp = some ad ∧ ∀ j u, D[j]? = some u → w2.drew.cell? (ad.add j) = some u from fun dp sp h => by have := HD.out.2.2; omega)
   subst hic
   go_region_law (refine step_copy_cells rfl (.tmp 15) (.tmp 18) 23 23 rfl 3 Try.underlying23 (by rw [HI.out.1]; exact congrArg some HI.out.2.2.1) (some ⟨b2, o2, none⟩) (some ⟨b2, o2 + i, none⟩) 0 0 (xs.length + 1 - i) 1 (by go_simp) (by go_simp) b2 (o2 + (i + 1)) D (by have := HD.out.2.2; show _ = min _ 0; omega) (HPOS.out _ _) HCC.out HFF.out H1D.out ?_; intro w3 hw3; obtain ⟨u3, c3, f3⟩ := HST.out w3 hw3)
   all_goals (
     go_wp2_with fail
     go_ret
     exact ⟨_, _, rfl, (HFIN.out _ hw3).1, HF9.out, (HFIN.out _ hw3).2⟩)
 · go_region_law (refine step_copy_cells rfl (.tmp 15) (.tmp 18) 23 23 rfl 3 Try.underlying23 (by rw [HI.out.1]; exact congrArg some HI.out.2.2.1) (some ⟨b2, o2 + (i + 1), none⟩) (some ⟨b2, o2 + i, none⟩) (xs.length - i) (cap2 - (i + 1)) (xs.length + 1 - i) (cap2 - i) (by go_simp) (by go_simp) b2 (o2 + (i + 1)) D HD.out.2.1 (fun _ => ⟨rfl, _, rfl, HSRC.out⟩) HCC.out HFF.out H1D.out ?_; intro w3 hw3; obtain ⟨u3, c3, f3⟩ := HST.out w3 hw3)
   all_goals (
     go_wp2_with fail
     go_ret
     exact ⟨_, _, rfl, (HFIN.out _ hw3).1, HF9.out, (HFIN.out _ hw3).2⟩)
set_option maxRecDepth 100000 in
set_option maxHeartbeats 2000000 in
theorem putPtrs_c (w : World) (F : Cells) (v : Value) (xs : List Value) (i : Nat) (p : Nat) (hr : RowF w F v xs) (hi : i ≤ xs.length) (h1 : ∀ y ∈ xs, y.oneCell' = true) (hn : xs.length ≤ 1048576) :
   Calls Try.prog 165 #[v, .int .i64 i, .pointer (some ⟨p, 0, none⟩)] w fun e w' => ∃ v' F', e = .returned v' ∧ RowF w' F' v' (putAt xs i (.pointer (some ⟨p, 0, none⟩))) ∧ (∀ q r, F' q r → F q r ∨ w.heap.size ≤ q) ∧ KeptF F w w' := by
 obtain ⟨i0, hi0, hz0, hz1, hz2⟩ := info_parts Try.infoPtr
 obtain ⟨W1, hW1⟩ : ∃ W1, W1 = w.alloc (.cells #[.pointer (some ⟨p, 0, none⟩)] 70) := ⟨_, rfl⟩
 have hs1 : W1.heap.size = w.heap.size + 1 := by rw [hW1]; simp
 have k1 : W1.heap[w.heap.size]? = some (.cells #[.pointer (some ⟨p, 0, none⟩)] 70 (0, 0)) := by rw [hW1, new_blk]
 have hkp : KeptF (fun _ _ => False) w W1 := by rw [hW1]; exact KeptF.alloc _ _ _
 have hr1 : RowF W1 F v xs := hr.keep hkp (fun _ _ _ h => h)
 obtain ⟨va, vc, rfl⟩ := hr.shown
 have c1 := (box1 k1).1
 have HW1 := Lib.hid hW1
 have HR1 := Lib.hid hr1
 have HKP := Lib.hid hkp
 have H1 := Lib.hid h1
 have HS1 := Lib.hid hs1
 have HI := Lib.hid (And.intro hi0 (And.intro hz0 (And.intro hz1 hz2)))
 clear hW1 hr1 hkp hr h1 k1 hs1 hi0 hz0 hz1 hz2
 go_enter Try.func165, Try.ntmps165
 go_upto_region 1 with (fail)
 go_upto_region 2 with (at_builtin; rw [← HW1.out]; refine wpList_append_row rfl _ _ _ rfl 70 i0 _ 8 Try.underlying95 HI.out.1 HI.out.2.1 HI.out.2.2.1 HI.out.2.2.2 rfl F _ xs rfl HR1.out w.heap.size 0 1 (.pointer (some ⟨p, 0, none⟩)) rfl c1 rfl (by unfold maxLen; omega) (by omega) ?_; intro b2 o2 cap2 F2 w2 hcap2 hr2 hF2 hk2; have H2 := Lib.hid (And.intro hr2 (And.intro hF2 hk2)); obtain ⟨-, -, hcm2, hown2, hat2⟩ := hr2.cells_of (by omega); have HO2 := Lib.hid (And.intro hown2 hat2); clear hr2 hF2 hk2 hown2 hat2)
 unfold maxLen at hcm2
 go_upto_region 2 with (fail)
 have hwr : IntKind.i64.wrap ((i : Int) + 1) = (i : Int) + 1 := IntWalk.i64_in _ (by omega)
 have h0 : (0 : Int) ≤ (i : Int) + 1 := by omega
 have h3 : ¬ cap2 = i := by omega
 have h2 : (i : Int) ≤ (xs.length : Int) + 1 := by omega
 obtain ⟨D, hD⟩ : ∃ D, D = xs.drop i := ⟨_, rfl⟩
 have hDl : D.length = Nat.min (xs.length + 1 - i) (xs.length - i) := by rw [hD, List.length_drop]; show _ = min _ _; omega
 have hDn : D.length = xs.length - i := by rw [hD, List.length_drop]
 have HD := Lib.hid (And.intro hD (And.intro hDl hDn))
 have HSRC := Lib.hid (show ∀ j u, D[j]? = some u → w2.cell? ((⟨b2, o2 + i, none⟩ : Addr).add j) = some u from fun j u hj => by
   have hj2 : j < D.length := by rcases Nat.lt_or_ge j D.length with h | h; exact h; rw [List.getElem?_eq_none h] at hj; cases hj
   have e : D[j]? = xs[i + j]? := by rw [hD, List.getElem?_drop]
   rw [e, List.getElem?_eq_getElem (by omega)] at hj
   rw [Addr.add_lit, Nat.add_assoc, HO2.out.2 (i + j) (by simp; omega), List.getElem_append_left (by omega)]
   exact hj)
 have HCC := Lib.hid (show ∀ j, j < D.length → (w2.cell? ⟨b2, o2 + (i + 1) + j, none⟩).isSome = true from fun j hj => by
   have := (HO2.out.1 (i + 1 + j) (by omega)).2.1; rwa [← Nat.add_assoc] at this)
 have HFF := Lib.hid (show ∀ j, j < D.length → w2.frozen? ⟨b2, o2 + (i + 1) + j, none⟩ = false from fun j hj => by
   have := (HO2.out.1 (i + 1 + j) (by omega)).2.2; rwa [← Nat.add_assoc] at this)
 have H1D := Lib.hid (show ∀ v ∈ D, v.oneCell' = true from fun v hv => H1.out v (by rw [hD] at hv; exact List.mem_of_mem_drop hv))
 have HST := Lib.hid (show ∀ w3, Hid (w3 = w2.drew.setCells b2 (o2 + (i + 1)) D) → ∃ u, w3.cell? ⟨b2, o2 + i, none⟩ = some u ∧ w3.frozen? ⟨b2, o2 + i, none⟩ = false from fun w3 h => by
   have h := h.out
   obtain ⟨g1, g2, g3⟩ := HO2.out.1 i (by omega)
   obtain ⟨u, hu⟩ := Option.isSome_iff_exists.1 g2
   exact ⟨u, by rw [h, World.cell?_setCells_out _ _ _ _ _ (fun _ _ => .inl (by show o2 + i < o2 + (i + 1); omega))]; exact hu, by rw [h, World.frozen?_setCells]; exact g3⟩)
 have HFIN := Lib.hid (show ∀ w3, Hid (w3 = w2.drew.setCells b2 (o2 + (i + 1)) D) → RowF (w3.setCell ⟨b2, o2 + i, none⟩ (.pointer (some ⟨p, 0, none⟩))) F2 (.slice (some ⟨b2, o2, none⟩) (xs.length + 1) cap2) (putAt xs i (.pointer (some ⟨p, 0, none⟩))) ∧ KeptF F w (w3.setCell ⟨b2, o2 + i, none⟩ (.pointer (some ⟨p, 0, none⟩))) from fun w3 h => by
   have h := h.out
   obtain ⟨hr2, hF2, hk2⟩ := H2.out
   have hr2' : RowF w2.drew F2 (.slice (some ⟨b2, o2, none⟩) (xs.length + 1) cap2) (xs ++ [.pointer (some ⟨p, 0, none⟩)]) := hr2.keep (KeptF.drew (fun _ _ => False) w2) (fun _ _ _ h => h)
   have e1 := hr2'.splice (by omega) (i + 1) D (by simp; omega)
   have e2 := e1.splice (by omega) i [.pointer (some ⟨p, 0, none⟩)] (by simp; omega)
   rw [hD, List.length_singleton, put_row xs _ i hi] at e2
   subst h
   rw [← hD] at e2
   refine ⟨e2, ?_⟩
   have q1 : KeptF F w W1 := HKP.out.mono (fun _ _ _ h => h.elim)
   have q2 : KeptF F W1 (w2.drew.setCells b2 (o2 + (i + 1)) D) := hk2.trans (((KeptF.drew _ _).trans ((KeptF.setCells b2 D _ _ (fun j hj => by
     have := (HO2.out.1 (i + 1 + j) (by omega)).1
     rw [← Nat.add_assoc] at this
     exact hF2 _ _ this)).mono (fun _ _ _ h => .inl h))))
   have q3 := q1.trans (q2.mono (fun x o hx h => .inl h))
   refine q3.trans (KeptF.setCell _ _ _ _ ?_)
   have hs := HS1.out
   rcases hF2 _ _ (HO2.out.1 i (by omega)).1 with h | h
   · exact .inl h
   · right; omega)
 clear hD hDl hDn
 have hF9 := H2.out.2.1
 have HF9 := Lib.hid (show ∀ q r, F2 q r → F q r ∨ w.heap.size ≤ q from fun q r h => (hF9 q r h).imp id (fun h => by have := HS1.out; omega))
 clear hF9
 by_cases hic : cap2 = i + 1
 · have HPOS := Lib.hid (show ∀ (dp sp : Option Addr), 0 < D.length → dp = some ⟨b2, o2 + (i + 1), none⟩ ∧ ∃ ad, sp = some ad ∧ ∀ j u, D[j]? = some u → w2.drew.cell? (ad.add j) = some u from fun dp sp h => by have := HD.out.2.2; omega)
   subst hic
   go_region_law (refine step_copy_cells rfl (.tmp 15) (.tmp 18) 95 95 rfl 70 Try.underlying95 (by rw [HI.out.1]; exact congrArg some HI.out.2.2.1) (some ⟨b2, o2, none⟩) (some ⟨b2, o2 + i, none⟩) 0 0 (xs.length + 1 - i) 1 (by go_simp) (by go_simp) b2 (o2 + (i + 1)) D (by have := HD.out.2.2; show _ = min _ 0; omega) (HPOS.out _ _) HCC.out HFF.out H1D.out ?_; intro w3 hw3; obtain ⟨u3, c3, f3⟩ := HST.out w3 hw3)
   all_goals (
     go_wp2_with fail
     go_ret
     exact ⟨_, _, rfl, (HFIN.out _ hw3).1, HF9.out, (HFIN.out _ hw3).2⟩)
 · go_region_law (refine step_copy_cells rfl (.tmp 15) (.tmp 18) 95 95 rfl 70 Try.underlying95 (by rw [HI.out.1]; exact congrArg some HI.out.2.2.1) (some ⟨b2, o2 + (i + 1), none⟩) (some ⟨b2, o2 + i, none⟩) (xs.length - i) (cap2 - (i + 1)) (xs.length + 1 - i) (cap2 - i) (by go_simp) (by go_simp) b2 (o2 + (i + 1)) D HD.out.2.1 (fun _ => ⟨rfl, _, rfl, HSRC.out⟩) HCC.out HFF.out H1D.out ?_; intro w3 hw3; obtain ⟨u3, c3, f3⟩ := HST.out w3 hw3)
   all_goals (
     go_wp2_with fail
     go_ret
     exact ⟨_, _, rfl, (HFIN.out _ hw3).1, HF9.out, (HFIN.out _ hw3).2⟩)
end Go.Proofs.Ytananonjomfpkaa
/- The contract of halves. -/
namespace Go.Proofs.Ytananonjomfpkaa
open Go.RowKit
structure Sep (b : Nat) (Fk Fc : Cells) (kids : List KidD) : Prop where
 bk : Apart (boxOf b) Fk
 bc : Apart (boxOf b) Fc
 bs : ∀ y, y ∈ kids → Apart (boxOf b) y.F
 kc : Apart Fk Fc
 ks : ∀ y, y ∈ kids → Apart Fk y.F
 cs : ∀ y, y ∈ kids → Apart Fc y.F
 ss : kids.Pairwise (fun y z => Apart y.F z.F)
theorem sep_iff {b : Nat} {Fk Fc : Cells} {kids : List KidD} : (boxOf b :: Fk :: Fc :: kids.map KidD.F).Pairwise Apart ↔ Sep b Fk Fc kids := by
 constructor
 · intro h
   simp only [List.pairwise_cons, List.mem_cons, List.mem_map, List.pairwise_map] at h
   obtain ⟨h1, h2, h3, h4⟩ := h
   exact ⟨h1 _ (.inl rfl), h1 _ (.inr (.inl rfl)), fun y hy => h1 _ (.inr (.inr ⟨y, hy, rfl⟩)), h2 _ (.inl rfl), fun y hy => h2 _ (.inr ⟨y, hy, rfl⟩), fun y hy => h3 _ ⟨y, hy, rfl⟩, h4⟩
 · intro h
   simp only [List.pairwise_cons, List.mem_cons, List.mem_map, List.pairwise_map]
   refine ⟨?_, ?_, ?_, h.ss⟩
   · rintro G (rfl | rfl | ⟨y, hy, rfl⟩)
     · exact h.bk
     · exact h.bc
     · exact h.bs y hy
   · rintro G (rfl | ⟨y, hy, rfl⟩)
     · exact h.kc
     · exact h.ks y hy
   · rintro G ⟨y, hy, rfl⟩
     exact h.cs y hy
def allOf (b : Nat) (Fk Fc : Cells) (kids : List KidD) : Cells := fun x o => x = b ∨ Fk x o ∨ Fc x o ∨ ∃ y, y ∈ kids ∧ y.F x o
theorem Nd.intro {w : World} {b : Nat} {Fk Fc : Cells} {ks : List Int} {kids : List KidD} {kv cv : Value} (hbox : w.heap[b]? = some (.cells #[kv, cv] 99 (0, 0)))
   (hk : RowF w Fk kv (ks.map (Value.int .i64))) (hc : RowF w Fc cv (kids.map KidD.ptr)) (hkids : ∀ x, x ∈ kids → Nd w x.F x.p x.t) (hs : Sep b Fk Fc kids) : Nd w (allOf b Fk Fc kids) b (.mk ks (kids.map KidD.t)) :=
 .mk ks kids _ Fk Fc b kv cv hbox hk hc hkids (fun o => .inl rfl) (fun x o h => .inr (.inl h)) (fun x o h => .inr (.inr (.inl h))) (fun y hy x o h => .inr (.inr (.inr ⟨y, hy, h⟩))) (sep_iff.2 hs)
   (fun x o h => by
     rcases h with rfl | h | h | ⟨y, hy, h⟩
     · exact (Array.getElem?_eq_some_iff.1 hbox).1
     · exact hk.1 _ _ h
     · exact hc.1 _ _ h
     · have := hkids y hy
       cases hyt : y.t with
       | mk a c =>
         rw [hyt] at this
         exact this.parts.choose_spec.choose_spec.choose_spec.choose_spec.choose_spec.2.2.2.2.2.2.2.2.2.2 _ _ h)
theorem Nd.lt {w : World} {F : Cells} {b : Nat} {t : Tr} (h : Nd w F b t) : ∀ x o, F x o → x < w.heap.size := by
 cases h with
 | mk ks kids F Fk Fc b kv cv hbox hkr hc hkids sb sk sc ss ap lt => exact lt
def Halved (w : World) (F : Cells) (t : Tr) (e : Ending) (w' : World) : Prop :=
 ∃ (pl pr : Nat) (FL FR : Cells), e = .returned (.tuple #[.pointer (some ⟨pl, 0, none⟩), .pointer (some ⟨pr, 0, none⟩)]) ∧
     Nd w' FL pl t.leftOf ∧ Nd w' FR pr t.rightOf ∧ Apart FL FR ∧ (∀ x o, FL x o → F x o ∨ w.heap.size ≤ x) ∧ (∀ x o, FR x o → F x o ∨ w.heap.size ≤ x) ∧ Below w.heap.size w w'
end Go.Proofs.Ytananonjomfpkaa
