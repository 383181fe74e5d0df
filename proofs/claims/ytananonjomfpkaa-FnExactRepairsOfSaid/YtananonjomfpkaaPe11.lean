/- The contract of halves. -/
import Derived.Test.YtananonjomfpkaaProg
import Derived.Test.YtananonjomfpkaaPe0
import Derived.Test.YtananonjomfpkaaPe1
import Derived.Test.YtananonjomfpkaaPe9
import Derived.Test.YtananonjomfpkaaPe10
import Derived.Deep.Cut
import Derived.BigRegion

/- The contract of putAt, at ints and at pointers to nodes. -/
namespace Go.Proofs.Ytananonjomfpkaa
open Go.RowKit

/-- What a copy of a row's end by one place, and a store, make of it. -/
theorem put_row (xs : List Value) (y : Value) (i : Nat) (h : i ≤ xs.length) :
    (((xs ++ [y]).take (i + 1) ++ xs.drop i ++ (xs ++ [y]).drop (i + 1 + (xs.drop i).length)).take i ++ [y] ++ ((xs ++ [y]).take (i + 1) ++ xs.drop i ++ (xs ++ [y]).drop (i + 1 + (xs.drop i).length)).drop (i + 1)) = putAt xs i y := by
  have e1 : (xs ++ [y]).drop (i + 1 + (xs.drop i).length) = [] := by apply List.drop_eq_nil_of_le; simp; omega
  rw [e1, List.append_nil]
  have hl : ((xs ++ [y]).take (i + 1)).length = i + 1 := by simp; omega
  have e2 : ((xs ++ [y]).take (i + 1) ++ xs.drop i).drop (i + 1) = xs.drop i := by
    rw [List.drop_append_of_le_length (by omega), List.drop_eq_nil_of_le (by omega), List.nil_append]
  have e3 : ((xs ++ [y]).take (i + 1) ++ xs.drop i).take i = xs.take i := by
    rw [List.take_append_of_le_length (by omega), List.take_take, show min i (i + 1) = i by omega, List.take_append_of_le_length h]
  rw [e2, e3]
  simp [putAt]

set_option maxRecDepth 100000 in
set_option maxHeartbeats 2000000 in
theorem putInts_c (w : World) (F : Cells) (v : Value) (xs : List Value) (i : Nat) (n : Int) (hr : RowF w F v xs) (hi : i ≤ xs.length) (h1 : ∀ y ∈ xs, y.oneCell' = true) (hn : xs.length ≤ 1048576) :
    Calls Try.prog 147 #[v, .int .i64 i, .int .i64 n] w fun e w' => ∃ v' F', e = .returned v' ∧ RowF w' F' v' (putAt xs i (.int .i64 n)) ∧ (∀ q r, F' q r → F q r ∨ w.heap.size ≤ q) ∧ KeptF F w w' := by
  obtain ⟨i0, hi0, hz0, hz1, hz2⟩ := info_parts Try.appInfo
  obtain ⟨W1, hW1⟩ : ∃ W1, W1 = w.alloc (.cells #[.int .i64 n] 3) := ⟨_, rfl⟩
  have hs1 : W1.heap.size = w.heap.size + 1 := by rw [hW1]; simp
  have k1 : W1.heap[w.heap.size]? = some (.cells #[.int .i64 n] 3 (0, 0)) := by rw [hW1, new_blk]
  have hkp : KeptF (fun _ _ => False) w W1 := by rw [hW1]; exact KeptF.alloc _ _ _
  have hr1 : RowF W1 F v xs := hr.keep hkp (fun _ _ _ h => h)
  obtain ⟨va, vc, rfl⟩ := hr.shown
  have c1 := (box1 k1).1
  have HW1 := Lib.hid hW1
  have HR1 := Lib.hid hr1
  have HKP := Lib.hid hkp
  have H1 := Lib.hid h1
  have HS1 := Lib.hid hs1
  have HI := Lib.hid (And.intro hi0 (And.intro hz0 (And.intro hz1 hz2)))
  clear hW1 hr1 hkp hr h1 k1 hs1 hi0 hz0 hz1 hz2
  go_enter Try.func147, Try.ntmps147
  go_upto_region 1 with (fail)
  go_upto_region 2 with (at_builtin; rw [← HW1.out]; refine wpList_append_row rfl _ _ _ rfl 3 i0 _ 8 Try.underlying23 HI.out.1 HI.out.2.1 HI.out.2.2.1 HI.out.2.2.2 rfl F _ xs rfl HR1.out w.heap.size 0 1 (.int .i64 n) rfl c1 rfl (by unfold maxLen; omega) (by omega) ?_; intro b2 o2 cap2 F2 w2 hcap2 hr2 hF2 hk2; have H2 := Lib.hid (And.intro hr2 (And.intro hF2 hk2)); obtain ⟨-, -, hcm2, hown2, hat2⟩ := hr2.cells_of (by omega); have HO2 := Lib.hid (And.intro hown2 hat2); clear hr2 hF2 hk2 hown2 hat2)
  unfold maxLen at hcm2
  go_upto_region 2 with (fail)
  have hwr : IntKind.i64.wrap ((i : Int) + 1) = (i : Int) + 1 := IntWalk.i64_in _ (by omega)
  have h0 : (0 : Int) ≤ (i : Int) + 1 := by omega
  have h3 : ¬ cap2 = i := by omega
  have h2 : (i : Int) ≤ (xs.length : Int) + 1 := by omega
  obtain ⟨D, hD⟩ : ∃ D, D = xs.drop i := ⟨_, rfl⟩
  have hDl : D.length = Nat.min (xs.length + 1 - i) (xs.length - i) := by rw [hD, List.length_drop]; show _ = min _ _; omega
  have hDn : D.length = xs.length - i := by rw [hD, List.length_drop]
  have HD := Lib.hid (And.intro hD (And.intro hDl hDn))
  have HSRC := Lib.hid (show ∀ j u, D[j]? = some u → w2.cell? ((⟨b2, o2 + i, none⟩ : Addr).add j) = some u from fun j u hj => by
    have hj2 : j < D.length := by rcases Nat.lt_or_ge j D.length with h | h; exact h; rw [List.getElem?_eq_none h] at hj; cases hj
    have e : D[j]? = xs[i + j]? := by rw [hD, List.getElem?_drop]
    rw [e, List.getElem?_eq_getElem (by omega)] at hj
    rw [Addr.add_lit, Nat.add_assoc, HO2.out.2 (i + j) (by simp; omega), List.getElem_append_left (by omega)]
    exact hj)
  have HCC := Lib.hid (show ∀ j, j < D.length → (w2.cell? ⟨b2, o2 + (i + 1) + j, none⟩).isSome = true from fun j hj => by
    have := (HO2.out.1 (i + 1 + j) (by omega)).2.1; rwa [← Nat.add_assoc] at this)
  have HFF := Lib.hid (show ∀ j, j < D.length → w2.frozen? ⟨b2, o2 + (i + 1) + j, none⟩ = false from fun j hj => by
    have := (HO2.out.1 (i + 1 + j) (by omega)).2.2; rwa [← Nat.add_assoc] at this)
  have H1D := Lib.hid (show ∀ v ∈ D, v.oneCell' = true from fun v hv => H1.out v (by rw [hD] at hv; exact List.mem_of_mem_drop hv))
  have HST := Lib.hid (show ∀ w3, Hid (w3 = w2.drew.setCells b2 (o2 + (i + 1)) D) → ∃ u, w3.cell? ⟨b2, o2 + i, none⟩ = some u ∧ w3.frozen? ⟨b2, o2 + i, none⟩ = false from fun w3 h => by
    have h := h.out
    obtain ⟨g1, g2, g3⟩ := HO2.out.1 i (by omega)
    obtain ⟨u, hu⟩ := Option.isSome_iff_exists.1 g2
    exact ⟨u, by rw [h, World.cell?_setCells_out _ _ _ _ _ (fun _ _ => .inl (by show o2 + i < o2 + (i + 1); omega))]; exact hu, by rw [h, World.frozen?_setCells]; exact g3⟩)
  have HFIN := Lib.hid (show ∀ w3, Hid (w3 = w2.drew.setCells b2 (o2 + (i + 1)) D) → RowF (w3.setCell ⟨b2, o2 + i, none⟩ (.int .i64 n)) F2 (.slice (some ⟨b2, o2, none⟩) (xs.length + 1) cap2) (putAt xs i (.int .i64 n)) ∧ KeptF F w (w3.setCell ⟨b2, o2 + i, none⟩ (.int .i64 n)) from fun w3 h => by
    have h := h.out
    obtain ⟨hr2, hF2, hk2⟩ := H2.out
    have hr2' : RowF w2.drew F2 (.slice (some ⟨b2, o2, none⟩) (xs.length + 1) cap2) (xs ++ [.int .i64 n]) := hr2.keep (KeptF.drew (fun _ _ => False) w2) (fun _ _ _ h => h)
    have e1 := hr2'.splice (by omega) (i + 1) D (by simp; omega)
    have e2 := e1.splice (by omega) i [.int .i64 n] (by simp; omega)
    rw [hD, List.length_singleton, put_row xs _ i hi] at e2
    subst h
    rw [← hD] at e2
    refine ⟨e2, ?_⟩
    have q1 : KeptF F w W1 := HKP.out.mono (fun _ _ _ h => h.elim)
    have q2 : KeptF F W1 (w2.drew.setCells b2 (o2 + (i + 1)) D) := hk2.trans (((KeptF.drew _ _).trans ((KeptF.setCells b2 D _ _ (fun j hj => by
      have := (HO2.out.1 (i + 1 + j) (by omega)).1
      rw [← Nat.add_assoc] at this
      exact hF2 _ _ this)).mono (fun _ _ _ h => .inl h))))
    have q3 := q1.trans (q2.mono (fun x o hx h => .inl h))
    refine q3.trans (KeptF.setCell _ _ _ _ ?_)
    have hs := HS1.out
    rcases hF2 _ _ (HO2.out.1 i (by omega)).1 with h | h
    · exact .inl h
    · right; omega)
  clear hD hDl hDn
  have hF9 := H2.out.2.1
  have HF9 := Lib.hid (show ∀ q r, F2 q r → F q r ∨ w.heap.size ≤ q from fun q r h => (hF9 q r h).imp id (fun h => by have := HS1.out; omega))
  clear hF9
  by_cases hic : cap2 = i + 1
  · have HPOS := Lib.hid (show ∀ (dp sp : Option Addr), 0 < D.length → dp = some ⟨b2, o2 + (i + 1), none⟩ ∧ ∃ ad, sp = some ad ∧ ∀ j u, D[j]? = some u → w2.drew.cell? (ad.add j) = some u from fun dp sp h => by have := HD.out.2.2; omega)
    subst hic
    go_region_law (refine step_copy_cells rfl (.tmp 15) (.tmp 18) 23 23 rfl 3 Try.underlying23 (by rw [HI.out.1]; exact congrArg some HI.out.2.2.1) (some ⟨b2, o2, none⟩) (some ⟨b2, o2 + i, none⟩) 0 0 (xs.length + 1 - i) 1 (by go_simp) (by go_simp) b2 (o2 + (i + 1)) D (by have := HD.out.2.2; show _ = min _ 0; omega) (HPOS.out _ _) HCC.out HFF.out H1D.out ?_; intro w3 hw3; obtain ⟨u3, c3, f3⟩ := HST.out w3 hw3)
    all_goals (
      go_wp2_with fail
      go_ret
      exact ⟨_, _, rfl, (HFIN.out _ hw3).1, HF9.out, (HFIN.out _ hw3).2⟩)
  · go_region_law (refine step_copy_cells rfl (.tmp 15) (.tmp 18) 23 23 rfl 3 Try.underlying23 (by rw [HI.out.1]; exact congrArg some HI.out.2.2.1) (some ⟨b2, o2 + (i + 1), none⟩) (some ⟨b2, o2 + i, none⟩) (xs.length - i) (cap2 - (i + 1)) (xs.length + 1 - i) (cap2 - i) (by go_simp) (by go_simp) b2 (o2 + (i + 1)) D HD.out.2.1 (fun _ => ⟨rfl, _, rfl, HSRC.out⟩) HCC.out HFF.out H1D.out ?_; intro w3 hw3; obtain ⟨u3, c3, f3⟩ := HST.out w3 hw3)
    all_goals (
      go_wp2_with fail
      go_ret
      exact ⟨_, _, rfl, (HFIN.out _ hw3).1, HF9.out, (HFIN.out _ hw3).2⟩)

set_option maxRecDepth 100000 in
set_option maxHeartbeats 2000000 in
theorem putPtrs_c (w : World) (F : Cells) (v : Value) (xs : List Value) (i : Nat) (p : Nat) (hr : RowF w F v xs) (hi : i ≤ xs.length) (h1 : ∀ y ∈ xs, y.oneCell' = true) (hn : xs.length ≤ 1048576) :
    Calls Try.prog 165 #[v, .int .i64 i, .pointer (some ⟨p, 0, none⟩)] w fun e w' => ∃ v' F', e = .returned v' ∧ RowF w' F' v' (putAt xs i (.pointer (some ⟨p, 0, none⟩))) ∧ (∀ q r, F' q r → F q r ∨ w.heap.size ≤ q) ∧ KeptF F w w' := by
  obtain ⟨i0, hi0, hz0, hz1, hz2⟩ := info_parts Try.infoPtr
  obtain ⟨W1, hW1⟩ : ∃ W1, W1 = w.alloc (.cells #[.pointer (some ⟨p, 0, none⟩)] 70) := ⟨_, rfl⟩
  have hs1 : W1.heap.size = w.heap.size + 1 := by rw [hW1]; simp
  have k1 : W1.heap[w.heap.size]? = some (.cells #[.pointer (some ⟨p, 0, none⟩)] 70 (0, 0)) := by rw [hW1, new_blk]
  have hkp : KeptF (fun _ _ => False) w W1 := by rw [hW1]; exact KeptF.alloc _ _ _
  have hr1 : RowF W1 F v xs := hr.keep hkp (fun _ _ _ h => h)
  obtain ⟨va, vc, rfl⟩ := hr.shown
  have c1 := (box1 k1).1
  have HW1 := Lib.hid hW1
  have HR1 := Lib.hid hr1
  have HKP := Lib.hid hkp
  have H1 := Lib.hid h1
  have HS1 := Lib.hid hs1
  have HI := Lib.hid (And.intro hi0 (And.intro hz0 (And.intro hz1 hz2)))
  clear hW1 hr1 hkp hr h1 k1 hs1 hi0 hz0 hz1 hz2
  go_enter Try.func165, Try.ntmps165
  go_upto_region 1 with (fail)
  go_upto_region 2 with (at_builtin; rw [← HW1.out]; refine wpList_append_row rfl _ _ _ rfl 70 i0 _ 8 Try.underlying95 HI.out.1 HI.out.2.1 HI.out.2.2.1 HI.out.2.2.2 rfl F _ xs rfl HR1.out w.heap.size 0 1 (.pointer (some ⟨p, 0, none⟩)) rfl c1 rfl (by unfold maxLen; omega) (by omega) ?_; intro b2 o2 cap2 F2 w2 hcap2 hr2 hF2 hk2; have H2 := Lib.hid (And.intro hr2 (And.intro hF2 hk2)); obtain ⟨-, -, hcm2, hown2, hat2⟩ := hr2.cells_of (by omega); have HO2 := Lib.hid (And.intro hown2 hat2); clear hr2 hF2 hk2 hown2 hat2)
  unfold maxLen at hcm2
  go_upto_region 2 with (fail)
  have hwr : IntKind.i64.wrap ((i : Int) + 1) = (i : Int) + 1 := IntWalk.i64_in _ (by omega)
  have h0 : (0 : Int) ≤ (i : Int) + 1 := by omega
  have h3 : ¬ cap2 = i := by omega
  have h2 : (i : Int) ≤ (xs.length : Int) + 1 := by omega
  obtain ⟨D, hD⟩ : ∃ D, D = xs.drop i := ⟨_, rfl⟩
  have hDl : D.length = Nat.min (xs.length + 1 - i) (xs.length - i) := by rw [hD, List.length_drop]; show _ = min _ _; omega
  have hDn : D.length = xs.length - i := by rw [hD, List.length_drop]
  have HD := Lib.hid (And.intro hD (And.intro hDl hDn))
  have HSRC := Lib.hid (show ∀ j u, D[j]? = some u → w2.cell? ((⟨b2, o2 + i, none⟩ : Addr).add j) = some u from fun j u hj => by
    have hj2 : j < D.length := by rcases Nat.lt_or_ge j D.length with h | h; exact h; rw [List.getElem?_eq_none h] at hj; cases hj
    have e : D[j]? = xs[i + j]? := by rw [hD, List.getElem?_drop]
    rw [e, List.getElem?_eq_getElem (by omega)] at hj
    rw [Addr.add_lit, Nat.add_assoc, HO2.out.2 (i + j) (by simp; omega), List.getElem_append_left (by omega)]
    exact hj)
  have HCC := Lib.hid (show ∀ j, j < D.length → (w2.cell? ⟨b2, o2 + (i + 1) + j, none⟩).isSome = true from fun j hj => by
    have := (HO2.out.1 (i + 1 + j) (by omega)).2.1; rwa [← Nat.add_assoc] at this)
  have HFF := Lib.hid (show ∀ j, j < D.length → w2.frozen? ⟨b2, o2 + (i + 1) + j, none⟩ = false from fun j hj => by
    have := (HO2.out.1 (i + 1 + j) (by omega)).2.2; rwa [← Nat.add_assoc] at this)
  have H1D := Lib.hid (show ∀ v ∈ D, v.oneCell' = true from fun v hv => H1.out v (by rw [hD] at hv; exact List.mem_of_mem_drop hv))
  have HST := Lib.hid (show ∀ w3, Hid (w3 = w2.drew.setCells b2 (o2 + (i + 1)) D) → ∃ u, w3.cell? ⟨b2, o2 + i, none⟩ = some u ∧ w3.frozen? ⟨b2, o2 + i, none⟩ = false from fun w3 h => by
    have h := h.out
    obtain ⟨g1, g2, g3⟩ := HO2.out.1 i (by omega)
    obtain ⟨u, hu⟩ := Option.isSome_iff_exists.1 g2
    exact ⟨u, by rw [h, World.cell?_setCells_out _ _ _ _ _ (fun _ _ => .inl (by show o2 + i < o2 + (i + 1); omega))]; exact hu, by rw [h, World.frozen?_setCells]; exact g3⟩)
  have HFIN := Lib.hid (show ∀ w3, Hid (w3 = w2.drew.setCells b2 (o2 + (i + 1)) D) → RowF (w3.setCell ⟨b2, o2 + i, none⟩ (.pointer (some ⟨p, 0, none⟩))) F2 (.slice (some ⟨b2, o2, none⟩) (xs.length + 1) cap2) (putAt xs i (.pointer (some ⟨p, 0, none⟩))) ∧ KeptF F w (w3.setCell ⟨b2, o2 + i, none⟩ (.pointer (some ⟨p, 0, none⟩))) from fun w3 h => by
    have h := h.out
    obtain ⟨hr2, hF2, hk2⟩ := H2.out
    have hr2' : RowF w2.drew F2 (.slice (some ⟨b2, o2, none⟩) (xs.length + 1) cap2) (xs ++ [.pointer (some ⟨p, 0, none⟩)]) := hr2.keep (KeptF.drew (fun _ _ => False) w2) (fun _ _ _ h => h)
    have e1 := hr2'.splice (by omega) (i + 1) D (by simp; omega)
    have e2 := e1.splice (by omega) i [.pointer (some ⟨p, 0, none⟩)] (by simp; omega)
    rw [hD, List.length_singleton, put_row xs _ i hi] at e2
    subst h
    rw [← hD] at e2
    refine ⟨e2, ?_⟩
    have q1 : KeptF F w W1 := HKP.out.mono (fun _ _ _ h => h.elim)
    have q2 : KeptF F W1 (w2.drew.setCells b2 (o2 + (i + 1)) D) := hk2.trans (((KeptF.drew _ _).trans ((KeptF.setCells b2 D _ _ (fun j hj => by
      have := (HO2.out.1 (i + 1 + j) (by omega)).1
      rw [← Nat.add_assoc] at this
      exact hF2 _ _ this)).mono (fun _ _ _ h => .inl h))))
    have q3 := q1.trans (q2.mono (fun x o hx h => .inl h))
    refine q3.trans (KeptF.setCell _ _ _ _ ?_)
    have hs := HS1.out
    rcases hF2 _ _ (HO2.out.1 i (by omega)).1 with h | h
    · exact .inl h
    · right; omega)
  clear hD hDl hDn
  have hF9 := H2.out.2.1
  have HF9 := Lib.hid (show ∀ q r, F2 q r → F q r ∨ w.heap.size ≤ q from fun q r h => (hF9 q r h).imp id (fun h => by have := HS1.out; omega))
  clear hF9
  by_cases hic : cap2 = i + 1
  · have HPOS := Lib.hid (show ∀ (dp sp : Option Addr), 0 < D.length → dp = some ⟨b2, o2 + (i + 1), none⟩ ∧ ∃ ad, sp = some ad ∧ ∀ j u, D[j]? = some u → w2.drew.cell? (ad.add j) = some u from fun dp sp h => by have := HD.out.2.2; omega)
    subst hic
    go_region_law (refine step_copy_cells rfl (.tmp 15) (.tmp 18) 95 95 rfl 70 Try.underlying95 (by rw [HI.out.1]; exact congrArg some HI.out.2.2.1) (some ⟨b2, o2, none⟩) (some ⟨b2, o2 + i, none⟩) 0 0 (xs.length + 1 - i) 1 (by go_simp) (by go_simp) b2 (o2 + (i + 1)) D (by have := HD.out.2.2; show _ = min _ 0; omega) (HPOS.out _ _) HCC.out HFF.out H1D.out ?_; intro w3 hw3; obtain ⟨u3, c3, f3⟩ := HST.out w3 hw3)
    all_goals (
      go_wp2_with fail
      go_ret
      exact ⟨_, _, rfl, (HFIN.out _ hw3).1, HF9.out, (HFIN.out _ hw3).2⟩)
  · go_region_law (refine step_copy_cells rfl (.tmp 15) (.tmp 18) 95 95 rfl 70 Try.underlying95 (by rw [HI.out.1]; exact congrArg some HI.out.2.2.1) (some ⟨b2, o2 + (i + 1), none⟩) (some ⟨b2, o2 + i, none⟩) (xs.length - i) (cap2 - (i + 1)) (xs.length + 1 - i) (cap2 - i) (by go_simp) (by go_simp) b2 (o2 + (i + 1)) D HD.out.2.1 (fun _ => ⟨rfl, _, rfl, HSRC.out⟩) HCC.out HFF.out H1D.out ?_; intro w3 hw3; obtain ⟨u3, c3, f3⟩ := HST.out w3 hw3)
    all_goals (
      go_wp2_with fail
      go_ret
      exact ⟨_, _, rfl, (HFIN.out _ hw3).1, HF9.out, (HFIN.out _ hw3).2⟩)

end Go.Proofs.Ytananonjomfpkaa

/- The contract of halves. -/
namespace Go.Proofs.Ytananonjomfpkaa
open Go.RowKit

/-- A part of a row. -/
theorem RowF.part {w : World} {F : Cells} {b o n cap : Nat} {xs : List Value} (h : RowF w F (.slice (some ⟨b, o, none⟩) n cap) xs) (hp : 0 < cap) (lo hi top : Nat) (h1 : lo ≤ hi) (h2 : hi ≤ xs.length) (h3 : hi ≤ top) (h4 : top ≤ cap) :
    RowF w (fun x q => x = b ∧ o + lo ≤ q ∧ q < o + top) (.slice (some ⟨b, o + lo, none⟩) (hi - lo) (top - lo)) ((xs.drop lo).take (hi - lo)) := by
  obtain ⟨rfl, g1, g2, g3, g4⟩ := h.cells_of hp
  have hl : ((xs.drop lo).take (hi - lo)).length = hi - lo := by simp; omega
  have := RowF.intro (w := w) (F := fun x q => x = b ∧ o + lo ≤ q ∧ q < o + top) (b := b) (o := o + lo) (cap := top - lo) (xs := (xs.drop lo).take (hi - lo)) (fun x q h => by rw [h.1]; exact lt_of_there (o := o + 0) (g3 0 (by omega)).2.1) (by omega) (by omega) (fun i hi' => ?_) (fun i hi' => ?_)
  · rwa [hl] at this
  · have := g3 (lo + i) (by omega)
    rw [← Nat.add_assoc] at this
    exact ⟨⟨rfl, by omega, by omega⟩, this.2⟩
  · have := g4 (lo + i) (by omega)
    rw [← Nat.add_assoc] at this
    rw [this]
    simp
theorem RowF.cellsF {w : World} {F : Cells} {b o n cap : Nat} {xs : List Value} (h : RowF w F (.slice (some ⟨b, o, none⟩) n cap) xs) (hp : 0 < cap) : ∀ q, o ≤ q → q < o + cap → F b q := fun q h1 h2 => by
  obtain ⟨_, _, _, g3, _⟩ := h.cells_of hp
  have := (g3 (q - o) (by omega)).1
  rwa [show o + (q - o) = q by omega] at this

/-- What lies apart in a node, one by one. -/
structure Sep (b : Nat) (Fk Fc : Cells) (kids : List KidD) : Prop where
  bk : Apart (boxOf b) Fk
  bc : Apart (boxOf b) Fc
  bs : ∀ y, y ∈ kids → Apart (boxOf b) y.F
  kc : Apart Fk Fc
  ks : ∀ y, y ∈ kids → Apart Fk y.F
  cs : ∀ y, y ∈ kids → Apart Fc y.F
  ss : kids.Pairwise (fun y z => Apart y.F z.F)
theorem sep_iff {b : Nat} {Fk Fc : Cells} {kids : List KidD} : (boxOf b :: Fk :: Fc :: kids.map KidD.F).Pairwise Apart ↔ Sep b Fk Fc kids := by
  constructor
  · intro h
    simp only [List.pairwise_cons, List.mem_cons, List.mem_map, List.pairwise_map] at h
    obtain ⟨h1, h2, h3, h4⟩ := h
    exact ⟨h1 _ (.inl rfl), h1 _ (.inr (.inl rfl)), fun y hy => h1 _ (.inr (.inr ⟨y, hy, rfl⟩)), h2 _ (.inl rfl), fun y hy => h2 _ (.inr ⟨y, hy, rfl⟩), fun y hy => h3 _ ⟨y, hy, rfl⟩, h4⟩
  · intro h
    simp only [List.pairwise_cons, List.mem_cons, List.mem_map, List.pairwise_map]
    refine ⟨?_, ?_, ?_, h.ss⟩
    · rintro G (rfl | rfl | ⟨y, hy, rfl⟩)
      · exact h.bk
      · exact h.bc
      · exact h.bs y hy
    · rintro G (rfl | ⟨y, hy, rfl⟩)
      · exact h.kc
      · exact h.ks y hy
    · rintro G ⟨y, hy, rfl⟩
      exact h.cs y hy

/-- All the cells of a node. -/
def allOf (b : Nat) (Fk Fc : Cells) (kids : List KidD) : Cells := fun x o => x = b ∨ Fk x o ∨ Fc x o ∨ ∃ y, y ∈ kids ∧ y.F x o

theorem Nd.intro {w : World} {b : Nat} {Fk Fc : Cells} {ks : List Int} {kids : List KidD} {kv cv : Value} (hbox : w.heap[b]? = some (.cells #[kv, cv] 99 (0, 0)))
    (hk : RowF w Fk kv (ks.map (Value.int .i64))) (hc : RowF w Fc cv (kids.map KidD.ptr)) (hkids : ∀ x, x ∈ kids → Nd w x.F x.p x.t) (hs : Sep b Fk Fc kids) : Nd w (allOf b Fk Fc kids) b (.mk ks (kids.map KidD.t)) :=
  .mk ks kids _ Fk Fc b kv cv hbox hk hc hkids (fun o => .inl rfl) (fun x o h => .inr (.inl h)) (fun x o h => .inr (.inr (.inl h))) (fun y hy x o h => .inr (.inr (.inr ⟨y, hy, h⟩))) (sep_iff.2 hs)
    (fun x o h => by
      rcases h with rfl | h | h | ⟨y, hy, h⟩
      · exact (Array.getElem?_eq_some_iff.1 hbox).1
      · exact hk.1 _ _ h
      · exact hc.1 _ _ h
      · have := hkids y hy
        cases hyt : y.t with
        | mk a c =>
          rw [hyt] at this
          exact this.parts.choose_spec.choose_spec.choose_spec.choose_spec.choose_spec.2.2.2.2.2.2.2.2.2.2 _ _ h)
theorem Nd.lt {w : World} {F : Cells} {b : Nat} {t : Tr} (h : Nd w F b t) : ∀ x o, F x o → x < w.heap.size := by
  cases h with
  | mk ks kids F Fk Fc b kv cv hbox hkr hc hkids sb sk sc ss ap lt => exact lt

/-- The two halves of a node, as they lie. -/
theorem halved_nd {w w' : World} {b m pl pr : Nat} {F Fk Fc FkL FkR FcL FcR : Cells} {k : List Int} {kids : List KidD} {kvL kvR cvL cvR : Value}
    (hlt : ∀ x o, F x o → x < w.heap.size) (sk : ∀ x o, Fk x o → F x o) (sc : ∀ x o, Fc x o → F x o) (ss : ∀ y, y ∈ kids → ∀ x o, y.F x o → F x o) (hs : Sep b Fk Fc kids)
    (hkids : ∀ x, x ∈ kids → Nd w x.F x.p x.t) (hb : Below w.heap.size w w') (hm : m = k.length / 2) (hpl : w.heap.size ≤ pl) (hpr : w.heap.size ≤ pr) (hne : pl ≠ pr)
    (bl : w'.heap[pl]? = some (.cells #[kvL, cvL] 99 (0, 0))) (br : w'.heap[pr]? = some (.cells #[kvR, cvR] 99 (0, 0)))
    (rkL : RowF w' FkL kvL ((k.take m).map (Value.int .i64))) (rkR : RowF w' FkR kvR ((k.drop (m + 1)).map (Value.int .i64)))
    (rcL : RowF w' FcL cvL ((kids.take (m + 1)).map KidD.ptr)) (rcR : RowF w' FcR cvR ((kids.drop (m + 1)).map KidD.ptr))
    (skL : ∀ x o, FkL x o → Fk x o) (skR : ∀ x o, FkR x o → Fk x o) (scL : ∀ x o, FcL x o → Fc x o) (scR : ∀ x o, FcR x o → Fc x o) (hkk : Apart FkL FkR) (hcc : Apart FcL FcR) :
    ∃ FL FR, Nd w' FL pl (Tr.mk k (kids.map KidD.t)).leftOf ∧ Nd w' FR pr (Tr.mk k (kids.map KidD.t)).rightOf ∧ Apart FL FR ∧ (∀ x o, FL x o → F x o ∨ w.heap.size ≤ x) ∧ (∀ x o, FR x o → F x o ∨ w.heap.size ≤ x) := by
  have hkp : KeptF (fun _ _ => False) w w' := KeptF.of_below hb (Nat.le_refl _)
  have hkids' : ∀ x, x ∈ kids → Nd w' x.F x.p x.t := fun x hx => (hkids x hx).keep hkp (fun _ _ _ h => h)
  have hpw := hs.ss
  rw [← List.take_append_drop (m + 1) kids, List.pairwise_append] at hpw
  have mt : ∀ {y}, y ∈ kids.take (m + 1) → y ∈ kids := fun h => List.mem_of_mem_take h
  have md : ∀ {y}, y ∈ kids.drop (m + 1) → y ∈ kids := fun h => List.mem_of_mem_drop h
  have fresh : ∀ {p : Nat} {G : Cells}, w.heap.size ≤ p → (∀ x o, G x o → F x o) → Apart (boxOf p) G := fun hp hG x o h g => by
    have h' : x = _ := h
    have := hlt _ _ (hG _ _ g)
    omega
  refine ⟨allOf pl FkL FcL (kids.take (m + 1)), allOf pr FkR FcR (kids.drop (m + 1)), ?_, ?_, ?_, ?_, ?_⟩
  · have e : (Tr.mk k (kids.map KidD.t)).leftOf = .mk (k.take m) ((kids.take (m + 1)).map KidD.t) := by rw [Tr.leftOf, ← hm, List.map_take]
    rw [e]
    exact Nd.intro bl rkL rcL (fun x hx => hkids' x (mt hx)) ⟨fresh hpl (fun x o h => sk _ _ (skL _ _ h)), fresh hpl (fun x o h => sc _ _ (scL _ _ h)), fun y hy => fresh hpl (ss y (mt hy)), hs.kc.mono skL scL, fun y hy => (hs.ks y (mt hy)).mono skL (fun _ _ h => h), fun y hy => (hs.cs y (mt hy)).mono scL (fun _ _ h => h), hpw.1⟩
  · have e : (Tr.mk k (kids.map KidD.t)).rightOf = .mk (k.drop (m + 1)) ((kids.drop (m + 1)).map KidD.t) := by rw [Tr.rightOf, ← hm, List.map_drop]
    rw [e]
    exact Nd.intro br rkR rcR (fun x hx => hkids' x (md hx)) ⟨fresh hpr (fun x o h => sk _ _ (skR _ _ h)), fresh hpr (fun x o h => sc _ _ (scR _ _ h)), fun y hy => fresh hpr (ss y (md hy)), hs.kc.mono skR scR, fun y hy => (hs.ks y (md hy)).mono skR (fun _ _ h => h), fun y hy => (hs.cs y (md hy)).mono scR (fun _ _ h => h), hpw.2.1⟩
  · rintro x o (h | h | h | ⟨y, hy, h⟩) (g | g | g | ⟨z, hz, g⟩)
    · omega
    · have := hlt _ _ (sk _ _ (skR _ _ g)); omega
    · have := hlt _ _ (sc _ _ (scR _ _ g)); omega
    · have := hlt _ _ (ss z (md hz) _ _ g); omega
    · have := hlt _ _ (sk _ _ (skL _ _ h)); omega
    · exact hkk _ _ h g
    · exact hs.kc _ _ (skL _ _ h) (scR _ _ g)
    · exact hs.ks z (md hz) _ _ (skL _ _ h) g
    · have := hlt _ _ (sc _ _ (scL _ _ h)); omega
    · exact hs.kc _ _ (skR _ _ g) (scL _ _ h)
    · exact hcc _ _ h g
    · exact hs.cs z (md hz) _ _ (scL _ _ h) g
    · have := hlt _ _ (ss y (mt hy) _ _ h); omega
    · exact hs.ks y (mt hy) _ _ (skR _ _ g) h
    · exact hs.cs y (mt hy) _ _ (scR _ _ g) h
    · exact hpw.2.2 y hy z hz _ _ h g
  · rintro x o (h | h | h | ⟨y, hy, h⟩)
    · exact .inr (by omega)
    · exact .inl (sk _ _ (skL _ _ h))
    · exact .inl (sc _ _ (scL _ _ h))
    · exact .inl (ss y (mt hy) _ _ h)
  · rintro x o (h | h | h | ⟨y, hy, h⟩)
    · exact .inr (by omega)
    · exact .inl (sk _ _ (skR _ _ h))
    · exact .inl (sc _ _ (scR _ _ h))
    · exact .inl (ss y (md hy) _ _ h)

theorem RowF.nil (w : World) : RowF w (fun _ _ => False) (.slice none 0 0) [] := ⟨fun _ _ h => h.elim, none, 0, rfl, Nat.le_refl _, by unfold maxLen; omega, fun _ => rfl, .inl rfl⟩

/-- What halves leaves. -/
def Halved (w : World) (F : Cells) (t : Tr) (e : Ending) (w' : World) : Prop :=
  ∃ (pl pr : Nat) (FL FR : Cells), e = .returned (.tuple #[.pointer (some ⟨pl, 0, none⟩), .pointer (some ⟨pr, 0, none⟩)]) ∧
      Nd w' FL pl t.leftOf ∧ Nd w' FR pr t.rightOf ∧ Apart FL FR ∧ (∀ x o, FL x o → F x o ∨ w.heap.size ≤ x) ∧ (∀ x o, FR x o → F x o ∨ w.heap.size ≤ x) ∧ Below w.heap.size w w'

set_option maxRecDepth 100000 in
set_option maxHeartbeats 2000000 in
theorem halves_c (w : World) (F : Cells) (b : Nat) (k : List Int) (c : List Tr) (h : Nd w F b (.mk k c)) (hk3 : 3 ≤ k.length) (hcl : c.length = 0 ∨ c.length = k.length + 1) (hn : k.length ≤ 1048576) :
    Calls Try.prog 164 #[.pointer (some ⟨b, 0, none⟩)] w (Halved w F (.mk k c)) := by
  obtain ⟨kids, Fk, Fc, kv, cv, rfl, hbox, hkr, hcr, hkids, sb, sk, sc, ss, ap, lt⟩ := h.parts
  obtain ⟨_, ka, kcap, rfl, k1, k2, k3, k4⟩ := id hkr
  obtain ⟨_, ca, ccap, rfl, c1, c2, c3, c4⟩ := id hcr
  simp only [List.length_map] at k1 c1 hkr hcr hbox hcl
  rcases k4 with k4 | ⟨kb, ko, rfl, k5, k6⟩
  · omega
  obtain ⟨m, hm⟩ : ∃ m, m = k.length / 2 := ⟨_, rfl⟩
  have hm1 : 1 ≤ m := by omega
  have hm2 : m + 2 ≤ k.length := by omega
  have hwm : IntKind.i64.wrap ((k.length : Int).tdiv 2) = (m : Int) := by
    rw [IntWalk.i64_quo _ _ (by omega)]; omega
  have hdiv : (k.length : Int) / 2 = (m : Int) := by omega
  unfold maxLen at k2 c2
  obtain ⟨W1, hW1⟩ : ∃ W1, W1 = w.alloc (.cells #[.slice (some ⟨kb, ko, none⟩) m m, .slice none 0 0] 99) := ⟨_, rfl⟩
  have hs1 : W1.heap.size = w.heap.size + 1 := by rw [hW1]; simp
  have hb1 : Below w.heap.size w W1 := by rw [hW1]; exact (Below.refl _ _).alloc (Nat.le_refl _) _
  have kl1 : W1.heap[w.heap.size]? = some (.cells #[.slice (some ⟨kb, ko, none⟩) m m, .slice none 0 0] 99 (0, 0)) := by rw [hW1, new_blk]
  obtain ⟨W2, hW2⟩ : ∃ W2, W2 = W1.alloc (.cells #[.slice (some ⟨kb, ko + (m + 1), none⟩) (k.length - (m + 1)) (kcap - (m + 1)), .slice none 0 0] 99) := ⟨_, rfl⟩
  have hs2 : W2.heap.size = w.heap.size + 2 := by rw [hW2]; simp; omega
  have hb2 : Below w.heap.size w W2 := by rw [hW2]; exact hb1.alloc (by omega) _
  have kl2 : W2.heap[w.heap.size]? = some (.cells #[.slice (some ⟨kb, ko, none⟩) m m, .slice none 0 0] 99 (0, 0)) := by rw [hW2, old_blk _ _ _ (by omega)]; exact kl1
  have kr2 : W2.heap[w.heap.size + 1]? = some (.cells #[.slice (some ⟨kb, ko + (m + 1), none⟩) (k.length - (m + 1)) (kcap - (m + 1)), .slice none 0 0] 99 (0, 0)) := by rw [hW2, ← hs1, new_blk]
  have hblt := (Array.getElem?_eq_some_iff.1 hbox).1
  obtain ⟨x1, x2, x3, x4⟩ := box2 hbox
  have HM := Lib.hid (And.intro hm hdiv)
  have HW1 := Lib.hid hW1
  have HW2 := Lib.hid hW2
  have HS := Lib.hid (And.intro hs1 hs2)
  have HBOX := Lib.hid (And.intro hbox (And.intro hb1 (And.intro hb2 (And.intro kl2 kr2))))
  have HR := Lib.hid (And.intro hkr hcr)
  have HK := Lib.hid (And.intro hkids (And.intro sb (And.intro sk (And.intro sc (And.intro ss (And.intro ap lt))))))
  have hne : ¬ kcap = m + 1 := by omega
  have hwm1 : IntKind.i64.wrap ((m : Int) + 1) = (m : Int) + 1 := IntWalk.i64_in _ (by omega)
  have hrkL : RowF w (fun x q => x = kb ∧ ko ≤ q ∧ q < ko + m) (.slice (some ⟨kb, ko, none⟩) m m) ((k.take m).map (Value.int .i64)) := by
    have h := hkr.part (by omega) 0 m m (by omega) (by simp; omega) (by omega) (by omega)
    simpa using h
  have hrkR : RowF w (fun x q => x = kb ∧ ko + (m + 1) ≤ q ∧ q < ko + kcap) (.slice (some ⟨kb, ko + (m + 1), none⟩) (k.length - (m + 1)) (kcap - (m + 1))) ((k.drop (m + 1)).map (Value.int .i64)) := by
    have h := hkr.part (by omega) (m + 1) k.length kcap (by omega) (by simp) (by omega) (by omega)
    rwa [List.take_of_length_le (by simp), ← List.map_drop] at h
  have hskF := hkr.cellsF (by omega)
  have HROWS := Lib.hid (And.intro hrkL (And.intro hrkR hskF))
  clear hrkL hrkR hskF
  have HCA := Lib.hid (show ccap = 0 ∨ ∃ cb co, ca = some ⟨cb, co, none⟩ from c4.imp id (fun ⟨cb, co, h, _⟩ => ⟨cb, co, h⟩))
  clear k5 k6 c4 hkr hcr hkids sb sk sc ss ap lt h hm hbox k3 hW1 hW2 hs1 hs2 hb1 hb2 kl1 kl2 kr2 hdiv hwm
  rcases hcl with hc0 | hc1
  · have hc0' : ¬ ((kids.length : Int) > 0) := by omega
    go_enter Try.func164, Try.ntmps164
    go_upto_region 2 with (fail)
    rw [HM.out.2]
    go_upto_region 3 with (fail)
    rw [← HW1.out]
    clear x1 x2 x3 x4
    obtain ⟨x1, x2, x3, x4⟩ := box2 ((HBOX.out.2.1.block _ hblt).trans HBOX.out.1)
    go_upto_region 4 with (fail)
    rw [← HW2.out]
    clear x1 x2 x3 x4
    obtain ⟨x1, x2, x3, x4⟩ := box2 ((HBOX.out.2.2.1.block _ hblt).trans HBOX.out.1)
    go_wp2_with fail
    have hs1 := HS.out.1
    have hs2 := HS.out.2
    have hk0 : kids = [] := List.length_eq_zero_iff.1 hc0
    subst hk0
    have hkp : KeptF (fun _ _ => False) w W2 := KeptF.of_below HBOX.out.2.2.1 (Nat.le_refl _)
    obtain ⟨FL, FR, g1, g2, g3, g4, g5⟩ := halved_nd (b := b) (m := m) (pl := w.heap.size) (pr := W1.heap.size) (kids := []) HK.out.2.2.2.2.2.2 HK.out.2.2.1 HK.out.2.2.2.1 HK.out.2.2.2.2.1 (sep_iff.1 HK.out.2.2.2.2.2.1) HK.out.1 HBOX.out.2.2.1 HM.out.1 (Nat.le_refl _) (by omega) (by omega) HBOX.out.2.2.2.1 (by rw [hs1]; exact HBOX.out.2.2.2.2)
      (HROWS.out.1.keep hkp (fun _ _ _ h => h)) (HROWS.out.2.1.keep hkp (fun _ _ _ h => h)) (FcL := fun _ _ => False) (FcR := fun _ _ => False) (RowF.nil W2) (RowF.nil W2)
      (fun x o h => by obtain ⟨rfl, h1, h2⟩ := h; exact HROWS.out.2.2 o h1 (by omega)) (fun x o h => by obtain ⟨rfl, h1, h2⟩ := h; exact HROWS.out.2.2 o (by omega) h2) (fun _ _ h => h.elim) (fun _ _ h => h.elim) (fun x o h g => by have := h.2.2; have := g.2.1; omega) (fun _ _ h => h.elim)
    refine bodyPost_ret (v := .tuple #[.pointer (some ⟨w.heap.size, 0, none⟩), .pointer (some ⟨W1.heap.size, 0, none⟩)]) (by simp [results, Try.results164, go_sem]) rfl ⟨_, _, FL, FR, rfl, g1, g2, g3, g4, g5, HBOX.out.2.2.1⟩
  · have hc0' : ((kids.length : Int) > 0) := by omega
    go_enter Try.func164, Try.ntmps164
    go_upto_region 2 with (fail)
    rw [HM.out.2]
    go_upto_region 3 with (fail)
    rw [← HW1.out]
    clear x1 x2 x3 x4
    obtain ⟨x1, x2, x3, x4⟩ := box2 ((HBOX.out.2.1.block _ hblt).trans HBOX.out.1)
    go_upto_region 4 with (fail)
    rw [← HW2.out]
    clear x1 x2 x3 x4
    obtain ⟨x1, x2, x3, x4⟩ := box2 ((HBOX.out.2.2.1.block _ hblt).trans HBOX.out.1)
    go_upto_region 5 with (fail)
    rw [HS.out.1]
    obtain ⟨y1, y2, y3, y4⟩ := box2 HBOX.out.2.2.2.1
    obtain ⟨z1, z2, z3, z4⟩ := box2 HBOX.out.2.2.2.2
    have hca : 0 < ccap := by omega
    rcases HCA.out with hh | ⟨cb, co, rfl⟩
    · omega
    have hnc : ¬ ccap = m + 1 := by omega
    have hl1 : (m : Int) + 1 ≤ (ccap : Int) := by omega
    have hl2 : (m : Int) + 1 ≤ (kids.length : Int) := by omega
    go_region
    go_wp2_with fail
    have hs1 := HS.out.1
    have hs2 := HS.out.2
    obtain ⟨W5, hW5⟩ : ∃ W5, W5 = ((W2.setCell ⟨w.heap.size, 1, none⟩ (.slice (some ⟨cb, co, none⟩) (m + 1) (m + 1))).setCell ⟨w.heap.size + 1, 1, none⟩ (.slice (some ⟨cb, co + (m + 1), none⟩) (k.length - m) (ccap - (m + 1)))).drew := ⟨_, rfl⟩
    rw [← hW5]
    have hb5 : Below w.heap.size w W5 := by rw [hW5]; exact ((HBOX.out.2.2.1.setCell (by show w.heap.size ≤ w.heap.size; omega) _).setCell (by show w.heap.size ≤ w.heap.size + 1; omega) _).drew
    have bl5 : W5.heap[w.heap.size]? = some (.cells #[.slice (some ⟨kb, ko, none⟩) m m, .slice (some ⟨cb, co, none⟩) (m + 1) (m + 1)] 99 (0, 0)) := by
      rw [hW5]
      refine (set_other _ _ _ _ _ (by omega)).trans ?_
      exact set_blk (o := 1) _ HBOX.out.2.2.2.1
    have br5 : W5.heap[w.heap.size + 1]? = some (.cells #[.slice (some ⟨kb, ko + (m + 1), none⟩) (k.length - (m + 1)) (kcap - (m + 1)), .slice (some ⟨cb, co + (m + 1), none⟩) (k.length - m) (ccap - (m + 1))] 99 (0, 0)) := by
      rw [hW5]
      refine set_blk (o := 1) _ ((set_other _ _ _ _ _ (by omega)).trans HBOX.out.2.2.2.2)
    have hkp : KeptF (fun _ _ => False) w W5 := KeptF.of_below hb5 (Nat.le_refl _)
    have hcr := HR.out.2
    have hrcL : RowF w (fun x q => x = cb ∧ co ≤ q ∧ q < co + (m + 1)) (.slice (some ⟨cb, co, none⟩) (m + 1) (m + 1)) ((kids.take (m + 1)).map KidD.ptr) := by
      have h := hcr.part (by omega) 0 (m + 1) (m + 1) (by omega) (by simp; omega) (by omega) (by omega)
      simpa using h
    have hrcR : RowF w (fun x q => x = cb ∧ co + (m + 1) ≤ q ∧ q < co + ccap) (.slice (some ⟨cb, co + (m + 1), none⟩) (k.length - m) (ccap - (m + 1))) ((kids.drop (m + 1)).map KidD.ptr) := by
      have h := hcr.part (by omega) (m + 1) kids.length ccap (by omega) (by simp) (by omega) (by omega)
      rwa [List.take_of_length_le (by simp), ← List.map_drop, show kids.length - (m + 1) = k.length - m by omega] at h
    have hcF := hcr.cellsF (by omega)
    obtain ⟨FL, FR, g1, g2, g3, g4, g5⟩ := halved_nd (b := b) (m := m) (pl := w.heap.size) (pr := w.heap.size + 1) (kids := kids) HK.out.2.2.2.2.2.2 HK.out.2.2.1 HK.out.2.2.2.1 HK.out.2.2.2.2.1 (sep_iff.1 HK.out.2.2.2.2.2.1) HK.out.1 hb5 HM.out.1 (Nat.le_refl _) (by omega) (by omega) bl5 br5
      (HROWS.out.1.keep hkp (fun _ _ _ h => h)) (HROWS.out.2.1.keep hkp (fun _ _ _ h => h)) (hrcL.keep hkp (fun _ _ _ h => h)) (hrcR.keep hkp (fun _ _ _ h => h))
      (fun x o h => by obtain ⟨rfl, h1, h2⟩ := h; exact HROWS.out.2.2 o h1 (by omega)) (fun x o h => by obtain ⟨rfl, h1, h2⟩ := h; exact HROWS.out.2.2 o (by omega) h2)
      (fun x o h => by obtain ⟨rfl, h1, h2⟩ := h; exact hcF o h1 (by omega)) (fun x o h => by obtain ⟨rfl, h1, h2⟩ := h; exact hcF o (by omega) h2)
      (fun x o h g => by have := h.2.2; have := g.2.1; omega) (fun x o h g => by have := h.2.2; have := g.2.1; omega)
    refine bodyPost_ret (v := .tuple #[.pointer (some ⟨w.heap.size, 0, none⟩), .pointer (some ⟨w.heap.size + 1, 0, none⟩)]) (by simp [results, Try.results164, go_sem]) rfl ⟨_, _, FL, FR, rfl, g1, g2, g3, g4, g5, hb5⟩

end Go.Proofs.Ytananonjomfpkaa
