/- The contract of takeAt, at ints and at pointers to nodes. -/
import Derived.Test.YtepkigcbjepbpaaProg
import Derived.Test.YtepkigcbjepbpaaDk0
import Derived.Test.YtepkigcbjepbpaaDk1
import Derived.Test.YtepkigcbjepbpaaDk9
import Derived.Test.YtepkigcbjepbpaaDk15
import Derived.Deep.Cut
namespace Go.Proofs.Ytepkigcbjepbpaa
open Go.RowKit

/-- What a copy of a row's end by one place ahead makes of it, without the last place. -/
theorem take_row (xs : List Value) (i : Nat) (h : i < xs.length) :
    (xs.take i ++ xs.drop (i + 1) ++ xs.drop (i + (xs.drop (i + 1)).length)).take (xs.length - 1) = takeAt xs i := by
  have hl : (xs.take i ++ xs.drop (i + 1)).length = xs.length - 1 := by simp; omega
  rw [List.take_append_of_le_length (by omega), List.take_of_length_le (by omega)]
  rfl

/-- The beginning of a row, without room. -/
theorem RowF.front {w : World} {F : Cells} {b o n cap : Nat} {xs : List Value} (h : RowF w F (.slice (some ⟨b, o, none⟩) n cap) xs) (hp : 0 < cap) (m : Nat) (hm : m ≤ xs.length) :
    RowF w F (.slice (some ⟨b, o, none⟩) m m) (xs.take m) := by
  have hlt := h.1
  obtain ⟨rfl, h1, h2, h3, h4⟩ := h.cells_of hp
  have hl : (xs.take m).length = m := by simp; omega
  have := RowF.intro (w := w) (F := F) (b := b) (o := o) (cap := m) (xs := xs.take m) hlt (by omega) (by omega) (fun i hi => h3 i (by omega)) (fun i hi => by
    rw [h4 i (by omega)]; simp)
  rwa [hl] at this

set_option maxRecDepth 100000 in
set_option maxHeartbeats 2000000 in
theorem takeInts_c (w : World) (F : Cells) (v : Value) (xs : List Value) (i : Nat) (hr : RowF w F v xs) (hi : i < xs.length) (h1 : ∀ y ∈ xs, y.oneCell' = true) (hn : xs.length ≤ 1048576) :
    Calls Try.prog 120 #[v, .int .i64 i] w fun e w' => ∃ v', e = .returned v' ∧ RowF w' F v' (takeAt xs i) ∧ KeptF F w w' := by
  obtain ⟨i0, hi0, hz0, hz1, hz2⟩ := info_parts Try.appInfo
  have hr0 := hr
  obtain ⟨-, a, cap, rfl, hcap, hmax, -, hown⟩ := hr
  obtain ⟨b, o, rfl, hown, hat⟩ := hown.resolve_left (by omega)
  unfold maxLen at hmax
  obtain ⟨L, hL⟩ : ∃ L, L = xs.length - 1 := ⟨_, rfl⟩
  obtain ⟨D, hD⟩ : ∃ D, D = xs.drop (i + 1) := ⟨_, rfl⟩
  have hDl : D.length = Nat.min (xs.length - (i + 1)) (xs.length - i) := by rw [hD, List.length_drop]; show _ = min _ _; omega
  have hDn : D.length = xs.length - (i + 1) := by rw [hD, List.length_drop]
  have HD := Lib.hid (And.intro hDl hDn)
  have HSRC := Lib.hid (show ∀ j u, D[j]? = some u → w.cell? ((⟨b, o + (i + 1), none⟩ : Addr).add j) = some u from fun j u hj => by
    have hj2 : j < D.length := by rcases Nat.lt_or_ge j D.length with h | h; exact h; rw [List.getElem?_eq_none h] at hj; cases hj
    have e : D[j]? = xs[i + 1 + j]? := by rw [hD, List.getElem?_drop]
    rw [e, List.getElem?_eq_getElem (by omega)] at hj
    rw [Addr.add_lit, Nat.add_assoc, hat (i + 1 + j) (by omega)]
    exact hj)
  have HCC := Lib.hid (show ∀ j, j < D.length → (w.cell? ⟨b, o + i + j, none⟩).isSome = true from fun j hj => by
    have := (hown (i + j) (by omega)).2.1; rwa [← Nat.add_assoc] at this)
  have HFF := Lib.hid (show ∀ j, j < D.length → w.frozen? ⟨b, o + i + j, none⟩ = false from fun j hj => by
    have := (hown (i + j) (by omega)).2.2; rwa [← Nat.add_assoc] at this)
  have H1D := Lib.hid (show ∀ v ∈ D, v.oneCell' = true from fun v hv => h1 v (by rw [hD] at hv; exact List.mem_of_mem_drop hv))
  have HFIN := Lib.hid (show ∀ w3, Hid (w3 = w.drew.setCells b (o + i) D) → RowF w3 F (.slice (some ⟨b, o, none⟩) L L) (takeAt xs i) ∧ KeptF F w w3 from fun w3 h => by
    have h := h.out
    rw [hL]
    have hr2 : RowF w.drew F (.slice (some ⟨b, o, none⟩) xs.length cap) xs := hr0.keep (KeptF.drew (fun _ _ => False) w) (fun _ _ _ h => h)
    have e1 := hr2.splice (by omega) i D (by omega)
    have e2 := e1.front (by omega) (xs.length - 1) (by simp; omega)
    rw [hD, take_row xs i hi, ← hD] at e2
    subst h
    refine ⟨e2, ?_⟩
    exact (KeptF.drew _ _).trans ((KeptF.setCells b D _ _ (fun j hj => by
      have := (hown (i + j) (by omega)).1
      rwa [← Nat.add_assoc] at this)).mono (fun _ _ _ h => .inl h)))
  have hwr1 : IntKind.i64.wrap ((xs.length : Int) - 1) = ((xs.length - 1 : Nat) : Int) := by rw [IntKind.wrap_i64]; omega
  have hwr2 : IntKind.i64.wrap ((i : Int) + 1) = ((i + 1 : Nat) : Int) := by rw [IntKind.wrap_i64]; omega
  rw [← hL] at hwr1
  have HI := Lib.hid (And.intro hi0 (And.intro hz0 (And.intro hz1 hz2)))
  have hii : (i : Int) ≤ (xs.length : Int) := by omega
  have hi1 : (i : Int) + 1 ≤ (xs.length : Int) := by omega
  have hi2 : ((i + 1 : Nat) : Int) ≤ (xs.length : Int) := by omega
  have hi3 : 0 ≤ (i : Int) + 1 := by omega
  have hci : ¬ cap = i := by omega
  have hLc : (L : Int) ≤ (cap : Int) := by omega
  have hLn : (L : Int) ≤ (xs.length : Int) := by omega
  clear hr0 hown hat hD hDl hDn hL hi0 hz0 hz1 hz2 h1
  go_enter Try.func120, Try.ntmps120
  go_upto_region 2 with (fail)
  by_cases hic : cap = i + 1
  · subst hic
    go_region_law (refine step_copy_cells rfl (.tmp 11) (.tmp 15) 22 22 rfl 3 Try.underlying22 (by rw [HI.out.1]; exact congrArg some HI.out.2.2.1) (some ⟨b, o + i, none⟩) (some ⟨b, o, none⟩) (xs.length - i) 1 (xs.length - (i + 1)) 0 (by go_simp) (by go_simp) b (o + i) D (by have := HD.out.2; show _ = min _ _; omega) (fun h => by have := HD.out.2; omega) HCC.out HFF.out H1D.out ?_; intro w3 hw3)
    all_goals (
      go_wp2_with fail
      go_ret
      exact ⟨_, rfl, (HFIN.out _ hw3).1, (HFIN.out _ hw3).2⟩)
  · have hic2 : ¬ cap = i + 1 := hic
    go_region_law (refine step_copy_cells rfl (.tmp 11) (.tmp 15) 22 22 rfl 3 Try.underlying22 (by rw [HI.out.1]; exact congrArg some HI.out.2.2.1) (some ⟨b, o + i, none⟩) (some ⟨b, o + (i + 1), none⟩) (xs.length - i) (cap - i) (xs.length - (i + 1)) (cap - (i + 1)) (by go_simp) (by go_simp) b (o + i) D HD.out.1 (fun _ => ⟨rfl, _, rfl, HSRC.out⟩) HCC.out HFF.out H1D.out ?_; intro w3 hw3)
    all_goals (
      go_wp2_with fail
      go_ret
      exact ⟨_, rfl, (HFIN.out _ hw3).1, (HFIN.out _ hw3).2⟩)

set_option maxRecDepth 100000 in
set_option maxHeartbeats 2000000 in
theorem takePtrs_c (w : World) (F : Cells) (v : Value) (xs : List Value) (i : Nat) (hr : RowF w F v xs) (hi : i < xs.length) (h1 : ∀ y ∈ xs, y.oneCell' = true) (hn : xs.length ≤ 1048576) :
    Calls Try.prog 131 #[v, .int .i64 i] w fun e w' => ∃ v', e = .returned v' ∧ RowF w' F v' (takeAt xs i) ∧ KeptF F w w' := by
  obtain ⟨i0, hi0, hz0, hz1, hz2⟩ := info_parts Try.infoPtr
  have hr0 := hr
  obtain ⟨-, a, cap, rfl, hcap, hmax, -, hown⟩ := hr
  obtain ⟨b, o, rfl, hown, hat⟩ := hown.resolve_left (by omega)
  unfold maxLen at hmax
  obtain ⟨L, hL⟩ : ∃ L, L = xs.length - 1 := ⟨_, rfl⟩
  obtain ⟨D, hD⟩ : ∃ D, D = xs.drop (i + 1) := ⟨_, rfl⟩
  have hDl : D.length = Nat.min (xs.length - (i + 1)) (xs.length - i) := by rw [hD, List.length_drop]; show _ = min _ _; omega
  have hDn : D.length = xs.length - (i + 1) := by rw [hD, List.length_drop]
  have HD := Lib.hid (And.intro hDl hDn)
  have HSRC := Lib.hid (show ∀ j u, D[j]? = some u → w.cell? ((⟨b, o + (i + 1), none⟩ : Addr).add j) = some u from fun j u hj => by
    have hj2 : j < D.length := by rcases Nat.lt_or_ge j D.length with h | h; exact h; rw [List.getElem?_eq_none h] at hj; cases hj
    have e : D[j]? = xs[i + 1 + j]? := by rw [hD, List.getElem?_drop]
    rw [e, List.getElem?_eq_getElem (by omega)] at hj
    rw [Addr.add_lit, Nat.add_assoc, hat (i + 1 + j) (by omega)]
    exact hj)
  have HCC := Lib.hid (show ∀ j, j < D.length → (w.cell? ⟨b, o + i + j, none⟩).isSome = true from fun j hj => by
    have := (hown (i + j) (by omega)).2.1; rwa [← Nat.add_assoc] at this)
  have HFF := Lib.hid (show ∀ j, j < D.length → w.frozen? ⟨b, o + i + j, none⟩ = false from fun j hj => by
    have := (hown (i + j) (by omega)).2.2; rwa [← Nat.add_assoc] at this)
  have H1D := Lib.hid (show ∀ v ∈ D, v.oneCell' = true from fun v hv => h1 v (by rw [hD] at hv; exact List.mem_of_mem_drop hv))
  have HFIN := Lib.hid (show ∀ w3, Hid (w3 = w.drew.setCells b (o + i) D) → RowF w3 F (.slice (some ⟨b, o, none⟩) L L) (takeAt xs i) ∧ KeptF F w w3 from fun w3 h => by
    have h := h.out
    rw [hL]
    have hr2 : RowF w.drew F (.slice (some ⟨b, o, none⟩) xs.length cap) xs := hr0.keep (KeptF.drew (fun _ _ => False) w) (fun _ _ _ h => h)
    have e1 := hr2.splice (by omega) i D (by omega)
    have e2 := e1.front (by omega) (xs.length - 1) (by simp; omega)
    rw [hD, take_row xs i hi, ← hD] at e2
    subst h
    refine ⟨e2, ?_⟩
    exact (KeptF.drew _ _).trans ((KeptF.setCells b D _ _ (fun j hj => by
      have := (hown (i + j) (by omega)).1
      rwa [← Nat.add_assoc] at this)).mono (fun _ _ _ h => .inl h)))
  have hwr1 : IntKind.i64.wrap ((xs.length : Int) - 1) = ((xs.length - 1 : Nat) : Int) := by rw [IntKind.wrap_i64]; omega
  have hwr2 : IntKind.i64.wrap ((i : Int) + 1) = ((i + 1 : Nat) : Int) := by rw [IntKind.wrap_i64]; omega
  rw [← hL] at hwr1
  have HI := Lib.hid (And.intro hi0 (And.intro hz0 (And.intro hz1 hz2)))
  have hii : (i : Int) ≤ (xs.length : Int) := by omega
  have hi1 : (i : Int) + 1 ≤ (xs.length : Int) := by omega
  have hi2 : ((i + 1 : Nat) : Int) ≤ (xs.length : Int) := by omega
  have hi3 : 0 ≤ (i : Int) + 1 := by omega
  have hci : ¬ cap = i := by omega
  have hLc : (L : Int) ≤ (cap : Int) := by omega
  have hLn : (L : Int) ≤ (xs.length : Int) := by omega
  clear hr0 hown hat hD hDl hDn hL hi0 hz0 hz1 hz2 h1
  go_enter Try.func131, Try.ntmps131
  go_upto_region 2 with (fail)
  by_cases hic : cap = i + 1
  · subst hic
    go_region_law (refine step_copy_cells rfl (.tmp 11) (.tmp 15) 89 89 rfl 71 Try.underlying89 (by rw [HI.out.1]; exact congrArg some HI.out.2.2.1) (some ⟨b, o + i, none⟩) (some ⟨b, o, none⟩) (xs.length - i) 1 (xs.length - (i + 1)) 0 (by go_simp) (by go_simp) b (o + i) D (by have := HD.out.2; show _ = min _ _; omega) (fun h => by have := HD.out.2; omega) HCC.out HFF.out H1D.out ?_; intro w3 hw3)
    all_goals (
      go_wp2_with fail
      go_ret
      exact ⟨_, rfl, (HFIN.out _ hw3).1, (HFIN.out _ hw3).2⟩)
  · have hic2 : ¬ cap = i + 1 := hic
    go_region_law (refine step_copy_cells rfl (.tmp 11) (.tmp 15) 89 89 rfl 71 Try.underlying89 (by rw [HI.out.1]; exact congrArg some HI.out.2.2.1) (some ⟨b, o + i, none⟩) (some ⟨b, o + (i + 1), none⟩) (xs.length - i) (cap - i) (xs.length - (i + 1)) (cap - (i + 1)) (by go_simp) (by go_simp) b (o + i) D HD.out.1 (fun _ => ⟨rfl, _, rfl, HSRC.out⟩) HCC.out HFF.out H1D.out ?_; intro w3 hw3)
    all_goals (
      go_wp2_with fail
      go_ret
      exact ⟨_, rfl, (HFIN.out _ hw3).1, (HFIN.out _ hw3).2⟩)

end Go.Proofs.Ytepkigcbjepbpaa
