/- The contract of melt. -/
import Derived.Test.YtananonjomfpkaaQf20
/- The contract of withGap, at ints and at pointers to nodes. -/
namespace Go.Proofs.Ytananonjomfpkaa
open Go.RowKit
theorem run_copy_any {P : Program} (w : World) (dT sT ty elem : TypeId) (hu : P.underlying dT = some (.slice elem)) (hsz : (P.info? elem).map (·.size) = some 1)
   (dp sp : Option Addr) (dLen dCap sLen sCap b off : Nat) (cs : List Value) (hn : cs.length = Nat.min sLen dLen)
   (hpos : 0 < cs.length → dp = some ⟨b, off, none⟩ ∧ ∃ ad, sp = some ad ∧ ∀ j v, cs[j]? = some v → w.cell? (ad.add j) = some v)
   (hc : ∀ j, j < cs.length → (w.cell? ⟨b, off + j, none⟩).isSome = true) (hf : ∀ j, j < cs.length → w.frozen? ⟨b, off + j, none⟩ = false) (h1 : ∀ v ∈ cs, v.oneCell' = true) :
   (Builtin.copy_ #[dT, sT] ty #[.slice dp dLen dCap, .slice sp sLen sCap]).run P w = .ok (goInt cs.length) (w.setCells b off cs) := by
 by_cases h0 : cs.length = 0
 · obtain rfl : cs = [] := List.eq_nil_of_length_eq_zero h0
   have hrun := run_copy_none (P := P) w dT sT ty elem dp sp dLen dCap sLen sCap hu hsz (by simpa using hn.symm)
   rw [hrun]
   rfl
 · obtain ⟨rfl, ad, rfl, hsrc⟩ := hpos (by omega)
   exact run_copy_cells (P := P) w dT sT ty elem b off dLen dCap ad sLen sCap cs hu hsz hn hsrc hc hf h1
theorem RowF.made_at {W : World} {b n : Nat} {z : Value} {e : TypeId} (hg : W.heap[b]? = some (.cells (madeCells #[z] n) e (0, 0))) (hn : n ≤ maxLen) : RowF W (fun x _ => x = b) (.slice (some ⟨b, 0, none⟩) n n) (List.replicate n z) := by
 have hc : ∀ i, i < n → W.cell? ⟨b, 0 + i, none⟩ = some z := fun i hi => by
   rw [Nat.zero_add, cell_of_row W b i _ e (0, 0) hg]
   simp [madeCells, hi, Nat.mod_one]
 have := RowF.intro (w := W) (F := fun x _ => x = b) (b := b) (o := 0) (cap := n) (xs := List.replicate n z) (fun x q h => by
     have h' : x = b := h
     have := (Array.getElem?_eq_some_iff.1 hg).1
     omega) (by simp) hn
   (fun i hi => ⟨rfl, by rw [hc i hi]; rfl, by simp [World.frozen?, hg]⟩) (fun i hi => by
     have hi' : i < n := by simpa using hi
     rw [hc i hi']; simp)
 simpa using this
theorem RowF.made (w : World) (z : Value) (n : Nat) (e : TypeId) (hn : n ≤ maxLen) : RowF (w.alloc (.cells (madeCells #[z] n) e)) (fun x _ => x = w.heap.size) (.slice (some ⟨w.heap.size, 0, none⟩) n n) (List.replicate n z) :=
 RowF.made_at (heap_alloc_new w _) hn
theorem RowF.read {w : World} {F : Cells} {v : Value} {xs : List Value} (h : RowF w F v xs) : ∃ (a : Option Addr) (cap : Nat), v = .slice a xs.length cap ∧ xs.length ≤ cap ∧ cap ≤ maxLen ∧ (0 < xs.length → ∃ b o, a = some ⟨b, o, none⟩ ∧ ∀ i (h : i < xs.length), w.cell? ⟨b, o + i, none⟩ = some xs[i]) := by
 obtain ⟨_, a, cap, hv, h1, h2, _, h4⟩ := h
 refine ⟨a, cap, hv, h1, h2, fun hp => ?_⟩
 obtain ⟨b, o, h5, _, h7⟩ := h4.resolve_left (by omega)
 exact ⟨b, o, h5, h7⟩
theorem gap_row (z : Value) (xs ys : List Value) (g : Nat) (n : Nat) (hn : n = xs.length + g + ys.length) :
   ((List.replicate n z).take 0 ++ xs ++ (List.replicate n z).drop (0 + xs.length)).take (xs.length + g) ++ ys ++ ((List.replicate n z).take 0 ++ xs ++ (List.replicate n z).drop (0 + xs.length)).drop (xs.length + g + ys.length) = xs ++ List.replicate g z ++ ys := by
 have e : (List.replicate n z).take 0 ++ xs ++ (List.replicate n z).drop (0 + xs.length) = xs ++ List.replicate (g + ys.length) z := by
   simp; omega
 rw [e]
 have e1 : (xs ++ List.replicate (g + ys.length) z).take (xs.length + g) = xs ++ List.replicate g z := by
   rw [List.take_append, List.take_of_length_le (by omega), show xs.length + g - xs.length = g by omega, List.take_replicate, show min g (g + ys.length) = g by omega]
 have e2 : (xs ++ List.replicate (g + ys.length) z).drop (xs.length + g + ys.length) = [] := by
   apply List.drop_eq_nil_of_le; simp; omega
 rw [e1, e2, List.append_nil]
set_option maxRecDepth 100000 in
set_option maxHeartbeats 2000000 in
theorem gapInts_c (w : World) (F G : Cells) (v y : Value) (xs ys : List Value) (g : Nat) (hr : RowF w F v xs) (hs : RowF w G y ys) (h1 : ∀ u ∈ xs, u.oneCell' = true) (h2 : ∀ u ∈ ys, u.oneCell' = true) (hn : xs.length ≤ 1048576) (hm : ys.length ≤ 1048576) (hg : g ≤ 1048576) :
   Calls Try.prog 174 #[v, .int .i64 g, y] w fun e w' => ∃ v', e = .returned v' ∧ RowF w' (fun q _ => q = w.heap.size) v' (xs ++ List.replicate g (.int .i64 0) ++ ys) ∧ Below w.heap.size w w' := by
 obtain ⟨i0, hi0, hz0, hz1, hz2⟩ := info_parts Try.appInfo
 obtain ⟨a1, c1, rfl, hxc, -, hxa⟩ := hr.read
 obtain ⟨a2, c2, rfl, hyc, -, hya⟩ := hs.read
 obtain ⟨N, hN⟩ : ∃ N, N = xs.length + g + ys.length := ⟨_, rfl⟩
 have hmk := run_make_row' (P := Try.prog) 23 3 (.int .i64 0) 8 Try.underlying23 Try.appInfo rfl .i64 .i64 N (by omega) (by omega)
 obtain ⟨W1, hW1⟩ : ∃ W1, W1 = w.alloc (.cells (madeCells #[(.int .i64 0)] N) 3) := ⟨_, rfl⟩
 have hs1 : W1.heap.size = w.heap.size + 1 := by rw [hW1]; simp
 have hrow := RowF.made w (.int .i64 0) N 3 (by unfold maxLen; omega)
 rw [← hW1] at hrow
 have hb1 : Below w.heap.size w W1 := by rw [hW1]; exact (Below.refl _ _).alloc (Nat.le_refl _) _
 have hlt1 := hr.1
 have hlt2 := hs.1
 have hbx : 0 < xs.length → ∃ b o, a1 = some ⟨b, o, none⟩ ∧ b < w.heap.size ∧ ∀ i (h : i < xs.length), w.cell? ⟨b, o + i, none⟩ = some xs[i] := fun hp => by
   obtain ⟨b, o, h3, h4⟩ := hxa hp
   exact ⟨b, o, h3, World.block_lt_of_cell? w _ (h4 0 hp), h4⟩
 have hby : 0 < ys.length → ∃ b o, a2 = some ⟨b, o, none⟩ ∧ b < w.heap.size ∧ ∀ i (h : i < ys.length), w.cell? ⟨b, o + i, none⟩ = some ys[i] := fun hp => by
   obtain ⟨b, o, h3, h4⟩ := hya hp
   exact ⟨b, o, h3, World.block_lt_of_cell? w _ (h4 0 hp), h4⟩
 have HSX := Lib.hid (show ∀ W, Below w.heap.size w W → 0 < xs.length → ∃ ad, a1 = some ad ∧ ∀ j u, xs[j]? = some u → W.cell? (ad.add j) = some u from fun W hb hp => by
   obtain ⟨b, o, h3, h4, h5⟩ := hbx hp
   refine ⟨_, h3, fun j u hj => ?_⟩
   have hj2 : j < xs.length := by rcases Nat.lt_or_ge j xs.length with h | h; exact h; rw [List.getElem?_eq_none h] at hj; cases hj
   rw [List.getElem?_eq_getElem hj2] at hj
   rw [Addr.add_lit, below_cell hb h4, h5 j hj2]
   exact hj)
 have HSY := Lib.hid (show ∀ W, Below w.heap.size w W → 0 < ys.length → ∃ ad, a2 = some ad ∧ ∀ j u, ys[j]? = some u → W.cell? (ad.add j) = some u from fun W hb hp => by
   obtain ⟨b, o, h3, h4, h5⟩ := hby hp
   refine ⟨_, h3, fun j u hj => ?_⟩
   have hj2 : j < ys.length := by rcases Nat.lt_or_ge j ys.length with h | h; exact h; rw [List.getElem?_eq_none h] at hj; cases hj
   rw [List.getElem?_eq_getElem hj2] at hj
   rw [Addr.add_lit, below_cell hb h4, h5 j hj2]
   exact hj)
 have HCL := Lib.hid (show ∀ j, j < N → (W1.cell? ⟨w.heap.size, j, none⟩).isSome = true ∧ W1.frozen? ⟨w.heap.size, j, none⟩ = false from fun j hj => by
   have := hrow.cells_of (by omega)
   have h6 := this.2.2.2.1 j hj
   rw [Nat.zero_add] at h6
   exact ⟨h6.2.1, h6.2.2⟩)
 have HKE := Lib.hid (show ∀ (W W' : World) (o : Nat) (cs : List Value), Hid (W' = W.setCells w.heap.size o cs) → Below w.heap.size w W → Below w.heap.size w W' from fun W W' o cs h hb => by
   rw [h.out]
   exact (hb.trans (KeptF.below (KeptF.setCells (F := fun q _ => q = w.heap.size) w.heap.size cs o W (fun _ _ => rfl)) hb.size (fun x o h => by omega))))
 have HFIN := Lib.hid (show ∀ w3 w4, Hid (w3 = W1.setCells w.heap.size 0 xs) → Hid (w4 = w3.setCells w.heap.size (xs.length + g) ys) → RowF w4 (fun q _ => q = w.heap.size) (.slice (some ⟨w.heap.size, 0, none⟩) N N) (xs ++ List.replicate g (.int .i64 0) ++ ys) from fun w3 w4 h3 h4 => by
   by_cases h0 : N = 0
   · have e1 : xs = [] := List.eq_nil_of_length_eq_zero (by omega)
     have e2 : ys = [] := List.eq_nil_of_length_eq_zero (by omega)
     have e3 : g = 0 := by omega
     rw [h4.out, h3.out, e1, e2, e3, h0]
     rw [h0] at hrow
     exact hrow
   · have e1 := hrow.splice (by omega) 0 xs (by simp; omega)
     rw [Nat.zero_add] at e1
     have e2 := e1.splice (by omega) (xs.length + g) ys (by simp; omega)
     rw [Nat.zero_add, gap_row _ _ _ _ _ hN] at e2
     rw [h4.out, h3.out]
     exact e2)
 have HI := Lib.hid (And.intro hi0 (And.intro hz0 (And.intro hz1 hz2)))
 have H1 := Lib.hid (And.intro h1 (And.intro h2 hb1))
 have HW1 := Lib.hid hW1
 have hwr1 : IntKind.i64.wrap ((xs.length : Int) + (g : Int)) = ((xs.length + g : Nat) : Int) := by rw [IntKind.wrap_i64]; omega
 have hwr2 : IntKind.i64.wrap (((xs.length + g : Nat) : Int) + (ys.length : Int)) = (N : Int) := by rw [IntKind.wrap_i64]; omega
 obtain ⟨M, hM⟩ : ∃ M, M = xs.length + g := ⟨_, rfl⟩
 rw [← hM] at hwr1 hwr2
 have hMN : (M : Int) ≤ (N : Int) := by omega
 have hM0 : (0 : Int) ≤ (M : Int) := by omega
 have HM := Lib.hid hM
 have HN := Lib.hid hN
 clear hrow hb1 hlt1 hlt2 hbx hby hxa hya hi0 hz0 hz1 hz2 h1 h2 hr hs hW1 hM hN
 go_enter Try.func174, Try.ntmps174
 go_upto_region 2 with (fail)
 rw [← HW1.out]
 obtain ⟨w3, hw3⟩ : ∃ w3, Hid (w3 = W1.setCells w.heap.size 0 xs) := ⟨_, Lib.hid rfl⟩
 have hcp := fun ty => run_copy_any (P := Try.prog) W1 23 23 ty 3 Try.underlying23 (by rw [HI.out.1]; exact congrArg some HI.out.2.2.1) (some ⟨w.heap.size, 0, none⟩) a1 N N xs.length c1 w.heap.size 0 xs (by have := HN.out; show _ = min _ _; omega) (fun h => ⟨rfl, HSX.out W1 H1.out.2.2 h⟩) (fun j hj => by rw [Nat.zero_add]; exact (HCL.out j (by have := HN.out; omega)).1) (fun j hj => by rw [Nat.zero_add]; exact (HCL.out j (by have := HN.out; omega)).2) H1.out.1
 rw [← hw3.out] at hcp
 go_upto_region 3 with (fail)
 clear hcp
 have hb3 := HKE.out _ _ _ _ hw3 H1.out.2.2
 have HB3 := Lib.hid hb3
 have HC3 := Lib.hid (show ∀ j, j < N → (w3.cell? ⟨w.heap.size, j, none⟩).isSome = true ∧ w3.frozen? ⟨w.heap.size, j, none⟩ = false from fun j hj => by
   have hk := KeptF.setCells (F := fun q _ => q = w.heap.size) w.heap.size xs 0 W1 (fun _ _ => rfl)
   rw [← hw3.out] at hk
   have h5 := HCL.out j hj
   exact ⟨hk.there _ _ h5.1, (hk.frozen _ _ (by omega)).trans h5.2⟩)
 clear hb3
 by_cases hMe : N = M
 · have hyn : ys.length = 0 := by have := HN.out; have := HM.out; omega
   have hyn' : ys = [] := List.eq_nil_of_length_eq_zero hyn
   have HY := Lib.hid hyn'
   clear hyn'
   subst hMe
   obtain ⟨w4, hw4⟩ : ∃ w4, Hid (w4 = w3.setCells w.heap.size N ys) := ⟨_, Lib.hid rfl⟩
   have hcp := fun ty dp m => run_copy_any (P := Try.prog) w3 23 23 ty 3 Try.underlying23 (by rw [HI.out.1]; exact congrArg some HI.out.2.2.1) dp a2 0 m ys.length c2 w.heap.size N ys (by rw [HY.out]; show _ = min _ _; simp) (fun h => by omega) (fun j hj => by omega) (fun j hj => by omega) H1.out.2.1
   rw [← hw4.out] at hcp
   clear hyn
   go_wp2_with fail
   go_ret
   exact ⟨_, rfl, HFIN.out _ _ hw3 (by rw [← HM.out]; exact hw4), HKE.out _ _ _ _ hw4 HB3.out⟩
 · have hMe2 : ¬ N = M := hMe
   obtain ⟨w4, hw4⟩ : ∃ w4, Hid (w4 = w3.setCells w.heap.size M ys) := ⟨_, Lib.hid rfl⟩
   have hcp := fun ty => run_copy_any (P := Try.prog) w3 23 23 ty 3 Try.underlying23 (by rw [HI.out.1]; exact congrArg some HI.out.2.2.1) (some ⟨w.heap.size, M, none⟩) a2 (N - M) (N - M) ys.length c2 w.heap.size M ys (by have := HN.out; have := HM.out; show _ = min _ _; omega) (fun h => ⟨rfl, HSY.out w3 HB3.out h⟩) (fun j hj => (HC3.out (M + j) (by have := HN.out; have := HM.out; omega)).1) (fun j hj => (HC3.out (M + j) (by have := HN.out; have := HM.out; omega)).2) H1.out.2.1
   rw [← hw4.out] at hcp
   go_wp2_with fail
   go_ret
   exact ⟨_, rfl, HFIN.out _ _ hw3 (by rw [← HM.out]; exact hw4), HKE.out _ _ _ _ hw4 HB3.out⟩
set_option maxRecDepth 100000 in
set_option maxHeartbeats 2000000 in
theorem gapPtrs_c (w : World) (F G : Cells) (v y : Value) (xs ys : List Value) (g : Nat) (hr : RowF w F v xs) (hs : RowF w G y ys) (h1 : ∀ u ∈ xs, u.oneCell' = true) (h2 : ∀ u ∈ ys, u.oneCell' = true) (hn : xs.length ≤ 1048576) (hm : ys.length ≤ 1048576) (hg : g ≤ 1048576) :
   Calls Try.prog 175 #[v, .int .i64 g, y] w fun e w' => ∃ v', e = .returned v' ∧ RowF w' (fun q _ => q = w.heap.size) v' (xs ++ List.replicate g (.pointer none) ++ ys) ∧ Below w.heap.size w w' := by
 obtain ⟨i0, hi0, hz0, hz1, hz2⟩ := info_parts Try.infoPtr
 obtain ⟨a1, c1, rfl, hxc, -, hxa⟩ := hr.read
 obtain ⟨a2, c2, rfl, hyc, -, hya⟩ := hs.read
 obtain ⟨N, hN⟩ : ∃ N, N = xs.length + g + ys.length := ⟨_, rfl⟩
 have hmk := run_make_row' (P := Try.prog) 95 70 (.pointer none) 8 Try.underlying95 Try.infoPtr rfl .i64 .i64 N (by omega) (by omega)
 obtain ⟨W1, hW1⟩ : ∃ W1, W1 = w.alloc (.cells (madeCells #[(.pointer none)] N) 70) := ⟨_, rfl⟩
 have hs1 : W1.heap.size = w.heap.size + 1 := by rw [hW1]; simp
 have hrow := RowF.made w (.pointer none) N 70 (by unfold maxLen; omega)
 rw [← hW1] at hrow
 have hb1 : Below w.heap.size w W1 := by rw [hW1]; exact (Below.refl _ _).alloc (Nat.le_refl _) _
 have hlt1 := hr.1
 have hlt2 := hs.1
 have hbx : 0 < xs.length → ∃ b o, a1 = some ⟨b, o, none⟩ ∧ b < w.heap.size ∧ ∀ i (h : i < xs.length), w.cell? ⟨b, o + i, none⟩ = some xs[i] := fun hp => by
   obtain ⟨b, o, h3, h4⟩ := hxa hp
   exact ⟨b, o, h3, World.block_lt_of_cell? w _ (h4 0 hp), h4⟩
 have hby : 0 < ys.length → ∃ b o, a2 = some ⟨b, o, none⟩ ∧ b < w.heap.size ∧ ∀ i (h : i < ys.length), w.cell? ⟨b, o + i, none⟩ = some ys[i] := fun hp => by
   obtain ⟨b, o, h3, h4⟩ := hya hp
   exact ⟨b, o, h3, World.block_lt_of_cell? w _ (h4 0 hp), h4⟩
 have HSX := Lib.hid (show ∀ W, Below w.heap.size w W → 0 < xs.length → ∃ ad, a1 = some ad ∧ ∀ j u, xs[j]? = some u → W.cell? (ad.add j) = some u from fun W hb hp => by
   obtain ⟨b, o, h3, h4, h5⟩ := hbx hp
   refine ⟨_, h3, fun j u hj => ?_⟩
   have hj2 : j < xs.length := by rcases Nat.lt_or_ge j xs.length with h | h; exact h; rw [List.getElem?_eq_none h] at hj; cases hj
   rw [List.getElem?_eq_getElem hj2] at hj
   rw [Addr.add_lit, below_cell hb h4, h5 j hj2]
   exact hj)
 have HSY := Lib.hid (show ∀ W, Below w.heap.size w W → 0 < ys.length → ∃ ad, a2 = some ad ∧ ∀ j u, ys[j]? = some u → W.cell? (ad.add j) = some u from fun W hb hp => by
   obtain ⟨b, o, h3, h4, h5⟩ := hby hp
   refine ⟨_, h3, fun j u hj => ?_⟩
   have hj2 : j < ys.length := by rcases Nat.lt_or_ge j ys.length with h | h; exact h; rw [List.getElem?_eq_none h] at hj; cases hj
   rw [List.getElem?_eq_getElem hj2] at hj
   rw [Addr.add_lit, below_cell hb h4, h5 j hj2]
   exact hj)
 have HCL := Lib.hid (show ∀ j, j < N → (W1.cell? ⟨w.heap.size, j, none⟩).isSome = true ∧ W1.frozen? ⟨w.heap.size, j, none⟩ = false from fun j hj => by
   have := hrow.cells_of (by omega)
   have h6 := this.2.2.2.1 j hj
   rw [Nat.zero_add] at h6
   exact ⟨h6.2.1, h6.2.2⟩)
 have HKE := Lib.hid (show ∀ (W W' : World) (o : Nat) (cs : List Value), Hid (W' = W.setCells w.heap.size o cs) → Below w.heap.size w W → Below w.heap.size w W' from fun W W' o cs h hb => by
   rw [h.out]
   exact (hb.trans (KeptF.below (KeptF.setCells (F := fun q _ => q = w.heap.size) w.heap.size cs o W (fun _ _ => rfl)) hb.size (fun x o h => by omega))))
 have HFIN := Lib.hid (show ∀ w3 w4, Hid (w3 = W1.setCells w.heap.size 0 xs) → Hid (w4 = w3.setCells w.heap.size (xs.length + g) ys) → RowF w4 (fun q _ => q = w.heap.size) (.slice (some ⟨w.heap.size, 0, none⟩) N N) (xs ++ List.replicate g (.pointer none) ++ ys) from fun w3 w4 h3 h4 => by
   by_cases h0 : N = 0
   · have e1 : xs = [] := List.eq_nil_of_length_eq_zero (by omega)
     have e2 : ys = [] := List.eq_nil_of_length_eq_zero (by omega)
     have e3 : g = 0 := by omega
     rw [h4.out, h3.out, e1, e2, e3, h0]
     rw [h0] at hrow
     exact hrow
   · have e1 := hrow.splice (by omega) 0 xs (by simp; omega)
     rw [Nat.zero_add] at e1
     have e2 := e1.splice (by omega) (xs.length + g) ys (by simp; omega)
     rw [Nat.zero_add, gap_row _ _ _ _ _ hN] at e2
     rw [h4.out, h3.out]
     exact e2)
 have HI := Lib.hid (And.intro hi0 (And.intro hz0 (And.intro hz1 hz2)))
 have H1 := Lib.hid (And.intro h1 (And.intro h2 hb1))
 have HW1 := Lib.hid hW1
 have hwr1 : IntKind.i64.wrap ((xs.length : Int) + (g : Int)) = ((xs.length + g : Nat) : Int) := by rw [IntKind.wrap_i64]; omega
 have hwr2 : IntKind.i64.wrap (((xs.length + g : Nat) : Int) + (ys.length : Int)) = (N : Int) := by rw [IntKind.wrap_i64]; omega
 obtain ⟨M, hM⟩ : ∃ M, M = xs.length + g := ⟨_, rfl⟩
 rw [← hM] at hwr1 hwr2
 have hMN : (M : Int) ≤ (N : Int) := by omega
 have hM0 : (0 : Int) ≤ (M : Int) := by omega
 have HM := Lib.hid hM
 have HN := Lib.hid hN
 clear hrow hb1 hlt1 hlt2 hbx hby hxa hya hi0 hz0 hz1 hz2 h1 h2 hr hs hW1 hM hN
 go_enter Try.func175, Try.ntmps175
 go_upto_region 2 with (fail)
 rw [← HW1.out]
 obtain ⟨w3, hw3⟩ : ∃ w3, Hid (w3 = W1.setCells w.heap.size 0 xs) := ⟨_, Lib.hid rfl⟩
 have hcp := fun ty => run_copy_any (P := Try.prog) W1 95 95 ty 70 Try.underlying95 (by rw [HI.out.1]; exact congrArg some HI.out.2.2.1) (some ⟨w.heap.size, 0, none⟩) a1 N N xs.length c1 w.heap.size 0 xs (by have := HN.out; show _ = min _ _; omega) (fun h => ⟨rfl, HSX.out W1 H1.out.2.2 h⟩) (fun j hj => by rw [Nat.zero_add]; exact (HCL.out j (by have := HN.out; omega)).1) (fun j hj => by rw [Nat.zero_add]; exact (HCL.out j (by have := HN.out; omega)).2) H1.out.1
 rw [← hw3.out] at hcp
 go_upto_region 3 with (fail)
 clear hcp
 have hb3 := HKE.out _ _ _ _ hw3 H1.out.2.2
 have HB3 := Lib.hid hb3
 have HC3 := Lib.hid (show ∀ j, j < N → (w3.cell? ⟨w.heap.size, j, none⟩).isSome = true ∧ w3.frozen? ⟨w.heap.size, j, none⟩ = false from fun j hj => by
   have hk := KeptF.setCells (F := fun q _ => q = w.heap.size) w.heap.size xs 0 W1 (fun _ _ => rfl)
   rw [← hw3.out] at hk
   have h5 := HCL.out j hj
   exact ⟨hk.there _ _ h5.1, (hk.frozen _ _ (by omega)).trans h5.2⟩)
 clear hb3
 by_cases hMe : N = M
 · have hyn : ys.length = 0 := by have := HN.out; have := HM.out; omega
   have hyn' : ys = [] := List.eq_nil_of_length_eq_zero hyn
   have HY := Lib.hid hyn'
   clear hyn'
   subst hMe
   obtain ⟨w4, hw4⟩ : ∃ w4, Hid (w4 = w3.setCells w.heap.size N ys) := ⟨_, Lib.hid rfl⟩
   have hcp := fun ty dp m => run_copy_any (P := Try.prog) w3 95 95 ty 70 Try.underlying95 (by rw [HI.out.1]; exact congrArg some HI.out.2.2.1) dp a2 0 m ys.length c2 w.heap.size N ys (by rw [HY.out]; show _ = min _ _; simp) (fun h => by omega) (fun j hj => by omega) (fun j hj => by omega) H1.out.2.1
   rw [← hw4.out] at hcp
   clear hyn
   go_wp2_with fail
   go_ret
   exact ⟨_, rfl, HFIN.out _ _ hw3 (by rw [← HM.out]; exact hw4), HKE.out _ _ _ _ hw4 HB3.out⟩
 · have hMe2 : ¬ N = M := hMe
   obtain ⟨w4, hw4⟩ : ∃ w4, Hid (w4 = w3.setCells w.heap.size M ys) := ⟨_, Lib.hid rfl⟩
   have hcp := fun ty => run_copy_any (P := Try.prog) w3 95 95 ty 70 Try.underlying95 (by rw [HI.out.1]; exact congrArg some HI.out.2.2.1) (some ⟨w.heap.size, M, none⟩) a2 (N - M) (N - M) ys.length c2 w.heap.size M ys (by have := HN.out; have := HM.out; show _ = min _ _; omega) (fun h => ⟨rfl, HSY.out w3 HB3.out h⟩) (fun j hj => (HC3.out (M + j) (by have := HN.out; have := HM.out; omega)).1) (fun j hj => (HC3.out (M + j) (by have := HN.out; have := HM.out; omega)).2) H1.out.2.1
   rw [← hw4.out] at hcp
   go_wp2_with fail
   go_ret
   exact ⟨_, rfl, HFIN.out _ _ hw3 (by rw [← HM.out]; exact hw4), HKE.out _ _ _ _ hw4 HB3.out⟩
end Go.Proofs.Ytananonjomfpkaa
/- The contract of melt. -/
namespace Go.Proofs.Ytananonjomfpkaa
open Go.RowKit
theorem RowF.set {w : World} {F : Cells} {b o n cap : Nat} {xs : List Value} (h : RowF w F (.slice (some ⟨b, o, none⟩) n cap) xs) (i : Nat) (y : Value) (hi : i < xs.length) :
   RowF (w.setCell ⟨b, o + i, none⟩ y) F (.slice (some ⟨b, o, none⟩) n cap) (xs.set i y) := by
 have hp : 0 < cap := by
   obtain ⟨_, a, cap', hv, h1, h2, h3, h4⟩ := h
   injection hv with _ _ e
   omega
 have e := h.splice hp i [y] (by simp; omega)
 have e2 : xs.take i ++ [y] ++ xs.drop (i + [y].length) = xs.set i y := by
   rw [List.set_eq_take_append_cons_drop, if_pos hi]; simp
 rw [e2] at e
 exact e
set_option maxRecDepth 100000 in
set_option maxHeartbeats 4000000 in
theorem melt_c (w : World) (p q : Nat) (key : Int) (ks1 ks2 : List Int) (ps1 ps2 : List Value) (kv1 cv1 kv2 cv2 : Value) (F1 F2 F3 F4 : Cells)
   (hb1 : w.heap[p]? = some (.cells #[kv1, cv1] 99 (0, 0))) (hb2 : w.heap[q]? = some (.cells #[kv2, cv2] 99 (0, 0)))
   (hk1 : RowF w F1 kv1 (ks1.map (Value.int .i64))) (hk2 : RowF w F2 kv2 (ks2.map (Value.int .i64))) (hc1 : RowF w F3 cv1 ps1) (hc2 : RowF w F4 cv2 ps2)
   (hp1 : ∀ u ∈ ps1, u.oneCell' = true) (hp2 : ∀ u ∈ ps2, u.oneCell' = true) (n1 : ks1.length ≤ 1048576) (n2 : ks2.length ≤ 1048576) (n3 : ps1.length ≤ 1048576) (n4 : ps2.length ≤ 1048576) :
   Calls Try.prog 172 #[.pointer (some ⟨p, 0, none⟩), .int .i64 key, .pointer (some ⟨q, 0, none⟩)] w fun e w' => ∃ (kv cv : Value) (g h : Nat), e = .returned (.agg #[kv, cv]) ∧
     RowF w' (fun x _ => x = g) kv ((ks1 ++ key :: ks2).map (Value.int .i64)) ∧ RowF w' (fun x _ => x = h) cv (ps1 ++ ps2) ∧ w.heap.size ≤ g ∧ g < h ∧ Below w.heap.size w w' := by
 obtain ⟨ka, kc, rfl⟩ := hk1.shown
 obtain ⟨ma, mc, rfl⟩ := hk2.shown
 obtain ⟨ca, cc, rfl⟩ := hc1.shown
 obtain ⟨da, dc, rfl⟩ := hc2.shown
 rw [List.length_map] at hb1 hb2
 have hlp := (Array.getElem?_eq_some_iff.1 hb1).1
 have hlq := (Array.getElem?_eq_some_iff.1 hb2).1
 obtain ⟨W1, hW1⟩ : ∃ W1, W1 = w.alloc (.cells #[.slice none 0 0, .slice none 0 0] 99) := ⟨_, rfl⟩
 have hs1 : W1.heap.size = w.heap.size + 1 := by rw [hW1]; simp
 have hbw1 : Below w.heap.size w W1 := by rw [hW1]; exact (Below.refl _ _).alloc (Nat.le_refl _) _
 have hr1 : W1.heap[w.heap.size]? = some (.cells #[.slice none 0 0, .slice none 0 0] 99 (0, 0)) := by rw [hW1, new_blk]
 have BP : Hid (∀ wx : World, Below w.heap.size w wx → wx.heap[p]? = some (.cells #[.slice ka ks1.length kc, .slice ca ps1.length cc] 99 (0, 0))) := Lib.hid (fun wx hx => (hx.block _ hlp).trans hb1)
 have BQ : Hid (∀ wx : World, Below w.heap.size w wx → wx.heap[q]? = some (.cells #[.slice ma ks2.length mc, .slice da ps2.length dc] 99 (0, 0))) := Lib.hid (fun wx hx => (hx.block _ hlq).trans hb2)
 have hkeep : ∀ (wx : World), Below w.heap.size w wx → KeptF (fun _ _ => False) w wx := fun wx hx => KeptF.of_below hx (Nat.le_refl _)
 have G1 := fun (wx : World) (hx : Below w.heap.size w wx) => gapInts_c wx _ _ _ _ _ _ 1 (hk1.keep (hkeep wx hx) (fun _ _ _ h => h)) (hk2.keep (hkeep wx hx) (fun _ _ _ h => h)) (ints_oneCell .i64 ks1) (ints_oneCell .i64 ks2) (by simpa using n1) (by simpa using n2) (by omega)
 have G2 := fun (wx : World) (hx : Below w.heap.size w wx) => gapPtrs_c wx _ _ _ _ _ _ 0 (hc1.keep (hkeep wx hx) (fun _ _ _ h => h)) (hc2.keep (hkeep wx hx) (fun _ _ _ h => h)) hp1 hp2 n3 n4 (by omega)
 simp only [List.length_map] at G1
 have HG1 := Lib.hid G1
 have HG2 := Lib.hid G2
 have HW1 := Lib.hid hW1
 have H1 := Lib.hid (And.intro hbw1 hr1)
 clear hb1 hb2 hk1 hk2 hc1 hc2 hp1 hp2 hkeep G1 G2 hW1 hbw1 hr1
 go_enter Try.func172, Try.ntmps172
 go_upto_region 1 with (fail)
 rw [← HW1.out]
 obtain ⟨x1, x2, -⟩ := box2 (BP.out W1 H1.out.1)
 obtain ⟨x3, x4, -⟩ := box2 (BQ.out W1 H1.out.1)
 go_region_held3 (fun x => x.cell? ⟨p, 0, none⟩ = some (.slice ka ks1.length kc) ∧ x.cell? ⟨p, 1, none⟩ = some (.slice ca ps1.length cc) ∧ x.cell? ⟨q, 0, none⟩ = some (.slice ma ks2.length mc) ∧ x.cell? ⟨q, 1, none⟩ = some (.slice da ps2.length dc))
   (first | exact ⟨x1, x2, x3, x4⟩ | exact ⟨z1, z2, z3, z4⟩ | go_keep)
   (first
     | (go_at_call 174; refine (HG1.out _ H1.out.1.drew).mono ?_; rintro e w2 ⟨v2, rfl, hr2, hb2⟩; have hB2 : Below w.heap.size w w2 := H1.out.1.drew.trans (hb2.mono (by have := H1.out.1.size; simp; omega)); obtain ⟨a2, c2, rfl⟩ := hr2.shown; obtain ⟨z1, z2, -⟩ := box2 (BP.out w2 hB2); obtain ⟨z3, z4, -⟩ := box2 (BQ.out w2 hB2); have H2 := Lib.hid (And.intro hr2 (And.intro hb2 hB2)); clear hr2 hb2 hB2)
     | fail)
 clear x1 x2 x3 x4
 obtain ⟨x1, x2, -⟩ := box2 (BP.out w2 H2.out.2.2)
 obtain ⟨x3, x4, -⟩ := box2 (BQ.out w2 H2.out.2.2)
 clear z1 z2 z3 z4
 have hr2 := H2.out.1
 obtain ⟨X, hX⟩ : ∃ X, X = ks1.map (Value.int .i64) ++ List.replicate 1 (Value.int .i64 0) ++ ks2.map (Value.int .i64) := ⟨_, rfl⟩
 obtain ⟨nn, hnn⟩ : ∃ nn, nn = ks1.length + (ks2.length + 1) := ⟨_, rfl⟩
 have hXl : X.length = nn := by rw [hX, hnn]; simp <;> omega
 have hXs : X.set ks1.length (.int .i64 key) = (ks1 ++ key :: ks2).map (Value.int .i64) := by
   rw [hX, List.append_assoc, List.set_append_right _ _ (by simp)]
   simp
 rw [← hX, hXl] at hr2
 rw [← hnn]
 obtain ⟨b2, o2, rfl⟩ : ∃ b o, a2 = some ⟨b, o, none⟩ := by
   obtain ⟨a, cap, hv, h1, _, h3⟩ := hr2.read
   injection hv with e1 _ _
   obtain ⟨b, o, h4, _⟩ := h3 (by omega)
   exact ⟨b, o, e1.trans h4⟩
 have hcap : 0 < c2 := by
   obtain ⟨a, cap, hv, h1, _, _⟩ := hr2.read
   injection hv with _ _ e3
   omega
 have hcc := hr2.cells_of hcap
 obtain ⟨q1, q2, q3⟩ := hcc.2.2.2.1 ks1.length (by omega)
 obtain ⟨u2, q4⟩ := Option.isSome_iff_exists.1 q2
 have q1' : b2 = W1.heap.size := q1
 have hset := hr2.set ks1.length (.int .i64 key) (by omega)
 rw [hXs] at hset
 obtain ⟨W3, hW3⟩ : ∃ W3, W3 = w2.setCell ⟨b2, o2 + ks1.length, none⟩ (.int .i64 key) := ⟨_, rfl⟩
 rw [← hW3] at hset
 have hb3 : Below w.heap.size w W3 := by rw [hW3]; exact H2.out.2.2.setCell (by show w.heap.size ≤ b2; omega) _
 have hs3 : W3.heap.size = w2.heap.size := by rw [hW3]; simp
 have hs2 : W1.heap.size < w2.heap.size := by have := H2.out.2.1; have h5 := hr2.1 b2 (o2 + ks1.length) q1; omega
 have hbox3 : W3.heap[w.heap.size]? = some (.cells #[.slice none 0 0, .slice none 0 0] 99 (0, 0)) := by
   rw [hW3, set_other _ _ _ _ _ (by omega)]
   exact (H2.out.2.1.block _ (by show w.heap.size < W1.heap.size; omega)).trans H1.out.2
 have hkl : (ks1.length : Int) < (nn : Int) := by omega
 have hkl0 : (0 : Int) ≤ (ks1.length : Int) := by omega
 have hXe : nn = (ks1 ++ key :: ks2).length := by rw [hnn]; simp
 have H3 := Lib.hid (And.intro hset (And.intro hb3 hbox3))
 have HW3 := Lib.hid hW3
 have HXE := Lib.hid hXe
 have HB2 := Lib.hid q1'
 clear hr2 hcc hcap q1 q1' q2 hset hXs hX hXl hW3 hb3 hbox3 hXe hnn
 go_upto_region 3 with (fail)
 rw [← HW3.out]
 clear x1 x2 x3 x4 q3 q4 hkl hkl0
 obtain ⟨x1, x2, -⟩ := box2 (BP.out W3 H3.out.2.1)
 obtain ⟨x3, x4, -⟩ := box2 (BQ.out W3 H3.out.2.1)
 obtain ⟨y1, y2, y3, y4⟩ := box2 H3.out.2.2
 go_region_held3 (fun x => x.cell? ⟨p, 0, none⟩ = some (.slice ka ks1.length kc) ∧ x.cell? ⟨p, 1, none⟩ = some (.slice ca ps1.length cc) ∧ x.cell? ⟨q, 0, none⟩ = some (.slice ma ks2.length mc) ∧ x.cell? ⟨q, 1, none⟩ = some (.slice da ps2.length dc))
   (first | exact ⟨x1, x2, x3, x4⟩ | exact ⟨z1, z2, z3, z4⟩ | (refine ⟨?_, ?_, ?_, ?_⟩ <;> (rw [World.cell?_setCell_other _ _ _ _ (fun e => by have := congrArg Addr.block e; simp at this; omega), World.cell?_setCell_other _ _ _ _ (fun e => by have := congrArg Addr.block e; simp at this; omega)]; assumption)) | go_keep)
   (first
     | (go_at_call 175; refine (HG2.out _ H3.out.2.1.drew).mono ?_; rintro e w4 ⟨v4, rfl, hr4, hb4⟩; have hB4 : Below w.heap.size w w4 := H3.out.2.1.drew.trans (hb4.mono (by have := H3.out.2.1.size; simp; omega)); obtain ⟨a4, c4, rfl⟩ := hr4.shown; obtain ⟨z1, z2, -⟩ := box2 (BP.out w4 hB4); obtain ⟨z3, z4, -⟩ := box2 (BQ.out w4 hB4); have hbx4 := (hb4.block w.heap.size (by simp; omega)).trans H3.out.2.2; obtain ⟨r1, r2, r3, r4⟩ := box2 hbx4; have H4 := Lib.hid (And.intro hr4 (And.intro hb4 (And.intro hB4 hbx4))); clear hr4 hb4 hB4 hbx4)
     | fail)
 have hr4 := H4.out.1
 have e4 : ps1 ++ List.replicate 0 (Value.pointer none) ++ ps2 = ps1 ++ ps2 := by simp
 rw [e4] at hr4
 have hl4 : (ps1 ++ ps2).length = ps1.length + ps2.length := by simp
 rw [hl4] at hr4
 have HR4 := Lib.hid hr4
 clear hr4 e4 hl4 x1 x2 x3 x4 y1 y2 y3 y4 z1 z2 z3 z4
 go_wp2_with fail
 obtain ⟨wf, hwf⟩ : ∃ wf, wf = (w4.setCell ⟨w.heap.size, 0, none⟩ (.slice (some ⟨b2, o2, none⟩) nn c2)).setCell ⟨w.heap.size, 1, none⟩ (.slice a4 (ps1.length + ps2.length) c4) := ⟨_, rfl⟩
 have hfb : wf.heap[w.heap.size]? = some (.cells #[.slice (some ⟨b2, o2, none⟩) nn c2, .slice a4 (ps1.length + ps2.length) c4] 99 (0, 0)) := by
   rw [hwf]; exact set_blk (o := 1) _ (set_blk (o := 0) _ H4.out.2.2.2)
 obtain ⟨d1, d2, d3, d4⟩ := box2 hfb
 have hkf : KeptF (boxOf w.heap.size) w4 wf := by rw [hwf]; exact (KeptF.setCell (F := boxOf w.heap.size) w4 w.heap.size 0 _ rfl).trans (KeptF.setCell _ _ _ _ (.inl rfl))
 rw [← hwf]
 have hb2 := HB2.out
 have hs4 := H4.out.2.1.size
 have hk4 : KeptF (fun _ _ => False) W3 w4 := (KeptF.drew _ _).trans (KeptF.of_below H4.out.2.1 (Nat.le_refl _))
 refine bodyPost_ret (v := .agg #[.slice (some ⟨b2, o2, none⟩) nn c2, .slice a4 (ps1.length + ps2.length) c4]) (by simp [results, Try.results172, go_sem, d1, d2]) rfl ⟨_, _, W1.heap.size, W3.heap.size, rfl, ?_, ?_, by omega, by omega, ?_⟩
 · exact (H3.out.1.keep hk4 (fun _ _ _ h => h)).keep hkf (fun x o h g => by have h' : x = W1.heap.size := h; have g' : x = w.heap.size := g; omega)
 · exact HR4.out.keep hkf (fun x o h g => by have h' : x = W3.heap.size := h; have g' : x = w.heap.size := g; omega)
 · rw [hwf]; exact (H4.out.2.2.1.setCell (Nat.le_refl _) _).setCell (Nat.le_refl _) _
end Go.Proofs.Ytananonjomfpkaa
