/- Several slices, each with cells of its own: what happens to one of them leaves the others. -/
import Derived.Test.YtananonjomfpkaaQg11
namespace Go.Proofs.Ytananonjomfpkaa
open Go.RowKit
structure RowD where
 F : Cells
 sz : Nat
 v : Value
 n : Nat
 xs : List Value
structure HeldR (w0 : World) (CH : Cells) (w : World) (R : List RowD) : Prop where
 kept : KeptF CH w0 w
 row : ∀ (i : Nat) (r : RowD), R[i]? = some r → RowN w r.F r.sz r.v r.n r.xs
 sub : ∀ (i : Nat) (r : RowD), R[i]? = some r → ∀ q o, r.F q o → CH q o ∨ w0.heap.size ≤ q
 ap : ∀ (i j : Nat) (a b : RowD), i ≠ j → R[i]? = some a → R[j]? = some b → Apart a.F b.F
theorem HeldR.still {w0 w w' : World} {CH : Cells} {R : List RowD} (h : HeldR w0 CH w R) (hk : KeptF (fun _ _ => False) w w') : HeldR w0 CH w' R :=
 ⟨h.kept.trans (hk.mono (fun _ _ _ e => e.elim)), fun i r hr => (h.row i r hr).keep hk (fun _ _ _ e => e), h.sub, h.ap⟩
theorem HeldR.change {w0 w w' : World} {CH : Cells} {R : List RowD} (h : HeldR w0 CH w R) (k : Nat) (r r' : RowD) (hk : R[k]? = some r) (hr : RowN w' r'.F r'.sz r'.v r'.n r'.xs)
   (hs : ∀ q o, r'.F q o → r.F q o ∨ w.heap.size ≤ q) (hK : KeptF r.F w w') : HeldR w0 CH w' (R.set k r') := by
 have hsz := h.kept.size
 have hsub : ∀ q o, r'.F q o → CH q o ∨ w0.heap.size ≤ q := fun q o e => (hs q o e).elim (h.sub k r hk q o) (fun e => .inr (by omega))
 have hkl : k < R.length := (List.getElem?_eq_some_iff.1 hk).1
 have hget : ∀ i s, (R.set k r')[i]? = some s → (i = k ∧ s = r') ∨ (i ≠ k ∧ R[i]? = some s) := fun i s e => by
   rw [List.getElem?_set] at e
   by_cases hi : k = i
   · subst hi
     rw [if_pos rfl, if_pos hkl] at e
     exact .inl ⟨rfl, (Option.some.inj e).symm⟩
   · rw [if_neg hi] at e
     exact .inr ⟨fun g => hi g.symm, e⟩
 have hnew : ∀ (i : Nat) (s : RowD), i ≠ k → R[i]? = some s → Apart r'.F s.F := fun i s hi e q o a b => by
   rcases hs q o a with a | a
   · exact h.ap k i r s (fun g => hi g.symm) hk e q o a b
   · have := (h.row i s e).1 q o b; omega
 refine ⟨h.kept.trans (hK.mono (fun q o _ e => h.sub k r hk q o e)), fun i s e => ?_, fun i s e => ?_, fun i j a b hij ea eb => ?_⟩
 · rcases hget i s e with ⟨rfl, rfl⟩ | ⟨hi, e⟩
   · exact hr
   · exact (h.row i s e).keep hK (h.ap i k s r hi e hk)
 · rcases hget i s e with ⟨rfl, rfl⟩ | ⟨hi, e⟩
   · exact hsub
   · exact h.sub i s e
 · rcases hget i a ea with ⟨hi, ha⟩ | ⟨hi, ea'⟩
   · rcases hget j b eb with ⟨hj, hb⟩ | ⟨hj, eb'⟩
     · omega
     · rw [ha]; exact hnew j b hj eb'
   · rcases hget j b eb with ⟨hj, hb⟩ | ⟨hj, eb'⟩
     · rw [hb]; exact (hnew i a hi ea').symm
     · exact h.ap i j a b hij ea' eb'
theorem HeldR.push {w0 w w' : World} {CH : Cells} {R : List RowD} (h : HeldR w0 CH w R) (r : RowD) (hK : KeptF (fun _ _ => False) w w') (hr : RowN w' r.F r.sz r.v r.n r.xs) (hs : ∀ q o, r.F q o → w.heap.size ≤ q) : HeldR w0 CH w' (R ++ [r]) := by
 have h' := h.still hK
 have hsz := h.kept.size
 have hget : ∀ i s, (R ++ [r])[i]? = some s → (R[i]? = some s ∧ i < R.length) ∨ (i = R.length ∧ s = r) := fun i s e => by
   by_cases hi : i < R.length
   · rw [List.getElem?_append_left hi] at e
     exact .inl ⟨e, hi⟩
   · rw [List.getElem?_append_right (by omega)] at e
     have hi2 : i = R.length := by
       have := (List.getElem?_eq_some_iff.1 e).1
       simp at this
       omega
     subst hi2
     simp at e
     exact .inr ⟨rfl, e.symm⟩
 have hnew : ∀ (i : Nat) (s : RowD), R[i]? = some s → Apart r.F s.F := fun i s e q o a b => by
   have := (h.row i s e).1 q o b
   have := hs q o a
   omega
 refine ⟨h'.kept, fun i s e => ?_, fun i s e => ?_, fun i j a b hij ea eb => ?_⟩
 · rcases hget i s e with ⟨e, _⟩ | ⟨_, rfl⟩
   · exact h'.row i s e
   · exact hr
 · rcases hget i s e with ⟨e, _⟩ | ⟨_, rfl⟩
   · exact h.sub i s e
   · exact fun q o e => .inr (by have := hs q o e; omega)
 · rcases hget i a ea with ⟨ea', _⟩ | ⟨hi, ha⟩
   · rcases hget j b eb with ⟨eb', _⟩ | ⟨_, hb⟩
     · exact h.ap i j a b hij ea' eb'
     · rw [hb]; exact (hnew i a ea').symm
   · rcases hget j b eb with ⟨eb', _⟩ | ⟨hj, hb⟩
     · rw [ha]; exact hnew j b eb'
     · omega
theorem HeldR.start {w : World} {CH : Cells} {R : List RowD} (h1 : ∀ r, r ∈ R → RowN w r.F r.sz r.v r.n r.xs) (h2 : ∀ r, r ∈ R → ∀ q o, r.F q o → CH q o) (h3 : (R.map RowD.F).Pairwise Apart) : HeldR w CH w R := by
 refine ⟨KeptF.refl _ _, fun i r e => h1 r (List.mem_of_getElem? e), fun i r e q o g => .inl (h2 r (List.mem_of_getElem? e) q o g), fun i j a b hij ea eb => ?_⟩
 obtain ⟨hi, rfl⟩ := List.getElem?_eq_some_iff.1 ea
 obtain ⟨hj, rfl⟩ := List.getElem?_eq_some_iff.1 eb
 rw [List.pairwise_map] at h3
 have hp := List.pairwise_iff_getElem.1 h3
 rcases Nat.lt_or_gt_of_ne hij with h | h
 · exact hp i j hi hj h
 · exact (hp j i hj hi h).symm
def boxD (b : Nat) (u v : Value) : RowD := ⟨boxOf b, 1, .slice (some ⟨b, 0, none⟩) 2 2, 2, [u, v]⟩
theorem boxD_row {w : World} {b : Nat} {u v : Value} {t : TypeId} (h : w.heap[b]? = some (.cells #[u, v] t (0, 0))) : RowN w (boxOf b) 1 (.slice (some ⟨b, 0, none⟩) 2 2) 2 [u, v] := by
 have hb := (Array.getElem?_eq_some_iff.1 h).1
 obtain ⟨x1, x2, x3, x4⟩ := box2 h
 refine RowN.intro (fun x q e => by have : x = b := e; omega) rfl (Nat.le_refl _) (by unfold maxLen; omega) (fun i hi => ?_) (fun i hi => ?_)
 · rcases (by omega : i = 0 ∨ i = 1) with rfl | rfl
   · exact ⟨rfl, by rw [x1]; rfl, x3⟩
   · exact ⟨rfl, by rw [x2]; rfl, x4⟩
 · have : i < 2 := hi
   rcases (by omega : i = 0 ∨ i = 1) with rfl | rfl
   · exact x1
   · exact x2
theorem HeldR.box {w0 w : World} {CH : Cells} {R : List RowD} (h : HeldR w0 CH w R) (k : Nat) {b : Nat} {u v : Value} (hk : R[k]? = some (boxD b u v)) :
   w.cell? ⟨b, 0, none⟩ = some u ∧ w.cell? ⟨b, 1, none⟩ = some v ∧ w.frozen? ⟨b, 0, none⟩ = false ∧ w.frozen? ⟨b, 1, none⟩ = false := by
 have hr : RowN w (boxOf b) 1 (.slice (some ⟨b, 0, none⟩) 2 2) 2 [u, v] := h.row k _ hk
 obtain ⟨_, _, h3, h4⟩ := hr.cells_of (by omega)
 exact ⟨h4 0 (by simp), h4 1 (by simp), (h3 0 (by omega)).2.2, (h3 1 (by omega)).2.2⟩
theorem HeldR.box0 {w0 w : World} {CH : Cells} {R : List RowD} (h : HeldR w0 CH w R) (k : Nat) {b : Nat} {u v : Value} (hk : R[k]? = some (boxD b u v)) (x : Value) : HeldR w0 CH (w.setCell ⟨b, 0, none⟩ x) (R.set k (boxD b x v)) := by
 have hr : RowN w (boxOf b) 1 (.slice (some ⟨b, 0, none⟩) 2 2) 2 [u, v] := h.row k _ hk
 obtain ⟨h1, h2⟩ := hr.set 0 (by simp) x
 exact h.change k _ (boxD b x v) hk h1 (fun q o e => .inl e) h2
theorem HeldR.box1 {w0 w : World} {CH : Cells} {R : List RowD} (h : HeldR w0 CH w R) (k : Nat) {b : Nat} {u v : Value} (hk : R[k]? = some (boxD b u v)) (x : Value) : HeldR w0 CH (w.setCell ⟨b, 1, none⟩ x) (R.set k (boxD b u x)) := by
 have hr : RowN w (boxOf b) 1 (.slice (some ⟨b, 0, none⟩) 2 2) 2 [u, v] := h.row k _ hk
 obtain ⟨h1, h2⟩ := hr.set 1 (by simp) x
 exact h.change k _ (boxD b u x) hk h1 (fun q o e => .inl e) h2
theorem HeldR.newBox {w0 w : World} {CH : Cells} {R : List RowD} (h : HeldR w0 CH w R) (u v : Value) (t : TypeId) : HeldR w0 CH (w.alloc (.cells #[u, v] t)) (R ++ [boxD w.heap.size u v]) :=
 h.push (boxD w.heap.size u v) (KeptF.alloc _ _ _) (boxD_row (new_blk _ _)) (fun q o e => by have : q = w.heap.size := e; omega)
def intsD (F : Cells) (v : Value) (k : List Int) : RowD := ⟨F, 1, v, k.length, k.map (Value.int .i64)⟩
def treesD (F : Cells) (v : Value) (K : List (Value × Value)) : RowD := ⟨F, 2, v, K.length, flatT K⟩
theorem flatT_set (K : List (Value × Value)) (i : Nat) (hi : i < K.length) (x y : Value) : ((flatT K).set (i * 2) x).set (i * 2 + 1) y = flatT (K.set i (x, y)) := by
 induction K generalizing i with
 | nil => simp at hi
 | cons p r ih =>
   cases i with
   | zero => simp [flatT]
   | succ i =>
     have := ih i (by simpa using hi)
     rw [show (i + 1) * 2 = i * 2 + 1 + 1 by omega]
     simpa [flatT] using this
section
variable {w0 w : World} {CH : Cells} {R : List RowD}
theorem HeldR.ints (h : HeldR w0 CH w R) (k : Nat) {F : Cells} {v : Value} {l : List Int} (hk : R[k]? = some (intsD F v l)) : RowF w F v (l.map (Value.int .i64)) := by
 have hr : RowN w F 1 v l.length (l.map (Value.int .i64)) := h.row k _ hk
 exact hr.f
theorem HeldR.trees (h : HeldR w0 CH w R) (k : Nat) {F : Cells} {v : Value} {K : List (Value × Value)} (hk : R[k]? = some (treesD F v K)) : RowT w F v K := by
 have hr : RowN w F 2 v K.length (flatT K) := h.row k _ hk
 exact hr.t
theorem HeldR.intAt (h : HeldR w0 CH w R) (k : Nat) {F : Cells} {b o n cap : Nat} {l : List Int} (hk : R[k]? = some (intsD F (.slice (some ⟨b, o, none⟩) n cap) l)) (j : Nat) (hj : j < l.length) :
   w.cell? ⟨b, o + j, none⟩ = some (.int .i64 (l.getD j 0)) ∧ w.frozen? ⟨b, o + j, none⟩ = false := by
 have hr := h.ints k hk
 have h0 := hr
 obtain ⟨_, a, c, hv, h1, _⟩ := h0
 simp only [Value.slice.injEq] at hv
 obtain ⟨-, rfl, rfl⟩ := hv
 rw [List.length_map] at h1
 obtain ⟨-, h1, h2, h3, h4⟩ := RowF.cells_of hr (by omega)
 refine ⟨?_, (h3 j (by omega)).2.2⟩
 rw [h4 j (by simpa using hj)]
 simp [hj]
theorem HeldR.treeAt (h : HeldR w0 CH w R) (k : Nat) {F : Cells} {b o n cap : Nat} {K : List (Value × Value)} (hk : R[k]? = some (treesD F (.slice (some ⟨b, o, none⟩) n cap) K)) (j : Nat) (p : Value × Value) (hj : K[j]? = some p) :
   w.cell? ⟨b, o + j * 2, none⟩ = some p.1 ∧ w.cell? ⟨b, o + j * 2 + 1, none⟩ = some p.2 ∧ w.frozen? ⟨b, o + j * 2, none⟩ = false ∧ w.frozen? ⟨b, o + j * 2 + 1, none⟩ = false := by
 obtain ⟨hjl, rfl⟩ := List.getElem?_eq_some_iff.1 hj
 have hr : RowN w F 2 (.slice (some ⟨b, o, none⟩) n cap) K.length (flatT K) := h.row k _ hk
 have h0 := hr
 obtain ⟨_, hl, a, c, hv, h1, _⟩ := h0
 simp only [Value.slice.injEq] at hv
 obtain ⟨-, rfl, rfl⟩ := hv
 have hr' := hr
 obtain ⟨h1, h2, h3, h4⟩ := hr'.cells_of (by omega)
 have hg := flatT_get K j hjl
 have c1 := h4 (j * 2) (by rw [flatT_length]; omega)
 have c2 := h4 (j * 2 + 1) (by rw [flatT_length]; omega)
 have f2 := (h3 (j * 2 + 1) (by omega)).2.2
 rw [← Nat.add_assoc] at c2 f2
 refine ⟨?_, ?_, (h3 (j * 2) (by omega)).2.2, f2⟩
 · rw [c1, ← hg.1]; exact (List.getElem?_eq_getElem _).symm
 · rw [c2, ← hg.2]; exact (List.getElem?_eq_getElem _).symm
theorem HeldR.setInt (h : HeldR w0 CH w R) (k : Nat) {F : Cells} {b o n cap : Nat} {l : List Int} (hk : R[k]? = some (intsD F (.slice (some ⟨b, o, none⟩) n cap) l)) (j : Nat) (hj : j < l.length) (x : Int) :
   HeldR w0 CH (w.setCell ⟨b, o + j, none⟩ (.int .i64 x)) (R.set k (intsD F (.slice (some ⟨b, o, none⟩) n cap) (l.set j x))) := by
 have hr : RowN w F 1 (.slice (some ⟨b, o, none⟩) n cap) l.length (l.map (Value.int .i64)) := h.row k _ hk
 have hn : n = l.length := by
   obtain ⟨_, hl, a, c, hv, h1, _⟩ := hr
   simp only [Value.slice.injEq] at hv
   exact hv.2.1
 subst hn
 obtain ⟨h1, h2⟩ := hr.set j (by simpa using hj) (.int .i64 x)
 refine h.change k _ _ hk ?_ (fun q o e => .inl e) h2
 show RowN _ F 1 _ (l.set j x).length ((l.set j x).map (Value.int .i64))
 rw [List.length_set, List.map_set]
 exact h1
theorem HeldR.setTree (h : HeldR w0 CH w R) (k : Nat) {F : Cells} {b o n cap : Nat} {K : List (Value × Value)} (hk : R[k]? = some (treesD F (.slice (some ⟨b, o, none⟩) n cap) K)) (j : Nat) (hj : j < K.length) (x y : Value) :
   HeldR w0 CH ((w.setCell ⟨b, o + j * 2, none⟩ x).setCell ⟨b, o + j * 2 + 1, none⟩ y) (R.set k (treesD F (.slice (some ⟨b, o, none⟩) n cap) (K.set j (x, y)))) := by
 have hr : RowN w F 2 (.slice (some ⟨b, o, none⟩) n cap) K.length (flatT K) := h.row k _ hk
 have hn : n = K.length := by
   obtain ⟨_, hl, a, c, hv, h1, _⟩ := hr
   simp only [Value.slice.injEq] at hv
   exact hv.2.1
 subst hn
 obtain ⟨h1, h2⟩ := hr.set (j * 2) (by rw [flatT_length]; omega) x
 obtain ⟨h3, h4⟩ := h1.set (j * 2 + 1) (by rw [List.length_set, flatT_length]; omega) y
 rw [← Nat.add_assoc] at h3 h4
 rw [flatT_set K j hj] at h3
 refine h.change k _ _ hk ?_ (fun q o e => .inl e) (h2.trans (h4.mono (fun _ _ _ e => .inl e)))
 show RowN _ F 2 _ (K.set j (x, y)).length (flatT (K.set j (x, y)))
 rw [List.length_set]
 exact h3
end
theorem HeldR.swap {w0 w : World} {CH : Cells} {R : List RowD} {a b : RowD} (h : HeldR w0 CH w (R ++ [a, b])) : HeldR w0 CH w (R ++ [b, a]) := by
 have hget : ∀ (i : Nat) (s : RowD), (R ++ [b, a])[i]? = some s → ∃ j, (R ++ [a, b])[j]? = some s ∧ ((i < R.length ∧ j = i) ∨ (i = R.length ∧ j = R.length + 1) ∨ (i = R.length + 1 ∧ j = R.length)) := fun i s e => by
   by_cases hi : i < R.length
   · rw [List.getElem?_append_left hi] at e
     exact ⟨i, by rw [List.getElem?_append_left hi]; exact e, .inl ⟨hi, rfl⟩⟩
   · rw [List.getElem?_append_right (by omega)] at e
     have hl := (List.getElem?_eq_some_iff.1 e).1
     simp at hl
     rcases (by omega : i = R.length ∨ i = R.length + 1) with rfl | rfl
     · simp at e; subst e
       exact ⟨R.length + 1, by simp, .inr (.inl ⟨rfl, rfl⟩)⟩
     · simp at e; subst e
       exact ⟨R.length, by simp, .inr (.inr ⟨rfl, rfl⟩)⟩
 refine ⟨h.kept, fun i s e => ?_, fun i s e => ?_, fun i j x y hij ex ey => ?_⟩
 · obtain ⟨j, ej, _⟩ := hget i s e
   exact h.row j s ej
 · obtain ⟨j, ej, _⟩ := hget i s e
   exact h.sub j s ej
 · obtain ⟨i', ei, ci⟩ := hget i x ex
   obtain ⟨j', ej, cj⟩ := hget j y ey
   exact h.ap i' j' x y (by omega) ei ej
theorem HeldR.twoBoxes {w0 w : World} {CH : Cells} {R : List RowD} (h : HeldR w0 CH w R) (u v x y : Value) (t t' : TypeId) :
   HeldR w0 CH (((w.alloc (.cells #[u, v] t)).alloc (.cells #[x, y] t')).drew) (R ++ [boxD w.heap.size u v, boxD (w.heap.size + 1) x y]) ∧
   HeldR w0 CH (((w.alloc (.cells #[x, y] t')).alloc (.cells #[u, v] t)).drew) (R ++ [boxD (w.heap.size + 1) u v, boxD w.heap.size x y]) := by
 have h1 := (h.newBox u v t).newBox x y t'
 have h2 := (h.newBox x y t').newBox u v t
 rw [World.size_alloc, List.append_assoc] at h1 h2
 exact ⟨h1.still (KeptF.drew _ _), (HeldR.swap h2).still (KeptF.drew _ _)⟩
theorem src_ints {P : Program} {w : World} {t : TypeId} (ht : P.underlying t = some (.slice 3)) {y : Value} {M : List Int} (h : IntsAt w y M) : Src P 1 t y M.length (M.map (Value.int .i64)) w := by
 obtain ⟨a, cap, rfl, hnl, hat⟩ := h
 rcases a with _ | p
 · obtain rfl : M = [] := by
     rcases hat with h | ⟨b, o, h, _⟩
     · exact h
     · cases h
   exact Src.ofNil w ht _
 · refine Src.ofSlice w ht p M.length cap _ (by simp) (fun j u hj => ?_) (fun u hu => by obtain ⟨z, _, rfl⟩ := List.mem_map.1 hu; rfl)
   rcases hat with h | ⟨b, o, h, hc⟩
   · rw [h] at hj; simp at hj
   · cases h
     have hjl : j < M.length := by have := (List.getElem?_eq_some_iff.1 hj).1; simpa using this
     rw [Addr.add_lit, hc j hjl]
     rw [List.getElem?_map, List.getElem?_eq_getElem hjl] at hj
     simp only [Option.map_some] at hj
     rw [← hj]
     simp [hjl]
theorem src_trees {P : Program} {w : World} {t : TypeId} (ht : P.underlying t = some (.slice 26)) {y : Value} {M : List (Value × Value)} (h : KidsAt w y M) (h1 : ∀ u, u ∈ flatT M → u.oneCell' = true) : Src P 2 t y M.length (flatT M) w := by
 obtain ⟨a, cap, rfl, hnl, hat⟩ := h
 rcases a with _ | p
 · obtain rfl : M = [] := by
     rcases hat with h | ⟨b, o, h, _⟩
     · exact h
     · cases h
   exact Src.ofNil w ht _
 · refine Src.ofSlice w ht p M.length cap _ (flatT_length M) (fun j u hj => ?_) h1
   rcases hat with h | ⟨b, o, h, hc⟩
   · rw [h] at hj; simp [flatT] at hj
   · cases h
     rw [Addr.add_lit]
     exact hc j u hj
theorem step_held {P : Program} {w0 w : World} {CH : Cells} {R : List RowD} {ops : Array Oper} {o : Oper} {a : Act} {K : Act → World → Prop} {Q : Exit → Act → World → Prop} {E : Prop} (hgd : o.guard = none) (s x : Operand) (t : TypeId)
   (ho : o.op = .call { callee := .builtin .append, args := #[s, x], argTypes := #[t, t] }) (e : TypeId) (i : TypeInfo) (z : Value) (bytes : Nat)
   (ht : P.underlying t = some (.slice e)) (hi : P.info? e = some i) (hz : i.zero = some z) (hby : i.bytes = bytes)
   (h : HeldR w0 CH w R) (k : Nat) (r : RowD) (hk : R[k]? = some r) (hsz : i.size = r.sz) (hzs : z.cells.size = r.sz) (hs : a.eval s = r.v) (y : Value) (m : Nat) (news : List Value) (hx : a.eval x = y) (hsrc : Src P r.sz t y m news w)
   (b1 : r.n + m ≤ maxLen) (b2 : (r.n + m) * bytes ≤ 140737488355328)
   (hK : ∀ (a1 : Option Addr) (c1 : Nat) (F1 : Cells) (w1 : World), HeldR w0 CH w1 (R.set k ⟨F1, r.sz, .slice a1 (r.n + m) c1, r.n + m, r.xs ++ news⟩) → K (a.put o.dst (.slice a1 (r.n + m) c1)) w1) :
   if Region.wanted o (yielded ops a.tmps) = true then Oper.wp P o a w K Q else E := by
 have hw : Region.wanted o (yielded ops a.tmps) = true := by simp [Region.wanted, hgd]
 rw [if_pos hw]
 obtain ⟨a1, c1, w1, F1, hrun, h1, h2, h3⟩ := (h.row k r hk).append t o.type e i z bytes ht hi hz hsz hby hzs hsrc b1 b2
 unfold Oper.wp
 simp [execOp, ho, resolve, invoke, builtin, hs, hx, hrun, Result.andThen]
 exact hK a1 c1 F1 w1 (h.change k r ⟨F1, r.sz, .slice a1 (r.n + m) c1, r.n + m, r.xs ++ news⟩ hk h1 h2 h3)
theorem step_held_ints {w0 w : World} {CH : Cells} {R : List RowD} {ops : Array Oper} {o : Oper} {a : Act} {K : Act → World → Prop} {Q : Exit → Act → World → Prop} {E : Prop} (hgd : o.guard = none) (s x : Operand)
   (ho : o.op = .call { callee := .builtin .append, args := #[s, x], argTypes := #[23, 23] })
   (k : Nat) (F : Cells) (v : Value) (l : List Int) (h : HeldR w0 CH w R) (hk : R[k]? = some (intsD F v l)) (hs : a.eval s = v) (y : Value) (M : List Int) (hx : a.eval x = y) (hsrc : IntsAt w y M) (hlen : l.length + M.length ≤ 100000000)
   (hK : ∀ (a1 : Option Addr) (c1 : Nat) (F1 : Cells) (w1 : World), HeldR w0 CH w1 (R.set k (intsD F1 (.slice a1 (l.length + M.length) c1) (l ++ M))) → K (a.put o.dst (.slice a1 (l.length + M.length) c1)) w1) :
   if Region.wanted o (yielded ops a.tmps) = true then Oper.wp Try.prog o a w K Q else E := by
 obtain ⟨i0, hi, hz0, hz1, hz2⟩ := info_parts Try.appInfo
 refine step_held hgd s x 23 ho 3 i0 _ 8 Try.underlying23 hi hz0 hz2 h k (intsD F v l) hk hz1 rfl hs y M.length _ hx (src_ints Try.underlying23 hsrc) (by show l.length + M.length ≤ maxLen; unfold maxLen; omega) (by show (l.length + M.length) * 8 ≤ _; omega) (fun a1 c1 F1 w1 h1 => ?_)
 refine hK a1 c1 F1 w1 ?_
 have e : intsD F1 (.slice a1 (l.length + M.length) c1) (l ++ M) = ⟨F1, 1, .slice a1 (l.length + M.length) c1, l.length + M.length, l.map (Value.int .i64) ++ M.map (Value.int .i64)⟩ := by unfold intsD; rw [List.length_append, List.map_append]
 rw [e]
 exact h1
theorem step_held_trees {w0 w : World} {CH : Cells} {R : List RowD} {ops : Array Oper} {o : Oper} {a : Act} {K : Act → World → Prop} {Q : Exit → Act → World → Prop} {E : Prop} (hgd : o.guard = none) (s x : Operand)
   (ho : o.op = .call { callee := .builtin .append, args := #[s, x], argTypes := #[24, 24] })
   (k : Nat) (F : Cells) (v : Value) (l : List (Value × Value)) (h : HeldR w0 CH w R) (hk : R[k]? = some (treesD F v l)) (hs : a.eval s = v) (y : Value) (M : List (Value × Value)) (hx : a.eval x = y) (hsrc : KidsAt w y M) (hone : ∀ u, u ∈ flatT M → u.oneCell' = true) (hlen : l.length + M.length ≤ 100000000)
   (hK : ∀ (a1 : Option Addr) (c1 : Nat) (F1 : Cells) (w1 : World), HeldR w0 CH w1 (R.set k (treesD F1 (.slice a1 (l.length + M.length) c1) (l ++ M))) → K (a.put o.dst (.slice a1 (l.length + M.length) c1)) w1) :
   if Region.wanted o (yielded ops a.tmps) = true then Oper.wp Try.prog o a w K Q else E := by
 obtain ⟨i0, hi, hz0, hz1, hz2⟩ := info_parts Try.infoTree
 refine step_held hgd s x 24 ho 26 i0 _ 48 Try.underlying24 hi hz0 hz2 h k (treesD F v l) hk hz1 rfl hs y M.length _ hx (src_trees Try.underlying24 hsrc hone) (by show l.length + M.length ≤ maxLen; unfold maxLen; omega) (by show (l.length + M.length) * 48 ≤ _; omega) (fun a1 c1 F1 w1 h1 => ?_)
 refine hK a1 c1 F1 w1 ?_
 have e : treesD F1 (.slice a1 (l.length + M.length) c1) (l ++ M) = ⟨F1, 2, .slice a1 (l.length + M.length) c1, l.length + M.length, flatT l ++ flatT M⟩ := by unfold treesD; rw [List.length_append, flatT_append]
 rw [e]
 exact h1
section
variable {w0 w : World} {CH : Cells} {R : List RowD}
theorem HeldR.dropInts (h : HeldR w0 CH w R) (k : Nat) {F : Cells} {b o n cap : Nat} {l : List Int} (hk : R[k]? = some (intsD F (.slice (some ⟨b, o, none⟩) n cap) l)) (m : Nat) (hm : m < l.length) :
   HeldR w0 CH w (R.set k (intsD F (.slice (some ⟨b, o + m, none⟩) (n - m) (cap - m)) (l.drop m))) := by
 have hr : RowN w F 1 (.slice (some ⟨b, o, none⟩) n cap) l.length (l.map (Value.int .i64)) := h.row k _ hk
 have hn : n = l.length := by
   obtain ⟨_, hl, a, c, hv, h1, _⟩ := hr
   simp only [Value.slice.injEq] at hv
   exact hv.2.1
 subst hn
 have h1 := hr.drop m hm
 rw [Nat.mul_one] at h1
 refine h.change k _ _ hk ?_ (fun q o e => .inl e) (KeptF.refl _ _)
 show RowN w F 1 _ (l.drop m).length ((l.drop m).map (Value.int .i64))
 rw [List.length_drop, List.map_drop]
 exact h1
theorem HeldR.dropTrees (h : HeldR w0 CH w R) (k : Nat) {F : Cells} {b o n cap : Nat} {l : List (Value × Value)} (hk : R[k]? = some (treesD F (.slice (some ⟨b, o, none⟩) n cap) l)) (m : Nat) (hm : m < l.length) :
   HeldR w0 CH w (R.set k (treesD F (.slice (some ⟨b, o + m * 2, none⟩) (n - m) (cap - m)) (l.drop m))) := by
 have hr : RowN w F 2 (.slice (some ⟨b, o, none⟩) n cap) l.length (flatT l) := h.row k _ hk
 have hn : n = l.length := by
   obtain ⟨_, hl, a, c, hv, h1, _⟩ := hr
   simp only [Value.slice.injEq] at hv
   exact hv.2.1
 subst hn
 have h1 := hr.drop m hm
 refine h.change k _ _ hk ?_ (fun q o e => .inl e) (KeptF.refl _ _)
 show RowN w F 2 _ (l.drop m).length (flatT (l.drop m))
 rw [List.length_drop, flatT_drop]
 exact h1
theorem HeldR.takeInts (h : HeldR w0 CH w R) (k : Nat) {F : Cells} {a : Option Addr} {n cap : Nat} {l : List Int} (hk : R[k]? = some (intsD F (.slice a n cap) l)) (m : Nat) (hm : m ≤ l.length) :
   HeldR w0 CH w (R.set k (intsD F (.slice a m cap) (l.take m))) := by
 have hr : RowN w F 1 (.slice a n cap) l.length (l.map (Value.int .i64)) := h.row k _ hk
 have hn : n = l.length := by
   obtain ⟨_, hl, a, c, hv, h1, _⟩ := hr
   simp only [Value.slice.injEq] at hv
   exact hv.2.1
 subst hn
 have h1 := hr.take m hm
 rw [Nat.mul_one] at h1
 refine h.change k _ _ hk ?_ (fun q o e => .inl e) (KeptF.refl _ _)
 show RowN w F 1 _ (l.take m).length ((l.take m).map (Value.int .i64))
 rw [List.length_take, List.map_take, Nat.min_eq_left hm]
 exact h1
theorem HeldR.takeTrees (h : HeldR w0 CH w R) (k : Nat) {F : Cells} {a : Option Addr} {n cap : Nat} {l : List (Value × Value)} (hk : R[k]? = some (treesD F (.slice a n cap) l)) (m : Nat) (hm : m ≤ l.length) :
   HeldR w0 CH w (R.set k (treesD F (.slice a m cap) (l.take m))) := by
 have hr : RowN w F 2 (.slice a n cap) l.length (flatT l) := h.row k _ hk
 have hn : n = l.length := by
   obtain ⟨_, hl, a, c, hv, h1, _⟩ := hr
   simp only [Value.slice.injEq] at hv
   exact hv.2.1
 subst hn
 have h1 := hr.take m hm
 refine h.change k _ _ hk ?_ (fun q o e => .inl e) (KeptF.refl _ _)
 show RowN w F 2 _ (l.take m).length (flatT (l.take m))
 rw [List.length_take, flatT_take, Nat.min_eq_left hm]
 exact h1
theorem HeldR.intsAt (h : HeldR w0 CH w R) (k : Nat) {F : Cells} {v : Value} {l : List Int} (hk : R[k]? = some (intsD F v l)) : IntsAt w v l := by
 obtain ⟨_, a, cap, hv, h1, h2, h3, h4⟩ := h.ints k hk
 simp only [List.length_map] at hv h1
 refine ⟨a, cap, hv, h3, ?_⟩
 rcases h4 with h4 | ⟨b, o, h5, h6, h7⟩
 · left; exact List.eq_nil_of_length_eq_zero (by omega)
 · refine .inr ⟨b, o, h5, fun i hi => ?_⟩
   rw [h7 i (by simpa using hi)]
   simp [hi]
theorem HeldR.kidsAt (h : HeldR w0 CH w R) (k : Nat) {F : Cells} {v : Value} {l : List (Value × Value)} (hk : R[k]? = some (treesD F v l)) : KidsAt w v l := by
 have hr : RowN w F 2 v l.length (flatT l) := h.row k _ hk
 obtain ⟨_, hl, a, cap, hv, h1, h2, h3, h4⟩ := hr
 refine ⟨a, cap, hv, h3, ?_⟩
 rcases h4 with h4 | ⟨b, o, h5, h6, h7⟩
 · left; exact List.eq_nil_of_length_eq_zero (by omega)
 · refine .inr ⟨b, o, h5, fun j u hj => ?_⟩
   obtain ⟨hjl, rfl⟩ := List.getElem?_eq_some_iff.1 hj
   exact h7 j hjl
end
theorem HeldR.newInts {w0 w w' : World} {CH : Cells} {R : List RowD} (h : HeldR w0 CH w R) (k : Nat) {r : RowD} (hk : R[k]? = some r) {v : Value} {l : List Int} (ho : IntsOwn w' w.heap.size v l) (hb : Below w.heap.size w w') :
   ∃ F1, HeldR w0 CH w' (R.set k (intsD F1 v l)) := by
 have hr := (RowF.of_owns ho).n
 rw [List.length_map] at hr
 exact ⟨_, h.change k r _ hk hr (fun q o e => .inr (ho.lt q e).1) (KeptF.of_below hb (Nat.le_refl _))⟩
theorem HeldR.newTrees {w0 w w' : World} {CH : Cells} {R : List RowD} (h : HeldR w0 CH w R) (k : Nat) {r : RowD} (hk : R[k]? = some r) {v : Value} {l : List (Value × Value)} (ho : TreesOwn w' w.heap.size v l) (hb : Below w.heap.size w w') :
   ∃ F1, HeldR w0 CH w' (R.set k (treesD F1 v l)) :=
 ⟨_, h.change k r _ hk (RowT.of_own ho).n (fun q o e => .inr (World.ownsRow.lt ho q e).1) (KeptF.of_below hb (Nat.le_refl _))⟩
theorem wpList_held_trees {w0 w : World} {CH : Cells} {R : List RowD} {ops : Array Oper} {rest : List Oper} {o : Oper} {a : Act} {Q : Exit → Act → World → Prop} (hgd : o.guard = none) (s x : Operand)
   (ho : o.op = .call { callee := .builtin .append, args := #[s, x], argTypes := #[24, 24] })
   (k : Nat) (F : Cells) (v : Value) (l : List (Value × Value)) (h : HeldR w0 CH w R) (hk : R[k]? = some (treesD F v l)) (hs : a.eval s = v) (y : Value) (M : List (Value × Value)) (hx : a.eval x = y) (hsrc : KidsAt w y M) (hone : ∀ u, u ∈ flatT M → u.oneCell' = true) (hlen : l.length + M.length ≤ 100000000)
   (hK : ∀ (a1 : Option Addr) (c1 : Nat) (F1 : Cells) (w1 : World), HeldR w0 CH w1 (R.set k (treesD F1 (.slice a1 (l.length + M.length) c1) (l ++ M))) → wpList Try.prog ops Q rest (a.put o.dst (.slice a1 (l.length + M.length) c1)) w1) :
   wpList Try.prog ops Q (o :: rest) a w := by
 refine wpList_plain hgd fun K hK' => ?_
 have h := step_held_trees (ops := ops) (K := K) (Q := Q) (E := True) hgd s x ho k F v l h hk hs y M hx hsrc hone hlen (fun a1 c1 F1 w1 h1 => hK' _ _ (hK a1 c1 F1 w1 h1))
 rwa [if_pos (by simp [Region.wanted, hgd])] at h
theorem pairs_one {K : List (Value × Value)} (h : ∀ p, p ∈ K → ∃ a n c a' n' c', p = (.slice a n c, .slice a' n' c')) : ∀ u, u ∈ flatT K → u.oneCell' = true := fun u hu => by
 unfold flatT at hu
 obtain ⟨p, hp, hu⟩ := List.mem_flatMap.1 hu
 obtain ⟨a, n, c, a', n', c', rfl⟩ := h p hp
 simp only [List.mem_cons, List.not_mem_nil, or_false] at hu
 rcases hu with rfl | rfl <;> rfl
end Go.Proofs.Ytananonjomfpkaa
