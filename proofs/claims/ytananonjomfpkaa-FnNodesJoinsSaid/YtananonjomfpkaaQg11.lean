/- Appending one element to a slice whose cells are its own; copying within it. -/
import Derived.Test.YtananonjomfpkaaQg10
import Derived.Deep.AppendSrc
import Derived.Deep.Upon
import Derived.Laws.IdiomCopy
import Derived.Deep.RegionLaw
/- Slices of elements of any size whose cells are their own; appending to them. -/
namespace Go.Proofs.Ytananonjomfpkaa
open Go.RowKit
def RowN (w : World) (F : Cells) (sz : Nat) (v : Value) (n : Nat) (xs : List Value) : Prop :=
 (∀ x q, F x q → x < w.heap.size) ∧ xs.length = n * sz ∧ ∃ (a : Option Addr) (cap : Nat), v = .slice a n cap ∧ n ≤ cap ∧ cap ≤ maxLen ∧ (a = none → cap = 0) ∧
   (cap = 0 ∨ ∃ b o, a = some ⟨b, o, none⟩ ∧ (∀ i, i < cap * sz → F b (o + i) ∧ (w.cell? ⟨b, o + i, none⟩).isSome = true ∧ w.frozen? ⟨b, o + i, none⟩ = false) ∧
     ∀ i (h : i < xs.length), w.cell? ⟨b, o + i, none⟩ = some xs[i])
theorem RowN.keep {w w' : World} {F G : Cells} {sz n : Nat} {v : Value} {xs : List Value} (h : RowN w F sz v n xs) (hk : KeptF G w w') (ha : Apart F G) : RowN w' F sz v n xs := by
 obtain ⟨hlt, hl, a, cap, hv, h1, h2, h3, h4⟩ := h
 refine ⟨fun x q h => Nat.lt_of_lt_of_le (hlt x q h) hk.size, hl, a, cap, hv, h1, h2, h3, ?_⟩
 rcases h4 with h4 | ⟨b, o, h5, h6, h7⟩
 · exact .inl h4
 · refine .inr ⟨b, o, h5, fun i hi => ?_, fun i hi => ?_⟩
   · obtain ⟨g1, g2, g3⟩ := h6 i hi
     exact ⟨g1, hk.there _ _ g2, (hk.frozen _ _ (lt_of_there g2)).trans g3⟩
   · have hm : n * sz ≤ cap * sz := Nat.mul_le_mul_right _ h1
     obtain ⟨g1, g2, g3⟩ := h6 i (by omega)
     rw [hk.cell _ _ (lt_of_there g2) (ha _ _ g1)]
     exact h7 i hi
theorem RowN.shown {w : World} {F : Cells} {sz n : Nat} {v : Value} {xs : List Value} (h : RowN w F sz v n xs) : ∃ a c, v = .slice a n c := by
 obtain ⟨_, _, a, cap, hv, _⟩ := h
 exact ⟨a, cap, hv⟩
theorem RowF.n {w : World} {F : Cells} {v : Value} {xs : List Value} (h : RowF w F v xs) : RowN w F 1 v xs.length xs := by
 obtain ⟨hlt, a, cap, hv, h1, h2, h3, h4⟩ := h
 exact ⟨hlt, by simp, a, cap, hv, h1, h2, h3, by simpa using h4⟩
theorem RowN.f {w : World} {F : Cells} {n : Nat} {v : Value} {xs : List Value} (h : RowN w F 1 v n xs) : RowF w F v xs := by
 obtain ⟨hlt, hl, a, cap, hv, h1, h2, h3, h4⟩ := h
 obtain rfl : xs.length = n := by omega
 exact ⟨hlt, a, cap, hv, h1, h2, h3, by simpa using h4⟩
theorem RowT.n {w : World} {F : Cells} {v : Value} {K : List (Value × Value)} (h : RowT w F v K) : RowN w F 2 v K.length (flatT K) := by
 obtain ⟨hlt, a, cap, hv, h1, h2, h3, h4⟩ := h
 refine ⟨hlt, flatT_length K, a, cap, hv, h1, h2, h3, ?_⟩
 rcases h4 with h4 | ⟨b, o, h5, h6, h7⟩
 · exact .inl h4
 · refine .inr ⟨b, o, h5, h6, fun i hi => ?_⟩
   rw [flatT_length] at hi
   have hg := flatT_get K (i / 2) (by omega)
   have hc := h7 (i / 2) (by omega)
   rcases Nat.mod_two_eq_zero_or_one i with e | e
   · have e2 : i / 2 * 2 = i := by omega
     rw [e2] at hg hc
     rw [hc.1, ← hg.1]
     exact List.getElem?_eq_getElem _
   · have e2 : i / 2 * 2 + 1 = i := by omega
     rw [Nat.add_assoc, e2] at hc
     rw [e2] at hg
     rw [hc.2, ← hg.2]
     exact List.getElem?_eq_getElem _
theorem RowN.t {w : World} {F : Cells} {n : Nat} {v : Value} {K : List (Value × Value)} (h : RowN w F 2 v n (flatT K)) : RowT w F v K := by
 obtain ⟨hlt, hl, a, cap, hv, h1, h2, h3, h4⟩ := h
 rw [flatT_length] at hl
 obtain rfl : K.length = n := by omega
 refine ⟨hlt, a, cap, hv, h1, h2, h3, ?_⟩
 rcases h4 with h4 | ⟨b, o, h5, h6, h7⟩
 · exact .inl h4
 · refine .inr ⟨b, o, h5, h6, fun i hi => ?_⟩
   have hg := flatT_get K i hi
   have c1 := h7 (i * 2) (by rw [flatT_length]; omega)
   have c2 := h7 (i * 2 + 1) (by rw [flatT_length]; omega)
   rw [← Nat.add_assoc] at c2
   rw [c1, c2, ← hg.1, ← hg.2]
   exact ⟨(List.getElem?_eq_getElem _).symm, (List.getElem?_eq_getElem _).symm⟩
theorem RowN.cells_of {w : World} {F : Cells} {sz b o n cap : Nat} {xs : List Value} (h : RowN w F sz (.slice (some ⟨b, o, none⟩) n cap) n xs) (hp : 0 < cap) :
   n ≤ cap ∧ cap ≤ maxLen ∧ (∀ i, i < cap * sz → F b (o + i) ∧ (w.cell? ⟨b, o + i, none⟩).isSome = true ∧ w.frozen? ⟨b, o + i, none⟩ = false) ∧ ∀ i (h : i < xs.length), w.cell? ⟨b, o + i, none⟩ = some xs[i] := by
 obtain ⟨_, hl, a, cap', hv, h1, h2, h3, h4⟩ := h
 simp only [Value.slice.injEq] at hv
 obtain ⟨rfl, -, rfl⟩ := hv
 rcases h4 with h4 | ⟨b', o', h5, h6, h7⟩
 · omega
 · simp only [Option.some.injEq, Addr.mk.injEq, and_true] at h5
   obtain ⟨rfl, rfl⟩ := h5
   exact ⟨h1, h2, h6, h7⟩
theorem RowN.intro {w : World} {F : Cells} {sz b o n cap : Nat} {xs : List Value} (h0 : ∀ x q, F x q → x < w.heap.size) (hl : xs.length = n * sz) (h1 : n ≤ cap) (h2 : cap ≤ maxLen)
   (h3 : ∀ i, i < cap * sz → F b (o + i) ∧ (w.cell? ⟨b, o + i, none⟩).isSome = true ∧ w.frozen? ⟨b, o + i, none⟩ = false) (h4 : ∀ i (h : i < xs.length), w.cell? ⟨b, o + i, none⟩ = some xs[i]) :
   RowN w F sz (.slice (some ⟨b, o, none⟩) n cap) n xs := ⟨h0, hl, _, cap, rfl, h1, h2, by simp, .inr ⟨b, o, rfl, h3, h4⟩⟩
theorem RowN.addr {w : World} {F : Cells} {sz n : Nat} {v : Value} {xs : List Value} (h : RowN w F sz v n xs) (hn : 0 < n) : ∃ b o cap, v = .slice (some ⟨b, o, none⟩) n cap ∧ n ≤ cap ∧ cap ≤ maxLen := by
 obtain ⟨_, hl, a, cap, hv, h1, h2, h3, h4⟩ := h
 rcases h4 with h4 | ⟨b, o, h5, _⟩
 · omega
 · exact ⟨b, o, cap, by rw [hv, h5], h1, h2⟩
theorem RowN.set {w : World} {F : Cells} {sz b o n cap : Nat} {xs : List Value} (h : RowN w F sz (.slice (some ⟨b, o, none⟩) n cap) n xs) (j : Nat) (hj : j < xs.length) (u : Value) :
   RowN (w.setCell ⟨b, o + j, none⟩ u) F sz (.slice (some ⟨b, o, none⟩) n cap) n (xs.set j u) ∧ KeptF F w (w.setCell ⟨b, o + j, none⟩ u) := by
 have hlt := h.1
 have hl := h.2.1
 have hp : 0 < cap := by
   obtain ⟨_, _, a, c, hv, h1, _⟩ := h
   simp only [Value.slice.injEq] at hv
   obtain ⟨-, -, rfl⟩ := hv
   rcases Nat.eq_zero_or_pos cap with h0 | h0
   · obtain rfl : n = 0 := by omega
     omega
   · exact h0
 obtain ⟨h1, h2, h3, h4⟩ := h.cells_of hp
 have hm : n * sz ≤ cap * sz := Nat.mul_le_mul_right _ h1
 have hK := KeptF.setCell (F := F) w b (o + j) u (h3 j (by omega)).1
 refine ⟨RowN.intro (fun x q h => Nat.lt_of_lt_of_le (hlt x q h) hK.size) (by simpa using hl) h1 h2 (fun i hi => ?_) (fun i hi => ?_), hK⟩
 · obtain ⟨g1, g2, g3⟩ := h3 i hi
   exact ⟨g1, hK.there _ _ g2, (hK.frozen _ _ (lt_of_there g2)).trans g3⟩
 · rw [List.length_set] at hi
   by_cases e : j = i
   · subst e
     obtain ⟨u', hu⟩ := Option.isSome_iff_exists.1 (h3 j (by omega)).2.1
     rw [World.cell?_setCell_same _ _ _ hu]
     simp
   · rw [World.cell?_setCell_other _ _ _ _ (fun e2 => by have h : o + j = o + i := congrArg Addr.off e2; omega), h4 i hi, List.getElem_set_ne e]
theorem RowN.take {w : World} {F : Cells} {sz n cap : Nat} {a : Option Addr} {xs : List Value} (h : RowN w F sz (.slice a n cap) n xs) (m : Nat) (hm : m ≤ n) : RowN w F sz (.slice a m cap) m (xs.take (m * sz)) := by
 obtain ⟨hlt, hl, a', cap', hv, h1, h2, h3, h4⟩ := h
 simp only [Value.slice.injEq, true_and] at hv
 obtain ⟨rfl, rfl⟩ := hv
 have hms : m * sz ≤ n * sz := Nat.mul_le_mul_right _ hm
 refine ⟨hlt, by simp; omega, a, cap, rfl, by omega, h2, h3, ?_⟩
 rcases h4 with h4 | ⟨b, o, h5, h6, h7⟩
 · exact .inl h4
 · refine .inr ⟨b, o, h5, h6, fun i hi => ?_⟩
   rw [List.length_take] at hi
   rw [h7 i (by omega), List.getElem_take]
theorem RowN.drop {w : World} {F : Cells} {sz b o n cap : Nat} {xs : List Value} (h : RowN w F sz (.slice (some ⟨b, o, none⟩) n cap) n xs) (m : Nat) (hm : m < n) : RowN w F sz (.slice (some ⟨b, o + m * sz, none⟩) (n - m) (cap - m)) (n - m) (xs.drop (m * sz)) := by
 have hlt := h.1
 have hl := h.2.1
 have hp : 0 < cap := by
   obtain ⟨_, _, a, c, hv, h1, _⟩ := h
   simp only [Value.slice.injEq] at hv
   obtain ⟨-, -, rfl⟩ := hv
   omega
 obtain ⟨h1, h2, h3, h4⟩ := h.cells_of hp
 have e1 : (cap - m) * sz + m * sz = cap * sz := by rw [← Nat.add_mul]; congr 1; omega
 have e2 : (n - m) * sz + m * sz = n * sz := by rw [← Nat.add_mul]; congr 1; omega
 refine RowN.intro hlt (by simp; omega) (by omega) (by omega) (fun i hi => ?_) (fun i hi => ?_)
 · have := h3 (m * sz + i) (by omega)
   rwa [← Nat.add_assoc] at this
 · rw [List.length_drop] at hi
   have := h4 (m * sz + i) (by omega)
   rw [← Nat.add_assoc] at this
   rw [this, List.getElem_drop]
theorem RowN.append {P : Program} {w : World} {F : Cells} {sz n : Nat} {v : Value} {xs : List Value} (hr : RowN w F sz v n xs) (t ty e : TypeId) (i : TypeInfo) (z : Value) (bytes : Nat)
   (ht : P.underlying t = some (.slice e)) (hi : P.info? e = some i) (hz : i.zero = some z) (hsz : i.size = sz) (hby : i.bytes = bytes) (hzs : z.cells.size = sz)
   {x : Value} {m : Nat} {news : List Value} (hs : Src P sz t x m news w) (b1 : n + m ≤ maxLen) (b2 : (n + m) * bytes ≤ 140737488355328) :
   ∃ (a : Option Addr) (cap : Nat) (w1 : World) (F1 : Cells), (Builtin.append_ #[t, t] ty #[v, x]).run P w = .ok (.slice a (n + m) cap) w1 ∧ RowN w1 F1 sz (.slice a (n + m) cap) (n + m) (xs ++ news) ∧
     (∀ q r, F1 q r → F q r ∨ w.heap.size ≤ q) ∧ KeptF F w w1 := by
 subst hsz
 subst hby
 have hnl := hs.newsLen
 have hr0 := hr
 obtain ⟨hlt, hl, a, cap, rfl, h1, h2, h3, h4⟩ := hr
 have hl2 : (xs ++ news).length = (n + m) * i.size := by rw [List.length_append, hl, hnl, Nat.add_mul]
 by_cases hfit : n + m ≤ cap
 · rcases Nat.eq_zero_or_pos cap with h0 | hcap
   · subst h0
     obtain rfl : m = 0 := by omega
     obtain rfl : news = [] := List.eq_nil_of_length_eq_zero (by simpa using hnl)
     exact ⟨_, _, w, F, run_append_nothing (P := P) w t t ty e i ht hi a n 0 h1 x hs, by simpa using hr0, fun q r h => .inl h, KeptF.refl _ _⟩
   · rcases h4 with h4 | ⟨b, o, rfl, g5, g6⟩
     · omega
     have hms : (n + m) * i.size ≤ cap * i.size := Nat.mul_le_mul_right _ hfit
     have hms' := hms
     rw [Nat.add_mul] at hms
     have hg : ∀ j, j < news.length → F b (o + n * i.size + j) ∧ (w.cell? ⟨b, o + n * i.size + j, none⟩).isSome = true ∧ w.frozen? ⟨b, o + n * i.size + j, none⟩ = false := fun j hj => by
       have := g5 (n * i.size + j) (by omega)
       rwa [← Nat.add_assoc] at this
     have hrun := run_append_room_src (P := P) w t t ty e i ht hi b o n cap x m news hs hfit (fun j hj => (hg j hj).2.1) (fun j hj => (hg j hj).2.2)
     have hKs := KeptF.setCells (F := F) b news (o + n * i.size) w (fun j hj => (hg j hj).1)
     refine ⟨_, _, _, F, hrun, RowN.intro (fun x q h => Nat.lt_of_lt_of_le (hlt x q h) hKs.size) hl2 hfit h2 (fun j hj => ?_) (fun j hj => ?_), fun q r h => .inl h, hKs⟩
     · obtain ⟨q1, q2, q3⟩ := g5 j hj
       exact ⟨q1, hKs.there _ _ q2, (hKs.frozen _ _ (lt_of_there q2)).trans q3⟩
     · by_cases hj2 : j < xs.length
       · rw [World.cell?_setCells_out b news (o + n * i.size) w _ (fun _ _ => .inl (by show o + j < o + n * i.size; omega)), g6 j hj2, List.getElem_append_left hj2]
       · have hjl : j - xs.length < news.length := by rw [List.length_append] at hj; omega
         have := World.cell?_setCells_in b news (o + n * i.size) w (fun j hj => (hg j hj).2.1) (j - xs.length) hjl
         rw [show o + n * i.size + (j - xs.length) = o + j by omega] at this
         rw [this, List.getElem_append_right (by omega)]
 · have hold : (Builtin.firstCells i.size n (.slice a n cap)).run P w.drew = .ok xs.toArray w.drew := by
     rcases a with _ | p
     · have hc0 := h3 rfl
       obtain rfl : n = 0 := by omega
       obtain rfl : xs = [] := List.eq_nil_of_length_eq_zero (by simpa using hl)
       exact run_firstCells_none w.drew i.size 0 0 cap
     · refine run_firstCells_some w.drew i.size n p n cap xs hl (fun j u hj => ?_)
       have hj2 : j < xs.length := (List.getElem?_eq_some_iff.1 hj).1
       rcases h4 with h4 | ⟨b, o, h5, g5, g6⟩
       · obtain rfl : n = 0 := by omega
         omega
       · injection h5 with h5
         subst h5
         rw [Addr.add_lit]
         show w.cell? ⟨b, o + j, none⟩ = some u
         rw [g6 j hj2]
         rw [List.getElem?_eq_getElem hj2] at hj
         exact hj
   have hsmall : ((n + m : Nat) : Int) ≤ 9223372036854775807 := by simp only [maxLen] at b1; omega
   have hge := grownCap_ge w (n + m) cap e
   have hcm := grownCap_le_maxLen w (n + m) cap e b1
   have hrun := run_append_grow_src (P := P) w t t ty e i z ht hi hz a n cap xs hold x m news hs (by omega) hsmall (growslice_fits (by omega) b2)
   have hKa : KeptF F w (w.drew.alloc (.cells ((xs ++ news).toArray ++ Builtin.zeroCells z.cells (grownCap w (n + m) cap e - (n + m))) e)) := (KeptF.drew F w).trans ((KeptF.alloc _ _ _).mono (fun _ _ _ h => h))
   refine ⟨_, _, _, fun x _ => x = w.heap.size, hrun, RowN.intro (fun x q h => by subst h; simp) hl2 hge hcm (fun j hj => ⟨rfl, ?_, ?_⟩) (fun j hj => ?_), fun q r h => .inr (by subst h; exact Nat.le_refl _), hKa⟩
   · have e1 := World.cell?_alloc_new w.drew ((xs ++ news).toArray ++ Builtin.zeroCells z.cells (grownCap w (n + m) cap e - (n + m))) e j
     rw [Nat.zero_add]
     show (World.cell? _ ⟨w.drew.heap.size, j, none⟩).isSome = true
     rw [e1]
     have hsz : ((xs ++ news).toArray ++ Builtin.zeroCells z.cells (grownCap w (n + m) cap e - (n + m))).size = grownCap w (n + m) cap e * i.size := by
       rw [Array.size_append, List.size_toArray, hl2, size_zeroCells, hzs, ← Nat.add_mul]
       congr 1
       omega
     rw [Array.getElem?_eq_getElem (by rw [hsz]; exact hj)]
     rfl
   · rw [Nat.zero_add]
     exact World.frozen?_alloc_new w.drew _ _ j
   · have e1 := World.cell?_alloc_new w.drew ((xs ++ news).toArray ++ Builtin.zeroCells z.cells (grownCap w (n + m) cap e - (n + m))) e j
     rw [Nat.zero_add]
     show World.cell? _ ⟨w.drew.heap.size, j, none⟩ = _
     rw [e1, Array.getElem?_append_left (by simp only [List.size_toArray]; exact hj), List.getElem?_toArray]
     exact List.getElem?_eq_getElem _
end Go.Proofs.Ytananonjomfpkaa
/- Appending one element to a slice whose cells are its own; copying within it. -/
namespace Go.Proofs.Ytananonjomfpkaa
open Go.RowKit
theorem RowF.cells_of {w : World} {F : Cells} {b o n cap : Nat} {xs : List Value} (h : RowF w F (.slice (some ⟨b, o, none⟩) n cap) xs) (hp : 0 < cap) :
   n = xs.length ∧ xs.length ≤ cap ∧ cap ≤ maxLen ∧ (∀ i, i < cap → F b (o + i) ∧ (w.cell? ⟨b, o + i, none⟩).isSome = true ∧ w.frozen? ⟨b, o + i, none⟩ = false) ∧ ∀ i (h : i < xs.length), w.cell? ⟨b, o + i, none⟩ = some xs[i] := by
 obtain ⟨_, a, cap', hv, h1, h2, h3, h4⟩ := h
 simp only [Value.slice.injEq] at hv
 obtain ⟨rfl, rfl, rfl⟩ := hv
 rcases h4 with h4 | ⟨b', o', h5, h6, h7⟩
 · omega
 · simp only [Option.some.injEq, Addr.mk.injEq, and_true] at h5
   obtain ⟨rfl, rfl⟩ := h5
   exact ⟨rfl, h1, h2, h6, h7⟩
theorem RowF.intro {w : World} {F : Cells} {b o cap : Nat} {xs : List Value} (h0 : ∀ x q, F x q → x < w.heap.size) (h1 : xs.length ≤ cap) (h2 : cap ≤ maxLen)
   (h3 : ∀ i, i < cap → F b (o + i) ∧ (w.cell? ⟨b, o + i, none⟩).isSome = true ∧ w.frozen? ⟨b, o + i, none⟩ = false) (h4 : ∀ i (h : i < xs.length), w.cell? ⟨b, o + i, none⟩ = some xs[i]) :
   RowF w F (.slice (some ⟨b, o, none⟩) xs.length cap) xs := ⟨h0, _, cap, rfl, h1, h2, by simp, .inr ⟨b, o, rfl, h3, h4⟩⟩
theorem RowF.splice {w : World} {F : Cells} {b o n cap : Nat} {xs : List Value} (h : RowF w F (.slice (some ⟨b, o, none⟩) n cap) xs) (hp : 0 < cap) (k : Nat) (ys : List Value) (hk : k + ys.length ≤ xs.length) :
   RowF (w.setCells b (o + k) ys) F (.slice (some ⟨b, o, none⟩) n cap) (xs.take k ++ ys ++ xs.drop (k + ys.length)) := by
 have hlt := h.1
 obtain ⟨rfl, h1, h2, h3, h4⟩ := h.cells_of hp
 have hl : (xs.take k ++ ys ++ xs.drop (k + ys.length)).length = xs.length := by simp; omega
 have hK := KeptF.setCells (F := F) b ys (o + k) w (fun j hj => by have := (h3 (k + j) (by omega)).1; rwa [← Nat.add_assoc] at this)
 have := RowF.intro (w := w.setCells b (o + k) ys) (F := F) (b := b) (o := o) (cap := cap) (xs := xs.take k ++ ys ++ xs.drop (k + ys.length)) (fun x q h => Nat.lt_of_lt_of_le (hlt x q h) hK.size) (by omega) h2 (fun i hi => ?_) (fun i hi => ?_)
 · rwa [hl] at this
 · obtain ⟨g1, g2, g3⟩ := h3 i hi
   exact ⟨g1, hK.there _ _ g2, (hK.frozen _ _ (lt_of_there g2)).trans g3⟩
 · rw [hl] at hi
   by_cases hi1 : i < k
   · rw [World.cell?_setCells_out b ys (o + k) w _ (fun _ _ => .inl (by show o + i < o + k; omega)), h4 i hi]
     rw [List.getElem_append_left (by simp; omega), List.getElem_append_left (by simp; omega), List.getElem_take]
   · by_cases hi2 : i < k + ys.length
     · have := World.cell?_setCells_in b ys (o + k) w (fun j hj => by have := (h3 (k + j) (by omega)).2.1; rwa [← Nat.add_assoc] at this) (i - k) (by omega)
       rw [show o + k + (i - k) = o + i by omega] at this
       rw [this]
       simp only [List.getElem_append, List.length_append, List.length_take]
       simp only [show min k xs.length = k by omega, hi2, hi1, dif_pos, dif_neg, not_false_eq_true]
     · rw [World.cell?_setCells_out b ys (o + k) w _ (fun _ _ => .inr (by show o + k + ys.length ≤ o + i; omega)), h4 i hi]
       simp only [List.getElem_append, List.length_append, List.length_take, List.getElem_drop]
       simp only [show min k xs.length = k by omega, hi2, dif_neg, not_false_eq_true]
       congr 2
       omega
theorem wpList_append_row {P : Program} {w : World} {ops : Array Oper} {rest : List Oper} {o : Oper} {a : Act} {Q : Exit → Act → World → Prop}
   (hg : o.guard = none) (s x : Operand) (t : TypeId) (hop : o.op = Op.call { callee := Callee.builtin Builtin.append, args := #[s, x], argTypes := #[t, t] })
   (e : TypeId) (i : TypeInfo) (z : Value) (bytes : Nat) (h1 : P.underlying t = some (.slice e)) (h2 : P.info? e = some i) (h3 : i.zero = some z) (h4 : i.size = 1) (h5 : i.bytes = bytes) (h6 : z.cells.size = 1)
   (F : Cells) (v : Value) (xs : List Value) (hs : a.eval s = v) (hr : RowF w F v xs) (ab ac : Nat) (c : Nat) (y : Value) (hx : a.eval x = .slice (some ⟨ab, ac, none⟩) 1 c) (hc : w.cell? ⟨ab, ac, none⟩ = some y) (h1c : y.oneCell' = true)
   (b1 : xs.length + 1 ≤ maxLen) (b2 : (xs.length + 1) * bytes ≤ 140737488355328)
   (hK : ∀ (b1 o1 cap1 : Nat) (F1 : Cells) (w1 : World), xs.length + 1 ≤ cap1 → RowF w1 F1 (.slice (some ⟨b1, o1, none⟩) (xs.length + 1) cap1) (xs ++ [y]) → (∀ q r, F1 q r → F q r ∨ w.heap.size ≤ q) → KeptF F w w1 →
     wpList P ops Q rest (a.put o.dst (.slice (some ⟨b1, o1, none⟩) (xs.length + 1) cap1)) w1) : wpList P ops Q (o :: rest) a w := by
 have hadd : ∀ j u, ([y] : List Value)[j]? = some u → w.cell? ((⟨ab, ac, none⟩ : Addr).add j) = some u := fun j u hj => by
   rw [Addr.add_lit]
   cases j with
   | zero => simp at hj; subst hj; simpa using hc
   | succ j => simp at hj
 have hgrown : ∀ v' w', w'.ownsRow w.heap.size e 1 v' (xs.length + 1) (xs ++ [y]) → w.grownBy w' none → wpList P ops Q rest (a.put o.dst v') w' := fun v' w' hown hgr => by
   have hrow := RowF.of_owns hown
   have hlt := hown.lt
   obtain ⟨_, ⟨_, h9⟩ | ⟨g, cap, cur, rfl, hb, hgg, hn, hm, _⟩⟩ := hown
   · omega
   · exact hK g 0 cap _ w' hn hrow (fun q r hq => by right; have := hlt q hq; omega) (KeptF.of_below (B := w.heap.size) ⟨hgr.os, hgr.tape, hgr.output, hgr.size, fun k hk => hgr.block k hk (by simp)⟩ (Nat.le_refl _))
 have hr0 := hr
 obtain ⟨glt, ao, cap, rfl, g1, g2, g3, g4⟩ := hr
 by_cases hcap : cap = 0
 · subst hcap
   have hx0 : xs = [] := List.eq_nil_of_length_eq_zero (by omega)
   subst hx0
   exact wpList_append_grows w hg s x t hop e i z 1 bytes h1 h2 h3 h4 h5 h6 (by omega) ao 0 0 [] hs (fun h => ⟨rfl, rfl⟩) rfl (fun _ _ j u hj => by simp at hj) ⟨ab, ac, none⟩ 1 c [y] hx rfl hadd (by simpa using h1c) (by omega) (by simpa using b1) (by simpa using b2) hgrown
 · rcases g4 with g4 | ⟨b, off, rfl, g5, g6⟩
   · exact absurd g4 hcap
   · refine wpList_append_arg w hg s x t hop e i z 1 bytes h1 h2 h3 h4 h5 h6 (by omega) b off xs.length cap xs hs (by simp) (fun j u hj => ?_) ⟨ab, ac, none⟩ 1 c [y] hx rfl hadd (by simpa using h1c) (fun hroom j hj => ?_) b1 b2 (fun hroom => ?_) (fun hfull => ?_)
     · have hj2 : j < xs.length := by rcases Nat.lt_or_ge j xs.length with h | h; exact h; rw [List.getElem?_eq_none h] at hj; cases hj
       rw [g6 j hj2]; rw [List.getElem?_eq_getElem hj2] at hj; exact hj
     · simp at hj; subst hj
       have := g5 xs.length (by omega)
       simpa using this.2
     · rw [Nat.mul_one]
       have hKs := KeptF.setCells (F := F) b [y] (off + xs.length) w (fun j hj => by simp at hj; subst hj; exact (g5 xs.length (by omega)).1)
       refine hK b off cap F _ hroom ?_ (fun q r hq => .inl hq) hKs
       have hl : (xs ++ [y]).length = xs.length + 1 := by simp
       have := RowF.intro (w := w.setCells b (off + xs.length) [y]) (F := F) (b := b) (o := off) (cap := cap) (xs := xs ++ [y]) (fun x q h => Nat.lt_of_lt_of_le (glt x q h) hKs.size) (by omega) g2 (fun i hi => ?_) (fun i hi => ?_)
       · rwa [hl] at this
       · obtain ⟨q1, q2, q3⟩ := g5 i hi
         exact ⟨q1, hKs.there _ _ q2, (hKs.frozen _ _ (lt_of_there q2)).trans q3⟩
       · by_cases hi2 : i < xs.length
         · rw [World.cell?_setCells_out b [y] (off + xs.length) w _ (fun _ _ => .inl (by show off + i < off + xs.length; omega)), g6 i hi2]
           simp [hi2]
         · obtain rfl : i = xs.length := by simp at hi; omega
           have := World.cell?_setCells_in b [y] (off + xs.length) w (fun j hj => by simp at hj; subst hj; exact (g5 xs.length (by omega)).2.1) 0 (by simp)
           simpa using this
     · exact fun v' w' hown hgr => hgrown v' w' hown hgr
theorem step_copy_cells {P : Program} {ops : Array Oper} {o : Oper} {a : Act} {w : World} {K : Act → World → Prop} {Q : Exit → Act → World → Prop} {E : Prop} (hgd : o.guard = none) (d s : Operand) (dT sT : TypeId)
   (ho : o.op = .call { callee := .builtin .copy, args := #[d, s], argTypes := #[dT, sT] }) (elem : TypeId) (hu : P.underlying dT = some (.slice elem)) (hsz : (P.info? elem).map (·.size) = some 1)
   (dp sp : Option Addr) (dLen dCap sLen sCap : Nat) (hd : a.eval d = .slice dp dLen dCap) (hs : a.eval s = .slice sp sLen sCap)
   (b off : Nat) (cs : List Value) (hn : cs.length = Nat.min sLen dLen)
   (hpos : 0 < cs.length → dp = some ⟨b, off, none⟩ ∧ ∃ ad, sp = some ad ∧ ∀ j v, cs[j]? = some v → w.cell? (ad.add j) = some v)
   (hc : ∀ j, j < cs.length → (w.cell? ⟨b, off + j, none⟩).isSome = true) (hf : ∀ j, j < cs.length → w.frozen? ⟨b, off + j, none⟩ = false) (h1 : ∀ v ∈ cs, v.oneCell' = true)
   (h : ∀ w', Hid (w' = w.setCells b off cs) → K (a.put o.dst (goInt cs.length)) w') :
   if Region.wanted o (yielded ops a.tmps) = true then Oper.wp P o a w K Q else E := by
 have hw : Region.wanted o (yielded ops a.tmps) = true := by simp [Region.wanted, hgd]
 rw [if_pos hw]
 by_cases h0 : cs.length = 0
 · obtain rfl : cs = [] := List.eq_nil_of_length_eq_zero h0
   have hrun := run_copy_none (P := P) w dT sT o.type elem dp sp dLen dCap sLen sCap hu hsz (by simpa using hn.symm)
   unfold Oper.wp
   simp [execOp, ho, resolve, invoke, builtin, hd, hs, hrun, Result.andThen]
   exact h w rfl
 · obtain ⟨rfl, ad, rfl, hsrc⟩ := hpos (by omega)
   have hrun := run_copy_cells (P := P) w dT sT o.type elem b off dLen dCap ad sLen sCap cs hu hsz hn hsrc hc hf h1
   unfold Oper.wp
   simp [execOp, ho, resolve, invoke, builtin, hd, hs, hrun, Result.andThen]
   exact h _ rfl
end Go.Proofs.Ytananonjomfpkaa
