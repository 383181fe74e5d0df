/- append of ints at a step of a region that draws its order. -/
import Derived.Test.YtepkigcbjepbpaaProg
import Derived.Test.YtepkigcbjepbpaaDk0
import Derived.Test.YtepkigcbjepbpaaDk9
import Derived.Test.YtepkigcbjepbpaaDk22
import Derived.Test.YtepkigcbjepbpaaDk26
import Derived.Deep.AppendSrc
import Derived.Deep.Upon
import Derived.Deep.AppendLies

/- Slices of elements of any size whose cells are their own; appending to them. -/
namespace Go.Proofs.Ytepkigcbjepbpaa
open Go.RowKit

/-- A slice of n elements of sz cells each, the cells xs, all its cells in F up to the capacity. -/
def RowN (w : World) (F : Cells) (sz : Nat) (v : Value) (n : Nat) (xs : List Value) : Prop :=
  (∀ x q, F x q → x < w.heap.size) ∧ xs.length = n * sz ∧ ∃ (a : Option Addr) (cap : Nat), v = .slice a n cap ∧ n ≤ cap ∧ cap ≤ maxLen ∧ (a = none → cap = 0) ∧
    (cap = 0 ∨ ∃ b o, a = some ⟨b, o, none⟩ ∧ (∀ i, i < cap * sz → F b (o + i) ∧ (w.cell? ⟨b, o + i, none⟩).isSome = true ∧ w.frozen? ⟨b, o + i, none⟩ = false) ∧
      ∀ i (h : i < xs.length), w.cell? ⟨b, o + i, none⟩ = some xs[i])

theorem RowN.keep {w w' : World} {F G : Cells} {sz n : Nat} {v : Value} {xs : List Value} (h : RowN w F sz v n xs) (hk : KeptF G w w') (ha : Apart F G) : RowN w' F sz v n xs := by
  obtain ⟨hlt, hl, a, cap, hv, h1, h2, h3, h4⟩ := h
  refine ⟨fun x q h => Nat.lt_of_lt_of_le (hlt x q h) hk.size, hl, a, cap, hv, h1, h2, h3, ?_⟩
  rcases h4 with h4 | ⟨b, o, h5, h6, h7⟩
  · exact .inl h4
  · refine .inr ⟨b, o, h5, fun i hi => ?_, fun i hi => ?_⟩
    · obtain ⟨g1, g2, g3⟩ := h6 i hi
      exact ⟨g1, hk.there _ _ g2, (hk.frozen _ _ (lt_of_there g2)).trans g3⟩
    · have hm : n * sz ≤ cap * sz := Nat.mul_le_mul_right _ h1
      obtain ⟨g1, g2, g3⟩ := h6 i (by omega)
      rw [hk.cell _ _ (lt_of_there g2) (ha _ _ g1)]
      exact h7 i hi
theorem RowN.shown {w : World} {F : Cells} {sz n : Nat} {v : Value} {xs : List Value} (h : RowN w F sz v n xs) : ∃ a c, v = .slice a n c := by
  obtain ⟨_, _, a, cap, hv, _⟩ := h
  exact ⟨a, cap, hv⟩

theorem RowF.n {w : World} {F : Cells} {v : Value} {xs : List Value} (h : RowF w F v xs) : RowN w F 1 v xs.length xs := by
  obtain ⟨hlt, a, cap, hv, h1, h2, h3, h4⟩ := h
  exact ⟨hlt, by simp, a, cap, hv, h1, h2, h3, by simpa using h4⟩
theorem RowN.f {w : World} {F : Cells} {n : Nat} {v : Value} {xs : List Value} (h : RowN w F 1 v n xs) : RowF w F v xs := by
  obtain ⟨hlt, hl, a, cap, hv, h1, h2, h3, h4⟩ := h
  obtain rfl : xs.length = n := by omega
  exact ⟨hlt, a, cap, hv, h1, h2, h3, by simpa using h4⟩

theorem RowT.n {w : World} {F : Cells} {v : Value} {K : List (Value × Value)} (h : RowT w F v K) : RowN w F 2 v K.length (flatT K) := by
  obtain ⟨hlt, a, cap, hv, h1, h2, h3, h4⟩ := h
  refine ⟨hlt, flatT_length K, a, cap, hv, h1, h2, h3, ?_⟩
  rcases h4 with h4 | ⟨b, o, h5, h6, h7⟩
  · exact .inl h4
  · refine .inr ⟨b, o, h5, h6, fun i hi => ?_⟩
    rw [flatT_length] at hi
    have hg := flatT_get K (i / 2) (by omega)
    have hc := h7 (i / 2) (by omega)
    rcases Nat.mod_two_eq_zero_or_one i with e | e
    · have e2 : i / 2 * 2 = i := by omega
      rw [e2] at hg hc
      rw [hc.1, ← hg.1]
      exact List.getElem?_eq_getElem _
    · have e2 : i / 2 * 2 + 1 = i := by omega
      rw [Nat.add_assoc, e2] at hc
      rw [e2] at hg
      rw [hc.2, ← hg.2]
      exact List.getElem?_eq_getElem _
theorem RowN.t {w : World} {F : Cells} {n : Nat} {v : Value} {K : List (Value × Value)} (h : RowN w F 2 v n (flatT K)) : RowT w F v K := by
  obtain ⟨hlt, hl, a, cap, hv, h1, h2, h3, h4⟩ := h
  rw [flatT_length] at hl
  obtain rfl : K.length = n := by omega
  refine ⟨hlt, a, cap, hv, h1, h2, h3, ?_⟩
  rcases h4 with h4 | ⟨b, o, h5, h6, h7⟩
  · exact .inl h4
  · refine .inr ⟨b, o, h5, h6, fun i hi => ?_⟩
    have hg := flatT_get K i hi
    have c1 := h7 (i * 2) (by rw [flatT_length]; omega)
    have c2 := h7 (i * 2 + 1) (by rw [flatT_length]; omega)
    rw [← Nat.add_assoc] at c2
    rw [c1, c2, ← hg.1, ← hg.2]
    exact ⟨(List.getElem?_eq_getElem _).symm, (List.getElem?_eq_getElem _).symm⟩

theorem RowN.cells_of {w : World} {F : Cells} {sz b o n cap : Nat} {xs : List Value} (h : RowN w F sz (.slice (some ⟨b, o, none⟩) n cap) n xs) (hp : 0 < cap) :
    n ≤ cap ∧ cap ≤ maxLen ∧ (∀ i, i < cap * sz → F b (o + i) ∧ (w.cell? ⟨b, o + i, none⟩).isSome = true ∧ w.frozen? ⟨b, o + i, none⟩ = false) ∧ ∀ i (h : i < xs.length), w.cell? ⟨b, o + i, none⟩ = some xs[i] := by
  obtain ⟨_, hl, a, cap', hv, h1, h2, h3, h4⟩ := h
  simp only [Value.slice.injEq] at hv
  obtain ⟨rfl, -, rfl⟩ := hv
  rcases h4 with h4 | ⟨b', o', h5, h6, h7⟩
  · omega
  · simp only [Option.some.injEq, Addr.mk.injEq, and_true] at h5
    obtain ⟨rfl, rfl⟩ := h5
    exact ⟨h1, h2, h6, h7⟩

theorem RowN.intro {w : World} {F : Cells} {sz b o n cap : Nat} {xs : List Value} (h0 : ∀ x q, F x q → x < w.heap.size) (hl : xs.length = n * sz) (h1 : n ≤ cap) (h2 : cap ≤ maxLen)
    (h3 : ∀ i, i < cap * sz → F b (o + i) ∧ (w.cell? ⟨b, o + i, none⟩).isSome = true ∧ w.frozen? ⟨b, o + i, none⟩ = false) (h4 : ∀ i (h : i < xs.length), w.cell? ⟨b, o + i, none⟩ = some xs[i]) :
    RowN w F sz (.slice (some ⟨b, o, none⟩) n cap) n xs := ⟨h0, hl, _, cap, rfl, h1, h2, by simp, .inr ⟨b, o, rfl, h3, h4⟩⟩

/-- Where a row that has elements lies. -/
theorem RowN.addr {w : World} {F : Cells} {sz n : Nat} {v : Value} {xs : List Value} (h : RowN w F sz v n xs) (hn : 0 < n) : ∃ b o cap, v = .slice (some ⟨b, o, none⟩) n cap ∧ n ≤ cap ∧ cap ≤ maxLen := by
  obtain ⟨_, hl, a, cap, hv, h1, h2, h3, h4⟩ := h
  rcases h4 with h4 | ⟨b, o, h5, _⟩
  · omega
  · exact ⟨b, o, cap, by rw [hv, h5], h1, h2⟩

/-- A cell is written over. -/
theorem RowN.set {w : World} {F : Cells} {sz b o n cap : Nat} {xs : List Value} (h : RowN w F sz (.slice (some ⟨b, o, none⟩) n cap) n xs) (j : Nat) (hj : j < xs.length) (u : Value) :
    RowN (w.setCell ⟨b, o + j, none⟩ u) F sz (.slice (some ⟨b, o, none⟩) n cap) n (xs.set j u) ∧ KeptF F w (w.setCell ⟨b, o + j, none⟩ u) := by
  have hlt := h.1
  have hl := h.2.1
  have hp : 0 < cap := by
    obtain ⟨_, _, a, c, hv, h1, _⟩ := h
    simp only [Value.slice.injEq] at hv
    obtain ⟨-, -, rfl⟩ := hv
    rcases Nat.eq_zero_or_pos cap with h0 | h0
    · obtain rfl : n = 0 := by omega
      omega
    · exact h0
  obtain ⟨h1, h2, h3, h4⟩ := h.cells_of hp
  have hm : n * sz ≤ cap * sz := Nat.mul_le_mul_right _ h1
  have hK := KeptF.setCell (F := F) w b (o + j) u (h3 j (by omega)).1
  refine ⟨RowN.intro (fun x q h => Nat.lt_of_lt_of_le (hlt x q h) hK.size) (by simpa using hl) h1 h2 (fun i hi => ?_) (fun i hi => ?_), hK⟩
  · obtain ⟨g1, g2, g3⟩ := h3 i hi
    exact ⟨g1, hK.there _ _ g2, (hK.frozen _ _ (lt_of_there g2)).trans g3⟩
  · rw [List.length_set] at hi
    by_cases e : j = i
    · subst e
      obtain ⟨u', hu⟩ := Option.isSome_iff_exists.1 (h3 j (by omega)).2.1
      rw [World.cell?_setCell_same _ _ _ hu]
      simp
    · rw [World.cell?_setCell_other _ _ _ _ (fun e2 => by have h : o + j = o + i := congrArg Addr.off e2; omega), h4 i hi, List.getElem_set_ne e]

/-- Fewer at the end; fewer at the front. -/
theorem RowN.take {w : World} {F : Cells} {sz n cap : Nat} {a : Option Addr} {xs : List Value} (h : RowN w F sz (.slice a n cap) n xs) (m : Nat) (hm : m ≤ n) : RowN w F sz (.slice a m cap) m (xs.take (m * sz)) := by
  obtain ⟨hlt, hl, a', cap', hv, h1, h2, h3, h4⟩ := h
  simp only [Value.slice.injEq, true_and] at hv
  obtain ⟨rfl, rfl⟩ := hv
  have hms : m * sz ≤ n * sz := Nat.mul_le_mul_right _ hm
  refine ⟨hlt, by simp; omega, a, cap, rfl, by omega, h2, h3, ?_⟩
  rcases h4 with h4 | ⟨b, o, h5, h6, h7⟩
  · exact .inl h4
  · refine .inr ⟨b, o, h5, h6, fun i hi => ?_⟩
    rw [List.length_take] at hi
    rw [h7 i (by omega), List.getElem_take]
theorem RowN.drop {w : World} {F : Cells} {sz b o n cap : Nat} {xs : List Value} (h : RowN w F sz (.slice (some ⟨b, o, none⟩) n cap) n xs) (m : Nat) (hm : m < n) : RowN w F sz (.slice (some ⟨b, o + m * sz, none⟩) (n - m) (cap - m)) (n - m) (xs.drop (m * sz)) := by
  have hlt := h.1
  have hl := h.2.1
  have hp : 0 < cap := by
    obtain ⟨_, _, a, c, hv, h1, _⟩ := h
    simp only [Value.slice.injEq] at hv
    obtain ⟨-, -, rfl⟩ := hv
    omega
  obtain ⟨h1, h2, h3, h4⟩ := h.cells_of hp
  have e1 : (cap - m) * sz + m * sz = cap * sz := by rw [← Nat.add_mul]; congr 1; omega
  have e2 : (n - m) * sz + m * sz = n * sz := by rw [← Nat.add_mul]; congr 1; omega
  refine RowN.intro hlt (by simp; omega) (by omega) (by omega) (fun i hi => ?_) (fun i hi => ?_)
  · have := h3 (m * sz + i) (by omega)
    rwa [← Nat.add_assoc] at this
  · rw [List.length_drop] at hi
    have := h4 (m * sz + i) (by omega)
    rw [← Nat.add_assoc] at this
    rw [this, List.getElem_drop]

/-- Appending m elements, out of whatever source. -/
theorem RowN.append {P : Program} {w : World} {F : Cells} {sz n : Nat} {v : Value} {xs : List Value} (hr : RowN w F sz v n xs) (t ty e : TypeId) (i : TypeInfo) (z : Value) (bytes : Nat)
    (ht : P.underlying t = some (.slice e)) (hi : P.info? e = some i) (hz : i.zero = some z) (hsz : i.size = sz) (hby : i.bytes = bytes) (hzs : z.cells.size = sz)
    {x : Value} {m : Nat} {news : List Value} (hs : Src P sz t x m news w) (b1 : n + m ≤ maxLen) (b2 : (n + m) * bytes ≤ 140737488355328) :
    ∃ (a : Option Addr) (cap : Nat) (w1 : World) (F1 : Cells), (Builtin.append_ #[t, t] ty #[v, x]).run P w = .ok (.slice a (n + m) cap) w1 ∧ RowN w1 F1 sz (.slice a (n + m) cap) (n + m) (xs ++ news) ∧
      (∀ q r, F1 q r → F q r ∨ w.heap.size ≤ q) ∧ KeptF F w w1 := by
  subst hsz
  subst hby
  have hnl := hs.newsLen
  have hr0 := hr
  obtain ⟨hlt, hl, a, cap, rfl, h1, h2, h3, h4⟩ := hr
  have hl2 : (xs ++ news).length = (n + m) * i.size := by rw [List.length_append, hl, hnl, Nat.add_mul]
  by_cases hfit : n + m ≤ cap
  · rcases Nat.eq_zero_or_pos cap with h0 | hcap
    · subst h0
      obtain rfl : m = 0 := by omega
      obtain rfl : news = [] := List.eq_nil_of_length_eq_zero (by simpa using hnl)
      exact ⟨_, _, w, F, run_append_nothing (P := P) w t t ty e i ht hi a n 0 h1 x hs, by simpa using hr0, fun q r h => .inl h, KeptF.refl _ _⟩
    · rcases h4 with h4 | ⟨b, o, rfl, g5, g6⟩
      · omega
      have hms : (n + m) * i.size ≤ cap * i.size := Nat.mul_le_mul_right _ hfit
      have hms' := hms
      rw [Nat.add_mul] at hms
      have hg : ∀ j, j < news.length → F b (o + n * i.size + j) ∧ (w.cell? ⟨b, o + n * i.size + j, none⟩).isSome = true ∧ w.frozen? ⟨b, o + n * i.size + j, none⟩ = false := fun j hj => by
        have := g5 (n * i.size + j) (by omega)
        rwa [← Nat.add_assoc] at this
      have hrun := run_append_room_src (P := P) w t t ty e i ht hi b o n cap x m news hs hfit (fun j hj => (hg j hj).2.1) (fun j hj => (hg j hj).2.2)
      have hKs := KeptF.setCells (F := F) b news (o + n * i.size) w (fun j hj => (hg j hj).1)
      refine ⟨_, _, _, F, hrun, RowN.intro (fun x q h => Nat.lt_of_lt_of_le (hlt x q h) hKs.size) hl2 hfit h2 (fun j hj => ?_) (fun j hj => ?_), fun q r h => .inl h, hKs⟩
      · obtain ⟨q1, q2, q3⟩ := g5 j hj
        exact ⟨q1, hKs.there _ _ q2, (hKs.frozen _ _ (lt_of_there q2)).trans q3⟩
      · by_cases hj2 : j < xs.length
        · rw [World.cell?_setCells_out b news (o + n * i.size) w _ (fun _ _ => .inl (by show o + j < o + n * i.size; omega)), g6 j hj2, List.getElem_append_left hj2]
        · have hjl : j - xs.length < news.length := by rw [List.length_append] at hj; omega
          have := World.cell?_setCells_in b news (o + n * i.size) w (fun j hj => (hg j hj).2.1) (j - xs.length) hjl
          rw [show o + n * i.size + (j - xs.length) = o + j by omega] at this
          rw [this, List.getElem_append_right (by omega)]
  · have hold : (Builtin.firstCells i.size n (.slice a n cap)).run P w.drew = .ok xs.toArray w.drew := by
      rcases a with _ | p
      · have hc0 := h3 rfl
        obtain rfl : n = 0 := by omega
        obtain rfl : xs = [] := List.eq_nil_of_length_eq_zero (by simpa using hl)
        exact run_firstCells_none w.drew i.size 0 0 cap
      · refine run_firstCells_some w.drew i.size n p n cap xs hl (fun j u hj => ?_)
        have hj2 : j < xs.length := (List.getElem?_eq_some_iff.1 hj).1
        rcases h4 with h4 | ⟨b, o, h5, g5, g6⟩
        · obtain rfl : n = 0 := by omega
          omega
        · injection h5 with h5
          subst h5
          rw [Addr.add_lit]
          show w.cell? ⟨b, o + j, none⟩ = some u
          rw [g6 j hj2]
          rw [List.getElem?_eq_getElem hj2] at hj
          exact hj
    have hsmall : ((n + m : Nat) : Int) ≤ 9223372036854775807 := by simp only [maxLen] at b1; omega
    have hge := grownCap_ge w (n + m) cap e
    have hcm := grownCap_le_maxLen w (n + m) cap e b1
    have hrun := run_append_grow_src (P := P) w t t ty e i z ht hi hz a n cap xs hold x m news hs (by omega) hsmall (growslice_fits (by omega) b2)
    have hKa : KeptF F w (w.drew.alloc (.cells ((xs ++ news).toArray ++ Builtin.zeroCells z.cells (grownCap w (n + m) cap e - (n + m))) e)) := (KeptF.drew F w).trans ((KeptF.alloc _ _ _).mono (fun _ _ _ h => h))
    refine ⟨_, _, _, fun x _ => x = w.heap.size, hrun, RowN.intro (fun x q h => by subst h; simp) hl2 hge hcm (fun j hj => ⟨rfl, ?_, ?_⟩) (fun j hj => ?_), fun q r h => .inr (by subst h; exact Nat.le_refl _), hKa⟩
    · have e1 := World.cell?_alloc_new w.drew ((xs ++ news).toArray ++ Builtin.zeroCells z.cells (grownCap w (n + m) cap e - (n + m))) e j
      rw [Nat.zero_add]
      show (World.cell? _ ⟨w.drew.heap.size, j, none⟩).isSome = true
      rw [e1]
      have hsz : ((xs ++ news).toArray ++ Builtin.zeroCells z.cells (grownCap w (n + m) cap e - (n + m))).size = grownCap w (n + m) cap e * i.size := by
        rw [Array.size_append, List.size_toArray, hl2, size_zeroCells, hzs, ← Nat.add_mul]
        congr 1
        omega
      rw [Array.getElem?_eq_getElem (by rw [hsz]; exact hj)]
      rfl
    · rw [Nat.zero_add]
      exact World.frozen?_alloc_new w.drew _ _ j
    · have e1 := World.cell?_alloc_new w.drew ((xs ++ news).toArray ++ Builtin.zeroCells z.cells (grownCap w (n + m) cap e - (n + m))) e j
      rw [Nat.zero_add]
      show World.cell? _ ⟨w.drew.heap.size, j, none⟩ = _
      rw [e1, Array.getElem?_append_left (by simp only [List.size_toArray]; exact hj), List.getElem?_toArray]
      exact List.getElem?_eq_getElem _
end Go.Proofs.Ytepkigcbjepbpaa

/- append of ints at a step of a region that draws its order. -/
namespace Go.Proofs.Ytepkigcbjepbpaa
open Go.RowKit

theorem IntsAt.of_block {w : World} {m : Nat} {x : Int} {ty : TypeId} {fr : Nat × Nat} (h : w.heap[m]? = some (.cells #[.int .i64 x] ty fr)) : IntsAt w (.slice (some ⟨m, 0, none⟩) 1 1) [x] :=
  ⟨_, _, rfl, by simp, .inr ⟨_, 0, rfl, fun i hi => by
    obtain rfl : i = 0 := by simpa using hi
    rw [cell_of_row w m 0 _ ty fr h]; rfl⟩⟩

/-- 'append(out, more...)' at a step of a region that draws. -/
theorem step_append_ints {w : World} {ops : Array Oper} {o : Oper} {a : Act} {K : Act → World → Prop} {Q : Exit → Act → World → Prop} {E : Prop} (hgd : o.guard = none) (s x : Operand)
    (ho : o.op = .call { callee := .builtin .append, args := #[s, x], argTypes := #[22, 22] })
    (lo : Nat) (v y : Value) (xs ms : List Int) (hs : a.eval s = v) (hown : IntsOwn w lo v xs) (hx : a.eval x = y) (hsrc : IntsAt w y ms)
    (hlen : xs.length + ms.length ≤ 17592186044416) (hlo : lo ≤ w.heap.size)
    (h : ∀ v' w', IntsOwn w' lo v' (xs ++ ms) → Below lo w w' → w.grownBy w' v.ownBlock → (∃ a c, v' = .slice a (xs ++ ms).length c) → K (a.put o.dst v') w') :
    if Region.wanted o (yielded ops a.tmps) = true then Oper.wp Try.prog o a w K Q else E := by
  have hw : Region.wanted o (yielded ops a.tmps) = true := by simp [Region.wanted, hgd]
  rw [if_pos hw]
  obtain ⟨i0, hi, hz0, hz1, hz2⟩ := info_parts Try.appInfo
  obtain ⟨pa, cap, rfl, hnl, hat⟩ := hsrc
  rcases pa with _ | p
  · obtain rfl := hnl rfl
    obtain rfl : ms = [] := by
      rcases hat with h | ⟨b, o, h, _⟩
      · exact h
      · cases h
    have hk := h v w (by simpa using hown) (Below.refl _ _) (World.grownBy.refl _ _) (by simpa using IntsOwn.shown hown)
    have hrun := run_append_owned_none (P := Try.prog) (w := w) lo 22 o.type 3 i0 1 Try.underlying22 hi v _ _ hown
    unfold Oper.wp
    simp only [List.length_nil] at hx
    simp [execOp, ho, resolve, invoke, builtin, hs, hx, hrun, Result.andThen]
    exact hk
  · refine wp_append_own w s x 22 ho lo 3 i0 (.int .i64 0) 1 8 Try.underlying22 hi hz0 hz1 hz2 rfl (by decide) v _ _ hs hown p ms.length cap (ms.map (Value.int .i64)) hx (by simp) (fun j u hj => ?_) (ints_oneCell .i64 ms) (by unfold maxLen; omega) (by omega) hlo (fun v' w' hown' hgrow _ => ?_)
    · have hjl : j < ms.length := by
        have := (List.getElem?_eq_some_iff.1 hj).1
        simpa using this
      rcases hat with h | ⟨b, o, h, hc⟩
      · simp [h] at hjl
      · cases h
        have hu : u = .int .i64 (ms.getD j 0) := by
          rw [List.getElem?_map] at hj
          simp [hjl] at hj
          simp [← hj, hjl]
        rw [hu, Addr.add_lit]
        exact hc j hjl
    · have hown2 : IntsOwn w' lo v' (xs ++ ms) := by
        unfold IntsOwn
        rw [List.length_append, List.map_append]
        exact hown'
      exact h v' w' hown2 ((Below.refl lo w).grown hgrow hlo (fun k hk => (hown.lt k hk).1)) hgrow (IntsOwn.shown hown2)

/-- The empty row, and the row of one, in whatever order they are laid. -/
theorem made1 (w : World) : IntsOwn (w.alloc (.cells #[] 3)).drew w.heap.size (.slice (some ⟨w.heap.size, 0, none⟩) 0 0) [] := World.ownsRow_made w #[] 0 (Nat.le_refl _) (by unfold maxLen; omega) rfl
theorem made2 (w : World) (o : Obj) : IntsOwn ((w.alloc (.cells #[] 3)).alloc o).drew w.heap.size (.slice (some ⟨w.heap.size, 0, none⟩) 0 0) [] := IntsOwn.alloc' (made1 w) o
theorem made3 (w : World) (o : Obj) : IntsOwn ((w.alloc o).alloc (.cells #[] 3)).drew w.heap.size (.slice (some ⟨w.heap.size + 1, 0, none⟩) 0 0) [] := by
  have h := made1 (w.alloc o)
  rw [show (w.alloc o).heap.size = w.heap.size + 1 by simp] at h
  exact IntsOwn.lower h (by omega)
theorem key1 {w w' : World} {o : Obj} {x : Int} {r : Option Nat} (hg : ((w.alloc o).alloc (.cells #[.int .i64 x] 3)).drew.grownBy w' r) (hr : some (w.heap.size + 1) ≠ r) : IntsAt w' (.slice (some ⟨w.heap.size + 1, 0, none⟩) 1 1) [x] := by
  refine IntsAt.of_block (ty := 3) (fr := (0, 0)) ((hg.block (w.heap.size + 1) (by simp) hr).trans ?_)
  show ((w.alloc o).alloc (.cells #[.int .i64 x] 3)).heap[w.heap.size + 1]? = _
  rw [show w.heap.size + 1 = (w.alloc o).heap.size by simp, new_blk]
theorem key2 {w w' : World} {o : Obj} {x : Int} {r : Option Nat} (hg : ((w.alloc (.cells #[.int .i64 x] 3)).alloc o).drew.grownBy w' r) (hr : some w.heap.size ≠ r) : IntsAt w' (.slice (some ⟨w.heap.size, 0, none⟩) 1 1) [x] := by
  refine IntsAt.of_block (ty := 3) (fr := (0, 0)) ((hg.block w.heap.size (by simp; omega) hr).trans ?_)
  show ((w.alloc (.cells #[.int .i64 x] 3)).alloc o).heap[w.heap.size]? = _
  rw [old_blk _ _ _ (by simp), new_blk]
end Go.Proofs.Ytepkigcbjepbpaa
