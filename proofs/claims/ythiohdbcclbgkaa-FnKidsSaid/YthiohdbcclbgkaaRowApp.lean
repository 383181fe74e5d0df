/- Appending one element to a slice whose cells are its own; copying within it. -/
import Derived.Test.YthiohdbcclbgkaaProg
import Derived.Test.YthiohdbcclbgkaaBase
import Derived.Test.YthiohdbcclbgkaaNd
import Derived.ArgAppend
import Derived.Laws.IdiomCopy
import Derived.Deep.RegionLaw
namespace Go.Proofs.Ythiohdbcclbgkaa
open Go.RowKit

theorem RowF.cells_of {w : World} {F : Cells} {b o n cap : Nat} {xs : List Value} (h : RowF w F (.slice (some ⟨b, o, none⟩) n cap) xs) (hp : 0 < cap) :
    n = xs.length ∧ xs.length ≤ cap ∧ cap ≤ maxLen ∧ (∀ i, i < cap → F b (o + i) ∧ (w.cell? ⟨b, o + i, none⟩).isSome = true ∧ w.frozen? ⟨b, o + i, none⟩ = false) ∧ ∀ i (h : i < xs.length), w.cell? ⟨b, o + i, none⟩ = some xs[i] := by
  obtain ⟨_, a, cap', hv, h1, h2, h3, h4⟩ := h
  simp only [Value.slice.injEq] at hv
  obtain ⟨rfl, rfl, rfl⟩ := hv
  rcases h4 with h4 | ⟨b', o', h5, h6, h7⟩
  · omega
  · simp only [Option.some.injEq, Addr.mk.injEq, and_true] at h5
    obtain ⟨rfl, rfl⟩ := h5
    exact ⟨rfl, h1, h2, h6, h7⟩

theorem RowF.intro {w : World} {F : Cells} {b o cap : Nat} {xs : List Value} (h0 : ∀ x q, F x q → x < w.heap.size) (h1 : xs.length ≤ cap) (h2 : cap ≤ maxLen)
    (h3 : ∀ i, i < cap → F b (o + i) ∧ (w.cell? ⟨b, o + i, none⟩).isSome = true ∧ w.frozen? ⟨b, o + i, none⟩ = false) (h4 : ∀ i (h : i < xs.length), w.cell? ⟨b, o + i, none⟩ = some xs[i]) :
    RowF w F (.slice (some ⟨b, o, none⟩) xs.length cap) xs := ⟨h0, _, cap, rfl, h1, h2, by simp, .inr ⟨b, o, rfl, h3, h4⟩⟩

/-- Cells of a row are written over. -/
theorem RowF.splice {w : World} {F : Cells} {b o n cap : Nat} {xs : List Value} (h : RowF w F (.slice (some ⟨b, o, none⟩) n cap) xs) (hp : 0 < cap) (k : Nat) (ys : List Value) (hk : k + ys.length ≤ xs.length) :
    RowF (w.setCells b (o + k) ys) F (.slice (some ⟨b, o, none⟩) n cap) (xs.take k ++ ys ++ xs.drop (k + ys.length)) := by
  have hlt := h.1
  obtain ⟨rfl, h1, h2, h3, h4⟩ := h.cells_of hp
  have hl : (xs.take k ++ ys ++ xs.drop (k + ys.length)).length = xs.length := by simp; omega
  have hK := KeptF.setCells (F := F) b ys (o + k) w (fun j hj => by have := (h3 (k + j) (by omega)).1; rwa [← Nat.add_assoc] at this)
  have := RowF.intro (w := w.setCells b (o + k) ys) (F := F) (b := b) (o := o) (cap := cap) (xs := xs.take k ++ ys ++ xs.drop (k + ys.length)) (fun x q h => Nat.lt_of_lt_of_le (hlt x q h) hK.size) (by omega) h2 (fun i hi => ?_) (fun i hi => ?_)
  · rwa [hl] at this
  · obtain ⟨g1, g2, g3⟩ := h3 i hi
    exact ⟨g1, hK.there _ _ g2, (hK.frozen _ _ (lt_of_there g2)).trans g3⟩
  · rw [hl] at hi
    by_cases hi1 : i < k
    · rw [World.cell?_setCells_out b ys (o + k) w _ (fun _ _ => .inl (by show o + i < o + k; omega)), h4 i hi]
      rw [List.getElem_append_left (by simp; omega), List.getElem_append_left (by simp; omega), List.getElem_take]
    · by_cases hi2 : i < k + ys.length
      · have := World.cell?_setCells_in b ys (o + k) w (fun j hj => by have := (h3 (k + j) (by omega)).2.1; rwa [← Nat.add_assoc] at this) (i - k) (by omega)
        rw [show o + k + (i - k) = o + i by omega] at this
        rw [this]
        simp only [List.getElem_append, List.length_append, List.length_take]
        simp only [show min k xs.length = k by omega, hi2, hi1, dif_pos, dif_neg, not_false_eq_true]
      · rw [World.cell?_setCells_out b ys (o + k) w _ (fun _ _ => .inr (by show o + k + ys.length ≤ o + i; omega)), h4 i hi]
        simp only [List.getElem_append, List.length_append, List.length_take, List.getElem_drop]
        simp only [show min k xs.length = k by omega, hi2, dif_neg, not_false_eq_true]
        congr 2
        omega

theorem wpList_append_row {P : Program} {w : World} {ops : Array Oper} {rest : List Oper} {o : Oper} {a : Act} {Q : Exit → Act → World → Prop}
    (hg : o.guard = none) (s x : Operand) (t : TypeId) (hop : o.op = Op.call { callee := Callee.builtin Builtin.append, args := #[s, x], argTypes := #[t, t] })
    (e : TypeId) (i : TypeInfo) (z : Value) (bytes : Nat) (h1 : P.underlying t = some (.slice e)) (h2 : P.info? e = some i) (h3 : i.zero = some z) (h4 : i.size = 1) (h5 : i.bytes = bytes) (h6 : z.cells.size = 1)
    (F : Cells) (v : Value) (xs : List Value) (hs : a.eval s = v) (hr : RowF w F v xs) (ab ac : Nat) (c : Nat) (y : Value) (hx : a.eval x = .slice (some ⟨ab, ac, none⟩) 1 c) (hc : w.cell? ⟨ab, ac, none⟩ = some y) (h1c : y.oneCell' = true)
    (b1 : xs.length + 1 ≤ maxLen) (b2 : (xs.length + 1) * bytes ≤ 140737488355328)
    (hK : ∀ (b1 o1 cap1 : Nat) (F1 : Cells) (w1 : World), xs.length + 1 ≤ cap1 → RowF w1 F1 (.slice (some ⟨b1, o1, none⟩) (xs.length + 1) cap1) (xs ++ [y]) → (∀ q r, F1 q r → F q r ∨ w.heap.size ≤ q) → KeptF F w w1 →
      wpList P ops Q rest (a.put o.dst (.slice (some ⟨b1, o1, none⟩) (xs.length + 1) cap1)) w1) : wpList P ops Q (o :: rest) a w := by
  have hadd : ∀ j u, ([y] : List Value)[j]? = some u → w.cell? ((⟨ab, ac, none⟩ : Addr).add j) = some u := fun j u hj => by
    rw [Addr.add_lit]
    cases j with
    | zero => simp at hj; subst hj; simpa using hc
    | succ j => simp at hj
  have hgrown : ∀ v' w', w'.ownsRow w.heap.size e 1 v' (xs.length + 1) (xs ++ [y]) → w.grownBy w' none → wpList P ops Q rest (a.put o.dst v') w' := fun v' w' hown hgr => by
    have hrow := RowF.of_owns hown
    have hlt := hown.lt
    obtain ⟨_, ⟨_, h9⟩ | ⟨g, cap, cur, rfl, hb, hgg, hn, hm, _⟩⟩ := hown
    · omega
    · exact hK g 0 cap _ w' hn hrow (fun q r hq => by right; have := hlt q hq; omega) (KeptF.of_below (B := w.heap.size) ⟨hgr.os, hgr.tape, hgr.output, hgr.size, fun k hk => hgr.block k hk (by simp)⟩ (Nat.le_refl _))
  have hr0 := hr
  obtain ⟨glt, ao, cap, rfl, g1, g2, g3, g4⟩ := hr
  by_cases hcap : cap = 0
  · subst hcap
    have hx0 : xs = [] := List.eq_nil_of_length_eq_zero (by omega)
    subst hx0
    exact wpList_append_grows w hg s x t hop e i z 1 bytes h1 h2 h3 h4 h5 h6 (by omega) ao 0 0 [] hs (fun h => ⟨rfl, rfl⟩) rfl (fun _ _ j u hj => by simp at hj) ⟨ab, ac, none⟩ 1 c [y] hx rfl hadd (by simpa using h1c) (by omega) (by simpa using b1) (by simpa using b2) hgrown
  · rcases g4 with g4 | ⟨b, off, rfl, g5, g6⟩
    · exact absurd g4 hcap
    · refine wpList_append_arg w hg s x t hop e i z 1 bytes h1 h2 h3 h4 h5 h6 (by omega) b off xs.length cap xs hs (by simp) (fun j u hj => ?_) ⟨ab, ac, none⟩ 1 c [y] hx rfl hadd (by simpa using h1c) (fun hroom j hj => ?_) b1 b2 (fun hroom => ?_) (fun hfull => ?_)
      · have hj2 : j < xs.length := by rcases Nat.lt_or_ge j xs.length with h | h; exact h; rw [List.getElem?_eq_none h] at hj; cases hj
        rw [g6 j hj2]; rw [List.getElem?_eq_getElem hj2] at hj; exact hj
      · simp at hj; subst hj
        have := g5 xs.length (by omega)
        simpa using this.2
      · rw [Nat.mul_one]
        have hKs := KeptF.setCells (F := F) b [y] (off + xs.length) w (fun j hj => by simp at hj; subst hj; exact (g5 xs.length (by omega)).1)
        refine hK b off cap F _ hroom ?_ (fun q r hq => .inl hq) hKs
        have hl : (xs ++ [y]).length = xs.length + 1 := by simp
        have := RowF.intro (w := w.setCells b (off + xs.length) [y]) (F := F) (b := b) (o := off) (cap := cap) (xs := xs ++ [y]) (fun x q h => Nat.lt_of_lt_of_le (glt x q h) hKs.size) (by omega) g2 (fun i hi => ?_) (fun i hi => ?_)
        · rwa [hl] at this
        · obtain ⟨q1, q2, q3⟩ := g5 i hi
          exact ⟨q1, hKs.there _ _ q2, (hKs.frozen _ _ (lt_of_there q2)).trans q3⟩
        · by_cases hi2 : i < xs.length
          · rw [World.cell?_setCells_out b [y] (off + xs.length) w _ (fun _ _ => .inl (by show off + i < off + xs.length; omega)), g6 i hi2]
            simp [hi2]
          · obtain rfl : i = xs.length := by simp at hi; omega
            have := World.cell?_setCells_in b [y] (off + xs.length) w (fun j hj => by simp at hj; subst hj; exact (g5 xs.length (by omega)).2.1) 0 (by simp)
            simpa using this
      · exact fun v' w' hown hgr => hgrown v' w' hown hgr

/-- 'copy' as one step of a region that draws its order: in terms of cells alone. -/
theorem step_copy_cells {P : Program} {ops : Array Oper} {o : Oper} {a : Act} {w : World} {K : Act → World → Prop} {Q : Exit → Act → World → Prop} {E : Prop} (hgd : o.guard = none) (d s : Operand) (dT sT : TypeId)
    (ho : o.op = .call { callee := .builtin .copy, args := #[d, s], argTypes := #[dT, sT] }) (elem : TypeId) (hu : P.underlying dT = some (.slice elem)) (hsz : (P.info? elem).map (·.size) = some 1)
    (dp sp : Option Addr) (dLen dCap sLen sCap : Nat) (hd : a.eval d = .slice dp dLen dCap) (hs : a.eval s = .slice sp sLen sCap)
    (b off : Nat) (cs : List Value) (hn : cs.length = Nat.min sLen dLen)
    (hpos : 0 < cs.length → dp = some ⟨b, off, none⟩ ∧ ∃ ad, sp = some ad ∧ ∀ j v, cs[j]? = some v → w.cell? (ad.add j) = some v)
    (hc : ∀ j, j < cs.length → (w.cell? ⟨b, off + j, none⟩).isSome = true) (hf : ∀ j, j < cs.length → w.frozen? ⟨b, off + j, none⟩ = false) (h1 : ∀ v ∈ cs, v.oneCell' = true)
    (h : ∀ w', Hid (w' = w.setCells b off cs) → K (a.put o.dst (goInt cs.length)) w') :
    if Region.wanted o (yielded ops a.tmps) = true then Oper.wp P o a w K Q else E := by
  have hw : Region.wanted o (yielded ops a.tmps) = true := by simp [Region.wanted, hgd]
  rw [if_pos hw]
  by_cases h0 : cs.length = 0
  · obtain rfl : cs = [] := List.eq_nil_of_length_eq_zero h0
    have hrun := run_copy_none (P := P) w dT sT o.type elem dp sp dLen dCap sLen sCap hu hsz (by simpa using hn.symm)
    unfold Oper.wp
    simp [execOp, ho, resolve, invoke, builtin, hd, hs, hrun, Result.andThen]
    exact h w rfl
  · obtain ⟨rfl, ad, rfl, hsrc⟩ := hpos (by omega)
    have hrun := run_copy_cells (P := P) w dT sT o.type elem b off dLen dCap ad sLen sCap cs hu hsz hn hsrc hc hf h1
    unfold Oper.wp
    simp [execOp, ho, resolve, invoke, builtin, hd, hs, hrun, Result.andThen]
    exact h _ rfl
end Go.Proofs.Ythiohdbcclbgkaa
