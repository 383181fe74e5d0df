/- Cells that lie apart: rows that have grown, kids that come and go. -/
import Derived.Test.YtepkigcbjepbpaaProg
import Derived.Test.YtepkigcbjepbpaaDk0
import Derived.Test.YtepkigcbjepbpaaDk9
import Derived.ArgAppend
import Derived.Deep.RegionLawGrows
import Derived.Test.YtepkigcbjepbpaaDk13
import Derived.Test.YtepkigcbjepbpaaHalves
import Derived.Test.YtepkigcbjepbpaaSplitKid
import Derived.Test.YtepkigcbjepbpaaDk15
import Derived.Test.YtepkigcbjepbpaaJoinKids

/- Appending one element to a slice whose cells are its own, at a step of a region that draws its order. -/
namespace Go.Proofs.Ytepkigcbjepbpaa
open Go.RowKit

theorem step_append_row {P : Program} {w : World} {ops : Array Oper} {o : Oper} {a : Act} {K : Act → World → Prop} {Q : Exit → Act → World → Prop} {E : Prop}
    (hg : o.guard = none) (s x : Operand) (t : TypeId) (hop : o.op = Op.call { callee := Callee.builtin Builtin.append, args := #[s, x], argTypes := #[t, t] })
    (e : TypeId) (i : TypeInfo) (z : Value) (bytes : Nat) (h1 : P.underlying t = some (.slice e)) (h2 : P.info? e = some i) (h3 : i.zero = some z) (h4 : i.size = 1) (h5 : i.bytes = bytes) (h6 : z.cells.size = 1)
    (F : Cells) (v : Value) (xs : List Value) (hs : a.eval s = v) (hr : RowF w F v xs) (ab ac : Nat) (c : Nat) (y : Value) (hx : a.eval x = .slice (some ⟨ab, ac, none⟩) 1 c) (hc : w.cell? ⟨ab, ac, none⟩ = some y) (h1c : y.oneCell' = true)
    (b1 : xs.length + 1 ≤ maxLen) (b2 : (xs.length + 1) * bytes ≤ 140737488355328)
    (hK : ∀ (b1 o1 cap1 : Nat) (F1 : Cells) (w1 : World), xs.length + 1 ≤ cap1 → RowF w1 F1 (.slice (some ⟨b1, o1, none⟩) (xs.length + 1) cap1) (xs ++ [y]) → (∀ q r, F1 q r → F q r ∨ w.heap.size ≤ q) → KeptF F w w1 →
      K (a.put o.dst (.slice (some ⟨b1, o1, none⟩) (xs.length + 1) cap1)) w1) :
    if Region.wanted o (yielded ops a.tmps) = true then Oper.wp P o a w K Q else E := by
  have hadd : ∀ j u, ([y] : List Value)[j]? = some u → w.cell? ((⟨ab, ac, none⟩ : Addr).add j) = some u := fun j u hj => by
    rw [Addr.add_lit]
    cases j with
    | zero => simp at hj; subst hj; simpa using hc
    | succ j => simp at hj
  have hgrown : ∀ v' w', w'.ownsRow w.heap.size e 1 v' (xs.length + 1) (xs ++ [y]) → w.grownBy w' none → K (a.put o.dst v') w' := fun v' w' hown hgr => by
    have hrow := RowF.of_owns hown
    have hlt := hown.lt
    obtain ⟨_, ⟨_, h9⟩ | ⟨g, cap, cur, rfl, hb, hgg, hn, hm, _⟩⟩ := hown
    · omega
    · exact hK g 0 cap _ w' hn hrow (fun q r hq => by right; have := hlt q hq; omega) (KeptF.of_below (B := w.heap.size) ⟨hgr.os, hgr.tape, hgr.output, hgr.size, fun k hk => hgr.block k hk (by simp)⟩ (Nat.le_refl _))
  have hr0 := hr
  obtain ⟨glt, ao, cap, rfl, g1, g2, g3, g4⟩ := hr
  by_cases hcap : cap = 0
  · subst hcap
    have hx0 : xs = [] := List.eq_nil_of_length_eq_zero (by omega)
    subst hx0
    exact step_append_grows hg s x t hop e i z 1 bytes h1 h2 h3 h4 h5 h6 (by omega) ao 0 0 [] hs (fun h => ⟨rfl, rfl⟩) rfl (fun _ _ j u hj => by simp at hj) ⟨ab, ac, none⟩ 1 c [y] hx rfl hadd (by simpa using h1c) (by omega) (by simpa using b1) (by simpa using b2) hgrown
  have hw : Region.wanted o (yielded ops a.tmps) = true := by simp [Region.wanted, hg]
  rw [if_pos hw]
  rcases g4 with g4 | ⟨b, off, rfl, g5, g6⟩
  · exact absurd g4 hcap
  have holds : ∀ j u, xs[j]? = some u → w.cell? ⟨b, off + j, none⟩ = some u := fun j u hj => by
    have hj2 : j < xs.length := by rcases Nat.lt_or_ge j xs.length with h | h; exact h; rw [List.getElem?_eq_none h] at hj; cases hj
    rw [g6 j hj2]; rw [List.getElem?_eq_getElem hj2] at hj; exact hj
  by_cases hroom : xs.length + 1 ≤ cap
  · have hsp : ∀ j, j < [y].length → (w.cell? ⟨b, off + xs.length * i.size + j, none⟩).isSome = true ∧ w.frozen? ⟨b, off + xs.length * i.size + j, none⟩ = false := fun j hj => by
      simp at hj; subst hj
      have := g5 xs.length (by omega)
      rw [h4]
      simpa using this.2
    have hrun := run_append_room_cells (P := P) w t o.type e i h1 h2 b off xs.length cap ⟨ab, ac, none⟩ 1 c [y] (by simp [h4]) hadd (by simpa using h1c) hroom (fun j hj => (hsp j hj).1) (fun j hj => (hsp j hj).2)
    unfold Oper.wp
    simp [execOp, hop, resolve, invoke, builtin, hs, hx, hrun, Result.andThen]
    rw [h4, Nat.mul_one]
    have hKs := KeptF.setCells (F := F) b [y] (off + xs.length) w (fun j hj => by simp at hj; subst hj; exact (g5 xs.length (by omega)).1)
    refine hK b off cap F _ hroom ?_ (fun q r hq => .inl hq) hKs
    have hl : (xs ++ [y]).length = xs.length + 1 := by simp
    have := RowF.intro (w := w.setCells b (off + xs.length) [y]) (F := F) (b := b) (o := off) (cap := cap) (xs := xs ++ [y]) (fun x q h => Nat.lt_of_lt_of_le (glt x q h) hKs.size) (by omega) g2 (fun i hi => ?_) (fun i hi => ?_)
    · rwa [hl] at this
    · obtain ⟨q1, q2, q3⟩ := g5 i hi
      exact ⟨q1, hKs.there _ _ q2, (hKs.frozen _ _ (lt_of_there q2)).trans q3⟩
    · by_cases hi2 : i < xs.length
      · rw [World.cell?_setCells_out b [y] (off + xs.length) w _ (fun _ _ => .inl (by show off + i < off + xs.length; omega)), g6 i hi2]
        simp [hi2]
      · obtain rfl : i = xs.length := by simp at hi; omega
        have := World.cell?_setCells_in b [y] (off + xs.length) w (fun j hj => by simp at hj; subst hj; exact (g5 xs.length (by omega)).2.1) 0 (by simp)
        simpa using this
  · obtain ⟨v', w', hrun, r1, r2⟩ := run_append_arg_grows (P := P) w t o.type e i z 1 bytes h1 h2 h3 h4 h5 h6 (by omega) ⟨b, off, none⟩ xs.length cap xs (by simp) (fun j u hj => by rw [Addr.add_lit]; exact holds j u hj) ⟨ab, ac, none⟩ 1 c [y] (by simp) hadd (by omega) b1 b2
    unfold Oper.wp
    simp [execOp, hop, resolve, invoke, builtin, hs, hx, hrun, Result.andThen]
    exact hgrown v' w' r1 r2
end Go.Proofs.Ytepkigcbjepbpaa

/- Cells that lie apart: rows that have grown, kids that come and go. -/
namespace Go.Proofs.Ytepkigcbjepbpaa
open Go.RowKit

theorem sep_rows {n0 n1 b : Nat} {Fk Fc F1 F2 : Cells} {kids : List KidD} (hs : Sep b Fk Fc kids) (hb : b < n0) (lk : ∀ q r, Fk q r → q < n0) (lc : ∀ q r, Fc q r → q < n0) (ly : ∀ z, z ∈ kids → ∀ q r, z.F q r → q < n0)
    (hn : n0 ≤ n1) (h1 : ∀ q r, F1 q r → Fk q r ∨ n0 ≤ q) (l1 : ∀ q r, F1 q r → q < n1) (h2 : ∀ q r, F2 q r → Fc q r ∨ n1 ≤ q) : Sep b F1 F2 kids := by
  refine ⟨fun q r a e => ?_, fun q r a e => ?_, hs.bs, fun q r a e => ?_, fun z hz q r a e => ?_, fun z hz q r a e => ?_, hs.ss⟩
  · rcases h1 q r e with e | e
    · exact hs.bk q r a e
    · have : q = b := a; omega
  · rcases h2 q r e with e | e
    · exact hs.bc q r a e
    · have : q = b := a; omega
  · have la := l1 q r a
    rcases h2 q r e with e | e
    · rcases h1 q r a with a | a
      · exact hs.kc q r a e
      · have := lc q r e; omega
    · omega
  · have := ly z hz q r e
    rcases h1 q r a with a | a
    · exact hs.ks z hz q r a e
    · omega
  · have := ly z hz q r e
    rcases h2 q r a with a | a
    · exact hs.cs z hz q r a e
    · omega
theorem sep_snoc {b : Nat} {Fk Fc : Cells} {kids : List KidD} (hs : Sep b Fk Fc kids) (z : KidD) (h1 : Apart (boxOf b) z.F) (h2 : Apart Fk z.F) (h3 : Apart Fc z.F) (h4 : ∀ y, y ∈ kids → Apart y.F z.F) : Sep b Fk Fc (kids ++ [z]) := by
  have cases' : ∀ {P : KidD → Prop}, (∀ y, y ∈ kids → P y) → P z → ∀ y, y ∈ kids ++ [z] → P y := fun g1 g2 y hy => by
    rcases List.mem_append.1 hy with hy | hy
    · exact g1 y hy
    · simp at hy; subst hy; exact g2
  refine ⟨hs.bk, hs.bc, cases' hs.bs h1, hs.kc, cases' hs.ks h2, cases' hs.cs h3, ?_⟩
  rw [List.pairwise_append]
  exact ⟨hs.ss, List.pairwise_singleton _ _, fun y hy u hu => by simp at hu; subst hu; exact h4 y hy⟩
theorem sep_cons {b : Nat} {Fk Fc : Cells} {kids : List KidD} (hs : Sep b Fk Fc kids) (z : KidD) (h1 : Apart (boxOf b) z.F) (h2 : Apart Fk z.F) (h3 : Apart Fc z.F) (h4 : ∀ y, y ∈ kids → Apart z.F y.F) : Sep b Fk Fc (z :: kids) := by
  have cases' : ∀ {P : KidD → Prop}, (∀ y, y ∈ kids → P y) → P z → ∀ y, y ∈ z :: kids → P y := fun g1 g2 y hy => by
    rcases List.mem_cons.1 hy with rfl | hy
    · exact g2
    · exact g1 y hy
  exact ⟨hs.bk, hs.bc, cases' hs.bs h1, hs.kc, cases' hs.ks h2, cases' hs.cs h3, List.pairwise_cons.2 ⟨h4, hs.ss⟩⟩
/-- Fewer kids. -/
theorem sep_sub {b : Nat} {Fk Fc : Cells} {kids kids' : List KidD} (hs : Sep b Fk Fc kids) (h : kids'.Sublist kids) : Sep b Fk Fc kids' :=
  ⟨hs.bk, hs.bc, fun y hy => hs.bs y (h.subset hy), hs.kc, fun y hy => hs.ks y (h.subset hy), fun y hy => hs.cs y (h.subset hy), hs.ss.sublist h⟩

/-- Kids two of which have become two others. -/
theorem two_sep {n0 b : Nat} {Fk Fc FX FY : Cells} {pre post : List KidD} {x y : KidD} {px py : Nat} {tx ty : Tr} (hs : Sep b Fk Fc (pre ++ x :: y :: post))
    (hb : b < n0) (lk : ∀ q r, Fk q r → q < n0) (lc : ∀ q r, Fc q r → q < n0) (ly : ∀ z, z ∈ pre ++ x :: y :: post → ∀ q r, z.F q r → q < n0)
    (hX : ∀ q r, FX q r → x.F q r ∨ y.F q r ∨ n0 ≤ q) (hY : ∀ q r, FY q r → x.F q r ∨ y.F q r ∨ n0 ≤ q) (hXY : Apart FX FY) : Sep b Fk Fc (pre ++ ⟨px, FX, tx⟩ :: ⟨py, FY, ty⟩ :: post) := by
  have mx : x ∈ pre ++ x :: y :: post := by simp
  have my : y ∈ pre ++ x :: y :: post := by simp
  have mp : ∀ {z}, z ∈ pre → z ∈ pre ++ x :: y :: post := fun h => by simp [h]
  have mq : ∀ {z}, z ∈ post → z ∈ pre ++ x :: y :: post := fun h => by simp [h]
  have cases' : ∀ {P : KidD → Prop}, (∀ z, z ∈ pre ++ x :: y :: post → P z) → P ⟨px, FX, tx⟩ → P ⟨py, FY, ty⟩ → ∀ z, z ∈ pre ++ ⟨px, FX, tx⟩ :: ⟨py, FY, ty⟩ :: post → P z := fun g1 g2 g3 z hz => by
    simp only [List.mem_append, List.mem_cons] at hz
    rcases hz with hz | rfl | rfl | hz
    · exact g1 z (mp hz)
    · exact g2
    · exact g3
    · exact g1 z (mq hz)
  have bs' : ∀ {G : Cells}, (∀ q r, G q r → x.F q r ∨ y.F q r ∨ n0 ≤ q) → Apart (boxOf b) G := fun hG q r h g => by
    rcases hG _ _ g with g | g | g
    · exact hs.bs x mx _ _ h g
    · exact hs.bs y my _ _ h g
    · have : q = b := h; omega
  have ks' : ∀ {G : Cells}, (∀ q r, G q r → x.F q r ∨ y.F q r ∨ n0 ≤ q) → Apart Fk G := fun hG q r h g => by
    rcases hG _ _ g with g | g | g
    · exact hs.ks x mx _ _ h g
    · exact hs.ks y my _ _ h g
    · have := lk _ _ h; omega
  have cs' : ∀ {G : Cells}, (∀ q r, G q r → x.F q r ∨ y.F q r ∨ n0 ≤ q) → Apart Fc G := fun hG q r h g => by
    rcases hG _ _ g with g | g | g
    · exact hs.cs x mx _ _ h g
    · exact hs.cs y my _ _ h g
    · have := lc _ _ h; omega
  refine ⟨hs.bk, hs.bc, cases' hs.bs (bs' hX) (bs' hY), hs.kc, cases' hs.ks (ks' hX) (ks' hY), cases' hs.cs (cs' hX) (cs' hY), ?_⟩
  have h := hs.ss
  rw [List.pairwise_append, List.pairwise_cons, List.pairwise_cons] at h ⊢
  obtain ⟨a1, ⟨a2, a3, a4⟩, a5⟩ := h
  have fromX : ∀ {G : Cells} {z}, (∀ q r, G q r → x.F q r ∨ y.F q r ∨ n0 ≤ q) → z ∈ pre ++ x :: y :: post → Apart x.F z.F → Apart y.F z.F → Apart G z.F := fun hG hz ha hb q r h g => by
    rcases hG _ _ h with h' | h' | h'
    · exact ha _ _ h' g
    · exact hb _ _ h' g
    · have := ly _ hz _ _ g; omega
  refine ⟨a1, ⟨fun z hz => ?_, fun z hz => fromX hY (mq hz) (a2 z (by simp [hz])) (a3 z hz), a4⟩, fun z hz u hu => ?_⟩
  · rcases List.mem_cons.1 hz with rfl | hz
    · exact hXY
    · exact fromX hX (mq hz) (a2 z (by simp [hz])) (a3 z hz)
  · simp only [List.mem_cons] at hu
    rcases hu with rfl | rfl | hu
    · exact (fromX hX (mp hz) (a5 z hz x (by simp)).symm (a5 z hz y (by simp)).symm).symm
    · exact (fromX hY (mp hz) (a5 z hz x (by simp)).symm (a5 z hz y (by simp)).symm).symm
    · exact a5 z hz u (by simp [hu])

/-- The cells of a node lie within others. -/
theorem allOf_sub {b : Nat} {Fk Fc G : Cells} {kids : List KidD} (hb : ∀ r, G b r) (hk : ∀ q r, Fk q r → G q r) (hc : ∀ q r, Fc q r → G q r) (hy : ∀ z, z ∈ kids → ∀ q r, z.F q r → G q r) : ∀ q r, allOf b Fk Fc kids q r → G q r := by
  rintro q r (h | h | h | ⟨z, hz, h⟩)
  · subst h; exact hb r
  · exact hk q r h
  · exact hc q r h
  · exact hy z hz q r h

/-- Two nodes side by side that have become two others, and the node above. -/
theorem two_above {w W : World} {F : Cells} {b : Nat} {k' : List Int} {pre post : List KidD} {x y : KidD} {Fk Fc FX FY : Cells} {kv cv : Value} {px py : Nat} {tx ty : Tr}
    (hs : Sep b Fk Fc (pre ++ x :: y :: post)) (hb : b < w.heap.size) (lk : ∀ q r, Fk q r → q < w.heap.size) (lc : ∀ q r, Fc q r → q < w.heap.size) (ly : ∀ z, z ∈ pre ++ x :: y :: post → ∀ q r, z.F q r → q < w.heap.size)
    (sb : ∀ o, F b o) (sk : ∀ q o, Fk q o → F q o) (sc : ∀ q o, Fc q o → F q o) (ss : ∀ z, z ∈ pre ++ x :: y :: post → ∀ q o, z.F q o → F q o)
    (hbox : W.heap[b]? = some (.cells #[kv, cv] 93 (0, 0))) (hkr : RowF W Fk kv (k'.map (Value.int .i64))) (hcr : RowF W Fc cv ((pre ++ x :: y :: post).map KidD.ptr)) (hpx : px = x.p) (hpy : py = y.p)
    (hX : ∀ q r, FX q r → x.F q r ∨ y.F q r ∨ w.heap.size ≤ q) (hY : ∀ q r, FY q r → x.F q r ∨ y.F q r ∨ w.heap.size ≤ q) (hXY : Apart FX FY)
    (nX : Nd W FX px tx) (nY : Nd W FY py ty) (hoth : ∀ z, (z ∈ pre ∨ z ∈ post) → Nd W z.F z.p z.t) :
    ∃ F', Nd W F' b (.mk k' (pre.map KidD.t ++ tx :: ty :: post.map KidD.t)) ∧ ∀ q r, F' q r → F q r ∨ w.heap.size ≤ q := by
  have hsep := two_sep (px := px) (py := py) (tx := tx) (ty := ty) hs hb lk lc ly hX hY hXY
  have mx : x ∈ pre ++ x :: y :: post := by simp
  have my : y ∈ pre ++ x :: y :: post := by simp
  have e : (pre ++ x :: y :: post).map KidD.ptr = (pre ++ (⟨px, FX, tx⟩ : KidD) :: ⟨py, FY, ty⟩ :: post).map KidD.ptr := by
    subst hpx hpy
    simp [KidD.ptr]
  rw [e] at hcr
  have sub : ∀ {G : Cells}, (∀ q r, G q r → x.F q r ∨ y.F q r ∨ w.heap.size ≤ q) → ∀ q r, G q r → F q r ∨ w.heap.size ≤ q := fun hG q r h => by
    rcases hG q r h with h | h | h
    · exact .inl (ss _ mx q r h)
    · exact .inl (ss _ my q r h)
    · exact .inr h
  have hall : ∀ z, z ∈ pre ++ (⟨px, FX, tx⟩ : KidD) :: ⟨py, FY, ty⟩ :: post → Nd W z.F z.p z.t ∧ ∀ q r, z.F q r → F q r ∨ w.heap.size ≤ q := fun z hz => by
    simp only [List.mem_append, List.mem_cons] at hz
    rcases hz with hz | rfl | rfl | hz
    · exact ⟨hoth z (.inl hz), fun q r h => .inl (ss z (by simp [hz]) q r h)⟩
    · exact ⟨nX, sub hX⟩
    · exact ⟨nY, sub hY⟩
    · exact ⟨hoth z (.inr hz), fun q r h => .inl (ss z (by simp [hz]) q r h)⟩
  have hnd := Nd.intro hbox hkr hcr (fun z hz => (hall z hz).1) hsep
  rw [show (pre ++ (⟨px, FX, tx⟩ : KidD) :: ⟨py, FY, ty⟩ :: post).map KidD.t = pre.map KidD.t ++ tx :: ty :: post.map KidD.t by simp] at hnd
  exact ⟨_, hnd, allOf_sub (fun r => .inl (sb r)) (fun q r h => .inl (sk q r h)) (fun q r h => .inl (sc q r h)) (fun z hz => (hall z hz).2)⟩
end Go.Proofs.Ytepkigcbjepbpaa
