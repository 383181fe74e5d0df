/- Nodes of the program, each with the cells that are its own. -/
import Derived.Test.YthiohdbcclbgkaaProg
import Derived.Test.YthiohdbcclbgkaaBase
import Derived.Test.YthiohdbcclbgkaaApp
import Derived.Test.YthiohdbcclbgkaaNode
import Derived.Test.YthiohdbcclbgkaaWayIn
import Derived.Test.YthiohdbcclbgkaaGrowData
import Derived.ArgAppend
namespace Go.Proofs.Ythiohdbcclbgkaa
open Go.RowKit

/-- Cells: a block and a place in it. -/
abbrev Cells := Nat → Nat → Prop
def boxOf (b : Nat) : Cells := fun x _ => x = b
def Apart (F G : Cells) : Prop := ∀ x o, F x o → ¬ G x o
theorem Apart.symm {F G : Cells} (h : Apart F G) : Apart G F := fun x o h1 h2 => h x o h2 h1
theorem Apart.mono {F G F' G' : Cells} (h : Apart F G) (h1 : ∀ x o, F' x o → F x o) (h2 : ∀ x o, G' x o → G x o) : Apart F' G' := fun x o a b => h x o (h1 x o a) (h2 x o b)

/-- Nothing outside F has turned. -/
structure KeptF (F : Cells) (w w' : World) : Prop where
  os : w'.os = w.os
  tape : w'.tape = w.tape
  output : w'.output = w.output
  size : w.heap.size ≤ w'.heap.size
  block : ∀ k, k < w.heap.size → (∀ o, ¬ F k o) → w'.heap[k]? = w.heap[k]?
  cell : ∀ b o, b < w.heap.size → ¬ F b o → w'.cell? ⟨b, o, none⟩ = w.cell? ⟨b, o, none⟩
  frozen : ∀ b o, b < w.heap.size → w'.frozen? ⟨b, o, none⟩ = w.frozen? ⟨b, o, none⟩
  there : ∀ b o, (w.cell? ⟨b, o, none⟩).isSome = true → (w'.cell? ⟨b, o, none⟩).isSome = true

theorem lt_of_there {w : World} {b o : Nat} (h : (w.cell? ⟨b, o, none⟩).isSome = true) : b < w.heap.size := by
  obtain ⟨u, hu⟩ := Option.isSome_iff_exists.1 h
  exact World.block_lt_of_cell? w _ hu

theorem KeptF.refl (F : Cells) (w : World) : KeptF F w w := ⟨rfl, rfl, rfl, Nat.le_refl _, fun _ _ _ => rfl, fun _ _ _ _ => rfl, fun _ _ _ => rfl, fun _ _ h => h⟩
theorem KeptF.mono {F G : Cells} {w w' : World} (h : KeptF F w w') (hs : ∀ x o, x < w.heap.size → F x o → G x o) : KeptF G w w' :=
  ⟨h.os, h.tape, h.output, h.size, fun k hk hn => h.block k hk (fun o hf => hn o (hs k o hk hf)), fun b o hb hn => h.cell b o hb (fun hf => hn (hs b o hb hf)), h.frozen, h.there⟩
theorem KeptF.trans {F : Cells} {a b c : World} (h : KeptF F a b) (k : KeptF (fun x o => F x o ∨ a.heap.size ≤ x) b c) : KeptF F a c :=
  ⟨k.os.trans h.os, k.tape.trans h.tape, k.output.trans h.output, Nat.le_trans h.size k.size,
    fun i h1 h2 => (k.block i (Nat.lt_of_lt_of_le h1 h.size) (fun o hh => hh.elim (h2 o) (fun h3 => by omega))).trans (h.block i h1 h2),
    fun x o h1 h2 => (k.cell x o (Nat.lt_of_lt_of_le h1 h.size) (fun hh => hh.elim h2 (fun h3 => by omega))).trans (h.cell x o h1 h2),
    fun x o h1 => (k.frozen x o (Nat.lt_of_lt_of_le h1 h.size)).trans (h.frozen x o h1), fun x o hh => k.there x o (h.there x o hh)⟩
theorem KeptF.of_below {F : Cells} {w w' : World} {B : Nat} (h : Below B w w') (hB : w.heap.size ≤ B) : KeptF F w w' :=
  ⟨h.os, h.tape, h.output, h.size, fun k hk _ => h.block k (by omega), fun b o hb _ => h.cell (p := ⟨b, o, none⟩) (by show b < B; omega), fun b o hb => h.frozen (p := ⟨b, o, none⟩) (by show b < B; omega),
    fun b o hh => by have := lt_of_there hh; rw [h.cell (p := ⟨b, o, none⟩) (by show b < B; omega)]; exact hh⟩
theorem KeptF.below {F : Cells} {w w' : World} {B : Nat} (h : KeptF F w w') (hB : B ≤ w.heap.size) (hF : ∀ x o, F x o → B ≤ x) : Below B w w' :=
  ⟨h.os, h.tape, h.output, h.size, fun k hk => h.block k (by omega) (fun o hf => by have := hF k o hf; omega)⟩
theorem KeptF.drew (F : Cells) (w : World) : KeptF F w w.drew := ⟨rfl, rfl, rfl, Nat.le_refl _, fun _ _ _ => rfl, fun _ _ _ _ => rfl, fun _ _ _ => rfl, fun _ _ h => h⟩
theorem KeptF.alloc (F : Cells) (w : World) (o : Obj) : KeptF F w (w.alloc o) := KeptF.of_below ((Below.refl w.heap.size w).alloc (Nat.le_refl _) o) (Nat.le_refl _)
theorem KeptF.setCell {F : Cells} (w : World) (b o : Nat) (v : Value) (h : F b o) : KeptF F w (w.setCell ⟨b, o, none⟩ v) := by
  refine ⟨rfl, rfl, rfl, by simp, fun k hk hn => set_other _ _ _ _ _ (fun e => hn o (e ▸ h)), fun x q hx hn => ?_, fun x q hx => by rw [World.frozen?_setCell], fun x q hh => ?_⟩
  · exact World.cell?_setCell_other _ _ _ _ (fun e => by simp at e; obtain ⟨rfl, rfl⟩ := e; exact hn h)
  · by_cases e : b = x ∧ o = q
    · obtain ⟨rfl, rfl⟩ := e
      obtain ⟨u, hu⟩ := Option.isSome_iff_exists.1 hh
      rw [World.cell?_setCell_same _ _ _ hu]; rfl
    · rw [World.cell?_setCell_other _ _ _ _ (fun e2 => e (by simpa using e2))]; exact hh
theorem KeptF.setCells {F : Cells} (b : Nat) : ∀ (vs : List Value) (o : Nat) (w : World), (∀ j, j < vs.length → F b (o + j)) → KeptF F w (w.setCells b o vs)
  | [], _, w, _ => KeptF.refl _ _
  | v :: r, o, w, h => by
    refine (KeptF.setCell w b o v (h 0 (by simp))).trans ((KeptF.setCells b r (o + 1) _ (fun j hj => ?_)).mono (fun x o _ hh => .inl hh))
    have := h (j + 1) (by simp; omega)
    rwa [show o + (j + 1) = o + 1 + j by omega] at this

/-- A slice whose cells are its own, up to its capacity. -/
def RowF (w : World) (F : Cells) (v : Value) (xs : List Value) : Prop :=
  (∀ x q, F x q → x < w.heap.size) ∧ ∃ (a : Option Addr) (cap : Nat), v = .slice a xs.length cap ∧ xs.length ≤ cap ∧ cap ≤ maxLen ∧ (a = none → cap = 0) ∧
    (cap = 0 ∨ ∃ b o, a = some ⟨b, o, none⟩ ∧ (∀ i, i < cap → F b (o + i) ∧ (w.cell? ⟨b, o + i, none⟩).isSome = true ∧ w.frozen? ⟨b, o + i, none⟩ = false) ∧
      ∀ i (h : i < xs.length), w.cell? ⟨b, o + i, none⟩ = some xs[i])

theorem RowF.keep {w w' : World} {F G : Cells} {v : Value} {xs : List Value} (h : RowF w F v xs) (hk : KeptF G w w') (ha : Apart F G) : RowF w' F v xs := by
  obtain ⟨hlt, a, cap, hv, h1, h2, h3, h4⟩ := h
  refine ⟨fun x q h => Nat.lt_of_lt_of_le (hlt x q h) hk.size, a, cap, hv, h1, h2, h3, ?_⟩
  rcases h4 with h4 | ⟨b, o, h5, h6, h7⟩
  · exact .inl h4
  · refine .inr ⟨b, o, h5, fun i hi => ?_, fun i hi => ?_⟩
    · obtain ⟨g1, g2, g3⟩ := h6 i hi
      exact ⟨g1, hk.there _ _ g2, (hk.frozen _ _ (lt_of_there g2)).trans g3⟩
    · obtain ⟨g1, g2, g3⟩ := h6 i (by omega)
      rw [hk.cell _ _ (lt_of_there g2) (ha _ _ g1)]
      exact h7 i hi
theorem RowF.shown {w : World} {F : Cells} {v : Value} {xs : List Value} (h : RowF w F v xs) : ∃ a c, v = .slice a xs.length c := by
  obtain ⟨_, a, cap, hv, _⟩ := h
  exact ⟨a, cap, hv⟩

/-- A row of the call's own is such a slice. -/
theorem RowF.of_owns {w : World} {base : Nat} {e : TypeId} {v : Value} {n : Nat} {xs : List Value} (h : w.ownsRow base e 1 v n xs) : RowF w (fun x _ => v.ownBlock = some x) v xs := by
  have h0 := h
  refine ⟨fun x q hq => (h0.lt x hq).2, ?_⟩
  obtain ⟨h1, ⟨h2, h3⟩ | ⟨g, cap, cur, hv, hb, hg, hn, hm, hs, ht⟩⟩ := h
  · subst h3
    have : xs = [] := by cases xs with | nil => rfl | cons a r => simp at h1
    subst this
    exact ⟨none, 0, h2, by simp, by unfold maxLen; omega, fun _ => rfl, .inl rfl⟩
  · subst hv
    have hxn : xs.length = n := by simpa using h1
    refine ⟨_, cap, by rw [hxn], by omega, hm, by simp, .inr ⟨g, 0, rfl, fun i hi => ⟨rfl, ?_, ?_⟩, fun i hi => ?_⟩⟩
    · have : i < cur.size := by omega
      simp [World.cell?, hg, this]
    · simp [World.frozen?, hg]
    · rw [Nat.zero_add, World.ownsRow.cellAt h0 i (by omega)]
      simp [hi]

/-- A kid: its block, its cells, its tree. -/
structure KidD where
  p : Nat
  F : Cells
  t : Tr
def KidD.ptr (x : KidD) : Value := .pointer (some ⟨x.p, 0, none⟩)

/-- A node at block b, all that it reaches within the cells F; its box, its rows and its kids lie apart. -/
inductive Nd (w : World) : Cells → Nat → Tr → Prop where
  | mk (ks : List Int) (kids : List KidD) (F Fk Fc : Cells) (b : Nat) (kv cv : Value)
      (hbox : w.heap[b]? = some (.cells #[kv, cv] 106 (0, 0)))
      (hk : RowF w Fk kv (ks.map (Value.int .i64))) (hc : RowF w Fc cv (kids.map KidD.ptr))
      (hkids : ∀ x, x ∈ kids → Nd w x.F x.p x.t)
      (sb : ∀ o, F b o) (sk : ∀ x o, Fk x o → F x o) (sc : ∀ x o, Fc x o → F x o) (ss : ∀ y, y ∈ kids → ∀ x o, y.F x o → F x o)
      (ap : (boxOf b :: Fk :: Fc :: kids.map KidD.F).Pairwise Apart) (lt : ∀ x o, F x o → x < w.heap.size) : Nd w F b (.mk ks (kids.map KidD.t))

theorem Nd.keep {w w' : World} {F G : Cells} {b : Nat} {t : Tr} (h : Nd w F b t) (hk : KeptF G w w') (ha : Apart F G) : Nd w' F b t := by
  induction h with
  | mk ks kids F Fk Fc b kv cv hbox hkr hc hkids sb sk sc ss ap lt ih =>
    exact .mk ks kids F Fk Fc b kv cv ((hk.block b (Array.getElem?_eq_some_iff.1 hbox).1 (fun o => ha b o (sb o))).trans hbox)
      (hkr.keep hk (ha.mono sk (fun _ _ h => h))) (hc.keep hk (ha.mono sc (fun _ _ h => h))) (fun x hx => ih x hx (ha.mono (ss x hx) (fun _ _ h => h))) sb sk sc ss ap (fun x o h => Nat.lt_of_lt_of_le (lt x o h) hk.size)
theorem Nd.mono {w : World} {F G : Cells} {b : Nat} {t : Tr} (h : Nd w F b t) (hs : ∀ x o, F x o → G x o) (hl : ∀ x o, G x o → x < w.heap.size) : Nd w G b t := by
  cases h with
  | mk ks kids F Fk Fc b kv cv hbox hkr hc hkids sb sk sc ss ap lt =>
    exact .mk ks kids G Fk Fc b kv cv hbox hkr hc hkids (fun o => hs _ _ (sb o)) (fun x o h => hs _ _ (sk x o h)) (fun x o h => hs _ _ (sc x o h)) (fun y hy x o h => hs _ _ (ss y hy x o h)) ap hl

/-- What a node is made of. -/
theorem Nd.parts {w : World} {F : Cells} {b : Nat} {ks : List Int} {cs : List Tr} (h : Nd w F b (.mk ks cs)) : ∃ (kids : List KidD) (Fk Fc : Cells) (kv cv : Value), cs = kids.map KidD.t ∧
    w.heap[b]? = some (.cells #[kv, cv] 106 (0, 0)) ∧ RowF w Fk kv (ks.map (Value.int .i64)) ∧ RowF w Fc cv (kids.map KidD.ptr) ∧ (∀ x, x ∈ kids → Nd w x.F x.p x.t) ∧
    (∀ o, F b o) ∧ (∀ x o, Fk x o → F x o) ∧ (∀ x o, Fc x o → F x o) ∧ (∀ y, y ∈ kids → ∀ x o, y.F x o → F x o) ∧ (boxOf b :: Fk :: Fc :: kids.map KidD.F).Pairwise Apart ∧ (∀ x o, F x o → x < w.heap.size) := by
  cases h with
  | mk _ kids _ Fk Fc _ kv cv hbox hkr hc hkids sb sk sc ss ap lt => exact ⟨kids, Fk, Fc, kv, cv, rfl, hbox, hkr, hc, hkids, sb, sk, sc, ss, ap, lt⟩

/-- All that lies in memory lies below its end. -/
theorem Nd.nodeAt {w : World} {F : Cells} {b : Nat} {t : Tr} (h : Nd w F b t) : NodeAt w 0 w.heap.size b t := by
  induction h with
  | mk ks kids F Fk Fc b kv cv hbox hkr hc hkids sb sk sc ss ap lt ih =>
    obtain ⟨_, a, cap, rfl, h1, h2, h3, h4⟩ := hc
    obtain ⟨_, ka, kcap, rfl, k1, k2, k3, k4⟩ := hkr
    rw [List.length_map] at h1
    have e1 : (kids.map KidD.ptr).length = (kids.map KidD.t).length := by simp
    refine .mk ks (kids.map KidD.t) b _ a cap (fun i => (kids.map KidD.p).getD i 0) (Nat.zero_le _) (Array.getElem?_eq_some_iff.1 hbox).1 (by rw [← e1]; exact hbox) ⟨ka, kcap, by simp, by simpa using k1, k2, k3, ?_⟩ (by simpa using h1) h2 ?_ (fun i hi => ?_)
    · rcases k4 with k4 | ⟨kb, ko, rfl, g1, g2⟩
      · subst k4
        simp at k1
        exact .inl k1
      · by_cases hks : ks = []
        · exact .inl hks
        · have hpos : 0 < ks.length := by cases ks <;> simp_all
          refine .inr ⟨kb, ko, rfl, Nat.zero_le _, lt_of_there (o := ko + 0) (g1 0 (by simp at k1; omega)).2.1, fun i hi => ?_⟩
          rw [g2 i (by simpa using hi)]
          simp [hi]
    · rcases h4 with h4 | ⟨cb, co, rfl, g1, g2⟩
      · left; simp; have : kids.length = 0 := by omega
        exact List.length_eq_zero_iff.1 this
      · by_cases hks : kids = []
        · left; simp [hks]
        · have hpos : 0 < kids.length := by cases kids <;> simp_all
          refine .inr ⟨cb, co, rfl, Nat.zero_le _, lt_of_there (o := co + 0) (g1 0 (by omega)).2.1, fun i hi => ?_⟩
          rw [g2 i (by simpa using hi)]
          simp at hi
          simp [hi, KidD.ptr]
    · simp at hi
      have := ih kids[i] (List.getElem_mem hi)
      simpa [hi] using this
end Go.Proofs.Ythiohdbcclbgkaa
