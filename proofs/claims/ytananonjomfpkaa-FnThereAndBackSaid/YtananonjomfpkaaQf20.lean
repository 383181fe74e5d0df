/- The contract of halves. -/
import Derived.Test.YtananonjomfpkaaQf19
import Derived.ArgAppend
import Derived.Laws.IdiomCopy
import Derived.Deep.Cut
import Derived.BigRegion
/- Nodes of the program, each with the cells that are its own. -/
namespace Go.Proofs.Ytananonjomfpkaa
open Go.RowKit
abbrev Cells := Nat → Nat → Prop
def boxOf (b : Nat) : Cells := fun x _ => x = b
def Apart (F G : Cells) : Prop := ∀ x o, F x o → ¬ G x o
theorem Apart.symm {F G : Cells} (h : Apart F G) : Apart G F := fun x o h1 h2 => h x o h2 h1
theorem Apart.mono {F G F' G' : Cells} (h : Apart F G) (h1 : ∀ x o, F' x o → F x o) (h2 : ∀ x o, G' x o → G x o) : Apart F' G' := fun x o a b => h x o (h1 x o a) (h2 x o b)
structure KeptF (F : Cells) (w w' : World) : Prop where
 os : w'.os = w.os
 tape : w'.tape = w.tape
 output : w'.output = w.output
 size : w.heap.size ≤ w'.heap.size
 block : ∀ k, k < w.heap.size → (∀ o, ¬ F k o) → w'.heap[k]? = w.heap[k]?
 cell : ∀ b o, b < w.heap.size → ¬ F b o → w'.cell? ⟨b, o, none⟩ = w.cell? ⟨b, o, none⟩
 frozen : ∀ b o, b < w.heap.size → w'.frozen? ⟨b, o, none⟩ = w.frozen? ⟨b, o, none⟩
 there : ∀ b o, (w.cell? ⟨b, o, none⟩).isSome = true → (w'.cell? ⟨b, o, none⟩).isSome = true
theorem lt_of_there {w : World} {b o : Nat} (h : (w.cell? ⟨b, o, none⟩).isSome = true) : b < w.heap.size := by
 obtain ⟨u, hu⟩ := Option.isSome_iff_exists.1 h
 exact World.block_lt_of_cell? w _ hu
theorem KeptF.refl (F : Cells) (w : World) : KeptF F w w := ⟨rfl, rfl, rfl, Nat.le_refl _, fun _ _ _ => rfl, fun _ _ _ _ => rfl, fun _ _ _ => rfl, fun _ _ h => h⟩
theorem KeptF.mono {F G : Cells} {w w' : World} (h : KeptF F w w') (hs : ∀ x o, x < w.heap.size → F x o → G x o) : KeptF G w w' :=
 ⟨h.os, h.tape, h.output, h.size, fun k hk hn => h.block k hk (fun o hf => hn o (hs k o hk hf)), fun b o hb hn => h.cell b o hb (fun hf => hn (hs b o hb hf)), h.frozen, h.there⟩
theorem KeptF.trans {F : Cells} {a b c : World} (h : KeptF F a b) (k : KeptF (fun x o => F x o ∨ a.heap.size ≤ x) b c) : KeptF F a c :=
 ⟨k.os.trans h.os, k.tape.trans h.tape, k.output.trans h.output, Nat.le_trans h.size k.size,
   fun i h1 h2 => (k.block i (Nat.lt_of_lt_of_le h1 h.size) (fun o hh => hh.elim (h2 o) (fun h3 => by omega))).trans (h.block i h1 h2),
   fun x o h1 h2 => (k.cell x o (Nat.lt_of_lt_of_le h1 h.size) (fun hh => hh.elim h2 (fun h3 => by omega))).trans (h.cell x o h1 h2),
   fun x o h1 => (k.frozen x o (Nat.lt_of_lt_of_le h1 h.size)).trans (h.frozen x o h1), fun x o hh => k.there x o (h.there x o hh)⟩
theorem KeptF.of_below {F : Cells} {w w' : World} {B : Nat} (h : Below B w w') (hB : w.heap.size ≤ B) : KeptF F w w' :=
 ⟨h.os, h.tape, h.output, h.size, fun k hk _ => h.block k (by omega), fun b o hb _ => h.cell (p := ⟨b, o, none⟩) (by show b < B; omega), fun b o hb => h.frozen (p := ⟨b, o, none⟩) (by show b < B; omega),
   fun b o hh => by have := lt_of_there hh; rw [h.cell (p := ⟨b, o, none⟩) (by show b < B; omega)]; exact hh⟩
theorem KeptF.below {F : Cells} {w w' : World} {B : Nat} (h : KeptF F w w') (hB : B ≤ w.heap.size) (hF : ∀ x o, F x o → B ≤ x) : Below B w w' :=
 ⟨h.os, h.tape, h.output, h.size, fun k hk => h.block k (by omega) (fun o hf => by have := hF k o hf; omega)⟩
theorem KeptF.drew (F : Cells) (w : World) : KeptF F w w.drew := ⟨rfl, rfl, rfl, Nat.le_refl _, fun _ _ _ => rfl, fun _ _ _ _ => rfl, fun _ _ _ => rfl, fun _ _ h => h⟩
theorem KeptF.alloc (F : Cells) (w : World) (o : Obj) : KeptF F w (w.alloc o) := KeptF.of_below ((Below.refl w.heap.size w).alloc (Nat.le_refl _) o) (Nat.le_refl _)
theorem KeptF.setCell {F : Cells} (w : World) (b o : Nat) (v : Value) (h : F b o) : KeptF F w (w.setCell ⟨b, o, none⟩ v) := by
 refine ⟨rfl, rfl, rfl, by simp, fun k hk hn => set_other _ _ _ _ _ (fun e => hn o (e ▸ h)), fun x q hx hn => ?_, fun x q hx => by rw [World.frozen?_setCell], fun x q hh => ?_⟩
 · exact World.cell?_setCell_other _ _ _ _ (fun e => by simp at e; obtain ⟨rfl, rfl⟩ := e; exact hn h)
 · by_cases e : b = x ∧ o = q
   · obtain ⟨rfl, rfl⟩ := e
     obtain ⟨u, hu⟩ := Option.isSome_iff_exists.1 hh
     rw [World.cell?_setCell_same _ _ _ hu]; rfl
   · rw [World.cell?_setCell_other _ _ _ _ (fun e2 => e (by simpa using e2))]; exact hh
theorem KeptF.setCells {F : Cells} (b : Nat) : ∀ (vs : List Value) (o : Nat) (w : World), (∀ j, j < vs.length → F b (o + j)) → KeptF F w (w.setCells b o vs)
 | [], _, w, _ => KeptF.refl _ _
 | v :: r, o, w, h => by
   refine (KeptF.setCell w b o v (h 0 (by simp))).trans ((KeptF.setCells b r (o + 1) _ (fun j hj => ?_)).mono (fun x o _ hh => .inl hh))
   have := h (j + 1) (by simp; omega)
   rwa [show o + (j + 1) = o + 1 + j by omega] at this
def RowF (w : World) (F : Cells) (v : Value) (xs : List Value) : Prop :=
 (∀ x q, F x q → x < w.heap.size) ∧ ∃ (a : Option Addr) (cap : Nat), v = .slice a xs.length cap ∧ xs.length ≤ cap ∧ cap ≤ maxLen ∧ (a = none → cap = 0) ∧
   (cap = 0 ∨ ∃ b o, a = some ⟨b, o, none⟩ ∧ (∀ i, i < cap → F b (o + i) ∧ (w.cell? ⟨b, o + i, none⟩).isSome = true ∧ w.frozen? ⟨b, o + i, none⟩ = false) ∧
     ∀ i (h : i < xs.length), w.cell? ⟨b, o + i, none⟩ = some xs[i])
theorem RowF.keep {w w' : World} {F G : Cells} {v : Value} {xs : List Value} (h : RowF w F v xs) (hk : KeptF G w w') (ha : Apart F G) : RowF w' F v xs := by
 obtain ⟨hlt, a, cap, hv, h1, h2, h3, h4⟩ := h
 refine ⟨fun x q h => Nat.lt_of_lt_of_le (hlt x q h) hk.size, a, cap, hv, h1, h2, h3, ?_⟩
 rcases h4 with h4 | ⟨b, o, h5, h6, h7⟩
 · exact .inl h4
 · refine .inr ⟨b, o, h5, fun i hi => ?_, fun i hi => ?_⟩
   · obtain ⟨g1, g2, g3⟩ := h6 i hi
     exact ⟨g1, hk.there _ _ g2, (hk.frozen _ _ (lt_of_there g2)).trans g3⟩
   · obtain ⟨g1, g2, g3⟩ := h6 i (by omega)
     rw [hk.cell _ _ (lt_of_there g2) (ha _ _ g1)]
     exact h7 i hi
theorem RowF.shown {w : World} {F : Cells} {v : Value} {xs : List Value} (h : RowF w F v xs) : ∃ a c, v = .slice a xs.length c := by
 obtain ⟨_, a, cap, hv, _⟩ := h
 exact ⟨a, cap, hv⟩
theorem RowF.of_owns {w : World} {base : Nat} {e : TypeId} {v : Value} {n : Nat} {xs : List Value} (h : w.ownsRow base e 1 v n xs) : RowF w (fun x _ => v.ownBlock = some x) v xs := by
 have h0 := h
 refine ⟨fun x q hq => (h0.lt x hq).2, ?_⟩
 obtain ⟨h1, ⟨h2, h3⟩ | ⟨g, cap, cur, hv, hb, hg, hn, hm, hs, ht⟩⟩ := h
 · subst h3
   have : xs = [] := by cases xs with | nil => rfl | cons a r => simp at h1
   subst this
   exact ⟨none, 0, h2, by simp, by unfold maxLen; omega, fun _ => rfl, .inl rfl⟩
 · subst hv
   have hxn : xs.length = n := by simpa using h1
   refine ⟨_, cap, by rw [hxn], by omega, hm, by simp, .inr ⟨g, 0, rfl, fun i hi => ⟨rfl, ?_, ?_⟩, fun i hi => ?_⟩⟩
   · have : i < cur.size := by omega
     simp [World.cell?, hg, this]
   · simp [World.frozen?, hg]
   · rw [Nat.zero_add, World.ownsRow.cellAt h0 i (by omega)]
     simp [hi]
structure KidD where
 p : Nat
 F : Cells
 t : Tr
def KidD.ptr (x : KidD) : Value := .pointer (some ⟨x.p, 0, none⟩)
inductive Nd (w : World) : Cells → Nat → Tr → Prop where
 | mk (ks : List Int) (kids : List KidD) (F Fk Fc : Cells) (b : Nat) (kv cv : Value)
     (hbox : w.heap[b]? = some (.cells #[kv, cv] 99 (0, 0)))
     (hk : RowF w Fk kv (ks.map (Value.int .i64))) (hc : RowF w Fc cv (kids.map KidD.ptr))
     (hkids : ∀ x, x ∈ kids → Nd w x.F x.p x.t)
     (sb : ∀ o, F b o) (sk : ∀ x o, Fk x o → F x o) (sc : ∀ x o, Fc x o → F x o) (ss : ∀ y, y ∈ kids → ∀ x o, y.F x o → F x o)
     (ap : (boxOf b :: Fk :: Fc :: kids.map KidD.F).Pairwise Apart) (lt : ∀ x o, F x o → x < w.heap.size) : Nd w F b (.mk ks (kids.map KidD.t))
theorem Nd.keep {w w' : World} {F G : Cells} {b : Nat} {t : Tr} (h : Nd w F b t) (hk : KeptF G w w') (ha : Apart F G) : Nd w' F b t := by
 induction h with
 | mk ks kids F Fk Fc b kv cv hbox hkr hc hkids sb sk sc ss ap lt ih =>
   exact .mk ks kids F Fk Fc b kv cv ((hk.block b (Array.getElem?_eq_some_iff.1 hbox).1 (fun o => ha b o (sb o))).trans hbox)
     (hkr.keep hk (ha.mono sk (fun _ _ h => h))) (hc.keep hk (ha.mono sc (fun _ _ h => h))) (fun x hx => ih x hx (ha.mono (ss x hx) (fun _ _ h => h))) sb sk sc ss ap (fun x o h => Nat.lt_of_lt_of_le (lt x o h) hk.size)
theorem Nd.mono {w : World} {F G : Cells} {b : Nat} {t : Tr} (h : Nd w F b t) (hs : ∀ x o, F x o → G x o) (hl : ∀ x o, G x o → x < w.heap.size) : Nd w G b t := by
 cases h with
 | mk ks kids F Fk Fc b kv cv hbox hkr hc hkids sb sk sc ss ap lt =>
   exact .mk ks kids G Fk Fc b kv cv hbox hkr hc hkids (fun o => hs _ _ (sb o)) (fun x o h => hs _ _ (sk x o h)) (fun x o h => hs _ _ (sc x o h)) (fun y hy x o h => hs _ _ (ss y hy x o h)) ap hl
theorem Nd.parts {w : World} {F : Cells} {b : Nat} {ks : List Int} {cs : List Tr} (h : Nd w F b (.mk ks cs)) : ∃ (kids : List KidD) (Fk Fc : Cells) (kv cv : Value), cs = kids.map KidD.t ∧
   w.heap[b]? = some (.cells #[kv, cv] 99 (0, 0)) ∧ RowF w Fk kv (ks.map (Value.int .i64)) ∧ RowF w Fc cv (kids.map KidD.ptr) ∧ (∀ x, x ∈ kids → Nd w x.F x.p x.t) ∧
   (∀ o, F b o) ∧ (∀ x o, Fk x o → F x o) ∧ (∀ x o, Fc x o → F x o) ∧ (∀ y, y ∈ kids → ∀ x o, y.F x o → F x o) ∧ (boxOf b :: Fk :: Fc :: kids.map KidD.F).Pairwise Apart ∧ (∀ x o, F x o → x < w.heap.size) := by
 cases h with
 | mk _ kids _ Fk Fc _ kv cv hbox hkr hc hkids sb sk sc ss ap lt => exact ⟨kids, Fk, Fc, kv, cv, rfl, hbox, hkr, hc, hkids, sb, sk, sc, ss, ap, lt⟩
theorem Nd.nodeAt {w : World} {F : Cells} {b : Nat} {t : Tr} (h : Nd w F b t) : NodeAt w 0 w.heap.size b t := by
 induction h with
 | mk ks kids F Fk Fc b kv cv hbox hkr hc hkids sb sk sc ss ap lt ih =>
   obtain ⟨_, a, cap, rfl, h1, h2, h3, h4⟩ := hc
   obtain ⟨_, ka, kcap, rfl, k1, k2, k3, k4⟩ := hkr
   rw [List.length_map] at h1
   have e1 : (kids.map KidD.ptr).length = (kids.map KidD.t).length := by simp
   refine .mk ks (kids.map KidD.t) b _ a cap (fun i => (kids.map KidD.p).getD i 0) (Nat.zero_le _) (Array.getElem?_eq_some_iff.1 hbox).1 (by rw [← e1]; exact hbox) ⟨ka, kcap, by simp, by simpa using k1, k2, k3, ?_⟩ (by simpa using h1) h2 ?_ (fun i hi => ?_)
   · rcases k4 with k4 | ⟨kb, ko, rfl, g1, g2⟩
     · subst k4
       simp at k1
       exact .inl k1
     · by_cases hks : ks = []
       · exact .inl hks
       · have hpos : 0 < ks.length := by cases ks <;> simp_all
         refine .inr ⟨kb, ko, rfl, Nat.zero_le _, lt_of_there (o := ko + 0) (g1 0 (by simp at k1; omega)).2.1, fun i hi => ?_⟩
         rw [g2 i (by simpa using hi)]
         simp [hi]
   · rcases h4 with h4 | ⟨cb, co, rfl, g1, g2⟩
     · left; simp; have : kids.length = 0 := by omega
       exact List.length_eq_zero_iff.1 this
     · by_cases hks : kids = []
       · left; simp [hks]
       · have hpos : 0 < kids.length := by cases kids <;> simp_all
         refine .inr ⟨cb, co, rfl, Nat.zero_le _, lt_of_there (o := co + 0) (g1 0 (by omega)).2.1, fun i hi => ?_⟩
         rw [g2 i (by simpa using hi)]
         simp at hi
         simp [hi, KidD.ptr]
   · simp at hi
     have := ih kids[i] (List.getElem_mem hi)
     simpa [hi] using this
end Go.Proofs.Ytananonjomfpkaa
/- Appending one element to a slice whose cells are its own; copying within it. -/
namespace Go.Proofs.Ytananonjomfpkaa
open Go.RowKit
theorem RowF.cells_of {w : World} {F : Cells} {b o n cap : Nat} {xs : List Value} (h : RowF w F (.slice (some ⟨b, o, none⟩) n cap) xs) (hp : 0 < cap) :
   n = xs.length ∧ xs.length ≤ cap ∧ cap ≤ maxLen ∧ (∀ i, i < cap → F b (o + i) ∧ (w.cell? ⟨b, o + i, none⟩).isSome = true ∧ w.frozen? ⟨b, o + i, none⟩ = false) ∧ ∀ i (h : i < xs.length), w.cell? ⟨b, o + i, none⟩ = some xs[i] := by
 obtain ⟨_, a, cap', hv, h1, h2, h3, h4⟩ := h
 simp only [Value.slice.injEq] at hv
 obtain ⟨rfl, rfl, rfl⟩ := hv
 rcases h4 with h4 | ⟨b', o', h5, h6, h7⟩
 · omega
 · simp only [Option.some.injEq, Addr.mk.injEq, and_true] at h5
   obtain ⟨rfl, rfl⟩ := h5
   exact ⟨rfl, h1, h2, h6, h7⟩
theorem RowF.intro {w : World} {F : Cells} {b o cap : Nat} {xs : List Value} (h0 : ∀ x q, F x q → x < w.heap.size) (h1 : xs.length ≤ cap) (h2 : cap ≤ maxLen)
   (h3 : ∀ i, i < cap → F b (o + i) ∧ (w.cell? ⟨b, o + i, none⟩).isSome = true ∧ w.frozen? ⟨b, o + i, none⟩ = false) (h4 : ∀ i (h : i < xs.length), w.cell? ⟨b, o + i, none⟩ = some xs[i]) :
   RowF w F (.slice (some ⟨b, o, none⟩) xs.length cap) xs := ⟨h0, _, cap, rfl, h1, h2, by simp, .inr ⟨b, o, rfl, h3, h4⟩⟩
theorem RowF.splice {w : World} {F : Cells} {b o n cap : Nat} {xs : List Value} (h : RowF w F (.slice (some ⟨b, o, none⟩) n cap) xs) (hp : 0 < cap) (k : Nat) (ys : List Value) (hk : k + ys.length ≤ xs.length) :
   RowF (w.setCells b (o + k) ys) F (.slice (some ⟨b, o, none⟩) n cap) (xs.take k ++ ys ++ xs.drop (k + ys.length)) := by
 have hlt := h.1
 obtain ⟨rfl, h1, h2, h3, h4⟩ := h.cells_of hp
 have hl : (xs.take k ++ ys ++ xs.drop (k + ys.length)).length = xs.length := by simp; omega
 have hK := KeptF.setCells (F := F) b ys (o + k) w (fun j hj => by have := (h3 (k + j) (by omega)).1; rwa [← Nat.add_assoc] at this)
 have := RowF.intro (w := w.setCells b (o + k) ys) (F := F) (b := b) (o := o) (cap := cap) (xs := xs.take k ++ ys ++ xs.drop (k + ys.length)) (fun x q h => Nat.lt_of_lt_of_le (hlt x q h) hK.size) (by omega) h2 (fun i hi => ?_) (fun i hi => ?_)
 · rwa [hl] at this
 · obtain ⟨g1, g2, g3⟩ := h3 i hi
   exact ⟨g1, hK.there _ _ g2, (hK.frozen _ _ (lt_of_there g2)).trans g3⟩
 · rw [hl] at hi
   by_cases hi1 : i < k
   · rw [World.cell?_setCells_out b ys (o + k) w _ (fun _ _ => .inl (by show o + i < o + k; omega)), h4 i hi]
     rw [List.getElem_append_left (by simp; omega), List.getElem_append_left (by simp; omega), List.getElem_take]
   · by_cases hi2 : i < k + ys.length
     · have := World.cell?_setCells_in b ys (o + k) w (fun j hj => by have := (h3 (k + j) (by omega)).2.1; rwa [← Nat.add_assoc] at this) (i - k) (by omega)
       rw [show o + k + (i - k) = o + i by omega] at this
       rw [this]
       simp only [List.getElem_append, List.length_append, List.length_take]
       simp only [show min k xs.length = k by omega, hi2, hi1, dif_pos, dif_neg, not_false_eq_true]
     · rw [World.cell?_setCells_out b ys (o + k) w _ (fun _ _ => .inr (by show o + k + ys.length ≤ o + i; omega)), h4 i hi]
       simp only [List.getElem_append, List.length_append, List.length_take, List.getElem_drop]
       simp only [show min k xs.length = k by omega, hi2, dif_neg, not_false_eq_true]
       congr 2
       omega
theorem wpList_append_row {P : Program} {w : World} {ops : Array Oper} {rest : List Oper} {o : Oper} {a : Act} {Q : Exit → Act → World → Prop}
   (hg : o.guard = none) (s x : Operand) (t : TypeId) (hop : o.op = Op.call { callee := Callee.builtin Builtin.append, args := #[s, x], argTypes := #[t, t] })
   (e : TypeId) (i : TypeInfo) (z : Value) (bytes : Nat) (h1 : P.underlying t = some (.slice e)) (h2 : P.info? e = some i) (h3 : i.zero = some z) (h4 : i.size = 1) (h5 : i.bytes = bytes) (h6 : z.cells.size = 1)
   (F : Cells) (v : Value) (xs : List Value) (hs : a.eval s = v) (hr : RowF w F v xs) (ab ac : Nat) (c : Nat) (y : Value) (hx : a.eval x = .slice (some ⟨ab, ac, none⟩) 1 c) (hc : w.cell? ⟨ab, ac, none⟩ = some y) (h1c : y.oneCell' = true)
   (b1 : xs.length + 1 ≤ maxLen) (b2 : (xs.length + 1) * bytes ≤ 140737488355328)
   (hK : ∀ (b1 o1 cap1 : Nat) (F1 : Cells) (w1 : World), xs.length + 1 ≤ cap1 → RowF w1 F1 (.slice (some ⟨b1, o1, none⟩) (xs.length + 1) cap1) (xs ++ [y]) → (∀ q r, F1 q r → F q r ∨ w.heap.size ≤ q) → KeptF F w w1 →
     wpList P ops Q rest (a.put o.dst (.slice (some ⟨b1, o1, none⟩) (xs.length + 1) cap1)) w1) : wpList P ops Q (o :: rest) a w := by
 have hadd : ∀ j u, ([y] : List Value)[j]? = some u → w.cell? ((⟨ab, ac, none⟩ : Addr).add j) = some u := fun j u hj => by
   rw [Addr.add_lit]
   cases j with
   | zero => simp at hj; subst hj; simpa using hc
   | succ j => simp at hj
 have hgrown : ∀ v' w', w'.ownsRow w.heap.size e 1 v' (xs.length + 1) (xs ++ [y]) → w.grownBy w' none → wpList P ops Q rest (a.put o.dst v') w' := fun v' w' hown hgr => by
   have hrow := RowF.of_owns hown
   have hlt := hown.lt
   obtain ⟨_, ⟨_, h9⟩ | ⟨g, cap, cur, rfl, hb, hgg, hn, hm, _⟩⟩ := hown
   · omega
   · exact hK g 0 cap _ w' hn hrow (fun q r hq => by right; have := hlt q hq; omega) (KeptF.of_below (B := w.heap.size) ⟨hgr.os, hgr.tape, hgr.output, hgr.size, fun k hk => hgr.block k hk (by simp)⟩ (Nat.le_refl _))
 have hr0 := hr
 obtain ⟨glt, ao, cap, rfl, g1, g2, g3, g4⟩ := hr
 by_cases hcap : cap = 0
 · subst hcap
   have hx0 : xs = [] := List.eq_nil_of_length_eq_zero (by omega)
   subst hx0
   exact wpList_append_grows w hg s x t hop e i z 1 bytes h1 h2 h3 h4 h5 h6 (by omega) ao 0 0 [] hs (fun h => ⟨rfl, rfl⟩) rfl (fun _ _ j u hj => by simp at hj) ⟨ab, ac, none⟩ 1 c [y] hx rfl hadd (by simpa using h1c) (by omega) (by simpa using b1) (by simpa using b2) hgrown
 · rcases g4 with g4 | ⟨b, off, rfl, g5, g6⟩
   · exact absurd g4 hcap
   · refine wpList_append_arg w hg s x t hop e i z 1 bytes h1 h2 h3 h4 h5 h6 (by omega) b off xs.length cap xs hs (by simp) (fun j u hj => ?_) ⟨ab, ac, none⟩ 1 c [y] hx rfl hadd (by simpa using h1c) (fun hroom j hj => ?_) b1 b2 (fun hroom => ?_) (fun hfull => ?_)
     · have hj2 : j < xs.length := by rcases Nat.lt_or_ge j xs.length with h | h; exact h; rw [List.getElem?_eq_none h] at hj; cases hj
       rw [g6 j hj2]; rw [List.getElem?_eq_getElem hj2] at hj; exact hj
     · simp at hj; subst hj
       have := g5 xs.length (by omega)
       simpa using this.2
     · rw [Nat.mul_one]
       have hKs := KeptF.setCells (F := F) b [y] (off + xs.length) w (fun j hj => by simp at hj; subst hj; exact (g5 xs.length (by omega)).1)
       refine hK b off cap F _ hroom ?_ (fun q r hq => .inl hq) hKs
       have hl : (xs ++ [y]).length = xs.length + 1 := by simp
       have := RowF.intro (w := w.setCells b (off + xs.length) [y]) (F := F) (b := b) (o := off) (cap := cap) (xs := xs ++ [y]) (fun x q h => Nat.lt_of_lt_of_le (glt x q h) hKs.size) (by omega) g2 (fun i hi => ?_) (fun i hi => ?_)
       · rwa [hl] at this
       · obtain ⟨q1, q2, q3⟩ := g5 i hi
         exact ⟨q1, hKs.there _ _ q2, (hKs.frozen _ _ (lt_of_there q2)).trans q3⟩
       · by_cases hi2 : i < xs.length
         · rw [World.cell?_setCells_out b [y] (off + xs.length) w _ (fun _ _ => .inl (by show off + i < off + xs.length; omega)), g6 i hi2]
           simp [hi2]
         · obtain rfl : i = xs.length := by simp at hi; omega
           have := World.cell?_setCells_in b [y] (off + xs.length) w (fun j hj => by simp at hj; subst hj; exact (g5 xs.length (by omega)).2.1) 0 (by simp)
           simpa using this
     · exact fun v' w' hown hgr => hgrown v' w' hown hgr
theorem step_copy_cells {P : Program} {ops : Array Oper} {o : Oper} {a : Act} {w : World} {K : Act → World → Prop} {Q : Exit → Act → World → Prop} {E : Prop} (hgd : o.guard = none) (d s : Operand) (dT sT : TypeId)
   (ho : o.op = .call { callee := .builtin .copy, args := #[d, s], argTypes := #[dT, sT] }) (elem : TypeId) (hu : P.underlying dT = some (.slice elem)) (hsz : (P.info? elem).map (·.size) = some 1)
   (dp sp : Option Addr) (dLen dCap sLen sCap : Nat) (hd : a.eval d = .slice dp dLen dCap) (hs : a.eval s = .slice sp sLen sCap)
   (b off : Nat) (cs : List Value) (hn : cs.length = Nat.min sLen dLen)
   (hpos : 0 < cs.length → dp = some ⟨b, off, none⟩ ∧ ∃ ad, sp = some ad ∧ ∀ j v, cs[j]? = some v → w.cell? (ad.add j) = some v)
   (hc : ∀ j, j < cs.length → (w.cell? ⟨b, off + j, none⟩).isSome = true) (hf : ∀ j, j < cs.length → w.frozen? ⟨b, off + j, none⟩ = false) (h1 : ∀ v ∈ cs, v.oneCell' = true)
   (h : ∀ w', Hid (w' = w.setCells b off cs) → K (a.put o.dst (goInt cs.length)) w') :
   if Region.wanted o (yielded ops a.tmps) = true then Oper.wp P o a w K Q else E := by
 have hw : Region.wanted o (yielded ops a.tmps) = true := by simp [Region.wanted, hgd]
 rw [if_pos hw]
 by_cases h0 : cs.length = 0
 · obtain rfl : cs = [] := List.eq_nil_of_length_eq_zero h0
   have hrun := run_copy_none (P := P) w dT sT o.type elem dp sp dLen dCap sLen sCap hu hsz (by simpa using hn.symm)
   unfold Oper.wp
   simp [execOp, ho, resolve, invoke, builtin, hd, hs, hrun, Result.andThen]
   exact h w rfl
 · obtain ⟨rfl, ad, rfl, hsrc⟩ := hpos (by omega)
   have hrun := run_copy_cells (P := P) w dT sT o.type elem b off dLen dCap ad sLen sCap cs hu hsz hn hsrc hc hf h1
   unfold Oper.wp
   simp [execOp, ho, resolve, invoke, builtin, hd, hs, hrun, Result.andThen]
   exact h _ rfl
end Go.Proofs.Ytananonjomfpkaa
/- The contract of halves. -/
namespace Go.Proofs.Ytananonjomfpkaa
open Go.RowKit
theorem RowF.part {w : World} {F : Cells} {b o n cap : Nat} {xs : List Value} (h : RowF w F (.slice (some ⟨b, o, none⟩) n cap) xs) (hp : 0 < cap) (lo hi top : Nat) (h1 : lo ≤ hi) (h2 : hi ≤ xs.length) (h3 : hi ≤ top) (h4 : top ≤ cap) :
   RowF w (fun x q => x = b ∧ o + lo ≤ q ∧ q < o + top) (.slice (some ⟨b, o + lo, none⟩) (hi - lo) (top - lo)) ((xs.drop lo).take (hi - lo)) := by
 obtain ⟨rfl, g1, g2, g3, g4⟩ := h.cells_of hp
 have hl : ((xs.drop lo).take (hi - lo)).length = hi - lo := by simp; omega
 have := RowF.intro (w := w) (F := fun x q => x = b ∧ o + lo ≤ q ∧ q < o + top) (b := b) (o := o + lo) (cap := top - lo) (xs := (xs.drop lo).take (hi - lo)) (fun x q h => by rw [h.1]; exact lt_of_there (o := o + 0) (g3 0 (by omega)).2.1) (by omega) (by omega) (fun i hi' => ?_) (fun i hi' => ?_)
 · rwa [hl] at this
 · have := g3 (lo + i) (by omega)
   rw [← Nat.add_assoc] at this
   exact ⟨⟨rfl, by omega, by omega⟩, this.2⟩
 · have := g4 (lo + i) (by omega)
   rw [← Nat.add_assoc] at this
   rw [this]
   simp
theorem RowF.cellsF {w : World} {F : Cells} {b o n cap : Nat} {xs : List Value} (h : RowF w F (.slice (some ⟨b, o, none⟩) n cap) xs) (hp : 0 < cap) : ∀ q, o ≤ q → q < o + cap → F b q := fun q h1 h2 => by
 obtain ⟨_, _, _, g3, _⟩ := h.cells_of hp
 have := (g3 (q - o) (by omega)).1
 rwa [show o + (q - o) = q by omega] at this
structure Sep (b : Nat) (Fk Fc : Cells) (kids : List KidD) : Prop where
 bk : Apart (boxOf b) Fk
 bc : Apart (boxOf b) Fc
 bs : ∀ y, y ∈ kids → Apart (boxOf b) y.F
 kc : Apart Fk Fc
 ks : ∀ y, y ∈ kids → Apart Fk y.F
 cs : ∀ y, y ∈ kids → Apart Fc y.F
 ss : kids.Pairwise (fun y z => Apart y.F z.F)
theorem sep_iff {b : Nat} {Fk Fc : Cells} {kids : List KidD} : (boxOf b :: Fk :: Fc :: kids.map KidD.F).Pairwise Apart ↔ Sep b Fk Fc kids := by
 constructor
 · intro h
   simp only [List.pairwise_cons, List.mem_cons, List.mem_map, List.pairwise_map] at h
   obtain ⟨h1, h2, h3, h4⟩ := h
   exact ⟨h1 _ (.inl rfl), h1 _ (.inr (.inl rfl)), fun y hy => h1 _ (.inr (.inr ⟨y, hy, rfl⟩)), h2 _ (.inl rfl), fun y hy => h2 _ (.inr ⟨y, hy, rfl⟩), fun y hy => h3 _ ⟨y, hy, rfl⟩, h4⟩
 · intro h
   simp only [List.pairwise_cons, List.mem_cons, List.mem_map, List.pairwise_map]
   refine ⟨?_, ?_, ?_, h.ss⟩
   · rintro G (rfl | rfl | ⟨y, hy, rfl⟩)
     · exact h.bk
     · exact h.bc
     · exact h.bs y hy
   · rintro G (rfl | ⟨y, hy, rfl⟩)
     · exact h.kc
     · exact h.ks y hy
   · rintro G ⟨y, hy, rfl⟩
     exact h.cs y hy
def allOf (b : Nat) (Fk Fc : Cells) (kids : List KidD) : Cells := fun x o => x = b ∨ Fk x o ∨ Fc x o ∨ ∃ y, y ∈ kids ∧ y.F x o
theorem Nd.intro {w : World} {b : Nat} {Fk Fc : Cells} {ks : List Int} {kids : List KidD} {kv cv : Value} (hbox : w.heap[b]? = some (.cells #[kv, cv] 99 (0, 0)))
   (hk : RowF w Fk kv (ks.map (Value.int .i64))) (hc : RowF w Fc cv (kids.map KidD.ptr)) (hkids : ∀ x, x ∈ kids → Nd w x.F x.p x.t) (hs : Sep b Fk Fc kids) : Nd w (allOf b Fk Fc kids) b (.mk ks (kids.map KidD.t)) :=
 .mk ks kids _ Fk Fc b kv cv hbox hk hc hkids (fun o => .inl rfl) (fun x o h => .inr (.inl h)) (fun x o h => .inr (.inr (.inl h))) (fun y hy x o h => .inr (.inr (.inr ⟨y, hy, h⟩))) (sep_iff.2 hs)
   (fun x o h => by
     rcases h with rfl | h | h | ⟨y, hy, h⟩
     · exact (Array.getElem?_eq_some_iff.1 hbox).1
     · exact hk.1 _ _ h
     · exact hc.1 _ _ h
     · have := hkids y hy
       cases hyt : y.t with
       | mk a c =>
         rw [hyt] at this
         exact this.parts.choose_spec.choose_spec.choose_spec.choose_spec.choose_spec.2.2.2.2.2.2.2.2.2.2 _ _ h)
theorem Nd.lt {w : World} {F : Cells} {b : Nat} {t : Tr} (h : Nd w F b t) : ∀ x o, F x o → x < w.heap.size := by
 cases h with
 | mk ks kids F Fk Fc b kv cv hbox hkr hc hkids sb sk sc ss ap lt => exact lt
theorem halved_nd {w w' : World} {b m pl pr : Nat} {F Fk Fc FkL FkR FcL FcR : Cells} {k : List Int} {kids : List KidD} {kvL kvR cvL cvR : Value}
   (hlt : ∀ x o, F x o → x < w.heap.size) (sk : ∀ x o, Fk x o → F x o) (sc : ∀ x o, Fc x o → F x o) (ss : ∀ y, y ∈ kids → ∀ x o, y.F x o → F x o) (hs : Sep b Fk Fc kids)
   (hkids : ∀ x, x ∈ kids → Nd w x.F x.p x.t) (hb : Below w.heap.size w w') (hm : m = k.length / 2) (hpl : w.heap.size ≤ pl) (hpr : w.heap.size ≤ pr) (hne : pl ≠ pr)
   (bl : w'.heap[pl]? = some (.cells #[kvL, cvL] 99 (0, 0))) (br : w'.heap[pr]? = some (.cells #[kvR, cvR] 99 (0, 0)))
   (rkL : RowF w' FkL kvL ((k.take m).map (Value.int .i64))) (rkR : RowF w' FkR kvR ((k.drop (m + 1)).map (Value.int .i64)))
   (rcL : RowF w' FcL cvL ((kids.take (m + 1)).map KidD.ptr)) (rcR : RowF w' FcR cvR ((kids.drop (m + 1)).map KidD.ptr))
   (skL : ∀ x o, FkL x o → Fk x o) (skR : ∀ x o, FkR x o → Fk x o) (scL : ∀ x o, FcL x o → Fc x o) (scR : ∀ x o, FcR x o → Fc x o) (hkk : Apart FkL FkR) (hcc : Apart FcL FcR) :
   ∃ FL FR, Nd w' FL pl (Tr.mk k (kids.map KidD.t)).leftOf ∧ Nd w' FR pr (Tr.mk k (kids.map KidD.t)).rightOf ∧ Apart FL FR ∧ (∀ x o, FL x o → F x o ∨ w.heap.size ≤ x) ∧ (∀ x o, FR x o → F x o ∨ w.heap.size ≤ x) := by
 have hkp : KeptF (fun _ _ => False) w w' := KeptF.of_below hb (Nat.le_refl _)
 have hkids' : ∀ x, x ∈ kids → Nd w' x.F x.p x.t := fun x hx => (hkids x hx).keep hkp (fun _ _ _ h => h)
 have hpw := hs.ss
 rw [← List.take_append_drop (m + 1) kids, List.pairwise_append] at hpw
 have mt : ∀ {y}, y ∈ kids.take (m + 1) → y ∈ kids := fun h => List.mem_of_mem_take h
 have md : ∀ {y}, y ∈ kids.drop (m + 1) → y ∈ kids := fun h => List.mem_of_mem_drop h
 have fresh : ∀ {p : Nat} {G : Cells}, w.heap.size ≤ p → (∀ x o, G x o → F x o) → Apart (boxOf p) G := fun hp hG x o h g => by
   have h' : x = _ := h
   have := hlt _ _ (hG _ _ g)
   omega
 refine ⟨allOf pl FkL FcL (kids.take (m + 1)), allOf pr FkR FcR (kids.drop (m + 1)), ?_, ?_, ?_, ?_, ?_⟩
 · have e : (Tr.mk k (kids.map KidD.t)).leftOf = .mk (k.take m) ((kids.take (m + 1)).map KidD.t) := by rw [Tr.leftOf, ← hm, List.map_take]
   rw [e]
   exact Nd.intro bl rkL rcL (fun x hx => hkids' x (mt hx)) ⟨fresh hpl (fun x o h => sk _ _ (skL _ _ h)), fresh hpl (fun x o h => sc _ _ (scL _ _ h)), fun y hy => fresh hpl (ss y (mt hy)), hs.kc.mono skL scL, fun y hy => (hs.ks y (mt hy)).mono skL (fun _ _ h => h), fun y hy => (hs.cs y (mt hy)).mono scL (fun _ _ h => h), hpw.1⟩
 · have e : (Tr.mk k (kids.map KidD.t)).rightOf = .mk (k.drop (m + 1)) ((kids.drop (m + 1)).map KidD.t) := by rw [Tr.rightOf, ← hm, List.map_drop]
   rw [e]
   exact Nd.intro br rkR rcR (fun x hx => hkids' x (md hx)) ⟨fresh hpr (fun x o h => sk _ _ (skR _ _ h)), fresh hpr (fun x o h => sc _ _ (scR _ _ h)), fun y hy => fresh hpr (ss y (md hy)), hs.kc.mono skR scR, fun y hy => (hs.ks y (md hy)).mono skR (fun _ _ h => h), fun y hy => (hs.cs y (md hy)).mono scR (fun _ _ h => h), hpw.2.1⟩
 · rintro x o (h | h | h | ⟨y, hy, h⟩) (g | g | g | ⟨z, hz, g⟩)
   · omega
   · have := hlt _ _ (sk _ _ (skR _ _ g)); omega
   · have := hlt _ _ (sc _ _ (scR _ _ g)); omega
   · have := hlt _ _ (ss z (md hz) _ _ g); omega
   · have := hlt _ _ (sk _ _ (skL _ _ h)); omega
   · exact hkk _ _ h g
   · exact hs.kc _ _ (skL _ _ h) (scR _ _ g)
   · exact hs.ks z (md hz) _ _ (skL _ _ h) g
   · have := hlt _ _ (sc _ _ (scL _ _ h)); omega
   · exact hs.kc _ _ (skR _ _ g) (scL _ _ h)
   · exact hcc _ _ h g
   · exact hs.cs z (md hz) _ _ (scL _ _ h) g
   · have := hlt _ _ (ss y (mt hy) _ _ h); omega
   · exact hs.ks y (mt hy) _ _ (skR _ _ g) h
   · exact hs.cs y (mt hy) _ _ (scR _ _ g) h
   · exact hpw.2.2 y hy z hz _ _ h g
 · rintro x o (h | h | h | ⟨y, hy, h⟩)
   · exact .inr (by omega)
   · exact .inl (sk _ _ (skL _ _ h))
   · exact .inl (sc _ _ (scL _ _ h))
   · exact .inl (ss y (mt hy) _ _ h)
 · rintro x o (h | h | h | ⟨y, hy, h⟩)
   · exact .inr (by omega)
   · exact .inl (sk _ _ (skR _ _ h))
   · exact .inl (sc _ _ (scR _ _ h))
   · exact .inl (ss y (md hy) _ _ h)
theorem RowF.nil (w : World) : RowF w (fun _ _ => False) (.slice none 0 0) [] := ⟨fun _ _ h => h.elim, none, 0, rfl, Nat.le_refl _, by unfold maxLen; omega, fun _ => rfl, .inl rfl⟩
def Halved (w : World) (F : Cells) (t : Tr) (e : Ending) (w' : World) : Prop :=
 ∃ (pl pr : Nat) (FL FR : Cells), e = .returned (.tuple #[.pointer (some ⟨pl, 0, none⟩), .pointer (some ⟨pr, 0, none⟩)]) ∧
     Nd w' FL pl t.leftOf ∧ Nd w' FR pr t.rightOf ∧ Apart FL FR ∧ (∀ x o, FL x o → F x o ∨ w.heap.size ≤ x) ∧ (∀ x o, FR x o → F x o ∨ w.heap.size ≤ x) ∧ Below w.heap.size w w'
set_option maxRecDepth 100000 in
set_option maxHeartbeats 2000000 in
theorem halves_c (w : World) (F : Cells) (b : Nat) (k : List Int) (c : List Tr) (h : Nd w F b (.mk k c)) (hk3 : 3 ≤ k.length) (hcl : c.length = 0 ∨ c.length = k.length + 1) (hn : k.length ≤ 1048576) :
   Calls Try.prog 164 #[.pointer (some ⟨b, 0, none⟩)] w (Halved w F (.mk k c)) := by
 obtain ⟨kids, Fk, Fc, kv, cv, rfl, hbox, hkr, hcr, hkids, sb, sk, sc, ss, ap, lt⟩ := h.parts
 obtain ⟨_, ka, kcap, rfl, k1, k2, k3, k4⟩ := id hkr
 obtain ⟨_, ca, ccap, rfl, c1, c2, c3, c4⟩ := id hcr
 simp only [List.length_map] at k1 c1 hkr hcr hbox hcl
 rcases k4 with k4 | ⟨kb, ko, rfl, k5, k6⟩
 · omega
 obtain ⟨m, hm⟩ : ∃ m, m = k.length / 2 := ⟨_, rfl⟩
 have hm1 : 1 ≤ m := by omega
 have hm2 : m + 2 ≤ k.length := by omega
 have hwm : IntKind.i64.wrap ((k.length : Int).tdiv 2) = (m : Int) := by
   rw [IntWalk.i64_quo _ _ (by omega)]; omega
 have hdiv : (k.length : Int) / 2 = (m : Int) := by omega
 unfold maxLen at k2 c2
 obtain ⟨W1, hW1⟩ : ∃ W1, W1 = w.alloc (.cells #[.slice (some ⟨kb, ko, none⟩) m m, .slice none 0 0] 99) := ⟨_, rfl⟩
 have hs1 : W1.heap.size = w.heap.size + 1 := by rw [hW1]; simp
 have hb1 : Below w.heap.size w W1 := by rw [hW1]; exact (Below.refl _ _).alloc (Nat.le_refl _) _
 have kl1 : W1.heap[w.heap.size]? = some (.cells #[.slice (some ⟨kb, ko, none⟩) m m, .slice none 0 0] 99 (0, 0)) := by rw [hW1, new_blk]
 obtain ⟨W2, hW2⟩ : ∃ W2, W2 = W1.alloc (.cells #[.slice (some ⟨kb, ko + (m + 1), none⟩) (k.length - (m + 1)) (kcap - (m + 1)), .slice none 0 0] 99) := ⟨_, rfl⟩
 have hs2 : W2.heap.size = w.heap.size + 2 := by rw [hW2]; simp; omega
 have hb2 : Below w.heap.size w W2 := by rw [hW2]; exact hb1.alloc (by omega) _
 have kl2 : W2.heap[w.heap.size]? = some (.cells #[.slice (some ⟨kb, ko, none⟩) m m, .slice none 0 0] 99 (0, 0)) := by rw [hW2, old_blk _ _ _ (by omega)]; exact kl1
 have kr2 : W2.heap[w.heap.size + 1]? = some (.cells #[.slice (some ⟨kb, ko + (m + 1), none⟩) (k.length - (m + 1)) (kcap - (m + 1)), .slice none 0 0] 99 (0, 0)) := by rw [hW2, ← hs1, new_blk]
 have hblt := (Array.getElem?_eq_some_iff.1 hbox).1
 obtain ⟨x1, x2, x3, x4⟩ := box2 hbox
 have HM := Lib.hid (And.intro hm hdiv)
 have HW1 := Lib.hid hW1
 have HW2 := Lib.hid hW2
 have HS := Lib.hid (And.intro hs1 hs2)
 have HBOX := Lib.hid (And.intro hbox (And.intro hb1 (And.intro hb2 (And.intro kl2 kr2))))
 have HR := Lib.hid (And.intro hkr hcr)
 have HK := Lib.hid (And.intro hkids (And.intro sb (And.intro sk (And.intro sc (And.intro ss (And.intro ap lt))))))
 have hne : ¬ kcap = m + 1 := by omega
 have hwm1 : IntKind.i64.wrap ((m : Int) + 1) = (m : Int) + 1 := IntWalk.i64_in _ (by omega)
 have hrkL : RowF w (fun x q => x = kb ∧ ko ≤ q ∧ q < ko + m) (.slice (some ⟨kb, ko, none⟩) m m) ((k.take m).map (Value.int .i64)) := by
   have h := hkr.part (by omega) 0 m m (by omega) (by simp; omega) (by omega) (by omega)
   simpa using h
 have hrkR : RowF w (fun x q => x = kb ∧ ko + (m + 1) ≤ q ∧ q < ko + kcap) (.slice (some ⟨kb, ko + (m + 1), none⟩) (k.length - (m + 1)) (kcap - (m + 1))) ((k.drop (m + 1)).map (Value.int .i64)) := by
   have h := hkr.part (by omega) (m + 1) k.length kcap (by omega) (by simp) (by omega) (by omega)
   rwa [List.take_of_length_le (by simp), ← List.map_drop] at h
 have hskF := hkr.cellsF (by omega)
 have HROWS := Lib.hid (And.intro hrkL (And.intro hrkR hskF))
 clear hrkL hrkR hskF
 have HCA := Lib.hid (show ccap = 0 ∨ ∃ cb co, ca = some ⟨cb, co, none⟩ from c4.imp id (fun ⟨cb, co, h, _⟩ => ⟨cb, co, h⟩))
 clear k5 k6 c4 hkr hcr hkids sb sk sc ss ap lt h hm hbox k3 hW1 hW2 hs1 hs2 hb1 hb2 kl1 kl2 kr2 hdiv hwm
 rcases hcl with hc0 | hc1
 · have hc0' : ¬ ((kids.length : Int) > 0) := by omega
   go_enter Try.func164, Try.ntmps164
   go_upto_region 2 with (fail)
   rw [HM.out.2]
   go_upto_region 3 with (fail)
   rw [← HW1.out]
   clear x1 x2 x3 x4
   obtain ⟨x1, x2, x3, x4⟩ := box2 ((HBOX.out.2.1.block _ hblt).trans HBOX.out.1)
   go_upto_region 4 with (fail)
   rw [← HW2.out]
   clear x1 x2 x3 x4
   obtain ⟨x1, x2, x3, x4⟩ := box2 ((HBOX.out.2.2.1.block _ hblt).trans HBOX.out.1)
   go_wp2_with fail
   have hs1 := HS.out.1
   have hs2 := HS.out.2
   have hk0 : kids = [] := List.length_eq_zero_iff.1 hc0
   subst hk0
   have hkp : KeptF (fun _ _ => False) w W2 := KeptF.of_below HBOX.out.2.2.1 (Nat.le_refl _)
   obtain ⟨FL, FR, g1, g2, g3, g4, g5⟩ := halved_nd (b := b) (m := m) (pl := w.heap.size) (pr := W1.heap.size) (kids := []) HK.out.2.2.2.2.2.2 HK.out.2.2.1 HK.out.2.2.2.1 HK.out.2.2.2.2.1 (sep_iff.1 HK.out.2.2.2.2.2.1) HK.out.1 HBOX.out.2.2.1 HM.out.1 (Nat.le_refl _) (by omega) (by omega) HBOX.out.2.2.2.1 (by rw [hs1]; exact HBOX.out.2.2.2.2)
     (HROWS.out.1.keep hkp (fun _ _ _ h => h)) (HROWS.out.2.1.keep hkp (fun _ _ _ h => h)) (FcL := fun _ _ => False) (FcR := fun _ _ => False) (RowF.nil W2) (RowF.nil W2)
     (fun x o h => by obtain ⟨rfl, h1, h2⟩ := h; exact HROWS.out.2.2 o h1 (by omega)) (fun x o h => by obtain ⟨rfl, h1, h2⟩ := h; exact HROWS.out.2.2 o (by omega) h2) (fun _ _ h => h.elim) (fun _ _ h => h.elim) (fun x o h g => by have := h.2.2; have := g.2.1; omega) (fun _ _ h => h.elim)
   refine bodyPost_ret (v := .tuple #[.pointer (some ⟨w.heap.size, 0, none⟩), .pointer (some ⟨W1.heap.size, 0, none⟩)]) (by simp [results, Try.results164, go_sem]) rfl ⟨_, _, FL, FR, rfl, g1, g2, g3, g4, g5, HBOX.out.2.2.1⟩
 · have hc0' : ((kids.length : Int) > 0) := by omega
   go_enter Try.func164, Try.ntmps164
   go_upto_region 2 with (fail)
   rw [HM.out.2]
   go_upto_region 3 with (fail)
   rw [← HW1.out]
   clear x1 x2 x3 x4
   obtain ⟨x1, x2, x3, x4⟩ := box2 ((HBOX.out.2.1.block _ hblt).trans HBOX.out.1)
   go_upto_region 4 with (fail)
   rw [← HW2.out]
   clear x1 x2 x3 x4
   obtain ⟨x1, x2, x3, x4⟩ := box2 ((HBOX.out.2.2.1.block _ hblt).trans HBOX.out.1)
   go_upto_region 5 with (fail)
   rw [HS.out.1]
   obtain ⟨y1, y2, y3, y4⟩ := box2 HBOX.out.2.2.2.1
   obtain ⟨z1, z2, z3, z4⟩ := box2 HBOX.out.2.2.2.2
   have hca : 0 < ccap := by omega
   rcases HCA.out with hh | ⟨cb, co, rfl⟩
   · omega
   have hnc : ¬ ccap = m + 1 := by omega
   have hl1 : (m : Int) + 1 ≤ (ccap : Int) := by omega
   have hl2 : (m : Int) + 1 ≤ (kids.length : Int) := by omega
   go_region
   go_wp2_with fail
   have hs1 := HS.out.1
   have hs2 := HS.out.2
   obtain ⟨W5, hW5⟩ : ∃ W5, W5 = ((W2.setCell ⟨w.heap.size, 1, none⟩ (.slice (some ⟨cb, co, none⟩) (m + 1) (m + 1))).setCell ⟨w.heap.size + 1, 1, none⟩ (.slice (some ⟨cb, co + (m + 1), none⟩) (k.length - m) (ccap - (m + 1)))).drew := ⟨_, rfl⟩
   rw [← hW5]
   have hb5 : Below w.heap.size w W5 := by rw [hW5]; exact ((HBOX.out.2.2.1.setCell (by show w.heap.size ≤ w.heap.size; omega) _).setCell (by show w.heap.size ≤ w.heap.size + 1; omega) _).drew
   have bl5 : W5.heap[w.heap.size]? = some (.cells #[.slice (some ⟨kb, ko, none⟩) m m, .slice (some ⟨cb, co, none⟩) (m + 1) (m + 1)] 99 (0, 0)) := by
     rw [hW5]
     refine (set_other _ _ _ _ _ (by omega)).trans ?_
     exact set_blk (o := 1) _ HBOX.out.2.2.2.1
   have br5 : W5.heap[w.heap.size + 1]? = some (.cells #[.slice (some ⟨kb, ko + (m + 1), none⟩) (k.length - (m + 1)) (kcap - (m + 1)), .slice (some ⟨cb, co + (m + 1), none⟩) (k.length - m) (ccap - (m + 1))] 99 (0, 0)) := by
     rw [hW5]
     refine set_blk (o := 1) _ ((set_other _ _ _ _ _ (by omega)).trans HBOX.out.2.2.2.2)
   have hkp : KeptF (fun _ _ => False) w W5 := KeptF.of_below hb5 (Nat.le_refl _)
   have hcr := HR.out.2
   have hrcL : RowF w (fun x q => x = cb ∧ co ≤ q ∧ q < co + (m + 1)) (.slice (some ⟨cb, co, none⟩) (m + 1) (m + 1)) ((kids.take (m + 1)).map KidD.ptr) := by
     have h := hcr.part (by omega) 0 (m + 1) (m + 1) (by omega) (by simp; omega) (by omega) (by omega)
     simpa using h
   have hrcR : RowF w (fun x q => x = cb ∧ co + (m + 1) ≤ q ∧ q < co + ccap) (.slice (some ⟨cb, co + (m + 1), none⟩) (k.length - m) (ccap - (m + 1))) ((kids.drop (m + 1)).map KidD.ptr) := by
     have h := hcr.part (by omega) (m + 1) kids.length ccap (by omega) (by simp) (by omega) (by omega)
     rwa [List.take_of_length_le (by simp), ← List.map_drop, show kids.length - (m + 1) = k.length - m by omega] at h
   have hcF := hcr.cellsF (by omega)
   obtain ⟨FL, FR, g1, g2, g3, g4, g5⟩ := halved_nd (b := b) (m := m) (pl := w.heap.size) (pr := w.heap.size + 1) (kids := kids) HK.out.2.2.2.2.2.2 HK.out.2.2.1 HK.out.2.2.2.1 HK.out.2.2.2.2.1 (sep_iff.1 HK.out.2.2.2.2.2.1) HK.out.1 hb5 HM.out.1 (Nat.le_refl _) (by omega) (by omega) bl5 br5
     (HROWS.out.1.keep hkp (fun _ _ _ h => h)) (HROWS.out.2.1.keep hkp (fun _ _ _ h => h)) (hrcL.keep hkp (fun _ _ _ h => h)) (hrcR.keep hkp (fun _ _ _ h => h))
     (fun x o h => by obtain ⟨rfl, h1, h2⟩ := h; exact HROWS.out.2.2 o h1 (by omega)) (fun x o h => by obtain ⟨rfl, h1, h2⟩ := h; exact HROWS.out.2.2 o (by omega) h2)
     (fun x o h => by obtain ⟨rfl, h1, h2⟩ := h; exact hcF o h1 (by omega)) (fun x o h => by obtain ⟨rfl, h1, h2⟩ := h; exact hcF o (by omega) h2)
     (fun x o h g => by have := h.2.2; have := g.2.1; omega) (fun x o h g => by have := h.2.2; have := g.2.1; omega)
   refine bodyPost_ret (v := .tuple #[.pointer (some ⟨w.heap.size, 0, none⟩), .pointer (some ⟨w.heap.size + 1, 0, none⟩)]) (by simp [results, Try.results164, go_sem]) rfl ⟨_, _, FL, FR, rfl, g1, g2, g3, g4, g5, hb5⟩
end Go.Proofs.Ytananonjomfpkaa
