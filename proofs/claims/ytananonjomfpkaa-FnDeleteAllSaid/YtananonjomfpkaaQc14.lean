/- The contract of tree: a node's tree, in rows of the call's own. -/
import Derived.Test.YtananonjomfpkaaQc13
import Derived.ArgAppend
/- Nodes of the program, each with the cells that are its own. -/
namespace Go.Proofs.Ytananonjomfpkaa
open Go.RowKit
abbrev Cells := Nat → Nat → Prop
def boxOf (b : Nat) : Cells := fun x _ => x = b
def Apart (F G : Cells) : Prop := ∀ x o, F x o → ¬ G x o
theorem Apart.symm {F G : Cells} (h : Apart F G) : Apart G F := fun x o h1 h2 => h x o h2 h1
theorem Apart.mono {F G F' G' : Cells} (h : Apart F G) (h1 : ∀ x o, F' x o → F x o) (h2 : ∀ x o, G' x o → G x o) : Apart F' G' := fun x o a b => h x o (h1 x o a) (h2 x o b)
structure KeptF (F : Cells) (w w' : World) : Prop where
 os : w'.os = w.os
 tape : w'.tape = w.tape
 output : w'.output = w.output
 size : w.heap.size ≤ w'.heap.size
 block : ∀ k, k < w.heap.size → (∀ o, ¬ F k o) → w'.heap[k]? = w.heap[k]?
 cell : ∀ b o, b < w.heap.size → ¬ F b o → w'.cell? ⟨b, o, none⟩ = w.cell? ⟨b, o, none⟩
 frozen : ∀ b o, b < w.heap.size → w'.frozen? ⟨b, o, none⟩ = w.frozen? ⟨b, o, none⟩
 there : ∀ b o, (w.cell? ⟨b, o, none⟩).isSome = true → (w'.cell? ⟨b, o, none⟩).isSome = true
theorem lt_of_there {w : World} {b o : Nat} (h : (w.cell? ⟨b, o, none⟩).isSome = true) : b < w.heap.size := by
 obtain ⟨u, hu⟩ := Option.isSome_iff_exists.1 h
 exact World.block_lt_of_cell? w _ hu
theorem KeptF.refl (F : Cells) (w : World) : KeptF F w w := ⟨rfl, rfl, rfl, Nat.le_refl _, fun _ _ _ => rfl, fun _ _ _ _ => rfl, fun _ _ _ => rfl, fun _ _ h => h⟩
theorem KeptF.mono {F G : Cells} {w w' : World} (h : KeptF F w w') (hs : ∀ x o, x < w.heap.size → F x o → G x o) : KeptF G w w' :=
 ⟨h.os, h.tape, h.output, h.size, fun k hk hn => h.block k hk (fun o hf => hn o (hs k o hk hf)), fun b o hb hn => h.cell b o hb (fun hf => hn (hs b o hb hf)), h.frozen, h.there⟩
theorem KeptF.trans {F : Cells} {a b c : World} (h : KeptF F a b) (k : KeptF (fun x o => F x o ∨ a.heap.size ≤ x) b c) : KeptF F a c :=
 ⟨k.os.trans h.os, k.tape.trans h.tape, k.output.trans h.output, Nat.le_trans h.size k.size,
   fun i h1 h2 => (k.block i (Nat.lt_of_lt_of_le h1 h.size) (fun o hh => hh.elim (h2 o) (fun h3 => by omega))).trans (h.block i h1 h2),
   fun x o h1 h2 => (k.cell x o (Nat.lt_of_lt_of_le h1 h.size) (fun hh => hh.elim h2 (fun h3 => by omega))).trans (h.cell x o h1 h2),
   fun x o h1 => (k.frozen x o (Nat.lt_of_lt_of_le h1 h.size)).trans (h.frozen x o h1), fun x o hh => k.there x o (h.there x o hh)⟩
theorem KeptF.of_below {F : Cells} {w w' : World} {B : Nat} (h : Below B w w') (hB : w.heap.size ≤ B) : KeptF F w w' :=
 ⟨h.os, h.tape, h.output, h.size, fun k hk _ => h.block k (by omega), fun b o hb _ => h.cell (p := ⟨b, o, none⟩) (by show b < B; omega), fun b o hb => h.frozen (p := ⟨b, o, none⟩) (by show b < B; omega),
   fun b o hh => by have := lt_of_there hh; rw [h.cell (p := ⟨b, o, none⟩) (by show b < B; omega)]; exact hh⟩
theorem KeptF.below {F : Cells} {w w' : World} {B : Nat} (h : KeptF F w w') (hB : B ≤ w.heap.size) (hF : ∀ x o, F x o → B ≤ x) : Below B w w' :=
 ⟨h.os, h.tape, h.output, h.size, fun k hk => h.block k (by omega) (fun o hf => by have := hF k o hf; omega)⟩
theorem KeptF.drew (F : Cells) (w : World) : KeptF F w w.drew := ⟨rfl, rfl, rfl, Nat.le_refl _, fun _ _ _ => rfl, fun _ _ _ _ => rfl, fun _ _ _ => rfl, fun _ _ h => h⟩
theorem KeptF.alloc (F : Cells) (w : World) (o : Obj) : KeptF F w (w.alloc o) := KeptF.of_below ((Below.refl w.heap.size w).alloc (Nat.le_refl _) o) (Nat.le_refl _)
theorem KeptF.setCell {F : Cells} (w : World) (b o : Nat) (v : Value) (h : F b o) : KeptF F w (w.setCell ⟨b, o, none⟩ v) := by
 refine ⟨rfl, rfl, rfl, by simp, fun k hk hn => set_other _ _ _ _ _ (fun e => hn o (e ▸ h)), fun x q hx hn => ?_, fun x q hx => by rw [World.frozen?_setCell], fun x q hh => ?_⟩
 · exact World.cell?_setCell_other _ _ _ _ (fun e => by simp at e; obtain ⟨rfl, rfl⟩ := e; exact hn h)
 · by_cases e : b = x ∧ o = q
   · obtain ⟨rfl, rfl⟩ := e
     obtain ⟨u, hu⟩ := Option.isSome_iff_exists.1 hh
     rw [World.cell?_setCell_same _ _ _ hu]; rfl
   · rw [World.cell?_setCell_other _ _ _ _ (fun e2 => e (by simpa using e2))]; exact hh
theorem KeptF.setCells {F : Cells} (b : Nat) : ∀ (vs : List Value) (o : Nat) (w : World), (∀ j, j < vs.length → F b (o + j)) → KeptF F w (w.setCells b o vs)
 | [], _, w, _ => KeptF.refl _ _
 | v :: r, o, w, h => by
   refine (KeptF.setCell w b o v (h 0 (by simp))).trans ((KeptF.setCells b r (o + 1) _ (fun j hj => ?_)).mono (fun x o _ hh => .inl hh))
   have := h (j + 1) (by simp; omega)
   rwa [show o + (j + 1) = o + 1 + j by omega] at this
def RowF (w : World) (F : Cells) (v : Value) (xs : List Value) : Prop :=
 (∀ x q, F x q → x < w.heap.size) ∧ ∃ (a : Option Addr) (cap : Nat), v = .slice a xs.length cap ∧ xs.length ≤ cap ∧ cap ≤ maxLen ∧ (a = none → cap = 0) ∧
   (cap = 0 ∨ ∃ b o, a = some ⟨b, o, none⟩ ∧ (∀ i, i < cap → F b (o + i) ∧ (w.cell? ⟨b, o + i, none⟩).isSome = true ∧ w.frozen? ⟨b, o + i, none⟩ = false) ∧
     ∀ i (h : i < xs.length), w.cell? ⟨b, o + i, none⟩ = some xs[i])
theorem RowF.keep {w w' : World} {F G : Cells} {v : Value} {xs : List Value} (h : RowF w F v xs) (hk : KeptF G w w') (ha : Apart F G) : RowF w' F v xs := by
 obtain ⟨hlt, a, cap, hv, h1, h2, h3, h4⟩ := h
 refine ⟨fun x q h => Nat.lt_of_lt_of_le (hlt x q h) hk.size, a, cap, hv, h1, h2, h3, ?_⟩
 rcases h4 with h4 | ⟨b, o, h5, h6, h7⟩
 · exact .inl h4
 · refine .inr ⟨b, o, h5, fun i hi => ?_, fun i hi => ?_⟩
   · obtain ⟨g1, g2, g3⟩ := h6 i hi
     exact ⟨g1, hk.there _ _ g2, (hk.frozen _ _ (lt_of_there g2)).trans g3⟩
   · obtain ⟨g1, g2, g3⟩ := h6 i (by omega)
     rw [hk.cell _ _ (lt_of_there g2) (ha _ _ g1)]
     exact h7 i hi
theorem RowF.shown {w : World} {F : Cells} {v : Value} {xs : List Value} (h : RowF w F v xs) : ∃ a c, v = .slice a xs.length c := by
 obtain ⟨_, a, cap, hv, _⟩ := h
 exact ⟨a, cap, hv⟩
theorem RowF.of_owns {w : World} {base : Nat} {e : TypeId} {v : Value} {n : Nat} {xs : List Value} (h : w.ownsRow base e 1 v n xs) : RowF w (fun x _ => v.ownBlock = some x) v xs := by
 have h0 := h
 refine ⟨fun x q hq => (h0.lt x hq).2, ?_⟩
 obtain ⟨h1, ⟨h2, h3⟩ | ⟨g, cap, cur, hv, hb, hg, hn, hm, hs, ht⟩⟩ := h
 · subst h3
   have : xs = [] := by cases xs with | nil => rfl | cons a r => simp at h1
   subst this
   exact ⟨none, 0, h2, by simp, by unfold maxLen; omega, fun _ => rfl, .inl rfl⟩
 · subst hv
   have hxn : xs.length = n := by simpa using h1
   refine ⟨_, cap, by rw [hxn], by omega, hm, by simp, .inr ⟨g, 0, rfl, fun i hi => ⟨rfl, ?_, ?_⟩, fun i hi => ?_⟩⟩
   · have : i < cur.size := by omega
     simp [World.cell?, hg, this]
   · simp [World.frozen?, hg]
   · rw [Nat.zero_add, World.ownsRow.cellAt h0 i (by omega)]
     simp [hi]
structure KidD where
 p : Nat
 F : Cells
 t : Tr
def KidD.ptr (x : KidD) : Value := .pointer (some ⟨x.p, 0, none⟩)
inductive Nd (w : World) : Cells → Nat → Tr → Prop where
 | mk (ks : List Int) (kids : List KidD) (F Fk Fc : Cells) (b : Nat) (kv cv : Value)
     (hbox : w.heap[b]? = some (.cells #[kv, cv] 99 (0, 0)))
     (hk : RowF w Fk kv (ks.map (Value.int .i64))) (hc : RowF w Fc cv (kids.map KidD.ptr))
     (hkids : ∀ x, x ∈ kids → Nd w x.F x.p x.t)
     (sb : ∀ o, F b o) (sk : ∀ x o, Fk x o → F x o) (sc : ∀ x o, Fc x o → F x o) (ss : ∀ y, y ∈ kids → ∀ x o, y.F x o → F x o)
     (ap : (boxOf b :: Fk :: Fc :: kids.map KidD.F).Pairwise Apart) (lt : ∀ x o, F x o → x < w.heap.size) : Nd w F b (.mk ks (kids.map KidD.t))
theorem Nd.keep {w w' : World} {F G : Cells} {b : Nat} {t : Tr} (h : Nd w F b t) (hk : KeptF G w w') (ha : Apart F G) : Nd w' F b t := by
 induction h with
 | mk ks kids F Fk Fc b kv cv hbox hkr hc hkids sb sk sc ss ap lt ih =>
   exact .mk ks kids F Fk Fc b kv cv ((hk.block b (Array.getElem?_eq_some_iff.1 hbox).1 (fun o => ha b o (sb o))).trans hbox)
     (hkr.keep hk (ha.mono sk (fun _ _ h => h))) (hc.keep hk (ha.mono sc (fun _ _ h => h))) (fun x hx => ih x hx (ha.mono (ss x hx) (fun _ _ h => h))) sb sk sc ss ap (fun x o h => Nat.lt_of_lt_of_le (lt x o h) hk.size)
theorem Nd.mono {w : World} {F G : Cells} {b : Nat} {t : Tr} (h : Nd w F b t) (hs : ∀ x o, F x o → G x o) (hl : ∀ x o, G x o → x < w.heap.size) : Nd w G b t := by
 cases h with
 | mk ks kids F Fk Fc b kv cv hbox hkr hc hkids sb sk sc ss ap lt =>
   exact .mk ks kids G Fk Fc b kv cv hbox hkr hc hkids (fun o => hs _ _ (sb o)) (fun x o h => hs _ _ (sk x o h)) (fun x o h => hs _ _ (sc x o h)) (fun y hy x o h => hs _ _ (ss y hy x o h)) ap hl
theorem Nd.parts {w : World} {F : Cells} {b : Nat} {ks : List Int} {cs : List Tr} (h : Nd w F b (.mk ks cs)) : ∃ (kids : List KidD) (Fk Fc : Cells) (kv cv : Value), cs = kids.map KidD.t ∧
   w.heap[b]? = some (.cells #[kv, cv] 99 (0, 0)) ∧ RowF w Fk kv (ks.map (Value.int .i64)) ∧ RowF w Fc cv (kids.map KidD.ptr) ∧ (∀ x, x ∈ kids → Nd w x.F x.p x.t) ∧
   (∀ o, F b o) ∧ (∀ x o, Fk x o → F x o) ∧ (∀ x o, Fc x o → F x o) ∧ (∀ y, y ∈ kids → ∀ x o, y.F x o → F x o) ∧ (boxOf b :: Fk :: Fc :: kids.map KidD.F).Pairwise Apart ∧ (∀ x o, F x o → x < w.heap.size) := by
 cases h with
 | mk _ kids _ Fk Fc _ kv cv hbox hkr hc hkids sb sk sc ss ap lt => exact ⟨kids, Fk, Fc, kv, cv, rfl, hbox, hkr, hc, hkids, sb, sk, sc, ss, ap, lt⟩
theorem Nd.nodeAt {w : World} {F : Cells} {b : Nat} {t : Tr} (h : Nd w F b t) : NodeAt w 0 w.heap.size b t := by
 induction h with
 | mk ks kids F Fk Fc b kv cv hbox hkr hc hkids sb sk sc ss ap lt ih =>
   obtain ⟨_, a, cap, rfl, h1, h2, h3, h4⟩ := hc
   obtain ⟨_, ka, kcap, rfl, k1, k2, k3, k4⟩ := hkr
   rw [List.length_map] at h1
   have e1 : (kids.map KidD.ptr).length = (kids.map KidD.t).length := by simp
   refine .mk ks (kids.map KidD.t) b _ a cap (fun i => (kids.map KidD.p).getD i 0) (Nat.zero_le _) (Array.getElem?_eq_some_iff.1 hbox).1 (by rw [← e1]; exact hbox) ⟨ka, kcap, by simp, by simpa using k1, k2, k3, ?_⟩ (by simpa using h1) h2 ?_ (fun i hi => ?_)
   · rcases k4 with k4 | ⟨kb, ko, rfl, g1, g2⟩
     · subst k4
       simp at k1
       exact .inl k1
     · by_cases hks : ks = []
       · exact .inl hks
       · have hpos : 0 < ks.length := by cases ks <;> simp_all
         refine .inr ⟨kb, ko, rfl, Nat.zero_le _, lt_of_there (o := ko + 0) (g1 0 (by simp at k1; omega)).2.1, fun i hi => ?_⟩
         rw [g2 i (by simpa using hi)]
         simp [hi]
   · rcases h4 with h4 | ⟨cb, co, rfl, g1, g2⟩
     · left; simp; have : kids.length = 0 := by omega
       exact List.length_eq_zero_iff.1 this
     · by_cases hks : kids = []
       · left; simp [hks]
       · have hpos : 0 < kids.length := by cases kids <;> simp_all
         refine .inr ⟨cb, co, rfl, Nat.zero_le _, lt_of_there (o := co + 0) (g1 0 (by omega)).2.1, fun i hi => ?_⟩
         rw [g2 i (by simpa using hi)]
         simp at hi
         simp [hi, KidD.ptr]
   · simp at hi
     have := ih kids[i] (List.getElem_mem hi)
     simpa [hi] using this
end Go.Proofs.Ytananonjomfpkaa
/- The contract of tree: a node's tree, in rows of the call's own. -/
namespace Go.Proofs.Ytananonjomfpkaa
open Go.RowKit
theorem rowF_ints {w : World} {F : Cells} {v : Value} {k : List Int} (h : RowF w F v (k.map (Value.int .i64))) : IntsAt w v k := by
 obtain ⟨_, ka, kcap, rfl, k1, k2, k3, k4⟩ := h
 refine ⟨ka, kcap, by simp, k3, ?_⟩
 rcases k4 with k4 | ⟨kb, ko, rfl, g1, g2⟩
 · subst k4
   simp at k1
   exact .inl k1
 · refine .inr ⟨kb, ko, rfl, fun i hi => ?_⟩
   rw [g2 i (by simpa using hi)]
   simp [hi]
theorem treeO_step {wr w6 w7 : World} {lo bt j rc gg cap7 : Nat} {kv xk xc : Value} {ra : Option Addr} {ks : List Int} {cs : List Tr} {kids : List KidO} {P Q : Blocks}
   (hbox : wr.heap[bt]? = some (.cells #[kv, .slice ra j rc] 26 (0, 0))) (hj : j < cs.length) (hkt : cs.take j = kids.map KidO.t) (hlo : lo ≤ bt)
   (htr : TreeO wr lo P kv (.slice ra j rc) (.mk ks (cs.take j))) (hP : ¬ P bt)
   (hn : TreeO w6 wr.heap.size Q xk xc cs[j]) (h6 : Below wr.heap.size wr w6)
   (hpar : IntsOwn wr lo kv ks ∧ (∀ x, x ∈ kids → TreeO wr lo x.P x.kv x.cv x.t) ∧ (∀ b, ownB kv b → P b) ∧ (∀ b, ownB (.slice ra j rc) b → P b) ∧ (∀ x, x ∈ kids → ∀ b, x.P b → P b) ∧ (ownB kv :: ownB (.slice ra j rc) :: kids.map KidO.P).Pairwise ApartB ∧ (∀ b, P b → lo ≤ b ∧ b < wr.heap.size))
   (hown : w7.ownsRow lo 26 2 (.slice (some ⟨gg, 0, none⟩) (j + 1) cap7) (j + 1) (flatT (kids.map KidO.pair) ++ [xk, xc]))
   (hg : (w6.alloc (.cells #[xk, xc] 26)).grownBy w7 (Value.slice ra j rc).ownBlock)
   (hat : (Value.slice ra j rc).ownBlock = some gg ∨ gg = w6.heap.size + 1) :
   ∃ P' : Blocks, (w7.setCell ⟨bt, 1, none⟩ (.slice (some ⟨gg, 0, none⟩) (j + 1) cap7)).heap[bt]? = some (.cells #[kv, .slice (some ⟨gg, 0, none⟩) (j + 1) cap7] 26 (0, 0)) ∧
     TreeO (w7.setCell ⟨bt, 1, none⟩ (.slice (some ⟨gg, 0, none⟩) (j + 1) cap7)) lo P' kv (.slice (some ⟨gg, 0, none⟩) (j + 1) cap7) (.mk ks (cs.take (j + 1))) ∧ ¬ P' bt ∧
     Below lo wr (w7.setCell ⟨bt, 1, none⟩ (.slice (some ⟨gg, 0, none⟩) (j + 1) cap7)) := by
 obtain ⟨hk, hkids, sk, sc, ss, ap, lt⟩ := hpar
 have hbt : bt < wr.heap.size := (Array.getElem?_eq_some_iff.1 hbox).1
 have hsz6 : wr.heap.size ≤ w6.heap.size := h6.size
 have hsz7 : w6.heap.size + 1 ≤ w7.heap.size := by have := hg.size; simpa using this
 obtain ⟨wf, hwf⟩ : ∃ wf, wf = w7.setCell ⟨bt, 1, none⟩ (.slice (some ⟨gg, 0, none⟩) (j + 1) cap7) := ⟨_, rfl⟩
 have hsf : wf.heap.size = w7.heap.size := by rw [hwf]; simp
 have own : ∀ k, (Value.slice ra j rc).ownBlock = some k → P k := fun k h => sc k h
 have old6 : ∀ k, k < w6.heap.size → (Value.slice ra j rc).ownBlock ≠ some k → w7.heap[k]? = w6.heap[k]? := fun k h1 h3 => by
   rw [hg.block k (by simp; omega) (fun e => h3 e.symm), old_blk _ _ _ h1]
 have old6f : ∀ k, k < w6.heap.size → k ≠ bt → (Value.slice ra j rc).ownBlock ≠ some k → wf.heap[k]? = w6.heap[k]? := fun k h1 h2 h3 => by
   rw [hwf, set_other _ _ _ _ _ h2, old6 k h1 h3]
 have hbox' : wf.heap[bt]? = some (.cells #[kv, .slice (some ⟨gg, 0, none⟩) (j + 1) cap7] 26 (0, 0)) := by
   have h1 : w7.heap[bt]? = some (.cells #[kv, .slice ra j rc] 26 (0, 0)) := ((old6 bt (by omega) (fun e => hP (own _ e))).trans (h6.block bt hbt)).trans hbox
   rw [hwf]; exact set_blk _ h1
 have hrow : TreesOwn wf lo (.slice (some ⟨gg, 0, none⟩) (j + 1) cap7) (kids.map KidO.pair ++ [(xk, xc)]) := by
   have hl : (kids.map KidO.pair ++ [(xk, xc)]).length = j + 1 := by
     have := congrArg List.length hkt
     simp at this ⊢
     omega
   unfold TreesOwn
   rw [hl, flatT_append]
   refine ownsRow_held (by simpa [flatT] using hown) (fun k e => ?_)
   have e' : gg = k := by simpa [Value.ownBlock] using e
   rw [hwf, set_other _ _ _ _ _ (fun e2 => ?_)]
   subst e'; subst e2
   rcases hat with h | h
   · exact hP (own _ h)
   · omega
 have hpush := TreeO.push (w' := wf) (u := cs[j]) hk hkids sk sc ss ap lt (by omega)
   (fun b h1 h2 => (old6f b (by have := (lt b h1).2; omega) (fun e => hP (e ▸ h1)) h2).trans (h6.block b (lt b h1).2))
   ((hn.same (w' := wf) (by omega) (fun b h => old6f b (hn.lt b h).2 (by have := (hn.lt b h).1; omega) (fun e => by have := (lt b (own b e)).2; have := (hn.lt b h).1; omega))).lower (by omega)) (fun b h => (hn.lt b h).1) hrow
   (fun b h => by
     have e' : gg = b := by simpa [ownB, Value.ownBlock] using h
     subst e'
     rcases hat with h2 | h2
     · exact .inl h2
     · exact .inr ⟨by omega, fun hq => by have := (hn.lt _ hq).2; omega⟩)
 rw [← hkt, List.take_append_getElem] at hpush
 rw [← hwf]
 refine ⟨_, hbox', hpush.1, fun h => ?_, ?_, ?_, ?_, by omega, fun k hk => ?_⟩
 · rcases hpush.2 bt h with h | h
   · exact hP h
   · omega
 · rw [hwf]; exact hg.os.trans h6.os
 · rw [hwf]; exact hg.tape.trans h6.tape
 · rw [hwf]; exact hg.output.trans h6.output
 · exact (old6f k (by omega) (by omega) (fun e => by have := (lt k (own k e)).1; omega)).trans (h6.block k (by omega))
set_option maxRecDepth 100000 in
set_option maxHeartbeats 2000000 in
theorem tree_c {w : World} {F : Cells} {b : Nat} {t : Tr} (ht : Nd w F b t) (hw : t.weight ≤ 1048576) :
   ∀ w', Below w.heap.size w w' →
   Calls Try.prog 56 #[.pointer (some ⟨b, 0, none⟩)] w' fun e w'' => ∃ kv cv P, e = .returned (.agg #[kv, cv]) ∧ TreeO w'' w'.heap.size P kv cv t ∧ Below w'.heap.size w' w'' := by
 induction ht with
 | mk ks kds F Fk Fc b kv cv hbox hkr hcr hkids sb sk sc ss ap lt ih =>
   intro w' hbw
   obtain ⟨i0, hi0, hz0, hz1, hz2⟩ := info_parts Try.infoTree
   simp only [Tr.weight] at hw
   obtain ⟨cs, hcs⟩ : ∃ cs, cs = kds.map KidD.t := ⟨_, rfl⟩
   rw [← hcs] at hw ⊢
   have hcl : cs.length = kds.length := by rw [hcs]; simp
   have hl0 := Tr.length_le_weights cs
   have hB := hbw.size
   have hblt : b < w.heap.size := (Array.getElem?_eq_some_iff.1 hbox).1
   have hka := rowF_ints (hkr.keep (KeptF.of_below (F := fun _ _ => False) hbw (Nat.le_refl _)) (fun _ _ _ h => h))
   have hcr' := hcr.keep (KeptF.of_below (F := fun _ _ => False) hbw (Nat.le_refl _)) (fun _ _ _ h => h)
   have hbox' := (hbw.block b hblt).trans hbox
   obtain ⟨_, ca, ccap, rfl, c1, c2, c3, c4⟩ := hcr'
   rw [List.length_map, ← hcl] at c1 hbox'
   have hat : ∀ (i : Nat) (h : i < cs.length), ∃ (cb co : Nat) (p : Nat), ca = some ⟨cb, co, none⟩ ∧ cb < w'.heap.size ∧ w'.cell? ⟨cb, co + i, none⟩ = some (.pointer (some ⟨p, 0, none⟩)) ∧
       ∀ w2, Below w.heap.size w w2 → Calls Try.prog 56 #[.pointer (some ⟨p, 0, none⟩)] w2 fun e w3 => ∃ kv cv P, e = .returned (.agg #[kv, cv]) ∧ TreeO w3 w2.heap.size P kv cv cs[i] ∧ Below w2.heap.size w2 w3 := fun i hi => by
     have hi' : i < kds.length := by omega
     rcases c4 with h | ⟨cb, co, rfl, g1, g2⟩
     · omega
     · have hx := g2 i (by simpa using hi')
       have hwt := Tr.weight_get_le cs i hi
       have he : cs[i] = kds[i].t := by simp [hcs]
       refine ⟨cb, co, kds[i].p, rfl, lt_of_there (o := co + i) (by rw [hx]; rfl), by rw [hx]; simp [KidD.ptr], ?_⟩
       rw [he] at hwt ⊢
       exact ih kds[i] (List.getElem_mem hi') (by omega)
   have hka0 := hka
   obtain ⟨ka, kcp, hkv, -⟩ := hka0
   subst hkv
   have HAT := Lib.hid hat
   have HKA := Lib.hid hka
   have HBW := Lib.hid hbw
   obtain ⟨W1, hW1⟩ : ∃ W1, W1 = w'.alloc (.cells #[.slice none 0 0, .slice none 0 0] 26) := ⟨_, rfl⟩
   have hs1 : W1.heap.size = w'.heap.size + 1 := by rw [hW1]; simp
   have hb1 : Below w'.heap.size w' W1 := by rw [hW1]; exact (Below.refl _ _).alloc (Nat.le_refl _) _
   have kb : W1.heap[w'.heap.size]? = some (.cells #[.slice none 0 0, .slice none 0 0] 26 (0, 0)) := by rw [hW1, new_blk]
   have nb : W1.heap[b]? = some (.cells #[.slice ka ks.length kcp, .slice ca cs.length ccap] 99 (0, 0)) := (hb1.block b (by omega)).trans hbox'
   have hcl1 := clone_c W1 (ks := ks) (v := .slice ka ks.length kcp) (by
     obtain ⟨a, cap, e1, e2, e3⟩ := hka
     refine ⟨a, cap, e1, e2, ?_⟩
     rcases e3 with e3 | ⟨kb, ko, e4, e5⟩
     · exact .inl e3
     · exact .inr ⟨kb, ko, e4, fun i hi => by rw [below_cell hb1 (World.block_lt_of_cell? w' _ (e5 i hi))]; exact e5 i hi⟩) (by omega)
   have HCL := Lib.hid hcl1
   have HW1 := Lib.hid hW1
   have HB1 := Lib.hid (And.intro hb1 (And.intro kb nb))
   have nbx := nb
   rw [hW1] at nbx
   obtain ⟨x1, x2, x3, x4⟩ := box2 nbx
   clear hcl nbx hbox hkr hcr hkids sb sk sc ss ap lt ih hbw hka hbox' c4 hat hcl1 hW1 hb1 kb nb hcs
   go_enter Try.func56, Try.ntmps56
   go_wp2_with fail
   rw [← HW1.out]
   refine HCL.out.mono ?_
   rintro e w2 ⟨v2, rfl, hown2, hb2⟩
   obtain ⟨a2, q2, rfl⟩ := hown2.shown
   have nb2 := (hb2.block b (by omega)).trans HB1.out.2.2
   clear x1 x2 x3 x4
   obtain ⟨x1, x2, x3, x4⟩ := box2 nb2
   have hs2 := hb2.size
   have hb2' := HB1.out.1.trans (hb2.mono (by omega))
   obtain ⟨y1, y2, y3, y4⟩ := box2 ((old_blk w2 (.cells #[.slice a2 ks.length q2, .slice none 0 0] 26) _ (by omega)).trans nb2)
   obtain ⟨W3, hW3⟩ : ∃ W3, W3 = w2.alloc (.cells #[.slice a2 ks.length q2, .slice none 0 0] 26) := ⟨_, rfl⟩
   have hs3 : W3.heap.size = w2.heap.size + 1 := by rw [hW3]; simp
   have hb3 : Below w2.heap.size w2 W3 := by rw [hW3]; exact (Below.refl _ _).alloc (Nat.le_refl _) _
   have hbx3 : W3.heap[w2.heap.size]? = some (.cells #[.slice a2 ks.length q2, .slice none 0 0] 26 (0, 0)) := by rw [hW3, new_blk]
   have htr3 : TreeO W3 (w'.heap.size + 1) (fun x => ownB (.slice a2 ks.length q2) x) (.slice a2 ks.length q2) (.slice none 0 0) (.mk ks (cs.take 0)) := by
     refine .mk ks [] _ _ _ (ownsRow_held (IntsOwn.lower hown2 (by omega)) (fun k e => hb3.block k (hown2.lt k e).2)) ⟨rfl, .inl ⟨rfl, rfl⟩⟩ (fun x h => by cases h) (fun b h => h) (fun b h => by cases h) (fun x h => by cases h) ?_ (fun q e => ⟨by have := (hown2.lt q e).1; omega, by have := (hown2.lt q e).2; omega⟩)
     exact List.pairwise_cons.2 ⟨fun R hR b _ h => (by simp at hR; subst hR; cases h), List.pairwise_cons.2 ⟨fun _ h => (by cases h), List.Pairwise.nil⟩⟩
   have H0 := Lib.hid (And.intro hbx3 (And.intro htr3 (show ¬ ownB (.slice a2 ks.length q2) w2.heap.size from fun e => by have := (hown2.lt _ e).2; omega)))
   have HB3 := Lib.hid (Below.trans (hb2.mono (show w'.heap.size + 1 ≤ W1.heap.size by omega)) (hb3.mono (by omega)))
   have HW3 := Lib.hid hW3
   clear hb2 hb2' hown2 nb2 hb3 hbx3 htr3 hW3
   go_wp2_with fail
   rw [← HW3.out]
   clear x1 x2 x3 x4 y1 y2 y3 y4
   go_loopw [18] (fun i wr => ∃ (j : Nat) (vk : Value) (P : Blocks), j ≤ cs.length ∧ i = .int .i64 j ∧ wr.heap[w2.heap.size]? = some (.cells #[.slice a2 ks.length q2, vk] 26 (0, 0)) ∧ TreeO wr (w'.heap.size + 1) P (.slice a2 ks.length q2) vk (.mk ks (cs.take j)) ∧ ¬ P w2.heap.size ∧ Below (w'.heap.size + 1) W1 wr) (fun i _ => cs.length - (intOf i).toNat)
   case atStart => exact ⟨0, _, _, Nat.zero_le _, rfl, H0.out.1, H0.out.2.1, H0.out.2.2, HB3.out⟩
   case round =>
     obtain ⟨j, vk, P, hj, rfl, hbx, htr, hP, hbel1⟩ := hrel
     have hbel : Below w'.heap.size w' wr := HB1.out.1.trans (hbel1.mono (by omega))
     by_cases hlt : j < cs.length
     · obtain ⟨cb, co, p, rfl, hcb, hcell, hcall⟩ := HAT.out j hlt
       have hcell' : wr.cell? ⟨cb, co + j, none⟩ = some (.pointer (some ⟨p, 0, none⟩)) := by rw [below_cell hbel (by omega)]; exact hcell
       obtain ⟨kids, hkt, hpk, hpc, hpx, psk, psc, pss, pap, plt⟩ := htr.parts
       have hlk : kids.length = j := by
         have := congrArg List.length hkt
         simp at this
         omega
       obtain ⟨ra, rc, hvk⟩ := TreesOwn.shown hpc
       rw [List.length_map, hlk] at hvk
       subst hvk
       have hrow : wr.ownsRow (w'.heap.size + 1) 26 2 (.slice ra j rc) j (flatT (kids.map KidO.pair)) := by
         have h := hpc
         unfold TreesOwn at h
         rw [List.length_map, hlk] at h
         exact h
       have hcl := hcall wr (HBW.out.trans (hbel.mono hB))
       have hszr := hbel.size
       have hlt2 : w2.heap.size < wr.heap.size := (Array.getElem?_eq_some_iff.1 hbx).1
       have ne1 : some w2.heap.size ≠ (Value.slice ra j rc).ownBlock := fun e => hP (psc _ e.symm)
       obtain ⟨u1, u2, u3, u4⟩ := box2 hbx
       have NE1 := Lib.hid ne1
       have HCALL := Lib.hid (hcall wr.drew (HBW.out.trans ((hbel.mono hB).drew)))
       have HPAR := Lib.hid (And.intro hpk (And.intro hpx (And.intro psk (And.intro psc (And.intro pss (And.intro pap plt))))))
       have HTR := Lib.hid (And.intro hbx (And.intro hkt (And.intro htr hP)))
       have HROW := Lib.hid hrow
       have HBEL := Lib.hid hbel1
       clear hbel1 hcell hcall hkt hpk hpc hpx psk psc pss pap plt hrow hcl ne1 hbx htr hP hbel
       go_wp2_with fail
       go_region_law
         (first
           | ((refine step_append_lies _ (by rfl) _ _ _ (by rfl) (w'.heap.size + 1) 26 i0 _ 2 48 Try.underlying24 hi0 hz0 hz1 hz2 rfl (by omega) _ j _ (by rfl) (H6.out.2.2.2.alloc _) ⟨w6.heap.size, 0, none⟩ 1 1 [.slice p1 p2 p3, .slice p4 p5 p6] (by rfl) (by rfl) (World.news_of_block (cs := #[.slice p1 p2 p3, .slice p4 p5 p6]) (t := 26) (fr := (0, 0)) (heap_alloc_new w6 _)) (by simp [Value.oneCell']) (by omega) (by unfold maxLen; omega) (by omega) (by simp; omega) (w6.heap.size + 1) (by simp) ?_; intro gg cap7 w7 hown7 hgrow7 hat7 hlt7; have v7c := (hgrow7.cell_far ⟨w2.heap.size, 1, none⟩ (by simp; omega) NE1.out).trans t2; have v7f := (hgrow7.frozen_far ⟨w2.heap.size, 1, none⟩ (by simp; omega) NE1.out).trans t4; have H7 := Lib.hid (And.intro hown7 (And.intro hgrow7 hat7)); clear hown7 hgrow7 hat7))
           | (go_simp; go_at_call 56; refine HCALL.out.mono ?_; rintro e w6 ⟨xk, xc, Q, rfl, htr6, hb6⟩; obtain ⟨p1, p2, p3, p4, p5, p6, rfl, rfl⟩ := htr6.tree.slices; have hs6 : wr.heap.size ≤ w6.heap.size := hb6.size; have j6 := (hb6.block w2.heap.size (by simp; omega)).trans HTR.out.1; obtain ⟨z1, z2, z3, z4⟩ := box2 j6; obtain ⟨t1, t2, t3, t4⟩ := box2 ((old_blk w6 (.cells #[.slice p1 p2 p3, .slice p4 p5 p6] 26) _ (by omega)).trans j6); have hr6 := ownsRow_same HROW.out (fun k h1 h2 => hb6.block k (by simp; omega)); have H6 := Lib.hid (And.intro htr6 (And.intro hb6 (And.intro j6 hr6))); clear htr6 hb6 j6 hr6))
       all_goals (
         go_wp2_with fail
         go_roundw
         case rel =>
           obtain ⟨P', g1, g2, g3, g4⟩ := treeO_step HTR.out.1 hlt HTR.out.2.1 (by omega) HTR.out.2.2.1 HTR.out.2.2.2 H6.out.1 (below_undrew H6.out.2.1) HPAR.out H7.out.1 H7.out.2.1 H7.out.2.2
           exact ⟨j + 1, _, P', by omega, by go_num, g1, g2, g3, HBEL.out.trans g4⟩
         case measure => simp [intOf]; omega)
     · obtain rfl : j = cs.length := by omega
       rw [List.take_length] at htr
       obtain ⟨_, _, va, vc, -, rfl⟩ := htr.shown
       have hrb := (hbel1.block w'.heap.size (by omega)).trans HB1.out.2.1
       obtain ⟨u1, u2, u3, u4⟩ := box2 hbx
       obtain ⟨r1, r2, r3, r4⟩ := box2 hrb
       have hszr := hbel.size
       have HTR := Lib.hid htr
       have HBEL := Lib.hid hbel
       have HRB := Lib.hid hrb
       clear htr hbel hbel1 hbx hrb
       go_wp2_with fail
       obtain ⟨wf, hwf⟩ : ∃ wf, wf = (wr.setCell ⟨w'.heap.size, 0, none⟩ (.slice a2 ks.length q2)).setCell ⟨w'.heap.size, 1, none⟩ (.slice va cs.length vc) := ⟨_, rfl⟩
       have hfb : wf.heap[w'.heap.size]? = some (.cells #[.slice a2 ks.length q2, .slice va cs.length vc] 26 (0, 0)) := by
         rw [hwf]; exact set_blk (o := 1) _ (set_blk (o := 0) _ HRB.out)
       obtain ⟨d1, d2, d3, d4⟩ := box2 hfb
       rw [← hwf]
       refine bodyPost_ret (v := .agg #[.slice a2 ks.length q2, .slice va cs.length vc]) (by simp [results, Try.results56, go_sem, d1, d2]) rfl ⟨_, _, P, rfl, ?_, ?_⟩
       · exact (HTR.out.same (w' := wf) (by rw [hwf]; simp) (fun q e => by have := (HTR.out.lt q e).1; rw [hwf, set_other _ _ _ _ _ (by omega), set_other _ _ _ _ _ (by omega)])).lower (by omega)
       · rw [hwf]; exact (HBEL.out.setCell (by show w'.heap.size ≤ w'.heap.size; omega) _).setCell (by show w'.heap.size ≤ w'.heap.size; omega) _
end Go.Proofs.Ytananonjomfpkaa
