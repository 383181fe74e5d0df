/- Finding: what the planting of a tree and the making of the iterator over the way down leave. -/
import Derived.Test.YtananonjomfpkaaQg2
import Derived.Deep.AppendLies
import Derived.Lib.SliceRun
/- Appends onto a slice of trees of the call's own; slices of trees that can be read. -/
namespace Go.Proofs.Ytananonjomfpkaa
open Go.RowKit
def flatT (K : List (Value × Value)) : List Value := K.flatMap (fun p => [p.1, p.2])
theorem flatT_length (K : List (Value × Value)) : (flatT K).length = K.length * 2 := by
 induction K with
 | nil => rfl
 | cons p r ih => simp [flatT] at ih ⊢; omega
theorem flatT_append (K M : List (Value × Value)) : flatT (K ++ M) = flatT K ++ flatT M := by simp [flatT]
theorem flatT_get (K : List (Value × Value)) (i : Nat) (h : i < K.length) : (flatT K)[i * 2]? = some K[i].1 ∧ (flatT K)[i * 2 + 1]? = some K[i].2 := by
 induction K generalizing i with
 | nil => simp at h
 | cons p r ih =>
   cases i with
   | zero => simp [flatT]
   | succ i =>
     have := ih i (by simpa using h)
     rw [show (i + 1) * 2 = i * 2 + 1 + 1 by omega]
     simpa [flatT] using this
theorem flatT_drop (K : List (Value × Value)) (i : Nat) : flatT (K.drop i) = (flatT K).drop (i * 2) := by
 induction K generalizing i with
 | nil => simp [flatT]
 | cons p r ih =>
   cases i with
   | zero => simp
   | succ i =>
     rw [show (i + 1) * 2 = i * 2 + 1 + 1 by omega]
     simpa [flatT] using ih i
theorem flatT_take (K : List (Value × Value)) (i : Nat) : flatT (K.take i) = (flatT K).take (i * 2) := by
 induction K generalizing i with
 | nil => simp [flatT]
 | cons p r ih =>
   cases i with
   | zero => simp [flatT]
   | succ i =>
     rw [show (i + 1) * 2 = i * 2 + 1 + 1 by omega]
     simpa [flatT] using ih i
def KidsAt (w : World) (v : Value) (K : List (Value × Value)) : Prop :=
 ∃ (a : Option Addr) (cap : Nat), v = .slice a K.length cap ∧ (a = none → cap = 0) ∧
   (K = [] ∨ ∃ b o, a = some ⟨b, o, none⟩ ∧ ∀ j u, (flatT K)[j]? = some u → w.cell? ⟨b, o + j, none⟩ = some u)
abbrev TreesOwn (w : World) (lo : Nat) (v : Value) (K : List (Value × Value)) : Prop := w.ownsRow lo 26 2 v K.length (flatT K)
theorem TreesOwn.shown {w : World} {lo : Nat} {v : Value} {K : List (Value × Value)} (h : TreesOwn w lo v K) : ∃ a c, v = .slice a K.length c := by
 obtain ⟨h1, ⟨h2, h3⟩ | ⟨g, cap, cur, hv, hbb, hr⟩⟩ := h
 · exact ⟨_, _, by rw [h2, h3]⟩
 · exact ⟨_, _, hv⟩
theorem wpList_append_trees {w : World} {ops : Array Oper} {rest : List Oper} {o : Oper} {a : Act} {Q : Exit → Act → World → Prop} (hgd : o.guard = none) (s x : Operand)
   (ho : o.op = .call { callee := .builtin .append, args := #[s, x], argTypes := #[24, 24] })
   (lo : Nat) (v y : Value) (K M : List (Value × Value)) (hs : a.eval s = v) (hown : TreesOwn w lo v K) (hx : a.eval x = y) (hsrc : KidsAt w y M) (h1 : ∀ u, u ∈ flatT M → u.oneCell' = true)
   (hlen : K.length + M.length ≤ 100000000) (hlo : lo ≤ w.heap.size)
   (h : ∀ v' w', TreesOwn w' lo v' (K ++ M) → Below lo w w' → w.grownBy w' v.ownBlock → (∃ a c, v' = .slice a (K ++ M).length c) → wpList Try.prog ops Q rest (a.put o.dst v') w') : wpList Try.prog ops Q (o :: rest) a w := by
 obtain ⟨i0, hi, hz0, hz1, hz2⟩ := info_parts Try.infoTree
 obtain ⟨pa, cap, rfl, hnl, hat⟩ := hsrc
 rcases pa with _ | p
 · obtain rfl := hnl rfl
   obtain rfl : M = [] := by
     rcases hat with h | ⟨b, o, h, _⟩
     · exact h
     · cases h
   refine wpList_append_own_none hgd s x 24 ho lo 26 i0 2 Try.underlying24 hi v _ _ hs hown hx (h v w (by simpa using hown) (Below.refl _ _) (World.grownBy.refl _ _) ?_)
   simpa using TreesOwn.shown hown
 · refine wpList_append_own w hgd s x 24 ho lo 26 i0 _ 2 48 Try.underlying24 hi hz0 hz1 hz2 rfl (by decide) v _ _ hs hown p M.length cap (flatT M) hx (flatT_length M) (fun j u hj => ?_) h1 (by unfold maxLen; omega) (by omega) hlo (fun v' w' hown' hgrow _ => ?_)
   · rcases hat with h | ⟨b, o, h, hc⟩
     · rw [h] at hj; simp [flatT] at hj
     · cases h
       rw [Addr.add_lit]
       exact hc j u hj
   · have hown2 : TreesOwn w' lo v' (K ++ M) := by
       unfold TreesOwn
       rw [List.length_append, flatT_append]
       exact hown'
     refine h v' w' hown2 ((Below.refl lo w).grown hgrow hlo (fun k hk => (hown.lt k hk).1)) hgrow (TreesOwn.shown hown2)
theorem KidsIn.at {w : World} {B n cap : Nat} {a : Option Addr} {kvs cvs : Nat → Value} (h : KidsIn w B a n kvs cvs) (hn : a = none → cap = 0) :
   KidsAt w (.slice a n cap) ((List.range n).map (fun i => (kvs i, cvs i))) := by
 refine ⟨a, cap, by simp, hn, ?_⟩
 rcases h with h | ⟨b, o, rfl, hb, hc⟩
 · subst h; exact .inl rfl
 · refine .inr ⟨b, o, rfl, fun j u hj => ?_⟩
   have hl : j < n * 2 := by
     have := (List.getElem?_eq_some_iff.1 hj).1
     rwa [flatT_length, List.length_map, List.length_range] at this
   have hg := flatT_get ((List.range n).map (fun i => (kvs i, cvs i))) (j / 2) (by simp; omega)
   have hc' := hc (j / 2) (by omega)
   rcases Nat.mod_two_eq_zero_or_one j with e | e
   · rw [show j / 2 * 2 = j by omega] at hg hc'
     rw [hg.1] at hj
     simp at hj; subst hj
     simpa using hc'.1
   · rw [show j / 2 * 2 + 1 = j by omega] at hg
     rw [hg.2] at hj
     simp at hj; subst hj
     rw [show o + j = o + j / 2 * 2 + 1 by omega]
     simpa using hc'.2
theorem KidsAt.part {w : World} {b o n : Nat} {K : List (Value × Value)} (h : ∀ j u, (flatT K)[j]? = some u → w.cell? ⟨b, o + j, none⟩ = some u) (lo hi cap : Nat) (h1 : lo ≤ hi) (h2 : hi ≤ K.length) (hn : n = hi - lo) :
   KidsAt w (.slice (some ⟨b, o + lo * 2, none⟩) n cap) ((K.drop lo).take (hi - lo)) := by
 have hl : ((K.drop lo).take (hi - lo)).length = hi - lo := by simp; omega
 refine ⟨some ⟨b, o + lo * 2, none⟩, cap, by rw [hl, hn], by simp, .inr ⟨b, o + lo * 2, rfl, fun j u hj => ?_⟩⟩
 rw [flatT_take, flatT_drop, List.getElem?_take] at hj
 split at hj
 · rw [List.getElem?_drop] at hj
   rw [Nat.add_assoc]
   exact h _ _ hj
 · cases hj
theorem KidsAt.none' {w : World} (a : Option Addr) (cap : Nat) (h : a = none → cap = 0) : KidsAt w (.slice a 0 cap) [] := ⟨a, cap, rfl, h, .inl rfl⟩
theorem KidsAt.one (w : World) (x y : Value) : KidsAt (w.alloc (.cells #[x, y] 26)) (.slice (some ⟨w.heap.size, 0, none⟩) 1 1) [(x, y)] := by
 refine ⟨_, _, rfl, by simp, .inr ⟨_, 0, rfl, fun j u hj => ?_⟩⟩
 have hb := box2 (new_blk w (.cells #[x, y] 26))
 have hl : j < 2 := by have := (List.getElem?_eq_some_iff.1 hj).1; simpa [flatT] using this
 rw [Nat.zero_add]
 rcases (by omega : j = 0 ∨ j = 1) with rfl | rfl
 · simp [flatT] at hj; subst hj; exact hb.1
 · simp [flatT] at hj; subst hj; exact hb.2.1
theorem TreesOwn.kids {w : World} {lo : Nat} {v : Value} {K : List (Value × Value)} (h : TreesOwn w lo v K) :
   ∃ a cap, v = .slice a K.length cap ∧ K.length ≤ cap ∧ cap ≤ maxLen ∧ KidsIn w w.heap.size a K.length (fun i => (K.getD i (undef, undef)).1) (fun i => (K.getD i (undef, undef)).2) := by
 have h0 := h
 obtain ⟨h1, ⟨h2, h3⟩ | ⟨g, cap, cur, hv, hb, hg, hn, hm, hs, ht⟩⟩ := h
 · exact ⟨none, 0, by rw [h2, h3], by omega, by unfold maxLen; omega, .inl h3⟩
 · subst hv
   refine ⟨_, cap, rfl, hn, hm, .inr ⟨g, 0, rfl, (Array.getElem?_eq_some_iff.1 hg).1, fun i hi => ?_⟩⟩
   have hfg := flatT_get K i hi
   have e1 := World.ownsRow.cellAt h0 (i * 2) (by omega)
   have e2 := World.ownsRow.cellAt h0 (i * 2 + 1) (by omega)
   rw [Nat.zero_add, e1, e2]
   simp only [List.getD_eq_getElem?_getD, List.getElem?_eq_getElem hi, Option.getD_some]
   exact hfg
end Go.Proofs.Ytananonjomfpkaa
/- Trees by footprint and rows of trees. -/
namespace Go.Proofs.Ytananonjomfpkaa
open Go.RowKit
theorem IntsP.in {w : World} {P : Nat → Prop} {B : Nat} {v : Value} {ks : List Int} (h : IntsP w P v ks) (hq : ∀ k, P k → k < B) : IntsIn w B v ks := by
 obtain ⟨a, cap, hv, h1, h2, hnl, h3⟩ := h
 refine ⟨a, cap, hv, h1, h2, hnl, ?_⟩
 rcases h3 with h3 | ⟨b, o, h3, h4, h5⟩
 · exact .inl h3
 · exact .inr ⟨b, o, h3, hq b h4, h5⟩
theorem KidsP.in {w : World} {P : Nat → Prop} {B n : Nat} {a : Option Addr} {kvs cvs : Nat → Value} (h : KidsP w P a n kvs cvs) (hq : ∀ k, P k → k < B) : KidsIn w B a n kvs cvs := by
 rcases h with h3 | ⟨b, o, h3, h4, h5⟩
 · exact .inl h3
 · exact .inr ⟨b, o, h3, hq b h4, h5⟩
theorem KidsQ.p {w : World} {P : Nat → Prop} {a : Option Addr} {n : Nat} {kvs cvs : Nat → Value} (h : KidsQ w P a n kvs cvs) : KidsP w P a n kvs cvs := by
 rcases h with h3 | ⟨b, o, h3, h4, h5⟩
 · exact .inl h3
 · exact .inr ⟨b, o, h3, h4.1, h5⟩
theorem TreeQ.parts {w : World} {P : Nat → Prop} {kv cv : Value} {ks : List Int} {cs : List Tr} (h : TreeQ w P kv cv (.mk ks cs)) :
   ∃ (a : Option Addr) (cap : Nat) (kvs cvs : Nat → Value), cv = .slice a cs.length cap ∧ IntsP w P kv ks ∧ cs.length ≤ cap ∧ cap ≤ maxLen ∧ KidsQ w P a cs.length kvs cvs ∧ ∀ i (h : i < cs.length), TreeQ w P (kvs i) (cvs i) cs[i] := by
 cases h with
 | mk _ _ _ a cap kvs cvs hk hlen hcap hat hkids => exact ⟨a, cap, kvs, cvs, rfl, hk, hlen, hcap, hat, hkids⟩
theorem treeQ_row {W : World} {Q : Nat → Prop} {lo n cp : Nat} {kv : Value} {ks : List Int} {a : Option Addr} {L : List (Value × Value)} {cs : List Tr} (hk : IntsP W Q kv ks) (hrow : TreesOwn W lo (.slice a n cp) L) (hq : ∀ q, lo ≤ q → q < W.heap.size → Q q) (hl : L.length = cs.length)
   (hkids : ∀ i (h : i < cs.length), TreeQ W Q (L.getD i (undef, undef)).1 (L.getD i (undef, undef)).2 cs[i]) : TreeQ W Q kv (.slice a n cp) (.mk ks cs) := by
 have hlt := hrow.lt
 obtain ⟨a', cap, e, h1, h2, hat⟩ := TreesOwn.kids hrow
 have hpl : ∀ b, Value.ownBlock (.slice a n cp) = some b → Plain W b := fun b hb => by
   obtain ⟨_, ⟨h3, _⟩ | ⟨g, cap, cur, hv, _, hg, _⟩⟩ := hrow
   · rw [h3] at hb; cases hb
   · rw [hv] at hb; cases hb; exact ⟨cur, _, hg⟩
 simp only [Value.slice.injEq] at e
 obtain ⟨rfl, rfl, rfl⟩ := e
 rw [hl] at h1 hat hlt hpl ⊢
 refine .mk ks cs kv a cp _ _ hk h1 h2 ?_ hkids
 rcases hat with h | ⟨b, o, rfl, hb, hc⟩
 · exact .inl h
 · have := hlt b rfl
   exact .inr ⟨b, o, rfl, ⟨hq b this.1 this.2, hpl b rfl⟩, hc⟩
theorem IntsP.leafQ {W : World} {Q : Nat → Prop} {a : Option Addr} {n c g : Nat} {ks : List Int} (h : IntsP W Q (.slice a n c) ks) : TreeQ W Q (.slice a n c) (.slice (some ⟨g, 0, none⟩) 0 0) (.mk ks []) :=
 TreeQ.mk ks [] _ (some ⟨g, 0, none⟩) 0 (fun _ => undef) (fun _ => undef) h (Nat.le_refl _) (by unfold maxLen; omega) (.inl rfl) (fun i hi => by simp at hi)
end Go.Proofs.Ytananonjomfpkaa
/- The contracts of the functions that mark a result and look whether the marks held. -/
namespace Go.Proofs.Ytananonjomfpkaa
open Go.RowKit
def marks (k : Int) (n : Nat) : List Int := (List.range n).map (fun (i : Nat) => k + (i : Int))
theorem marks_length (k : Int) (n : Nat) : (marks k n).length = n := by simp [marks]
end Go.Proofs.Ytananonjomfpkaa
/- The program's own copy of a tree: nodes behind pointers; how they lie in memory; the contract of slices.Clone at ints. -/
namespace Go.Proofs.Ytananonjomfpkaa
open Go.RowKit
def IntsR (w : World) (lo hi : Nat) (v : Value) (ks : List Int) : Prop :=
 ∃ (a : Option Addr) (cap : Nat), v = .slice a ks.length cap ∧ ks.length ≤ cap ∧ cap ≤ maxLen ∧ (a = none → cap = 0) ∧
   (ks = [] ∨ ∃ b o, a = some ⟨b, o, none⟩ ∧ lo ≤ b ∧ b < hi ∧ ∀ i, i < ks.length → w.cell? ⟨b, o + i, none⟩ = some (.int .i64 (ks.getD i 0)))
def PtrsR (w : World) (lo hi : Nat) (a : Option Addr) (n : Nat) (ps : Nat → Nat) : Prop :=
 n = 0 ∨ ∃ b o, a = some ⟨b, o, none⟩ ∧ lo ≤ b ∧ b < hi ∧ ∀ i, i < n → w.cell? ⟨b, o + i, none⟩ = some (.pointer (some ⟨ps i, 0, none⟩))
inductive NodeIn (w : World) : Nat → Nat → Nat → Tr → Prop where
 | mk (ks : List Int) (cs : List Tr) (lo hi b : Nat) (kv : Value) (a : Option Addr) (cap : Nat) (ps s : Nat → Nat)
     (hlo : lo ≤ b) (hhi : b < hi) (hs0 : b < s 0) (hsn : s cs.length ≤ hi) (hs : ∀ i, i < cs.length → s i ≤ s (i + 1))
     (hbox : w.heap[b]? = some (.cells #[kv, .slice a cs.length cap] 99 (0, 0)))
     (hk : IntsR w lo hi kv ks) (hlen : cs.length ≤ cap) (hcap : cap ≤ maxLen) (hat : PtrsR w lo hi a cs.length ps)
     (hkids : ∀ i (h : i < cs.length), NodeIn w (s i) (s (i + 1)) (ps i) cs[i]) :
     NodeIn w lo hi b (.mk ks cs)
theorem cell_of_blk {w w' : World} {b o : Nat} (h : w'.heap[b]? = w.heap[b]?) : w'.cell? ⟨b, o, none⟩ = w.cell? ⟨b, o, none⟩ := World.cell?_of_block (w := w) (a := ⟨b, o, none⟩) h
theorem IntsR.same {w w' : World} {lo hi : Nat} {v : Value} {ks : List Int} (h : IntsR w lo hi v ks) (hb : ∀ k, lo ≤ k → k < hi → w'.heap[k]? = w.heap[k]?) : IntsR w' lo hi v ks := by
 obtain ⟨a, cap, hv, h1, h2, hnl, h3⟩ := h
 refine ⟨a, cap, hv, h1, h2, hnl, ?_⟩
 rcases h3 with h3 | ⟨b, o, h3, h4, h5, h6⟩
 · exact .inl h3
 · exact .inr ⟨b, o, h3, h4, h5, fun i hi => by rw [cell_of_blk (hb b h4 h5)]; exact h6 i hi⟩
theorem IntsR.widen {w : World} {lo hi lo' hi' : Nat} {v : Value} {ks : List Int} (h : IntsR w lo hi v ks) (h1 : lo' ≤ lo) (h2 : hi ≤ hi') : IntsR w lo' hi' v ks := by
 obtain ⟨a, cap, hv, g1, g2, hnl, h3⟩ := h
 refine ⟨a, cap, hv, g1, g2, hnl, ?_⟩
 rcases h3 with h3 | ⟨b, o, h3, h4, h5, h6⟩
 · exact .inl h3
 · exact .inr ⟨b, o, h3, by omega, by omega, h6⟩
theorem IntsR.in {w : World} {lo hi : Nat} {v : Value} {ks : List Int} (h : IntsR w lo hi v ks) : IntsIn w hi v ks := by
 obtain ⟨a, cap, hv, g1, g2, hnl, h3⟩ := h
 refine ⟨a, cap, hv, g1, g2, hnl, ?_⟩
 rcases h3 with h3 | ⟨b, o, h3, h4, h5, h6⟩
 · exact .inl h3
 · exact .inr ⟨b, o, h3, h5, h6⟩
theorem PtrsR.same {w w' : World} {lo hi n : Nat} {a : Option Addr} {ps : Nat → Nat} (h : PtrsR w lo hi a n ps) (hb : ∀ k, lo ≤ k → k < hi → w'.heap[k]? = w.heap[k]?) : PtrsR w' lo hi a n ps := by
 rcases h with h3 | ⟨b, o, h3, h4, h5, h6⟩
 · exact .inl h3
 · exact .inr ⟨b, o, h3, h4, h5, fun i hi => by rw [cell_of_blk (hb b h4 h5)]; exact h6 i hi⟩
theorem PtrsR.widen {w : World} {lo hi lo' hi' n : Nat} {a : Option Addr} {ps : Nat → Nat} (h : PtrsR w lo hi a n ps) (h1 : lo' ≤ lo) (h2 : hi ≤ hi') : PtrsR w lo' hi' a n ps := by
 rcases h with h3 | ⟨b, o, h3, h4, h5, h6⟩
 · exact .inl h3
 · exact .inr ⟨b, o, h3, by omega, by omega, h6⟩
theorem steps_le {s : Nat → Nat} {n : Nat} (hs : ∀ i, i < n → s i ≤ s (i + 1)) : ∀ i j, i ≤ j → j ≤ n → s i ≤ s j := by
 intro i j hij
 induction hij with
 | refl => intro _; exact Nat.le_refl _
 | step h ih => intro hj; exact Nat.le_trans (ih (by omega)) (hs _ (by omega))
theorem NodeIn.widen {w : World} {lo hi b : Nat} {t : Tr} (h : NodeIn w lo hi b t) : ∀ {lo' hi' : Nat}, lo' ≤ lo → hi ≤ hi' → NodeIn w lo' hi' b t := by
 cases h with
 | mk ks cs lo hi b kv a cap ps s hlo hhi hs0 hsn hs hbox hk hlen hcap hat hkids =>
   intro lo' hi' h1 h2
   exact .mk ks cs lo' hi' b kv a cap ps s (by omega) (by omega) hs0 (by omega) hs hbox (hk.widen h1 h2) hlen hcap (hat.widen h1 h2) hkids
theorem NodeIn.same {w w' : World} {lo hi b : Nat} {t : Tr} (h : NodeIn w lo hi b t) : (∀ k, lo ≤ k → k < hi → w'.heap[k]? = w.heap[k]?) → NodeIn w' lo hi b t := by
 induction h with
 | mk ks cs lo hi b kv a cap ps s hlo hhi hs0 hsn hs hbox hk hlen hcap hat hkids ih =>
   intro hb
   refine .mk ks cs lo hi b kv a cap ps s hlo hhi hs0 hsn hs ((hb b hlo hhi).trans hbox) (hk.same hb) hlen hcap (hat.same hb) (fun i hi' => ih i hi' (fun k h1 h2 => hb k ?_ ?_))
   · have := steps_le hs 0 i (by omega) (by omega); omega
   · have := steps_le hs (i + 1) cs.length (by omega) (by omega); omega
theorem NodeIn.range {w : World} {lo hi b : Nat} {t : Tr} (h : NodeIn w lo hi b t) : lo ≤ b ∧ b < hi ∧ b < w.heap.size := by
 cases h with
 | mk ks cs lo hi b kv a cap ps s hlo hhi hs0 hsn hs hbox hk hlen hcap hat hkids => exact ⟨hlo, hhi, (Array.getElem?_eq_some_iff.1 hbox).1⟩
theorem IntsOwn.inR {w : World} {lo : Nat} {v : Value} {ks : List Int} (h : IntsOwn w lo v ks) : IntsR w lo w.heap.size v ks := by
 have h0 := h
 obtain ⟨h1, ⟨h2, h3⟩ | ⟨g, cap, cur, hv, hb, hg, hn, hm, hs, ht⟩⟩ := h
 · obtain rfl : ks = [] := List.length_eq_zero_iff.1 h3
   exact ⟨none, 0, h2, by simp, by unfold maxLen; omega, fun _ => rfl, .inl rfl⟩
 · refine ⟨_, cap, hv, hn, hm, by simp, .inr ⟨g, 0, rfl, hb, (Array.getElem?_eq_some_iff.1 hg).1, fun i hi => ?_⟩⟩
   subst hv
   rw [Nat.zero_add, World.ownsRow.cellAt h0 i (by omega)]
   simp [hi]
set_option maxRecDepth 100000 in
set_option maxHeartbeats 1000000 in
theorem clone_c {v : Value} {ks : List Int} (w : World) (hk : IntsAt w v ks) (hn : ks.length ≤ 1048576) :
   Calls Try.prog 97 #[v] w fun e w' => ∃ v', e = .returned v' ∧ IntsOwn w' w.heap.size v' ks ∧ Below w.heap.size w w' := by
 obtain ⟨a, cap, rfl, hnl, h3⟩ := hk
 have q22 : ∀ (w : World) (a : Option Addr) (n c n' c' : Nat), (binOp .eql 23 (.slice a n c) (.slice none n' c')).run Try.prog w = .ok (.bool a.isNone) w := fun w a n c n' c' => Lib.run_eql_slice_nil w _ _ a n c n' c' Try.underlying23
 have h00 : IntsOwn (w.alloc (.cells #[] 3)) w.heap.size (.slice (some ⟨w.heap.size, 0, none⟩) 0 0) [] := World.ownsRow_made w #[] 0 (Nat.le_refl _) (by unfold maxLen; omega) rfl
 have hb0 : Below w.heap.size w (w.alloc (.cells #[] 3)) := (Below.refl _ _).alloc (Nat.le_refl _) _
 rcases a with _ | p
 · obtain rfl := hnl rfl
   obtain rfl : ks = [] := by
     rcases h3 with h | ⟨b, o, h, _⟩
     · exact h
     · cases h
   clear h3 h00 hb0
   go_enter Try.func97, Try.ntmps97
   go_wp2_with fail
   go_ret
   exact ⟨_, rfl, ⟨rfl, .inl ⟨rfl, rfl⟩⟩, Below.refl _ _⟩
 · have hsrc : IntsAt (w.alloc (.cells #[] 3)) (.slice (some p) ks.length cap) ks := by
     refine ⟨some p, cap, rfl, by simp, ?_⟩
     rcases h3 with h | ⟨b, o, h, hc⟩
     · exact .inl h
     · refine .inr ⟨b, o, h, fun i hi => ?_⟩
       have h1 := hc i hi
       rw [below_cell hb0 (World.block_lt_of_cell? w _ h1)]
       exact h1
   have H00 := Lib.hid h00
   have HB0 := Lib.hid hb0
   have HSRC := Lib.hid hsrc
   have hln : ([] : List Int).length + ks.length ≤ 17592186044416 := by simp; omega
   have hlo : w.heap.size ≤ (w.alloc (.cells #[] 3)).heap.size := by simp
   have HLN := Lib.hid hln
   have HLO := Lib.hid hlo
   clear h3 h00 hb0 hsrc hn hnl hln hlo
   go_enter Try.func97, Try.ntmps97
   go_wp2_with (at_builtin; refine wpList_append_ints rfl _ _ rfl w.heap.size _ _ [] ks rfl H00.out rfl HSRC.out HLN.out HLO.out ?_; intro v2 w2 hown2 hbel2 _ hsh2; obtain ⟨a2, c2, rfl⟩ := hsh2; have HOX := Lib.hid hown2; have HBX := Lib.hid hbel2; clear hown2 hbel2)
   go_ret
   exact ⟨_, rfl, by simpa using HOX.out, HB0.out.trans HBX.out⟩
end Go.Proofs.Ytananonjomfpkaa
/- Finding: what the planting of a tree and the making of the iterator over the way down leave. -/
namespace Go.Proofs.Ytananonjomfpkaa
open Go.RowKit
def DownAt (B gf : Nat) (n : Int) (t : Tr) (s : Value) (W : World) : Prop :=
 ∃ lo hi b q bn bf : Nat, s = .func (.func 104) #[] #[.pointer (some ⟨bn, 0, none⟩), .pointer (some ⟨bf, 0, none⟩)] ∧ NodeIn W lo hi b t ∧ B ≤ lo ∧ hi ≤ W.heap.size ∧ B ≤ q ∧ B ≤ bn ∧ B ≤ bf ∧
   W.heap[bn]? = some (.cells #[.pointer (some ⟨b, 0, none⟩)] 70 (0, 0)) ∧
   W.heap[bf]? = some (.cells #[.func (.func gf) #[] #[.pointer (some ⟨q, 0, none⟩)]] 81 (0, 0)) ∧
   W.heap[q]? = some (.cells #[.int .i64 n] 3 (0, 0))
theorem ownsRow_held {w w' : World} {base : Nat} {e : TypeId} {size n : Nat} {v : Value} {xs : List Value} (h : w.ownsRow base e size v n xs) (hb : ∀ k, v.ownBlock = some k → w'.heap[k]? = w.heap[k]?) : w'.ownsRow base e size v n xs := by
 obtain ⟨h1, h2 | ⟨g, cap, cur, hv, hbb, hg, hr⟩⟩ := h
 · exact ⟨h1, .inl h2⟩
 · exact ⟨h1, .inr ⟨g, cap, cur, hv, hbb, (hb g (by rw [hv]; rfl)).trans hg, hr⟩⟩
end Go.Proofs.Ytananonjomfpkaa
