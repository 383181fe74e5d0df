/- Trees by footprint and rows of trees. -/
import Derived.Test.YticfkfjijnfcbaaDoorCu2
/- Appends onto a slice of trees of the call's own; slices of trees that can be read. -/
namespace Go.Proofs.YticfkfjijnfcbaaDoor
open Go.RowKit
def flatT (K : List (Value × Value)) : List Value := K.flatMap (fun p => [p.1, p.2])
theorem flatT_length (K : List (Value × Value)) : (flatT K).length = K.length * 2 := by
 induction K with
 | nil => rfl
 | cons p r ih => simp [flatT] at ih ⊢; omega
theorem flatT_append (K M : List (Value × Value)) : flatT (K ++ M) = flatT K ++ flatT M := by simp [flatT]
theorem flatT_get (K : List (Value × Value)) (i : Nat) (h : i < K.length) : (flatT K)[i * 2]? = some K[i].1 ∧ (flatT K)[i * 2 + 1]? = some K[i].2 := by
 induction K generalizing i with
 | nil => simp at h
 | cons p r ih =>
   cases i with
   | zero => simp [flatT]
   | succ i =>
     have := ih i (by simpa using h)
     rw [show (i + 1) * 2 = i * 2 + 1 + 1 by omega]
     simpa [flatT] using this
def KidsAt (w : World) (v : Value) (K : List (Value × Value)) : Prop :=
 ∃ (a : Option Addr) (cap : Nat), v = .slice a K.length cap ∧ (a = none → cap = 0) ∧
   (K = [] ∨ ∃ b o, a = some ⟨b, o, none⟩ ∧ ∀ j u, (flatT K)[j]? = some u → w.cell? ⟨b, o + j, none⟩ = some u)
abbrev TreesOwn (w : World) (lo : Nat) (v : Value) (K : List (Value × Value)) : Prop := w.ownsRow lo 33 2 v K.length (flatT K)
theorem TreesOwn.shown {w : World} {lo : Nat} {v : Value} {K : List (Value × Value)} (h : TreesOwn w lo v K) : ∃ a c, v = .slice a K.length c := by
 obtain ⟨h1, ⟨h2, h3⟩ | ⟨g, cap, cur, hv, hbb, hr⟩⟩ := h
 · exact ⟨_, _, by rw [h2, h3]⟩
 · exact ⟨_, _, hv⟩
theorem wpList_append_trees {w : World} {ops : Array Oper} {rest : List Oper} {o : Oper} {a : Act} {Q : Exit → Act → World → Prop} (hgd : o.guard = none) (s x : Operand)
   (ho : o.op = .call { callee := .builtin .append, args := #[s, x], argTypes := #[31, 31] })
   (lo : Nat) (v y : Value) (K M : List (Value × Value)) (hs : a.eval s = v) (hown : TreesOwn w lo v K) (hx : a.eval x = y) (hsrc : KidsAt w y M) (h1 : ∀ u, u ∈ flatT M → u.oneCell' = true)
   (hlen : K.length + M.length ≤ 100000000) (hlo : lo ≤ w.heap.size)
   (h : ∀ v' w', TreesOwn w' lo v' (K ++ M) → Below lo w w' → w.grownBy w' v.ownBlock → (∃ a c, v' = .slice a (K ++ M).length c) → wpList Tryd.prog ops Q rest (a.put o.dst v') w') : wpList Tryd.prog ops Q (o :: rest) a w := by
 obtain ⟨i0, hi, hz0, hz1, hz2⟩ := info_parts Tryd.infoTree
 obtain ⟨pa, cap, rfl, hnl, hat⟩ := hsrc
 rcases pa with _ | p
 · obtain rfl := hnl rfl
   obtain rfl : M = [] := by
     rcases hat with h | ⟨b, o, h, _⟩
     · exact h
     · cases h
   refine wpList_append_own_none hgd s x 31 ho lo 33 i0 2 Tryd.underlying31 hi v _ _ hs hown hx (h v w (by simpa using hown) (Below.refl _ _) (World.grownBy.refl _ _) ?_)
   simpa using TreesOwn.shown hown
 · refine wpList_append_own w hgd s x 31 ho lo 33 i0 _ 2 48 Tryd.underlying31 hi hz0 hz1 hz2 rfl (by decide) v _ _ hs hown p M.length cap (flatT M) hx (flatT_length M) (fun j u hj => ?_) h1 (by unfold maxLen; omega) (by omega) hlo (fun v' w' hown' hgrow _ => ?_)
   · rcases hat with h | ⟨b, o, h, hc⟩
     · rw [h] at hj; simp [flatT] at hj
     · cases h
       rw [Addr.add_lit]
       exact hc j u hj
   · have hown2 : TreesOwn w' lo v' (K ++ M) := by
       unfold TreesOwn
       rw [List.length_append, flatT_append]
       exact hown'
     refine h v' w' hown2 ((Below.refl lo w).grown hgrow hlo (fun k hk => (hown.lt k hk).1)) hgrow (TreesOwn.shown hown2)
theorem KidsIn.at {w : World} {B n cap : Nat} {a : Option Addr} {kvs cvs : Nat → Value} (h : KidsIn w B a n kvs cvs) (hn : a = none → cap = 0) :
   KidsAt w (.slice a n cap) ((List.range n).map (fun i => (kvs i, cvs i))) := by
 refine ⟨a, cap, by simp, hn, ?_⟩
 rcases h with h | ⟨b, o, rfl, hb, hc⟩
 · subst h; exact .inl rfl
 · refine .inr ⟨b, o, rfl, fun j u hj => ?_⟩
   have hl : j < n * 2 := by
     have := (List.getElem?_eq_some_iff.1 hj).1
     rwa [flatT_length, List.length_map, List.length_range] at this
   have hg := flatT_get ((List.range n).map (fun i => (kvs i, cvs i))) (j / 2) (by simp; omega)
   have hc' := hc (j / 2) (by omega)
   rcases Nat.mod_two_eq_zero_or_one j with e | e
   · rw [show j / 2 * 2 = j by omega] at hg hc'
     rw [hg.1] at hj
     simp at hj; subst hj
     simpa using hc'.1
   · rw [show j / 2 * 2 + 1 = j by omega] at hg
     rw [hg.2] at hj
     simp at hj; subst hj
     rw [show o + j = o + j / 2 * 2 + 1 by omega]
     simpa using hc'.2
theorem KidsAt.one (w : World) (x y : Value) : KidsAt (w.alloc (.cells #[x, y] 33)) (.slice (some ⟨w.heap.size, 0, none⟩) 1 1) [(x, y)] := by
 refine ⟨_, _, rfl, by simp, .inr ⟨_, 0, rfl, fun j u hj => ?_⟩⟩
 have hb := box2 (new_blk w (.cells #[x, y] 33))
 have hl : j < 2 := by have := (List.getElem?_eq_some_iff.1 hj).1; simpa [flatT] using this
 rw [Nat.zero_add]
 rcases (by omega : j = 0 ∨ j = 1) with rfl | rfl
 · simp [flatT] at hj; subst hj; exact hb.1
 · simp [flatT] at hj; subst hj; exact hb.2.1
theorem TreesOwn.kids {w : World} {lo : Nat} {v : Value} {K : List (Value × Value)} (h : TreesOwn w lo v K) :
   ∃ a cap, v = .slice a K.length cap ∧ K.length ≤ cap ∧ cap ≤ maxLen ∧ KidsIn w w.heap.size a K.length (fun i => (K.getD i (undef, undef)).1) (fun i => (K.getD i (undef, undef)).2) := by
 have h0 := h
 obtain ⟨h1, ⟨h2, h3⟩ | ⟨g, cap, cur, hv, hb, hg, hn, hm, hs, ht⟩⟩ := h
 · exact ⟨none, 0, by rw [h2, h3], by omega, by unfold maxLen; omega, .inl h3⟩
 · subst hv
   refine ⟨_, cap, rfl, hn, hm, .inr ⟨g, 0, rfl, (Array.getElem?_eq_some_iff.1 hg).1, fun i hi => ?_⟩⟩
   have hfg := flatT_get K i hi
   have e1 := World.ownsRow.cellAt h0 (i * 2) (by omega)
   have e2 := World.ownsRow.cellAt h0 (i * 2 + 1) (by omega)
   rw [Nat.zero_add, e1, e2]
   simp only [List.getD_eq_getElem?_getD, List.getElem?_eq_getElem hi, Option.getD_some]
   exact hfg
end Go.Proofs.YticfkfjijnfcbaaDoor
/- Trees by footprint and rows of trees. -/
namespace Go.Proofs.YticfkfjijnfcbaaDoor
open Go.RowKit
theorem IntsP.in {w : World} {P : Nat → Prop} {B : Nat} {v : Value} {ks : List Int} (h : IntsP w P v ks) (hq : ∀ k, P k → k < B) : IntsIn w B v ks := by
 obtain ⟨a, cap, hv, h1, h2, hnl, h3⟩ := h
 refine ⟨a, cap, hv, h1, h2, hnl, ?_⟩
 rcases h3 with h3 | ⟨b, o, h3, h4, h5⟩
 · exact .inl h3
 · exact .inr ⟨b, o, h3, hq b h4, h5⟩
theorem KidsP.in {w : World} {P : Nat → Prop} {B n : Nat} {a : Option Addr} {kvs cvs : Nat → Value} (h : KidsP w P a n kvs cvs) (hq : ∀ k, P k → k < B) : KidsIn w B a n kvs cvs := by
 rcases h with h3 | ⟨b, o, h3, h4, h5⟩
 · exact .inl h3
 · exact .inr ⟨b, o, h3, hq b h4, h5⟩
theorem KidsQ.p {w : World} {P : Nat → Prop} {a : Option Addr} {n : Nat} {kvs cvs : Nat → Value} (h : KidsQ w P a n kvs cvs) : KidsP w P a n kvs cvs := by
 rcases h with h3 | ⟨b, o, h3, h4, h5⟩
 · exact .inl h3
 · exact .inr ⟨b, o, h3, h4.1, h5⟩
theorem TreeQ.parts {w : World} {P : Nat → Prop} {kv cv : Value} {ks : List Int} {cs : List Tr} (h : TreeQ w P kv cv (.mk ks cs)) :
   ∃ (a : Option Addr) (cap : Nat) (kvs cvs : Nat → Value), cv = .slice a cs.length cap ∧ IntsP w P kv ks ∧ cs.length ≤ cap ∧ cap ≤ maxLen ∧ KidsQ w P a cs.length kvs cvs ∧ ∀ i (h : i < cs.length), TreeQ w P (kvs i) (cvs i) cs[i] := by
 cases h with
 | mk _ _ _ a cap kvs cvs hk hlen hcap hat hkids => exact ⟨a, cap, kvs, cvs, rfl, hk, hlen, hcap, hat, hkids⟩
theorem treeQ_row {W : World} {Q : Nat → Prop} {lo n cp : Nat} {kv : Value} {ks : List Int} {a : Option Addr} {L : List (Value × Value)} {cs : List Tr} (hk : IntsP W Q kv ks) (hrow : TreesOwn W lo (.slice a n cp) L) (hq : ∀ q, lo ≤ q → q < W.heap.size → Q q) (hl : L.length = cs.length)
   (hkids : ∀ i (h : i < cs.length), TreeQ W Q (L.getD i (undef, undef)).1 (L.getD i (undef, undef)).2 cs[i]) : TreeQ W Q kv (.slice a n cp) (.mk ks cs) := by
 have hlt := hrow.lt
 obtain ⟨a', cap, e, h1, h2, hat⟩ := TreesOwn.kids hrow
 have hpl : ∀ b, Value.ownBlock (.slice a n cp) = some b → Plain W b := fun b hb => by
   obtain ⟨_, ⟨h3, _⟩ | ⟨g, cap, cur, hv, _, hg, _⟩⟩ := hrow
   · rw [h3] at hb; cases hb
   · rw [hv] at hb; cases hb; exact ⟨cur, _, hg⟩
 simp only [Value.slice.injEq] at e
 obtain ⟨rfl, rfl, rfl⟩ := e
 rw [hl] at h1 hat hlt hpl ⊢
 refine .mk ks cs kv a cp _ _ hk h1 h2 ?_ hkids
 rcases hat with h | ⟨b, o, rfl, hb, hc⟩
 · exact .inl h
 · have := hlt b rfl
   exact .inr ⟨b, o, rfl, ⟨hq b this.1 this.2, hpl b rfl⟩, hc⟩
theorem IntsP.leafQ {W : World} {Q : Nat → Prop} {a : Option Addr} {n c g : Nat} {ks : List Int} (h : IntsP W Q (.slice a n c) ks) : TreeQ W Q (.slice a n c) (.slice (some ⟨g, 0, none⟩) 0 0) (.mk ks []) :=
 TreeQ.mk ks [] _ (some ⟨g, 0, none⟩) 0 (fun _ => undef) (fun _ => undef) h (Nat.le_refl _) (by unfold maxLen; omega) (.inl rfl) (fun i hi => by simp at hi)
end Go.Proofs.YticfkfjijnfcbaaDoor
