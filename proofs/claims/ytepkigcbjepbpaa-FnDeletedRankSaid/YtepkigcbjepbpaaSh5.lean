/- Trees in rows of a call's own, no two of which share a block. -/
import Derived.Test.YtepkigcbjepbpaaProg
import Derived.Test.YtepkigcbjepbpaaSh0
import Derived.Test.YtepkigcbjepbpaaSh4
import Derived.Laws.AppendOwnNone
import Derived.OwnWalk
import Derived.WalkKit

/- The contracts of the functions that mark a result and look whether the marks held. -/
namespace Go.Proofs.Ytepkigcbjepbpaa
open Go.RowKit

def marks (k : Int) (n : Nat) : List Int := (List.range n).map (fun (i : Nat) => k + (i : Int))
theorem marks_length (k : Int) (n : Nat) : (marks k n).length = n := by simp [marks]
end Go.Proofs.Ytepkigcbjepbpaa

/- Appends onto a slice of trees of the call's own; slices of trees that can be read. -/
namespace Go.Proofs.Ytepkigcbjepbpaa
open Go.RowKit

def flatT (K : List (Value × Value)) : List Value := K.flatMap (fun p => [p.1, p.2])
theorem flatT_length (K : List (Value × Value)) : (flatT K).length = K.length * 2 := by
  induction K with
  | nil => rfl
  | cons p r ih => simp [flatT] at ih ⊢; omega
theorem flatT_append (K M : List (Value × Value)) : flatT (K ++ M) = flatT K ++ flatT M := by simp [flatT]
theorem flatT_get (K : List (Value × Value)) (i : Nat) (h : i < K.length) : (flatT K)[i * 2]? = some K[i].1 ∧ (flatT K)[i * 2 + 1]? = some K[i].2 := by
  induction K generalizing i with
  | nil => simp at h
  | cons p r ih =>
    cases i with
    | zero => simp [flatT]
    | succ i =>
      have := ih i (by simpa using h)
      rw [show (i + 1) * 2 = i * 2 + 1 + 1 by omega]
      simpa [flatT] using this
theorem flatT_drop (K : List (Value × Value)) (i : Nat) : flatT (K.drop i) = (flatT K).drop (i * 2) := by
  induction K generalizing i with
  | nil => simp [flatT]
  | cons p r ih =>
    cases i with
    | zero => simp
    | succ i =>
      rw [show (i + 1) * 2 = i * 2 + 1 + 1 by omega]
      simpa [flatT] using ih i
theorem flatT_take (K : List (Value × Value)) (i : Nat) : flatT (K.take i) = (flatT K).take (i * 2) := by
  induction K generalizing i with
  | nil => simp [flatT]
  | cons p r ih =>
    cases i with
    | zero => simp [flatT]
    | succ i =>
      rw [show (i + 1) * 2 = i * 2 + 1 + 1 by omega]
      simpa [flatT] using ih i

def KidsAt (w : World) (v : Value) (K : List (Value × Value)) : Prop :=
  ∃ (a : Option Addr) (cap : Nat), v = .slice a K.length cap ∧ (a = none → cap = 0) ∧
    (K = [] ∨ ∃ b o, a = some ⟨b, o, none⟩ ∧ ∀ j u, (flatT K)[j]? = some u → w.cell? ⟨b, o + j, none⟩ = some u)

abbrev TreesOwn (w : World) (lo : Nat) (v : Value) (K : List (Value × Value)) : Prop := w.ownsRow lo 29 2 v K.length (flatT K)

theorem TreesOwn.shown {w : World} {lo : Nat} {v : Value} {K : List (Value × Value)} (h : TreesOwn w lo v K) : ∃ a c, v = .slice a K.length c := by
  obtain ⟨h1, ⟨h2, h3⟩ | ⟨g, cap, cur, hv, hbb, hr⟩⟩ := h
  · exact ⟨_, _, by rw [h2, h3]⟩
  · exact ⟨_, _, hv⟩

theorem wpList_append_trees {w : World} {ops : Array Oper} {rest : List Oper} {o : Oper} {a : Act} {Q : Exit → Act → World → Prop} (hgd : o.guard = none) (s x : Operand)
    (ho : o.op = .call { callee := .builtin .append, args := #[s, x], argTypes := #[27, 27] })
    (lo : Nat) (v y : Value) (K M : List (Value × Value)) (hs : a.eval s = v) (hown : TreesOwn w lo v K) (hx : a.eval x = y) (hsrc : KidsAt w y M) (h1 : ∀ u, u ∈ flatT M → u.oneCell' = true)
    (hlen : K.length + M.length ≤ 100000000) (hlo : lo ≤ w.heap.size)
    (h : ∀ v' w', TreesOwn w' lo v' (K ++ M) → Below lo w w' → w.grownBy w' v.ownBlock → (∃ a c, v' = .slice a (K ++ M).length c) → wpList Try.prog ops Q rest (a.put o.dst v') w') : wpList Try.prog ops Q (o :: rest) a w := by
  obtain ⟨i0, hi, hz0, hz1, hz2⟩ := info_parts Try.infoTree
  obtain ⟨pa, cap, rfl, hnl, hat⟩ := hsrc
  rcases pa with _ | p
  · obtain rfl := hnl rfl
    obtain rfl : M = [] := by
      rcases hat with h | ⟨b, o, h, _⟩
      · exact h
      · cases h
    refine wpList_append_own_none hgd s x 27 ho lo 29 i0 2 Try.underlying27 hi v _ _ hs hown hx (h v w (by simpa using hown) (Below.refl _ _) (World.grownBy.refl _ _) ?_)
    simpa using TreesOwn.shown hown
  · refine wpList_append_own w hgd s x 27 ho lo 29 i0 _ 2 48 Try.underlying27 hi hz0 hz1 hz2 rfl (by decide) v _ _ hs hown p M.length cap (flatT M) hx (flatT_length M) (fun j u hj => ?_) h1 (by unfold maxLen; omega) (by omega) hlo (fun v' w' hown' hgrow _ => ?_)
    · rcases hat with h | ⟨b, o, h, hc⟩
      · rw [h] at hj; simp [flatT] at hj
      · cases h
        rw [Addr.add_lit]
        exact hc j u hj
    · have hown2 : TreesOwn w' lo v' (K ++ M) := by
        unfold TreesOwn
        rw [List.length_append, flatT_append]
        exact hown'
      refine h v' w' hown2 ((Below.refl lo w).grown hgrow hlo (fun k hk => (hown.lt k hk).1)) hgrow (TreesOwn.shown hown2)

theorem KidsIn.at {w : World} {B n cap : Nat} {a : Option Addr} {kvs cvs : Nat → Value} (h : KidsIn w B a n kvs cvs) (hn : a = none → cap = 0) :
    KidsAt w (.slice a n cap) ((List.range n).map (fun i => (kvs i, cvs i))) := by
  refine ⟨a, cap, by simp, hn, ?_⟩
  rcases h with h | ⟨b, o, rfl, hb, hc⟩
  · subst h; exact .inl rfl
  · refine .inr ⟨b, o, rfl, fun j u hj => ?_⟩
    have hl : j < n * 2 := by
      have := (List.getElem?_eq_some_iff.1 hj).1
      rwa [flatT_length, List.length_map, List.length_range] at this
    have hg := flatT_get ((List.range n).map (fun i => (kvs i, cvs i))) (j / 2) (by simp; omega)
    have hc' := hc (j / 2) (by omega)
    rcases Nat.mod_two_eq_zero_or_one j with e | e
    · rw [show j / 2 * 2 = j by omega] at hg hc'
      rw [hg.1] at hj
      simp at hj; subst hj
      simpa using hc'.1
    · rw [show j / 2 * 2 + 1 = j by omega] at hg
      rw [hg.2] at hj
      simp at hj; subst hj
      rw [show o + j = o + j / 2 * 2 + 1 by omega]
      simpa using hc'.2

theorem KidsAt.part {w : World} {b o n : Nat} {K : List (Value × Value)} (h : ∀ j u, (flatT K)[j]? = some u → w.cell? ⟨b, o + j, none⟩ = some u) (lo hi cap : Nat) (h1 : lo ≤ hi) (h2 : hi ≤ K.length) (hn : n = hi - lo) :
    KidsAt w (.slice (some ⟨b, o + lo * 2, none⟩) n cap) ((K.drop lo).take (hi - lo)) := by
  have hl : ((K.drop lo).take (hi - lo)).length = hi - lo := by simp; omega
  refine ⟨some ⟨b, o + lo * 2, none⟩, cap, by rw [hl, hn], by simp, .inr ⟨b, o + lo * 2, rfl, fun j u hj => ?_⟩⟩
  rw [flatT_take, flatT_drop, List.getElem?_take] at hj
  split at hj
  · rw [List.getElem?_drop] at hj
    rw [Nat.add_assoc]
    exact h _ _ hj
  · cases hj
theorem KidsAt.none' {w : World} (a : Option Addr) (cap : Nat) (h : a = none → cap = 0) : KidsAt w (.slice a 0 cap) [] := ⟨a, cap, rfl, h, .inl rfl⟩
theorem KidsAt.one (w : World) (x y : Value) : KidsAt (w.alloc (.cells #[x, y] 29)) (.slice (some ⟨w.heap.size, 0, none⟩) 1 1) [(x, y)] := by
  refine ⟨_, _, rfl, by simp, .inr ⟨_, 0, rfl, fun j u hj => ?_⟩⟩
  have hb := box2 (new_blk w (.cells #[x, y] 29))
  have hl : j < 2 := by have := (List.getElem?_eq_some_iff.1 hj).1; simpa [flatT] using this
  rw [Nat.zero_add]
  rcases (by omega : j = 0 ∨ j = 1) with rfl | rfl
  · simp [flatT] at hj; subst hj; exact hb.1
  · simp [flatT] at hj; subst hj; exact hb.2.1

theorem TreesOwn.kids {w : World} {lo : Nat} {v : Value} {K : List (Value × Value)} (h : TreesOwn w lo v K) :
    ∃ a cap, v = .slice a K.length cap ∧ K.length ≤ cap ∧ cap ≤ maxLen ∧ KidsIn w w.heap.size a K.length (fun i => (K.getD i (undef, undef)).1) (fun i => (K.getD i (undef, undef)).2) := by
  have h0 := h
  obtain ⟨h1, ⟨h2, h3⟩ | ⟨g, cap, cur, hv, hb, hg, hn, hm, hs, ht⟩⟩ := h
  · exact ⟨none, 0, by rw [h2, h3], by omega, by unfold maxLen; omega, .inl h3⟩
  · subst hv
    refine ⟨_, cap, rfl, hn, hm, .inr ⟨g, 0, rfl, (Array.getElem?_eq_some_iff.1 hg).1, fun i hi => ?_⟩⟩
    have hfg := flatT_get K i hi
    have e1 := World.ownsRow.cellAt h0 (i * 2) (by omega)
    have e2 := World.ownsRow.cellAt h0 (i * 2 + 1) (by omega)
    rw [Nat.zero_add, e1, e2]
    simp only [List.getD_eq_getElem?_getD, List.getElem?_eq_getElem hi, Option.getD_some]
    exact hfg
end Go.Proofs.Ytepkigcbjepbpaa

/- Finding: what the planting of a tree and the making of the iterator over the way down leave. -/
namespace Go.Proofs.Ytepkigcbjepbpaa
open Go.RowKit

def DownAt (B gf : Nat) (n : Int) (t : Tr) (s : Value) (W : World) : Prop :=
  ∃ lo hi b q bn bf : Nat, s = .func (.func 89) #[] #[.pointer (some ⟨bn, 0, none⟩), .pointer (some ⟨bf, 0, none⟩)] ∧ NodeIn W lo hi b t ∧ B ≤ lo ∧ hi ≤ W.heap.size ∧ B ≤ q ∧ B ≤ bn ∧ B ≤ bf ∧
    W.heap[bn]? = some (.cells #[.pointer (some ⟨b, 0, none⟩)] 71 (0, 0)) ∧
    W.heap[bf]? = some (.cells #[.func (.func gf) #[] #[.pointer (some ⟨q, 0, none⟩)]] 87 (0, 0)) ∧
    W.heap[q]? = some (.cells #[.int .i64 n] 3 (0, 0))

theorem ownsRow_held {w w' : World} {base : Nat} {e : TypeId} {size n : Nat} {v : Value} {xs : List Value} (h : w.ownsRow base e size v n xs) (hb : ∀ k, v.ownBlock = some k → w'.heap[k]? = w.heap[k]?) : w'.ownsRow base e size v n xs := by
  obtain ⟨h1, h2 | ⟨g, cap, cur, hv, hbb, hg, hr⟩⟩ := h
  · exact ⟨h1, .inl h2⟩
  · exact ⟨h1, .inr ⟨g, cap, cur, hv, hbb, (hb g (by rw [hv]; rfl)).trans hg, hr⟩⟩

end Go.Proofs.Ytepkigcbjepbpaa

/- Trees in rows of a call's own, no two of which share a block. -/
namespace Go.Proofs.Ytepkigcbjepbpaa
open Go.RowKit

abbrev Blocks := Nat → Prop
def ownB (v : Value) : Blocks := fun b => v.ownBlock = some b
def ApartB (P Q : Blocks) : Prop := ∀ b, P b → ¬ Q b

structure KidO where
  kv : Value
  cv : Value
  P : Blocks
  t : Tr
def KidO.pair (x : KidO) : Value × Value := (x.kv, x.cv)

inductive TreeO (w : World) (lo : Nat) : Blocks → Value → Value → Tr → Prop where
  | mk (ks : List Int) (kids : List KidO) (P : Blocks) (kv cv : Value)
      (hk : IntsOwn w lo kv ks) (hc : TreesOwn w lo cv (kids.map KidO.pair))
      (hkids : ∀ x, x ∈ kids → TreeO w lo x.P x.kv x.cv x.t)
      (sk : ∀ b, ownB kv b → P b) (sc : ∀ b, ownB cv b → P b) (ss : ∀ x, x ∈ kids → ∀ b, x.P b → P b)
      (ap : (ownB kv :: ownB cv :: kids.map KidO.P).Pairwise ApartB) (lt : ∀ b, P b → lo ≤ b ∧ b < w.heap.size) : TreeO w lo P kv cv (.mk ks (kids.map KidO.t))

theorem TreeO.parts {w : World} {lo : Nat} {P : Blocks} {kv cv : Value} {ks : List Int} {cs : List Tr} (h : TreeO w lo P kv cv (.mk ks cs)) : ∃ kids : List KidO, cs = kids.map KidO.t ∧
    IntsOwn w lo kv ks ∧ TreesOwn w lo cv (kids.map KidO.pair) ∧ (∀ x, x ∈ kids → TreeO w lo x.P x.kv x.cv x.t) ∧ (∀ b, ownB kv b → P b) ∧ (∀ b, ownB cv b → P b) ∧ (∀ x, x ∈ kids → ∀ b, x.P b → P b) ∧
    (ownB kv :: ownB cv :: kids.map KidO.P).Pairwise ApartB ∧ (∀ b, P b → lo ≤ b ∧ b < w.heap.size) := by
  cases h with
  | mk _ kids _ _ _ hk hc hkids sk sc ss ap lt => exact ⟨kids, rfl, hk, hc, hkids, sk, sc, ss, ap, lt⟩

theorem ownsRow_heldB {w w' : World} {lo : Nat} {e : TypeId} {c : Nat} {v : Value} {n : Nat} {xs : List Value} (h : w.ownsRow lo e c v n xs) (hb : ∀ b, ownB v b → w'.heap[b]? = w.heap[b]?) : w'.ownsRow lo e c v n xs := ownsRow_held h (fun k e => hb k e)

theorem TreeO.same {w w' : World} {lo : Nat} {P : Blocks} {kv cv : Value} {t : Tr} (h : TreeO w lo P kv cv t) (hz : w.heap.size ≤ w'.heap.size) (hb : ∀ b, P b → w'.heap[b]? = w.heap[b]?) : TreeO w' lo P kv cv t := by
  induction h with
  | mk ks kids P kv cv hk hc hkids sk sc ss ap lt ih =>
    exact .mk ks kids P kv cv (ownsRow_heldB hk (fun b e => hb b (sk b e))) (ownsRow_heldB hc (fun b e => hb b (sc b e))) (fun x hx => ih x hx (fun b e => hb b (ss x hx b e))) sk sc ss ap
      (fun b e => ⟨(lt b e).1, Nat.lt_of_lt_of_le (lt b e).2 hz⟩)

theorem TreeO.later {w w' : World} {lo C : Nat} {P : Blocks} {kv cv : Value} {t : Tr} (h : TreeO w lo P kv cv t) (hb : Below C w w') (hC : w.heap.size ≤ C) : TreeO w' lo P kv cv t := by
  refine h.same hb.size (fun b e => hb.block b ?_)
  cases h with
  | mk ks kids _ _ _ hk hc hkids sk sc ss ap lt => have := (lt b e).2; omega

theorem TreeO.lt {w : World} {lo : Nat} {P : Blocks} {kv cv : Value} {t : Tr} (h : TreeO w lo P kv cv t) : ∀ b, P b → lo ≤ b ∧ b < w.heap.size := by
  cases h with
  | mk ks kids _ _ _ hk hc hkids sk sc ss ap lt => exact lt

theorem ownsRow_lower {w : World} {lo lo' : Nat} {e : TypeId} {c : Nat} {v : Value} {n : Nat} {xs : List Value} (h : w.ownsRow lo e c v n xs) (hl : lo' ≤ lo) : w.ownsRow lo' e c v n xs := by
  obtain ⟨h1, h2 | ⟨g, cap, cur, hv, hb, hr⟩⟩ := h
  · exact ⟨h1, .inl h2⟩
  · exact ⟨h1, .inr ⟨g, cap, cur, hv, by omega, hr⟩⟩

theorem TreeO.lower {w : World} {lo lo' : Nat} {P : Blocks} {kv cv : Value} {t : Tr} (h : TreeO w lo P kv cv t) (hl : lo' ≤ lo) : TreeO w lo' P kv cv t := by
  induction h with
  | mk ks kids P kv cv hk hc hkids sk sc ss ap lt ih =>
    exact .mk ks kids P kv cv (ownsRow_lower hk hl) (ownsRow_lower hc hl) ih sk sc ss ap (fun b e => ⟨by have := (lt b e).1; omega, (lt b e).2⟩)

theorem TreeO.tree {w : World} {lo : Nat} {P : Blocks} {kv cv : Value} {t : Tr} (h : TreeO w lo P kv cv t) : TreeIn w w.heap.size kv cv t := by
  induction h with
  | mk ks kids P kv cv hk hc hkids sk sc ss ap lt ih =>
    obtain ⟨a, cap, rfl, hn, hm, hat⟩ := TreesOwn.kids hc
    have e1 : (kids.map KidO.pair).length = (kids.map KidO.t).length := by simp
    rw [e1] at hn hat ⊢
    refine .mk ks (kids.map KidO.t) _ a cap _ _ (IntsOwn.in hk) hn hm hat (fun i hi => ?_)
    simp at hi
    have := ih kids[i] (List.getElem_mem hi)
    simpa [hi, KidO.pair] using this

theorem TreeO.nil (w : World) (lo : Nat) : TreeO w lo (fun _ => False) (.slice none 0 0) (.slice none 0 0) (.mk [] []) :=
  .mk [] [] _ _ _ ⟨rfl, .inl ⟨rfl, rfl⟩⟩ ⟨rfl, .inl ⟨rfl, rfl⟩⟩ (fun x h => by cases h) (fun b h => by cases h) (fun b h => by cases h) (fun x h => by cases h)
    (List.pairwise_cons.2 ⟨fun _ _ b h => (by cases h), List.pairwise_cons.2 ⟨fun _ _ b h => (by cases h), List.Pairwise.nil⟩⟩) (fun b h => h.elim)

theorem TreeO.shown {w : World} {lo : Nat} {P : Blocks} {kv cv : Value} {ks : List Int} {cs : List Tr} (h : TreeO w lo P kv cv (.mk ks cs)) : ∃ a c a' c', kv = .slice a ks.length c ∧ cv = .slice a' cs.length c' := by
  obtain ⟨kids, rfl, hk, hc, _⟩ := h.parts
  obtain ⟨a, c, e⟩ := IntsOwn.shown hk
  obtain ⟨a', c', e'⟩ := TreesOwn.shown hc
  exact ⟨a, c, a', c', e, by simpa using e'⟩

theorem TreeO.push {w w' : World} {lo : Nat} {P Q : Blocks} {kv cv v' xk xc : Value} {ks : List Int} {kids : List KidO} {u : Tr}
    (hk : IntsOwn w lo kv ks) (hkids : ∀ x, x ∈ kids → TreeO w lo x.P x.kv x.cv x.t) (sk : ∀ b, ownB kv b → P b) (sc : ∀ b, ownB cv b → P b) (ss : ∀ x, x ∈ kids → ∀ b, x.P b → P b)
    (ap : (ownB kv :: ownB cv :: kids.map KidO.P).Pairwise ApartB) (lt : ∀ b, P b → lo ≤ b ∧ b < w.heap.size) (hz : w.heap.size ≤ w'.heap.size)
    (hb : ∀ b, P b → ¬ ownB cv b → w'.heap[b]? = w.heap[b]?) (hx : TreeO w' lo Q xk xc u) (hQ : ∀ b, Q b → w.heap.size ≤ b)
    (hrow : TreesOwn w' lo v' (kids.map KidO.pair ++ [(xk, xc)])) (hv : ∀ b, ownB v' b → ownB cv b ∨ (w.heap.size ≤ b ∧ ¬ Q b)) :
    TreeO w' lo (fun b => P b ∨ Q b ∨ ownB v' b) kv v' (.mk ks (kids.map KidO.t ++ [u])) ∧ (∀ b, (P b ∨ Q b ∨ ownB v' b) → P b ∨ w.heap.size ≤ b) := by
  have hap := List.pairwise_cons.1 ap
  have hap2 := List.pairwise_cons.1 hap.2
  have hPQ : ∀ b, P b → ¬ Q b := fun b h1 h2 => by have := (lt b h1).2; have := hQ b h2; omega
  have he : kids.map KidO.t ++ [u] = (kids ++ [(⟨xk, xc, Q, u⟩ : KidO)]).map KidO.t := by simp
  rw [he]
  refine ⟨.mk ks (kids ++ [⟨xk, xc, Q, u⟩]) _ kv v' (ownsRow_heldB hk (fun b e => hb b (sk b e) (fun g => hap.1 (ownB cv) (by simp) b e g))) (by rw [List.map_append]; exact hrow) (fun x h => ?_) (fun b e => .inl (sk b e)) (fun b e => .inr (.inr e)) (fun x h b e => ?_) ?_ (fun b e => ?_), fun b e => ?_⟩
  · rcases List.mem_append.1 h with h | h
    · exact (hkids x h).same hz (fun b e => hb b (ss x h b e) (fun g => hap2.1 x.P (List.mem_map_of_mem h) b g e))
    · simp at h; subst h; exact hx
  · rcases List.mem_append.1 h with h | h
    · exact .inl (ss x h b e)
    · simp at h; subst h; exact .inr (.inl e)
  · have hvP : ∀ R : Blocks, (∀ b, R b → P b) → (∀ b, ownB cv b → ¬ R b) → ∀ b, ownB v' b → ¬ R b := fun R h1 h2 b e g => by
      rcases hv b e with h | h
      · exact h2 b h g
      · have := (lt b (h1 b g)).2; omega
    rw [List.map_append, List.map_cons, List.map_nil]
    refine List.pairwise_cons.2 ⟨fun R hR => ?_, List.pairwise_cons.2 ⟨fun R hR => ?_, ?_⟩⟩
    · simp only [List.mem_cons, List.mem_append, List.not_mem_nil, or_false] at hR
      rcases hR with rfl | hR | rfl
      · intro b e g; exact hvP (ownB kv) sk (fun b h1 h2 => hap.1 (ownB cv) (by simp) b h2 h1) b g e
      · exact hap.1 R (List.mem_cons_of_mem _ hR)
      · exact fun b e => hPQ b (sk b e)
    · simp only [List.mem_append, List.mem_cons, List.not_mem_nil, or_false] at hR
      rcases hR with hR | rfl
      · obtain ⟨x, hx', rfl⟩ := List.mem_map.1 hR
        exact hvP x.P (ss x hx') (hap2.1 x.P hR)
      · intro b e g
        rcases hv b e with h | h
        · exact hPQ b (sc b h) g
        · exact h.2 g
    · refine List.pairwise_append.2 ⟨hap2.2, List.pairwise_singleton _ _, fun R hR S hS => ?_⟩
      simp only [List.mem_cons, List.not_mem_nil, or_false] at hS
      subst hS
      obtain ⟨x, hx', rfl⟩ := List.mem_map.1 hR
      exact fun b e => hPQ b (ss x hx' b e)
  · rcases e with e | e | e
    · exact ⟨(lt b e).1, Nat.lt_of_lt_of_le (lt b e).2 hz⟩
    · exact hx.lt b e
    · exact hrow.lt b e
  · rcases e with e | e | e
    · exact .inl e
    · exact .inr (hQ b e)
    · rcases hv b e with h | h
      · exact .inl (sc b h)
      · exact .inr h.1

namespace Tr
mutual
def nkeys : Tr → Nat
  | .mk k c => k.length + nkeysL c
def nkeysL : List Tr → Nat
  | [] => 0
  | t :: r => nkeys t + nkeysL r
end
mutual
def remark (k : Int) : Tr → Tr
  | .mk ks cs => .mk (marks k ks.length) (remarks (k + ks.length) cs)
def remarks (k : Int) : List Tr → List Tr
  | [] => []
  | t :: r => remark k t :: remarks (k + nkeys t) r
end
mutual
theorem nkeys_le : ∀ t : Tr, nkeys t ≤ t.weight
  | .mk k c => by have := nkeysL_le c; simp only [nkeys, weight]; omega
theorem nkeysL_le : ∀ c : List Tr, nkeysL c ≤ weights c
  | [] => by simp [nkeysL]
  | t :: r => by have := nkeys_le t; have := nkeysL_le r; simp only [nkeysL, weights]; omega
end
def upTo (k : Int) (j : Nat) (cs : List Tr) : List Tr := remarks k (cs.take j) ++ cs.drop j
mutual
theorem remark_weight (k : Int) : ∀ t : Tr, (remark k t).weight = t.weight
  | .mk ks cs => by simp only [remark, weight, marks_length, remarks_weights]
theorem remarks_weights (k : Int) : ∀ cs : List Tr, weights (remarks k cs) = weights cs
  | [] => rfl
  | t :: r => by simp only [remarks, weights, remark_weight, remarks_weights]
end
end Tr
end Go.Proofs.Ytepkigcbjepbpaa
