/- Trees in rows of a call's own, no two of which share a block. -/
import Derived.Test.YtjnkdbgebkajoaaProg
import Derived.Test.YtjnkdbgebkajoaaSh0
import Derived.Test.YtjnkdbgebkajoaaTo
import Derived.Test.YtjnkdbgebkajoaaSh22
import Derived.Test.YtjnkdbgebkajoaaSh3
import Derived.Test.YtjnkdbgebkajoaaSh14
namespace Go.Proofs.Ytjnkdbgebkajoaa
open Go.RowKit

/-- Blocks. -/
abbrev Blocks := Nat → Prop
def ownB (v : Value) : Blocks := fun b => v.ownBlock = some b
def ApartB (P Q : Blocks) : Prop := ∀ b, P b → ¬ Q b

structure KidO where
  kv : Value
  cv : Value
  P : Blocks
  t : Tr
def KidO.pair (x : KidO) : Value × Value := (x.kv, x.cv)

inductive TreeO (w : World) (lo : Nat) : Blocks → Value → Value → Tr → Prop where
  | mk (ks : List Int) (kids : List KidO) (P : Blocks) (kv cv : Value)
      (hk : IntsOwn w lo kv ks) (hc : TreesOwn w lo cv (kids.map KidO.pair))
      (hkids : ∀ x, x ∈ kids → TreeO w lo x.P x.kv x.cv x.t)
      (sk : ∀ b, ownB kv b → P b) (sc : ∀ b, ownB cv b → P b) (ss : ∀ x, x ∈ kids → ∀ b, x.P b → P b)
      (ap : (ownB kv :: ownB cv :: kids.map KidO.P).Pairwise ApartB) (lt : ∀ b, P b → lo ≤ b ∧ b < w.heap.size) : TreeO w lo P kv cv (.mk ks (kids.map KidO.t))

theorem TreeO.parts {w : World} {lo : Nat} {P : Blocks} {kv cv : Value} {ks : List Int} {cs : List Tr} (h : TreeO w lo P kv cv (.mk ks cs)) : ∃ kids : List KidO, cs = kids.map KidO.t ∧
    IntsOwn w lo kv ks ∧ TreesOwn w lo cv (kids.map KidO.pair) ∧ (∀ x, x ∈ kids → TreeO w lo x.P x.kv x.cv x.t) ∧ (∀ b, ownB kv b → P b) ∧ (∀ b, ownB cv b → P b) ∧ (∀ x, x ∈ kids → ∀ b, x.P b → P b) ∧
    (ownB kv :: ownB cv :: kids.map KidO.P).Pairwise ApartB ∧ (∀ b, P b → lo ≤ b ∧ b < w.heap.size) := by
  cases h with
  | mk _ kids _ _ _ hk hc hkids sk sc ss ap lt => exact ⟨kids, rfl, hk, hc, hkids, sk, sc, ss, ap, lt⟩

theorem ownsRow_heldB {w w' : World} {lo : Nat} {e : TypeId} {c : Nat} {v : Value} {n : Nat} {xs : List Value} (h : w.ownsRow lo e c v n xs) (hb : ∀ b, ownB v b → w'.heap[b]? = w.heap[b]?) : w'.ownsRow lo e c v n xs := ownsRow_held h (fun k e => hb k e)

theorem TreeO.same {w w' : World} {lo : Nat} {P : Blocks} {kv cv : Value} {t : Tr} (h : TreeO w lo P kv cv t) (hz : w.heap.size ≤ w'.heap.size) (hb : ∀ b, P b → w'.heap[b]? = w.heap[b]?) : TreeO w' lo P kv cv t := by
  induction h with
  | mk ks kids P kv cv hk hc hkids sk sc ss ap lt ih =>
    exact .mk ks kids P kv cv (ownsRow_heldB hk (fun b e => hb b (sk b e))) (ownsRow_heldB hc (fun b e => hb b (sc b e))) (fun x hx => ih x hx (fun b e => hb b (ss x hx b e))) sk sc ss ap
      (fun b e => ⟨(lt b e).1, Nat.lt_of_lt_of_le (lt b e).2 hz⟩)

theorem TreeO.later {w w' : World} {lo C : Nat} {P : Blocks} {kv cv : Value} {t : Tr} (h : TreeO w lo P kv cv t) (hb : Below C w w') (hC : w.heap.size ≤ C) : TreeO w' lo P kv cv t := by
  refine h.same hb.size (fun b e => hb.block b ?_)
  cases h with
  | mk ks kids _ _ _ hk hc hkids sk sc ss ap lt => have := (lt b e).2; omega

theorem TreeO.lt {w : World} {lo : Nat} {P : Blocks} {kv cv : Value} {t : Tr} (h : TreeO w lo P kv cv t) : ∀ b, P b → lo ≤ b ∧ b < w.heap.size := by
  cases h with
  | mk ks kids _ _ _ hk hc hkids sk sc ss ap lt => exact lt

theorem ownsRow_lower {w : World} {lo lo' : Nat} {e : TypeId} {c : Nat} {v : Value} {n : Nat} {xs : List Value} (h : w.ownsRow lo e c v n xs) (hl : lo' ≤ lo) : w.ownsRow lo' e c v n xs := by
  obtain ⟨h1, h2 | ⟨g, cap, cur, hv, hb, hr⟩⟩ := h
  · exact ⟨h1, .inl h2⟩
  · exact ⟨h1, .inr ⟨g, cap, cur, hv, by omega, hr⟩⟩

theorem TreeO.lower {w : World} {lo lo' : Nat} {P : Blocks} {kv cv : Value} {t : Tr} (h : TreeO w lo P kv cv t) (hl : lo' ≤ lo) : TreeO w lo' P kv cv t := by
  induction h with
  | mk ks kids P kv cv hk hc hkids sk sc ss ap lt ih =>
    exact .mk ks kids P kv cv (ownsRow_lower hk hl) (ownsRow_lower hc hl) ih sk sc ss ap (fun b e => ⟨by have := (lt b e).1; omega, (lt b e).2⟩)

theorem TreeO.tree {w : World} {lo : Nat} {P : Blocks} {kv cv : Value} {t : Tr} (h : TreeO w lo P kv cv t) : TreeIn w w.heap.size kv cv t := by
  induction h with
  | mk ks kids P kv cv hk hc hkids sk sc ss ap lt ih =>
    obtain ⟨a, cap, rfl, hn, hm, hat⟩ := TreesOwn.kids hc
    have e1 : (kids.map KidO.pair).length = (kids.map KidO.t).length := by simp
    rw [e1] at hn hat ⊢
    refine .mk ks (kids.map KidO.t) _ a cap _ _ (IntsOwn.in hk) hn hm hat (fun i hi => ?_)
    simp at hi
    have := ih kids[i] (List.getElem_mem hi)
    simpa [hi, KidO.pair] using this

theorem TreeO.nil (w : World) (lo : Nat) : TreeO w lo (fun _ => False) (.slice none 0 0) (.slice none 0 0) (.mk [] []) :=
  .mk [] [] _ _ _ ⟨rfl, .inl ⟨rfl, rfl⟩⟩ ⟨rfl, .inl ⟨rfl, rfl⟩⟩ (fun x h => by cases h) (fun b h => by cases h) (fun b h => by cases h) (fun x h => by cases h)
    (List.pairwise_cons.2 ⟨fun _ _ b h => (by cases h), List.pairwise_cons.2 ⟨fun _ _ b h => (by cases h), List.Pairwise.nil⟩⟩) (fun b h => h.elim)

theorem TreeO.shown {w : World} {lo : Nat} {P : Blocks} {kv cv : Value} {ks : List Int} {cs : List Tr} (h : TreeO w lo P kv cv (.mk ks cs)) : ∃ a c a' c', kv = .slice a ks.length c ∧ cv = .slice a' cs.length c' := by
  obtain ⟨kids, rfl, hk, hc, _⟩ := h.parts
  obtain ⟨a, c, e⟩ := IntsOwn.shown hk
  obtain ⟨a', c', e'⟩ := TreesOwn.shown hc
  exact ⟨a, c, a', c', e, by simpa using e'⟩

/-- Pairwise apart, as a list splits. -/
theorem pair_mid {A B : List Blocks} {x : Blocks} (h : (A ++ x :: B).Pairwise ApartB) : (∀ y, y ∈ A → ApartB y x) ∧ (∀ y, y ∈ B → ApartB x y) := by
  rw [List.pairwise_append] at h
  exact ⟨fun y hy => h.2.2 y hy x (by simp), fun y hy => (List.pairwise_cons.1 h.2.1).1 y hy⟩

/-- A kid is opened: its place in the row, itself, and what it takes to put another tree in the same rows. -/
theorem TreeO.open {w : World} {lo : Nat} {P : Blocks} {kv cv : Value} {ks : List Int} {cs : List Tr} (h : TreeO w lo P kv cv (.mk ks cs)) (j : Nat) (hj : j < cs.length) :
    ∃ (b cap : Nat) (xk xc : Value) (Q : Blocks), cv = .slice (some ⟨b, 0, none⟩) cs.length cap ∧ P b ∧ ¬ Q b ∧ w.cell? ⟨b, j * 2, none⟩ = some xk ∧ w.cell? ⟨b, j * 2 + 1, none⟩ = some xc ∧
      TreeO w lo Q xk xc cs[j] ∧ (∀ q, Q q → P q) ∧
      ∀ (w' : World) (t' : Tr), w.heap.size ≤ w'.heap.size → (∀ q, P q → ¬ Q q → w'.heap[q]? = w.heap[q]?) → TreeO w' lo Q xk xc t' → TreeO w' lo P kv cv (.mk ks (cs.set j t')) := by
  obtain ⟨kids, rfl, hk, hc, hkids, sk, sc, ss, ap, lt⟩ := h.parts
  have hjk : j < kids.length := by simpa using hj
  have hc0 := hc
  obtain ⟨h1, ⟨h2, h3⟩ | ⟨g, cap, cur, hv, hb, hg, hn, hm, hs, ht⟩⟩ := hc
  · rw [List.length_map] at h3; omega
  subst hv
  have hx := List.getElem_mem hjk
  have hfg := flatT_get (kids.map KidO.pair) j (by simpa using hjk)
  have e1 := World.ownsRow.cellAt hc0 (j * 2) (by simp; omega)
  have e2 := World.ownsRow.cellAt hc0 (j * 2 + 1) (by simp; omega)
  rw [hfg.1] at e1
  rw [hfg.2] at e2
  simp [KidO.pair] at e1 e2
  have hsplit : kids.map KidO.P = (kids.take j).map KidO.P ++ kids[j].P :: (kids.drop (j + 1)).map KidO.P := by rw [← List.map_cons, ← List.map_append, List.getElem_cons_drop, List.take_append_drop]
  have hap := ap
  rw [hsplit, ← List.cons_append, ← List.cons_append] at hap
  have hmid := pair_mid hap
  have hcb : ∀ q, ownB (.slice (some ⟨g, 0, none⟩) (kids.map KidO.pair).length cap) q → ¬ kids[j].P q := fun q e => hmid.1 _ (by simp) q e
  have hkb : ∀ q, ownB kv q → ¬ kids[j].P q := fun q e => hmid.1 _ (by simp) q e
  refine ⟨g, cap, kids[j].kv, kids[j].cv, kids[j].P, by simp, sc g rfl, hcb g rfl, e1, e2, by simpa using hkids _ hx, ss _ hx, fun w' t' hz hw ht' => ?_⟩
  have hset : (kids.map KidO.t).set j t' = (kids.set j { kids[j] with t := t' }).map KidO.t := by rw [List.map_set]
  have hp : (kids.set j { kids[j] with t := t' }).map KidO.pair = kids.map KidO.pair := by
    rw [List.map_set]
    apply List.ext_getElem (by simp)
    intro i _ h2
    rw [List.getElem_set]
    split
    · subst j; simp [KidO.pair]
    · rfl
  have hP : (kids.set j { kids[j] with t := t' }).map KidO.P = kids.map KidO.P := by
    rw [List.map_set]
    apply List.ext_getElem (by simp)
    intro i _ h2
    rw [List.getElem_set]
    split
    · subst j; simp
    · rfl
  have hmem : ∀ x, x ∈ kids.set j { kids[j] with t := t' } → (x = { kids[j] with t := t' }) ∨ ∃ i, ∃ hi : i < kids.length, i ≠ j ∧ x = kids[i] := fun x hx => by
    obtain ⟨i, hi, rfl⟩ := List.mem_iff_getElem.1 hx
    rw [List.getElem_set]
    split
    · exact .inl rfl
    · exact .inr ⟨i, by simpa using hi, fun e => by omega, rfl⟩
  rw [hset]
  have hapk : ∀ i (hi : i < kids.length), i ≠ j → ∀ q, kids[i].P q → ¬ kids[j].P q := fun i hi hne q hq => by
    rcases Nat.lt_or_ge i j with hlt | hge
    · exact hmid.1 kids[i].P (by
        refine List.mem_append_right [_, _] (List.mem_map.2 ⟨kids[i], ?_, rfl⟩)
        exact List.mem_iff_getElem.2 ⟨i, by simp; omega, by simp⟩) q hq
    · intro hq'
      exact hmid.2 kids[i].P (List.mem_map.2 ⟨kids[i], List.mem_iff_getElem.2 ⟨i - (j + 1), by simp; omega, by simp; congr 1; omega⟩, rfl⟩) q hq' hq
  refine .mk ks _ P kv _ (ownsRow_heldB hk (fun q e => hw q (sk q e) (hkb q e))) (by rw [hp]; exact ownsRow_heldB hc0 (fun q e => hw q (sc q e) (hcb q e))) (fun x hx => ?_) sk sc (fun x hx => ?_) (by rw [hP]; exact ap) (fun b e => ⟨(lt b e).1, Nat.lt_of_lt_of_le (lt b e).2 hz⟩)
  · rcases hmem x hx with rfl | ⟨i, hi, hne, rfl⟩
    · exact ht'
    · exact (hkids _ (List.getElem_mem hi)).same hz (fun q hq => hw q (ss _ (List.getElem_mem hi) q hq) (hapk i hi hne q hq))
  · rcases hmem x hx with rfl | ⟨i, hi, hne, rfl⟩
    · exact ss kids[j] (List.getElem_mem hjk)
    · exact ss _ (List.getElem_mem hi)

/-- Other keys in the same row of keys. -/
theorem TreeO.keys {w w' : World} {lo : Nat} {P : Blocks} {kv cv : Value} {ks ks' : List Int} {cs : List Tr} (h : TreeO w lo P kv cv (.mk ks cs)) (hz : w.heap.size ≤ w'.heap.size) (hb : ∀ b, P b → ¬ ownB kv b → w'.heap[b]? = w.heap[b]?) (hk' : IntsOwn w' lo kv ks') :
    TreeO w' lo P kv cv (.mk ks' cs) := by
  obtain ⟨kids, rfl, hk, hc, hkids, sk, sc, ss, ap, lt⟩ := h.parts
  have hap := List.pairwise_cons.1 ap
  refine .mk ks' kids P kv cv hk' (ownsRow_heldB hc (fun b e => hb b (sc b e) (fun g => hap.1 (ownB cv) (by simp) b g e))) (fun x hx => (hkids x hx).same hz (fun b e => hb b (ss x hx b e) (fun g => hap.1 x.P (List.mem_cons_of_mem _ (List.mem_map_of_mem hx)) b g e))) sk sc ss ap
    (fun b e => ⟨(lt b e).1, Nat.lt_of_lt_of_le (lt b e).2 hz⟩)

/-- One kid more, its row behind the others or in a block that is new. -/
theorem TreeO.push {w w' : World} {lo : Nat} {P Q : Blocks} {kv cv v' xk xc : Value} {ks : List Int} {kids : List KidO} {u : Tr}
    (hk : IntsOwn w lo kv ks) (hkids : ∀ x, x ∈ kids → TreeO w lo x.P x.kv x.cv x.t) (sk : ∀ b, ownB kv b → P b) (sc : ∀ b, ownB cv b → P b) (ss : ∀ x, x ∈ kids → ∀ b, x.P b → P b)
    (ap : (ownB kv :: ownB cv :: kids.map KidO.P).Pairwise ApartB) (lt : ∀ b, P b → lo ≤ b ∧ b < w.heap.size) (hz : w.heap.size ≤ w'.heap.size)
    (hb : ∀ b, P b → ¬ ownB cv b → w'.heap[b]? = w.heap[b]?) (hx : TreeO w' lo Q xk xc u) (hQ : ∀ b, Q b → w.heap.size ≤ b)
    (hrow : TreesOwn w' lo v' (kids.map KidO.pair ++ [(xk, xc)])) (hv : ∀ b, ownB v' b → ownB cv b ∨ (w.heap.size ≤ b ∧ ¬ Q b)) :
    TreeO w' lo (fun b => P b ∨ Q b ∨ ownB v' b) kv v' (.mk ks (kids.map KidO.t ++ [u])) ∧ (∀ b, (P b ∨ Q b ∨ ownB v' b) → P b ∨ w.heap.size ≤ b) := by
  have hap := List.pairwise_cons.1 ap
  have hap2 := List.pairwise_cons.1 hap.2
  have hPQ : ∀ b, P b → ¬ Q b := fun b h1 h2 => by have := (lt b h1).2; have := hQ b h2; omega
  have he : kids.map KidO.t ++ [u] = (kids ++ [(⟨xk, xc, Q, u⟩ : KidO)]).map KidO.t := by simp
  rw [he]
  refine ⟨.mk ks (kids ++ [⟨xk, xc, Q, u⟩]) _ kv v' (ownsRow_heldB hk (fun b e => hb b (sk b e) (fun g => hap.1 (ownB cv) (by simp) b e g))) (by rw [List.map_append]; exact hrow) (fun x h => ?_) (fun b e => .inl (sk b e)) (fun b e => .inr (.inr e)) (fun x h b e => ?_) ?_ (fun b e => ?_), fun b e => ?_⟩
  · rcases List.mem_append.1 h with h | h
    · exact (hkids x h).same hz (fun b e => hb b (ss x h b e) (fun g => hap2.1 x.P (List.mem_map_of_mem h) b g e))
    · simp at h; subst h; exact hx
  · rcases List.mem_append.1 h with h | h
    · exact .inl (ss x h b e)
    · simp at h; subst h; exact .inr (.inl e)
  · have hvP : ∀ R : Blocks, (∀ b, R b → P b) → (∀ b, ownB cv b → ¬ R b) → ∀ b, ownB v' b → ¬ R b := fun R h1 h2 b e g => by
      rcases hv b e with h | h
      · exact h2 b h g
      · have := (lt b (h1 b g)).2; omega
    rw [List.map_append, List.map_cons, List.map_nil]
    refine List.pairwise_cons.2 ⟨fun R hR => ?_, List.pairwise_cons.2 ⟨fun R hR => ?_, ?_⟩⟩
    · simp only [List.mem_cons, List.mem_append, List.not_mem_nil, or_false] at hR
      rcases hR with rfl | hR | rfl
      · intro b e g; exact hvP (ownB kv) sk (fun b h1 h2 => hap.1 (ownB cv) (by simp) b h2 h1) b g e
      · exact hap.1 R (List.mem_cons_of_mem _ hR)
      · exact fun b e => hPQ b (sk b e)
    · simp only [List.mem_append, List.mem_cons, List.not_mem_nil, or_false] at hR
      rcases hR with hR | rfl
      · obtain ⟨x, hx', rfl⟩ := List.mem_map.1 hR
        exact hvP x.P (ss x hx') (hap2.1 x.P hR)
      · intro b e g
        rcases hv b e with h | h
        · exact hPQ b (sc b h) g
        · exact h.2 g
    · refine List.pairwise_append.2 ⟨hap2.2, List.pairwise_singleton _ _, fun R hR S hS => ?_⟩
      simp only [List.mem_cons, List.not_mem_nil, or_false] at hS
      subst hS
      obtain ⟨x, hx', rfl⟩ := List.mem_map.1 hR
      exact fun b e => hPQ b (ss x hx' b e)
  · rcases e with e | e | e
    · exact ⟨(lt b e).1, Nat.lt_of_lt_of_le (lt b e).2 hz⟩
    · exact hx.lt b e
    · exact hrow.lt b e
  · rcases e with e | e | e
    · exact .inl e
    · exact .inr (hQ b e)
    · rcases hv b e with h | h
      · exact .inl (sc b h)
      · exact .inr h.1

namespace Tr
mutual
/-- How many keys a tree has. -/
def nkeys : Tr → Nat
  | .mk k c => k.length + nkeysL c
def nkeysL : List Tr → Nat
  | [] => 0
  | t :: r => nkeys t + nkeysL r
end
mutual
/-- The tree with marks in place of its keys. -/
def remark (k : Int) : Tr → Tr
  | .mk ks cs => .mk (marks k ks.length) (remarks (k + ks.length) cs)
def remarks (k : Int) : List Tr → List Tr
  | [] => []
  | t :: r => remark k t :: remarks (k + nkeys t) r
end
theorem nkeysL_append (a b : List Tr) : nkeysL (a ++ b) = nkeysL a + nkeysL b := by
  induction a with
  | nil => simp [nkeysL]
  | cons t r ih => simp only [List.cons_append, nkeysL, ih]; omega
theorem remarks_append (k : Int) (a b : List Tr) : remarks k (a ++ b) = remarks k a ++ remarks (k + nkeysL a) b := by
  induction a generalizing k with
  | nil => simp [remarks, nkeysL]
  | cons t r ih =>
    simp only [List.cons_append, remarks, ih, nkeysL]
    rw [show k + (nkeys t : Int) + (nkeysL r : Int) = k + ((nkeys t + nkeysL r : Nat) : Int) by omega]
theorem remarks_length (k : Int) (a : List Tr) : (remarks k a).length = a.length := by
  induction a generalizing k with
  | nil => rfl
  | cons t r ih => simp [remarks, ih]
mutual
theorem nkeys_le : ∀ t : Tr, nkeys t ≤ t.weight
  | .mk k c => by have := nkeysL_le c; simp only [nkeys, weight]; omega
theorem nkeysL_le : ∀ c : List Tr, nkeysL c ≤ weights c
  | [] => by simp [nkeysL]
  | t :: r => by have := nkeys_le t; have := nkeysL_le r; simp only [nkeysL, weights]; omega
end
theorem nkeysL_take_le (cs : List Tr) (j : Nat) : nkeysL (cs.take j) ≤ nkeysL cs := by
  have := nkeysL_append (cs.take j) (cs.drop j)
  rw [List.take_append_drop] at this
  omega
theorem nkeysL_take_succ (cs : List Tr) (j : Nat) (h : j < cs.length) : nkeysL (cs.take (j + 1)) = nkeysL (cs.take j) + nkeys cs[j] := by
  rw [← List.take_append_getElem h, nkeysL_append]; simp [nkeysL]
/-- The first j kids with marks. -/
def upTo (k : Int) (j : Nat) (cs : List Tr) : List Tr := remarks k (cs.take j) ++ cs.drop j
theorem upTo_zero (k : Int) (cs : List Tr) : upTo k 0 cs = cs := by simp [upTo, remarks]
theorem upTo_all (k : Int) (cs : List Tr) : upTo k cs.length cs = remarks k cs := by simp [upTo]
theorem upTo_length (k : Int) (j : Nat) (cs : List Tr) : (upTo k j cs).length = cs.length := by simp [upTo, remarks_length]; omega
theorem upTo_get (k : Int) (j : Nat) (cs : List Tr) (h : j < cs.length) : (upTo k j cs)[j]'(by rw [upTo_length]; exact h) = cs[j] := by
  have hl : (remarks k (cs.take j)).length = j := by simp [remarks_length]; omega
  simp only [upTo]
  rw [List.getElem_append_right (by omega)]
  simp [hl]
theorem upTo_succ (k : Int) (j : Nat) (cs : List Tr) (h : j < cs.length) : (upTo k j cs).set j (remark (k + nkeysL (cs.take j)) cs[j]) = upTo k (j + 1) cs := by
  have hl : (remarks k (cs.take j)).length = j := by simp [remarks_length]; omega
  simp only [upTo]
  rw [List.set_append_right _ _ (by omega), hl, Nat.sub_self, ← List.getElem_cons_drop h, List.set_cons_zero, ← List.take_append_getElem h, remarks_append]
  simp [remarks]
theorem remarks_get (k : Int) (cs : List Tr) (j : Nat) (h : j < cs.length) : (remarks k cs)[j]'(by rw [remarks_length]; exact h) = remark (k + nkeysL (cs.take j)) cs[j] := by
  have h2 : remarks k cs = remarks k (cs.take j) ++ remark (k + nkeysL (cs.take j)) cs[j] :: remarks (k + nkeysL (cs.take j) + nkeys cs[j]) (cs.drop (j + 1)) := by
    conv => lhs; rw [← List.take_append_drop j cs, remarks_append, ← List.getElem_cons_drop h]
    simp [remarks]
  have hl : (remarks k (cs.take j)).length = j := by simp [remarks_length]; omega
  simp only [h2]
  rw [List.getElem_append_right (by omega)]
  simp [hl]
mutual
theorem remark_weight (k : Int) : ∀ t : Tr, (remark k t).weight = t.weight
  | .mk ks cs => by simp only [remark, weight, marks_length, remarks_weights]
theorem remarks_weights (k : Int) : ∀ cs : List Tr, weights (remarks k cs) = weights cs
  | [] => rfl
  | t :: r => by simp only [remarks, weights, remark_weight, remarks_weights]
end
end Tr
end Go.Proofs.Ytjnkdbgebkajoaa
