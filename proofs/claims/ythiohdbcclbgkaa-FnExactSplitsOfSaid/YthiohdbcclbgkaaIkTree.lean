/- The contract of the model's l1Copy: the same tree in rows of the call's own. -/
import Derived.Test.YthiohdbcclbgkaaProg
import Derived.Test.YthiohdbcclbgkaaBase
import Derived.Test.YthiohdbcclbgkaaApp
import Derived.Test.YthiohdbcclbgkaaSzTo
import Derived.Test.YthiohdbcclbgkaaMk
import Derived.Test.YthiohdbcclbgkaaTreesApp
import Derived.Test.YthiohdbcclbgkaaDnA
import Derived.Test.YthiohdbcclbgkaaPathD
import Derived.Test.YthiohdbcclbgkaaNode
import Derived.Test.YthiohdbcclbgkaaPlant
import Derived.Test.YthiohdbcclbgkaaNd
import Derived.Deep.RegionLaw
import Derived.Deep.AppendLies
import Derived.Test.YthiohdbcclbgkaaTreeL

/- Trees in rows of a call's own, no two of which share a block. -/
namespace Go.Proofs.Ythiohdbcclbgkaa
open Go.RowKit

/-- Blocks. -/
abbrev Blocks := Nat → Prop
def ownB (v : Value) : Blocks := fun b => v.ownBlock = some b
def ApartB (P Q : Blocks) : Prop := ∀ b, P b → ¬ Q b

structure KidO where
  kv : Value
  cv : Value
  P : Blocks
  t : Tr
def KidO.pair (x : KidO) : Value × Value := (x.kv, x.cv)

inductive TreeO (w : World) (lo : Nat) : Blocks → Value → Value → Tr → Prop where
  | mk (ks : List Int) (kids : List KidO) (P : Blocks) (kv cv : Value)
      (hk : IntsOwn w lo kv ks) (hc : TreesOwn w lo cv (kids.map KidO.pair))
      (hkids : ∀ x, x ∈ kids → TreeO w lo x.P x.kv x.cv x.t)
      (sk : ∀ b, ownB kv b → P b) (sc : ∀ b, ownB cv b → P b) (ss : ∀ x, x ∈ kids → ∀ b, x.P b → P b)
      (ap : (ownB kv :: ownB cv :: kids.map KidO.P).Pairwise ApartB) (lt : ∀ b, P b → lo ≤ b ∧ b < w.heap.size) : TreeO w lo P kv cv (.mk ks (kids.map KidO.t))

theorem TreeO.parts {w : World} {lo : Nat} {P : Blocks} {kv cv : Value} {ks : List Int} {cs : List Tr} (h : TreeO w lo P kv cv (.mk ks cs)) : ∃ kids : List KidO, cs = kids.map KidO.t ∧
    IntsOwn w lo kv ks ∧ TreesOwn w lo cv (kids.map KidO.pair) ∧ (∀ x, x ∈ kids → TreeO w lo x.P x.kv x.cv x.t) ∧ (∀ b, ownB kv b → P b) ∧ (∀ b, ownB cv b → P b) ∧ (∀ x, x ∈ kids → ∀ b, x.P b → P b) ∧
    (ownB kv :: ownB cv :: kids.map KidO.P).Pairwise ApartB ∧ (∀ b, P b → lo ≤ b ∧ b < w.heap.size) := by
  cases h with
  | mk _ kids _ _ _ hk hc hkids sk sc ss ap lt => exact ⟨kids, rfl, hk, hc, hkids, sk, sc, ss, ap, lt⟩

theorem ownsRow_heldB {w w' : World} {lo : Nat} {e : TypeId} {c : Nat} {v : Value} {n : Nat} {xs : List Value} (h : w.ownsRow lo e c v n xs) (hb : ∀ b, ownB v b → w'.heap[b]? = w.heap[b]?) : w'.ownsRow lo e c v n xs := ownsRow_held h (fun k e => hb k e)

theorem TreeO.same {w w' : World} {lo : Nat} {P : Blocks} {kv cv : Value} {t : Tr} (h : TreeO w lo P kv cv t) (hz : w.heap.size ≤ w'.heap.size) (hb : ∀ b, P b → w'.heap[b]? = w.heap[b]?) : TreeO w' lo P kv cv t := by
  induction h with
  | mk ks kids P kv cv hk hc hkids sk sc ss ap lt ih =>
    exact .mk ks kids P kv cv (ownsRow_heldB hk (fun b e => hb b (sk b e))) (ownsRow_heldB hc (fun b e => hb b (sc b e))) (fun x hx => ih x hx (fun b e => hb b (ss x hx b e))) sk sc ss ap
      (fun b e => ⟨(lt b e).1, Nat.lt_of_lt_of_le (lt b e).2 hz⟩)

theorem TreeO.later {w w' : World} {lo C : Nat} {P : Blocks} {kv cv : Value} {t : Tr} (h : TreeO w lo P kv cv t) (hb : Below C w w') (hC : w.heap.size ≤ C) : TreeO w' lo P kv cv t := by
  refine h.same hb.size (fun b e => hb.block b ?_)
  cases h with
  | mk ks kids _ _ _ hk hc hkids sk sc ss ap lt => have := (lt b e).2; omega

theorem TreeO.lt {w : World} {lo : Nat} {P : Blocks} {kv cv : Value} {t : Tr} (h : TreeO w lo P kv cv t) : ∀ b, P b → lo ≤ b ∧ b < w.heap.size := by
  cases h with
  | mk ks kids _ _ _ hk hc hkids sk sc ss ap lt => exact lt

theorem ownsRow_lower {w : World} {lo lo' : Nat} {e : TypeId} {c : Nat} {v : Value} {n : Nat} {xs : List Value} (h : w.ownsRow lo e c v n xs) (hl : lo' ≤ lo) : w.ownsRow lo' e c v n xs := by
  obtain ⟨h1, h2 | ⟨g, cap, cur, hv, hb, hr⟩⟩ := h
  · exact ⟨h1, .inl h2⟩
  · exact ⟨h1, .inr ⟨g, cap, cur, hv, by omega, hr⟩⟩

theorem TreeO.lower {w : World} {lo lo' : Nat} {P : Blocks} {kv cv : Value} {t : Tr} (h : TreeO w lo P kv cv t) (hl : lo' ≤ lo) : TreeO w lo' P kv cv t := by
  induction h with
  | mk ks kids P kv cv hk hc hkids sk sc ss ap lt ih =>
    exact .mk ks kids P kv cv (ownsRow_lower hk hl) (ownsRow_lower hc hl) ih sk sc ss ap (fun b e => ⟨by have := (lt b e).1; omega, (lt b e).2⟩)

theorem TreeO.tree {w : World} {lo : Nat} {P : Blocks} {kv cv : Value} {t : Tr} (h : TreeO w lo P kv cv t) : TreeIn w w.heap.size kv cv t := by
  induction h with
  | mk ks kids P kv cv hk hc hkids sk sc ss ap lt ih =>
    obtain ⟨a, cap, rfl, hn, hm, hat⟩ := TreesOwn.kids hc
    have e1 : (kids.map KidO.pair).length = (kids.map KidO.t).length := by simp
    rw [e1] at hn hat ⊢
    refine .mk ks (kids.map KidO.t) _ a cap _ _ (IntsOwn.in hk) hn hm hat (fun i hi => ?_)
    simp at hi
    have := ih kids[i] (List.getElem_mem hi)
    simpa [hi, KidO.pair] using this

theorem TreeO.nil (w : World) (lo : Nat) : TreeO w lo (fun _ => False) (.slice none 0 0) (.slice none 0 0) (.mk [] []) :=
  .mk [] [] _ _ _ ⟨rfl, .inl ⟨rfl, rfl⟩⟩ ⟨rfl, .inl ⟨rfl, rfl⟩⟩ (fun x h => by cases h) (fun b h => by cases h) (fun b h => by cases h) (fun x h => by cases h)
    (List.pairwise_cons.2 ⟨fun _ _ b h => (by cases h), List.pairwise_cons.2 ⟨fun _ _ b h => (by cases h), List.Pairwise.nil⟩⟩) (fun b h => h.elim)

theorem TreeO.shown {w : World} {lo : Nat} {P : Blocks} {kv cv : Value} {ks : List Int} {cs : List Tr} (h : TreeO w lo P kv cv (.mk ks cs)) : ∃ a c a' c', kv = .slice a ks.length c ∧ cv = .slice a' cs.length c' := by
  obtain ⟨kids, rfl, hk, hc, _⟩ := h.parts
  obtain ⟨a, c, e⟩ := IntsOwn.shown hk
  obtain ⟨a', c', e'⟩ := TreesOwn.shown hc
  exact ⟨a, c, a', c', e, by simpa using e'⟩

/-- Pairwise apart, as a list splits. -/
theorem pair_mid {A B : List Blocks} {x : Blocks} (h : (A ++ x :: B).Pairwise ApartB) : (∀ y, y ∈ A → ApartB y x) ∧ (∀ y, y ∈ B → ApartB x y) := by
  rw [List.pairwise_append] at h
  exact ⟨fun y hy => h.2.2 y hy x (by simp), fun y hy => (List.pairwise_cons.1 h.2.1).1 y hy⟩

/-- A kid is opened: its place in the row, itself, and what it takes to put another tree in the same rows. -/
theorem TreeO.open {w : World} {lo : Nat} {P : Blocks} {kv cv : Value} {ks : List Int} {cs : List Tr} (h : TreeO w lo P kv cv (.mk ks cs)) (j : Nat) (hj : j < cs.length) :
    ∃ (b cap : Nat) (xk xc : Value) (Q : Blocks), cv = .slice (some ⟨b, 0, none⟩) cs.length cap ∧ P b ∧ ¬ Q b ∧ w.cell? ⟨b, j * 2, none⟩ = some xk ∧ w.cell? ⟨b, j * 2 + 1, none⟩ = some xc ∧
      TreeO w lo Q xk xc cs[j] ∧ (∀ q, Q q → P q) ∧
      ∀ (w' : World) (t' : Tr), w.heap.size ≤ w'.heap.size → (∀ q, P q → ¬ Q q → w'.heap[q]? = w.heap[q]?) → TreeO w' lo Q xk xc t' → TreeO w' lo P kv cv (.mk ks (cs.set j t')) := by
  obtain ⟨kids, rfl, hk, hc, hkids, sk, sc, ss, ap, lt⟩ := h.parts
  have hjk : j < kids.length := by simpa using hj
  have hc0 := hc
  obtain ⟨h1, ⟨h2, h3⟩ | ⟨g, cap, cur, hv, hb, hg, hn, hm, hs, ht⟩⟩ := hc
  · rw [List.length_map] at h3; omega
  subst hv
  have hx := List.getElem_mem hjk
  have hfg := flatT_get (kids.map KidO.pair) j (by simpa using hjk)
  have e1 := World.ownsRow.cellAt hc0 (j * 2) (by simp; omega)
  have e2 := World.ownsRow.cellAt hc0 (j * 2 + 1) (by simp; omega)
  rw [hfg.1] at e1
  rw [hfg.2] at e2
  simp [KidO.pair] at e1 e2
  have hsplit : kids.map KidO.P = (kids.take j).map KidO.P ++ kids[j].P :: (kids.drop (j + 1)).map KidO.P := by rw [← List.map_cons, ← List.map_append, List.getElem_cons_drop, List.take_append_drop]
  have hap := ap
  rw [hsplit, ← List.cons_append, ← List.cons_append] at hap
  have hmid := pair_mid hap
  have hcb : ∀ q, ownB (.slice (some ⟨g, 0, none⟩) (kids.map KidO.pair).length cap) q → ¬ kids[j].P q := fun q e => hmid.1 _ (by simp) q e
  have hkb : ∀ q, ownB kv q → ¬ kids[j].P q := fun q e => hmid.1 _ (by simp) q e
  refine ⟨g, cap, kids[j].kv, kids[j].cv, kids[j].P, by simp, sc g rfl, hcb g rfl, e1, e2, by simpa using hkids _ hx, ss _ hx, fun w' t' hz hw ht' => ?_⟩
  have hset : (kids.map KidO.t).set j t' = (kids.set j { kids[j] with t := t' }).map KidO.t := by rw [List.map_set]
  have hp : (kids.set j { kids[j] with t := t' }).map KidO.pair = kids.map KidO.pair := by
    rw [List.map_set]
    apply List.ext_getElem (by simp)
    intro i _ h2
    rw [List.getElem_set]
    split
    · subst j; simp [KidO.pair]
    · rfl
  have hP : (kids.set j { kids[j] with t := t' }).map KidO.P = kids.map KidO.P := by
    rw [List.map_set]
    apply List.ext_getElem (by simp)
    intro i _ h2
    rw [List.getElem_set]
    split
    · subst j; simp
    · rfl
  have hmem : ∀ x, x ∈ kids.set j { kids[j] with t := t' } → (x = { kids[j] with t := t' }) ∨ ∃ i, ∃ hi : i < kids.length, i ≠ j ∧ x = kids[i] := fun x hx => by
    obtain ⟨i, hi, rfl⟩ := List.mem_iff_getElem.1 hx
    rw [List.getElem_set]
    split
    · exact .inl rfl
    · exact .inr ⟨i, by simpa using hi, fun e => by omega, rfl⟩
  rw [hset]
  have hapk : ∀ i (hi : i < kids.length), i ≠ j → ∀ q, kids[i].P q → ¬ kids[j].P q := fun i hi hne q hq => by
    rcases Nat.lt_or_ge i j with hlt | hge
    · exact hmid.1 kids[i].P (by
        refine List.mem_append_right [_, _] (List.mem_map.2 ⟨kids[i], ?_, rfl⟩)
        exact List.mem_iff_getElem.2 ⟨i, by simp; omega, by simp⟩) q hq
    · intro hq'
      exact hmid.2 kids[i].P (List.mem_map.2 ⟨kids[i], List.mem_iff_getElem.2 ⟨i - (j + 1), by simp; omega, by simp; congr 1; omega⟩, rfl⟩) q hq' hq
  refine .mk ks _ P kv _ (ownsRow_heldB hk (fun q e => hw q (sk q e) (hkb q e))) (by rw [hp]; exact ownsRow_heldB hc0 (fun q e => hw q (sc q e) (hcb q e))) (fun x hx => ?_) sk sc (fun x hx => ?_) (by rw [hP]; exact ap) (fun b e => ⟨(lt b e).1, Nat.lt_of_lt_of_le (lt b e).2 hz⟩)
  · rcases hmem x hx with rfl | ⟨i, hi, hne, rfl⟩
    · exact ht'
    · exact (hkids _ (List.getElem_mem hi)).same hz (fun q hq => hw q (ss _ (List.getElem_mem hi) q hq) (hapk i hi hne q hq))
  · rcases hmem x hx with rfl | ⟨i, hi, hne, rfl⟩
    · exact ss kids[j] (List.getElem_mem hjk)
    · exact ss _ (List.getElem_mem hi)

/-- Other keys in the same row of keys. -/
theorem TreeO.keys {w w' : World} {lo : Nat} {P : Blocks} {kv cv : Value} {ks ks' : List Int} {cs : List Tr} (h : TreeO w lo P kv cv (.mk ks cs)) (hz : w.heap.size ≤ w'.heap.size) (hb : ∀ b, P b → ¬ ownB kv b → w'.heap[b]? = w.heap[b]?) (hk' : IntsOwn w' lo kv ks') :
    TreeO w' lo P kv cv (.mk ks' cs) := by
  obtain ⟨kids, rfl, hk, hc, hkids, sk, sc, ss, ap, lt⟩ := h.parts
  have hap := List.pairwise_cons.1 ap
  refine .mk ks' kids P kv cv hk' (ownsRow_heldB hc (fun b e => hb b (sc b e) (fun g => hap.1 (ownB cv) (by simp) b g e))) (fun x hx => (hkids x hx).same hz (fun b e => hb b (ss x hx b e) (fun g => hap.1 x.P (List.mem_cons_of_mem _ (List.mem_map_of_mem hx)) b g e))) sk sc ss ap
    (fun b e => ⟨(lt b e).1, Nat.lt_of_lt_of_le (lt b e).2 hz⟩)

/-- One kid more, its row behind the others or in a block that is new. -/
theorem TreeO.push {w w' : World} {lo : Nat} {P Q : Blocks} {kv cv v' xk xc : Value} {ks : List Int} {kids : List KidO} {u : Tr}
    (hk : IntsOwn w lo kv ks) (hkids : ∀ x, x ∈ kids → TreeO w lo x.P x.kv x.cv x.t) (sk : ∀ b, ownB kv b → P b) (sc : ∀ b, ownB cv b → P b) (ss : ∀ x, x ∈ kids → ∀ b, x.P b → P b)
    (ap : (ownB kv :: ownB cv :: kids.map KidO.P).Pairwise ApartB) (lt : ∀ b, P b → lo ≤ b ∧ b < w.heap.size) (hz : w.heap.size ≤ w'.heap.size)
    (hb : ∀ b, P b → ¬ ownB cv b → w'.heap[b]? = w.heap[b]?) (hx : TreeO w' lo Q xk xc u) (hQ : ∀ b, Q b → w.heap.size ≤ b)
    (hrow : TreesOwn w' lo v' (kids.map KidO.pair ++ [(xk, xc)])) (hv : ∀ b, ownB v' b → ownB cv b ∨ (w.heap.size ≤ b ∧ ¬ Q b)) :
    TreeO w' lo (fun b => P b ∨ Q b ∨ ownB v' b) kv v' (.mk ks (kids.map KidO.t ++ [u])) ∧ (∀ b, (P b ∨ Q b ∨ ownB v' b) → P b ∨ w.heap.size ≤ b) := by
  have hap := List.pairwise_cons.1 ap
  have hap2 := List.pairwise_cons.1 hap.2
  have hPQ : ∀ b, P b → ¬ Q b := fun b h1 h2 => by have := (lt b h1).2; have := hQ b h2; omega
  have he : kids.map KidO.t ++ [u] = (kids ++ [(⟨xk, xc, Q, u⟩ : KidO)]).map KidO.t := by simp
  rw [he]
  refine ⟨.mk ks (kids ++ [⟨xk, xc, Q, u⟩]) _ kv v' (ownsRow_heldB hk (fun b e => hb b (sk b e) (fun g => hap.1 (ownB cv) (by simp) b e g))) (by rw [List.map_append]; exact hrow) (fun x h => ?_) (fun b e => .inl (sk b e)) (fun b e => .inr (.inr e)) (fun x h b e => ?_) ?_ (fun b e => ?_), fun b e => ?_⟩
  · rcases List.mem_append.1 h with h | h
    · exact (hkids x h).same hz (fun b e => hb b (ss x h b e) (fun g => hap2.1 x.P (List.mem_map_of_mem h) b g e))
    · simp at h; subst h; exact hx
  · rcases List.mem_append.1 h with h | h
    · exact .inl (ss x h b e)
    · simp at h; subst h; exact .inr (.inl e)
  · have hvP : ∀ R : Blocks, (∀ b, R b → P b) → (∀ b, ownB cv b → ¬ R b) → ∀ b, ownB v' b → ¬ R b := fun R h1 h2 b e g => by
      rcases hv b e with h | h
      · exact h2 b h g
      · have := (lt b (h1 b g)).2; omega
    rw [List.map_append, List.map_cons, List.map_nil]
    refine List.pairwise_cons.2 ⟨fun R hR => ?_, List.pairwise_cons.2 ⟨fun R hR => ?_, ?_⟩⟩
    · simp only [List.mem_cons, List.mem_append, List.not_mem_nil, or_false] at hR
      rcases hR with rfl | hR | rfl
      · intro b e g; exact hvP (ownB kv) sk (fun b h1 h2 => hap.1 (ownB cv) (by simp) b h2 h1) b g e
      · exact hap.1 R (List.mem_cons_of_mem _ hR)
      · exact fun b e => hPQ b (sk b e)
    · simp only [List.mem_append, List.mem_cons, List.not_mem_nil, or_false] at hR
      rcases hR with hR | rfl
      · obtain ⟨x, hx', rfl⟩ := List.mem_map.1 hR
        exact hvP x.P (ss x hx') (hap2.1 x.P hR)
      · intro b e g
        rcases hv b e with h | h
        · exact hPQ b (sc b h) g
        · exact h.2 g
    · refine List.pairwise_append.2 ⟨hap2.2, List.pairwise_singleton _ _, fun R hR S hS => ?_⟩
      simp only [List.mem_cons, List.not_mem_nil, or_false] at hS
      subst hS
      obtain ⟨x, hx', rfl⟩ := List.mem_map.1 hR
      exact fun b e => hPQ b (ss x hx' b e)
  · rcases e with e | e | e
    · exact ⟨(lt b e).1, Nat.lt_of_lt_of_le (lt b e).2 hz⟩
    · exact hx.lt b e
    · exact hrow.lt b e
  · rcases e with e | e | e
    · exact .inl e
    · exact .inr (hQ b e)
    · rcases hv b e with h | h
      · exact .inl (sc b h)
      · exact .inr h.1

namespace Tr
mutual
/-- How many keys a tree has. -/
def nkeys : Tr → Nat
  | .mk k c => k.length + nkeysL c
def nkeysL : List Tr → Nat
  | [] => 0
  | t :: r => nkeys t + nkeysL r
end
mutual
/-- The tree with marks in place of its keys. -/
def remark (k : Int) : Tr → Tr
  | .mk ks cs => .mk (marks k ks.length) (remarks (k + ks.length) cs)
def remarks (k : Int) : List Tr → List Tr
  | [] => []
  | t :: r => remark k t :: remarks (k + nkeys t) r
end
theorem nkeysL_append (a b : List Tr) : nkeysL (a ++ b) = nkeysL a + nkeysL b := by
  induction a with
  | nil => simp [nkeysL]
  | cons t r ih => simp only [List.cons_append, nkeysL, ih]; omega
theorem remarks_append (k : Int) (a b : List Tr) : remarks k (a ++ b) = remarks k a ++ remarks (k + nkeysL a) b := by
  induction a generalizing k with
  | nil => simp [remarks, nkeysL]
  | cons t r ih =>
    simp only [List.cons_append, remarks, ih, nkeysL]
    rw [show k + (nkeys t : Int) + (nkeysL r : Int) = k + ((nkeys t + nkeysL r : Nat) : Int) by omega]
theorem remarks_length (k : Int) (a : List Tr) : (remarks k a).length = a.length := by
  induction a generalizing k with
  | nil => rfl
  | cons t r ih => simp [remarks, ih]
mutual
theorem nkeys_le : ∀ t : Tr, nkeys t ≤ t.weight
  | .mk k c => by have := nkeysL_le c; simp only [nkeys, weight]; omega
theorem nkeysL_le : ∀ c : List Tr, nkeysL c ≤ weights c
  | [] => by simp [nkeysL]
  | t :: r => by have := nkeys_le t; have := nkeysL_le r; simp only [nkeysL, weights]; omega
end
theorem nkeysL_take_le (cs : List Tr) (j : Nat) : nkeysL (cs.take j) ≤ nkeysL cs := by
  have := nkeysL_append (cs.take j) (cs.drop j)
  rw [List.take_append_drop] at this
  omega
theorem nkeysL_take_succ (cs : List Tr) (j : Nat) (h : j < cs.length) : nkeysL (cs.take (j + 1)) = nkeysL (cs.take j) + nkeys cs[j] := by
  rw [← List.take_append_getElem h, nkeysL_append]; simp [nkeysL]
/-- The first j kids with marks. -/
def upTo (k : Int) (j : Nat) (cs : List Tr) : List Tr := remarks k (cs.take j) ++ cs.drop j
theorem upTo_zero (k : Int) (cs : List Tr) : upTo k 0 cs = cs := by simp [upTo, remarks]
theorem upTo_all (k : Int) (cs : List Tr) : upTo k cs.length cs = remarks k cs := by simp [upTo]
theorem upTo_length (k : Int) (j : Nat) (cs : List Tr) : (upTo k j cs).length = cs.length := by simp [upTo, remarks_length]; omega
theorem upTo_get (k : Int) (j : Nat) (cs : List Tr) (h : j < cs.length) : (upTo k j cs)[j]'(by rw [upTo_length]; exact h) = cs[j] := by
  have hl : (remarks k (cs.take j)).length = j := by simp [remarks_length]; omega
  simp only [upTo]
  rw [List.getElem_append_right (by omega)]
  simp [hl]
theorem upTo_succ (k : Int) (j : Nat) (cs : List Tr) (h : j < cs.length) : (upTo k j cs).set j (remark (k + nkeysL (cs.take j)) cs[j]) = upTo k (j + 1) cs := by
  have hl : (remarks k (cs.take j)).length = j := by simp [remarks_length]; omega
  simp only [upTo]
  rw [List.set_append_right _ _ (by omega), hl, Nat.sub_self, ← List.getElem_cons_drop h, List.set_cons_zero, ← List.take_append_getElem h, remarks_append]
  simp [remarks]
theorem remarks_get (k : Int) (cs : List Tr) (j : Nat) (h : j < cs.length) : (remarks k cs)[j]'(by rw [remarks_length]; exact h) = remark (k + nkeysL (cs.take j)) cs[j] := by
  have h2 : remarks k cs = remarks k (cs.take j) ++ remark (k + nkeysL (cs.take j)) cs[j] :: remarks (k + nkeysL (cs.take j) + nkeys cs[j]) (cs.drop (j + 1)) := by
    conv => lhs; rw [← List.take_append_drop j cs, remarks_append, ← List.getElem_cons_drop h]
    simp [remarks]
  have hl : (remarks k (cs.take j)).length = j := by simp [remarks_length]; omega
  simp only [h2]
  rw [List.getElem_append_right (by omega)]
  simp [hl]
mutual
theorem remark_weight (k : Int) : ∀ t : Tr, (remark k t).weight = t.weight
  | .mk ks cs => by simp only [remark, weight, marks_length, remarks_weights]
theorem remarks_weights (k : Int) : ∀ cs : List Tr, weights (remarks k cs) = weights cs
  | [] => rfl
  | t :: r => by simp only [remarks, weights, remark_weight, remarks_weights]
end
end Tr
end Go.Proofs.Ythiohdbcclbgkaa

/- markTree over trees that a call owns, and heldTree: the marks are there. -/
namespace Go.Proofs.Ythiohdbcclbgkaa
open Go.RowKit

/-- Nothing outside the blocks P has turned. -/
structure KeptB (P : Blocks) (w w' : World) : Prop where
  os : w'.os = w.os
  tape : w'.tape = w.tape
  output : w'.output = w.output
  size : w.heap.size ≤ w'.heap.size
  block : ∀ k, k < w.heap.size → ¬ P k → w'.heap[k]? = w.heap[k]?

theorem KeptB.refl (P : Blocks) (w : World) : KeptB P w w := ⟨rfl, rfl, rfl, Nat.le_refl _, fun _ _ _ => rfl⟩
theorem KeptB.mono {P Q : Blocks} {w w' : World} (h : KeptB P w w') (hs : ∀ k, P k → Q k) : KeptB Q w w' := ⟨h.os, h.tape, h.output, h.size, fun k h1 h2 => h.block k h1 (fun g => h2 (hs k g))⟩
theorem KeptB.trans {P : Blocks} {a b c : World} (h : KeptB P a b) (k : KeptB P b c) : KeptB P a c :=
  ⟨k.os.trans h.os, k.tape.trans h.tape, k.output.trans h.output, Nat.le_trans h.size k.size, fun i h1 h2 => (k.block i (Nat.lt_of_lt_of_le h1 h.size) h2).trans (h.block i h1 h2)⟩
theorem KeptB.of_below {P : Blocks} {C : Nat} {w w' : World} (h : Below C w w') (hC : w.heap.size ≤ C) : KeptB P w w' := ⟨h.os, h.tape, h.output, h.size, fun k h1 _ => h.block k (by omega)⟩
theorem KeptB.below {P : Blocks} {B : Nat} {w w' : World} (h : KeptB P w w') (hB : B ≤ w.heap.size) (hP : ∀ k, P k → B ≤ k) : Below B w w' :=
  ⟨h.os, h.tape, h.output, h.size, fun k hk => h.block k (by omega) (fun g => by have := hP k g; omega)⟩

theorem TreeO.kept {w w' : World} {lo : Nat} {P Q : Blocks} {kv cv : Value} {t : Tr} (h : TreeO w lo P kv cv t) (hk : KeptB Q w w') (hd : ∀ b, P b → ¬ Q b) : TreeO w' lo P kv cv t :=
  h.same hk.size (fun b e => hk.block b (h.lt b e).2 (hd b e))

/-- Marking a row of ints turns this row alone. -/
theorem markOwnB_c {w : World} {lo : Nat} {v : Value} {ks : List Int} (h : IntsOwn w lo v ks) (hl : lo ≤ w.heap.size) (hn : ks.length ≤ 1048576) (k : Int) (h0 : 0 ≤ k) (h1 : k ≤ 1099511627776) :
    Calls Try.prog 20 #[v, .int .i64 k] w fun e w' => e = .returned (.int .i64 (k + ks.length)) ∧ IntsOwn w' lo v (marks k ks.length) ∧ KeptB (ownB v) w w' := by
  obtain ⟨hlen, ⟨hv, hz⟩ | ⟨g, cap, cur, hv, hb, hg, hnc, hm, hs, ht⟩⟩ := h
  · subst hv
    rw [hz]
    refine (markNone_c none 0 k w).mono ?_
    rintro e w' ⟨rfl, rfl⟩
    exact ⟨by simp, World.ownsRow_nil w lo _ _, KeptB.refl _ _⟩
  · subst hv
    rw [Nat.mul_one] at hs ht
    refine (markRow_c g ks.length cap k cur w hg (by omega) hn (fun i hi => ⟨ks[i], ?_⟩) h0 h1).mono ?_
    · have : (cur.toList.take ks.length)[i]? = some (.int .i64 ks[i]) := by rw [ht]; simp [hi]
      rw [List.getElem?_take_of_lt hi] at this
      simpa using this
    · rintro e w' ⟨rfl, c', hg', hsz, hd, hgr⟩
      refine ⟨rfl, ⟨by simp [marks], .inr ⟨g, cap, c', by rw [marks_length], hb, hg', by rw [marks_length]; exact hnc, hm, by omega, ?_⟩⟩, ⟨hgr.os, hgr.tape, hgr.output, hgr.size, fun q h1 h2 => hgr.block q h1 (fun e => h2 e.symm)⟩⟩
      apply List.ext_getElem?
      intro i
      rw [marks_length, Nat.mul_one]
      by_cases hi : i < ks.length
      · rw [List.getElem?_take_of_lt hi]
        have := hd i hi
        simp [marks, hi, this]
      · rw [List.getElem?_eq_none (by simp; omega), List.getElem?_eq_none (by simp [marks]; omega)]

set_option maxRecDepth 100000 in
set_option maxHeartbeats 2000000 in
theorem markTreeS_o (lo : Nat) : ∀ (N : Nat) (t : Tr), t.weight ≤ N → N ≤ 1048576 → ∀ (w : World) (P : Blocks) (kv cv : Value), TreeO w lo P kv cv t → lo ≤ w.heap.size → ∀ (k : Int), 0 ≤ k → k + (Tr.weights t.cs : Int) ≤ 1099511627776 →
    Calls Try.prog 72 #[cv, .int .i64 k] w fun e w' => e = .returned (.int .i64 (k + (Tr.nkeysL t.cs : Int))) ∧ TreeO w' lo P kv cv (.mk t.ks (Tr.remarks k t.cs)) ∧ KeptB P w w' := by
  intro N
  induction N using Nat.strongRecOn with
  | _ N ih =>
    intro t hw hN w P kv cv ht hlo k h0 h1
    obtain ⟨ks, cs⟩ := t
    simp only [Tr.weight] at hw
    simp only [Tr.cs] at h1
    obtain ⟨_, _, ca, ccap, -, hcv⟩ := ht.shown
    subst hcv
    have hcl := Tr.length_le_weights cs
    have HT := Lib.hid ht
    have IH := Lib.hid ih
    clear ht ih
    simp only [Tr.cs, Tr.ks]
    go_enter Try.func72, Try.ntmps72
    go_wp2_with fail
    go_loopw [1, 5] (fun l i wr => ∃ (j : Nat) (m : Int), j ≤ cs.length ∧ i = .int .i64 j ∧ l = .int .i64 m ∧ m = k + (Tr.nkeysL (cs.take j) : Int) ∧ TreeO wr lo P kv (.slice ca cs.length ccap) (.mk ks (Tr.upTo k j cs)) ∧ KeptB P w wr) (fun _ i _ => cs.length - (intOf i).toNat)
    case atStart => exact ⟨0, k, Nat.zero_le _, rfl, rfl, by simp [Tr.nkeysL], by rw [Tr.upTo_zero]; exact HT.out, KeptB.refl _ _⟩
    case round =>
      obtain ⟨j, m, hj, rfl, rfl, hm, htr, hkw⟩ := hrel
      have hsz := hkw.size
      by_cases hlt : j < cs.length
      · obtain ⟨b, cap, xk, xc, Q, hcv, hPb, hnQ, c1, c2, hx, hQP, hput⟩ := htr.open j (by rw [Tr.upTo_length]; exact hlt)
        rw [Tr.upTo_length] at hcv
        rw [Tr.upTo_get _ _ _ hlt] at hx
        have hsucc := Tr.upTo_succ k j cs hlt
        have hnk := Tr.nkeysL_take_succ cs j hlt
        have hwt := Tr.weight_get_le cs j hlt
        have hnl := Tr.nkeysL_take_le cs j
        have hnw := Tr.nkeysL_le cs
        have hwj := Tr.nkeysL_take_succ cs j hlt
        have hsum : Tr.nkeysL (cs.take j) + cs[j].weight ≤ Tr.weights cs := by
          have a1 := Tr.weights_take_succ cs j hlt
          have a2 := Tr.weights_take_ge cs (j + 1)
          have a3 := Tr.nkeysL_le (cs.take j)
          omega
        rw [← hm] at hsucc
        generalize cs[j] = u at hx hsucc hnk hwt hwj hsum
        obtain ⟨uk, uc⟩ := u
        obtain ⟨xa, xcap, ya, ycap, rfl, rfl⟩ := hx.shown
        obtain ⟨kids, hce, hxk, -, -, sk, -⟩ := hx.parts
        clear hce
        simp only [Tr.weight, Tr.nkeys, Tr.remark] at hwt hnk hsucc hsum
        have hq := hkw
        injection hcv with hca _ hcap
        subst hca hcap
        have HX := Lib.hid (And.intro hx (And.intro hQP (And.intro hput (And.intro hkw (And.intro sk hnQ)))))
        have HXK := Lib.hid hxk
        have HLT := Lib.hid htr.lt
        have HS := Lib.hid (And.intro hsucc (And.intro hm hnk))
        have hmb : 0 ≤ m ∧ m + (uk.length : Int) + (Tr.weights uc : Int) ≤ 1099511627776 := by omega
        clear hx hQP hput hkw hq htr sk hxk hsucc hm hnk hwj
        have hukl : uk.length ≤ 1048576 := by omega
        have hmm := hmb.1
        have hmb2 : m ≤ 1099511627776 := by omega
        go_wp2_with fail
        refine (markOwnB_c HXK.out (by omega) hukl m hmm hmb2).mono ?_
        rintro e w1 ⟨rfl, hk1, hkb1⟩
        have hx1 := HX.out.1.keys hkb1.size (fun q g1 g2 => hkb1.block q (HX.out.1.lt q g1).2 g2) hk1
        have c2' := (cell_of_blk (hkb1.block b (World.block_lt_of_cell? wr _ c1) (fun g => HX.out.2.2.2.2.2 (HX.out.2.2.2.2.1 b g)))).trans c2
        have hI := IH.out ((marks m uk.length).length + Tr.weights uc) (by rw [marks_length]; omega) (.mk (marks m uk.length) uc) (by simp [Tr.weight]) (by rw [marks_length]; omega) w1 Q _ _ hx1 (by have := hkb1.size; omega) (m + (uk.length : Int)) (by omega) (by simp only [Tr.cs]; omega)
        simp only [Tr.cs, Tr.ks] at hI
        have HI := Lib.hid hI
        have HK1 := Lib.hid (hkb1.mono (fun q g => HX.out.2.2.2.2.1 q g))
        have hs1 := hkb1.size
        clear hI hx1 hk1 hkb1 c1 c2
        go_wp2_with fail
        refine HI.out.mono ?_
        rintro e w2 ⟨rfl, hx2, hk2⟩
        have hk12 := HK1.out.trans hk2
        have hnew := HX.out.2.2.1 w2 _ hk12.size (fun q g1 g2 => hk12.block q (HLT.out q g1).2 g2) hx2
        have HN := Lib.hid (And.intro hnew hk12)
        clear hnew hk12 hx2 hk2
        go_wp2_with fail
        go_roundw
        case rel =>
          refine ⟨j + 1, _, by omega, by go_num, rfl, ?_, ?_, HX.out.2.2.2.1.trans (HN.out.2.mono (fun q g => HX.out.2.1 q g))⟩
          · have := HS.out.2.1; have := HS.out.2.2; omega
          · rw [← HS.out.1]; exact HN.out.1
        case measure => simp [intOf]; omega
      · obtain rfl : j = cs.length := by omega
        rw [List.take_length] at hm
        rw [Tr.upTo_all] at htr
        have HX := Lib.hid (And.intro htr hkw)
        have HM := Lib.hid hm
        clear htr hkw hm
        go_wp2_with fail
        go_ret
        exact ⟨by rw [HM.out]; rfl, HX.out.1, HX.out.2⟩

set_option maxRecDepth 100000 in
set_option maxHeartbeats 1000000 in
theorem markTree_o {w : World} {lo : Nat} {P : Blocks} {kv cv : Value} {t : Tr} (ht : TreeO w lo P kv cv t) (hw : t.weight ≤ 1048576) (hlo : lo ≤ w.heap.size) (k : Int) (h0 : 0 ≤ k) (h1 : k ≤ 1048576) :
    Calls Try.prog 21 #[.agg #[kv, cv], .int .i64 k] w fun e w' => e = .returned (.int .i64 (k + (Tr.nkeys t : Int))) ∧ TreeO w' lo P kv cv (Tr.remark k t) ∧ KeptB P w w' := by
  obtain ⟨ks, cs⟩ := t
  obtain ⟨a, c, a', c', rfl, rfl⟩ := ht.shown
  obtain ⟨kids, hce, hxk, -, -, sk, -⟩ := ht.parts
  clear hce
  simp only [Tr.weight] at hw
  obtain ⟨W1, hW1⟩ : ∃ W1, W1 = w.alloc (.cells #[.slice a ks.length c, .slice a' cs.length c'] 25) := ⟨_, rfl⟩
  have hs1 : W1.heap.size = w.heap.size + 1 := by rw [hW1]; simp
  have hb1 : Below w.heap.size w W1 := by rw [hW1]; exact (Below.refl _ _).alloc (Nat.le_refl _) _
  have kb : W1.heap[w.heap.size]? = some (.cells #[.slice a ks.length c, .slice a' cs.length c'] 25 (0, 0)) := by rw [hW1, new_blk]
  have hmk := markOwnB_c (IntsOwn.later hxk hb1 (Nat.le_refl _)) (by omega) (by omega) k h0 (by omega)
  have HMK := Lib.hid hmk
  have HW1 := Lib.hid hW1
  have HX := Lib.hid (And.intro hs1 (And.intro hb1 (And.intro kb (And.intro (ht.later hb1 (Nat.le_refl _)) sk))))
  have HLT := Lib.hid ht.lt
  clear hW1 hs1 hb1 kb ht hxk sk hmk
  go_enter Try.func21, Try.ntmps21
  go_wp2_with fail
  rw [← HW1.out]
  refine HMK.out.mono ?_
  rintro e w1 ⟨rfl, hk1, hkb1⟩
  have hs1 := HX.out.1
  have hblk := (hkb1.block w.heap.size (by omega) (fun g => by have := (HLT.out _ (HX.out.2.2.2.2 _ g)).2; omega)).trans HX.out.2.2.1
  obtain ⟨x1, x2, x3, x4⟩ := box2 hblk
  have hx1 := HX.out.2.2.2.1.keys hkb1.size (fun q g1 g2 => hkb1.block q (HX.out.2.2.2.1.lt q g1).2 g2) hk1
  have hsz := hkb1.size
  have hI := markTreeS_o lo 1048576 _ (by simp only [Tr.weight, marks_length]; omega) (Nat.le_refl _) w1 P _ _ hx1 (by omega) (k + (ks.length : Int)) (by omega) (by simp only [Tr.cs]; omega)
  simp only [Tr.cs, Tr.ks] at hI
  have HI := Lib.hid hI
  have HK1 := Lib.hid (hkb1.mono (fun q g => HX.out.2.2.2.2 q g))
  clear hs1 hkb1 hblk hx1 hk1 hI
  go_wp2_with fail
  refine HI.out.mono ?_
  rintro e w2 ⟨rfl, hx2, hk2⟩
  have HZ := Lib.hid (And.intro hx2 hk2)
  clear hx2 hk2
  go_wp2_with fail
  go_ret
  exact ⟨by simp only [Tr.nkeys]; rw [show k + (ks.length : Int) + (Tr.nkeysL cs : Int) = k + ((ks.length + Tr.nkeysL cs : Nat) : Int) by omega]; rfl, HZ.out.1, (KeptB.of_below HX.out.2.1 (Nat.le_refl _)).trans (HK1.out.trans HZ.out.2)⟩

set_option maxRecDepth 100000 in
set_option maxHeartbeats 1000000 in
theorem heldTreeS_o : ∀ (N : Nat) (t : Tr), t.weight ≤ N → N ≤ 1048576 → ∀ (w : World) (B : Nat) (kv cv : Value) (ks : List Int) (k : Int), TreeIn w B kv cv (.mk ks (Tr.remarks k t.cs)) → 0 ≤ k → k + (Tr.weights t.cs : Int) ≤ 1099511627776 →
    Calls Try.prog 74 #[cv, .int .i64 k] w fun e w' => e = .returned (.int .i64 (k + (Tr.nkeysL t.cs : Int))) ∧ w = w' := by
  intro N
  induction N using Nat.strongRecOn with
  | _ N ih =>
    intro t hw hN w B kv cv ks k ht h0 h1
    obtain ⟨ks0, cs⟩ := t
    simp only [Tr.weight] at hw
    simp only [Tr.cs] at ht h1 ⊢
    obtain ⟨a, cap, kvs, cvs, rfl, hk, hlen, hcap, hat, hkids⟩ := ht.parts
    rw [Tr.remarks_length] at hlen hat ⊢
    have hcl := Tr.length_le_weights cs
    have HAT := Lib.hid hat
    have HKI := Lib.hid hkids
    have IH := Lib.hid ih
    clear ht hk hat hkids ih
    unfold maxLen at hcap
    go_enter Try.func74, Try.ntmps74
    go_wp2_with fail
    go_loop [1, 5] (fun l i => ∃ (j : Nat), j ≤ cs.length ∧ i = .int .i64 j ∧ l = .int .i64 (k + (Tr.nkeysL (cs.take j) : Int))) (fun _ i => cs.length - (intOf i).toNat)
    case atStart => exact ⟨0, Nat.zero_le _, rfl, by simp [Tr.nkeysL]⟩
    case round =>
      obtain ⟨j, hj, rfl, rfl⟩ := hrel
      by_cases hlt : j < cs.length
      · rcases HAT.out with h | ⟨b, o, rfl, hb, hc⟩
        · omega
        obtain ⟨c1, c2⟩ := hc j hlt
        have hkid := HKI.out j (by rw [Tr.remarks_length]; exact hlt)
        rw [Tr.remarks_get _ _ _ hlt] at hkid
        have hnk := Tr.nkeysL_take_succ cs j hlt
        have hwt := Tr.weight_get_le cs j hlt
        have hsum : Tr.nkeysL (cs.take j) + cs[j].weight ≤ Tr.weights cs := by
          have a1 := Tr.weights_take_succ cs j hlt
          have a2 := Tr.weights_take_ge cs (j + 1)
          have a3 := Tr.nkeysL_le (cs.take j)
          omega
        generalize cs[j] = u at hkid hnk hwt hsum
        obtain ⟨uk, uc⟩ := u
        obtain ⟨a1, n1, q1, a2, n2, q2, ek, ec⟩ := hkid.slices
        rw [ek] at hkid c1
        rw [ec] at hkid c2
        simp only [Tr.weight, Tr.nkeys, Tr.remark] at hwt hnk hsum hkid
        obtain ⟨_, _, _, _, -, hkk, -⟩ := hkid.parts
        obtain ⟨m, hm⟩ : ∃ m, m = k + (Tr.nkeysL (cs.take j) : Int) := ⟨_, rfl⟩
        rw [← hm] at hkid hkk ⊢
        have hm0 : 0 ≤ m := by omega
        have hm1 : m ≤ 1099511627776 := by omega
        have hmn : ¬ (m + (uk.length : Int) < 0) := by omega
        have hI := IH.out (Tr.weight (.mk uk uc)) (by simp only [Tr.weight]; omega) (.mk uk uc) (Nat.le_refl _) (by simp only [Tr.weight]; omega) w B _ _ _ (m + (uk.length : Int)) hkid (by omega) (by simp only [Tr.cs]; omega)
        have hhe := held_c uk.length _ m w hkk.at (by omega) hm0 hm1
        simp only [Tr.cs] at hI
        have hmn2 : ¬ (m + (uk.length : Int) + (Tr.nkeysL uc : Int) < 0) := by omega
        have HI := Lib.hid hI
        have HH := Lib.hid hhe
        have HM := Lib.hid (And.intro hm hnk)
        clear hI hhe hm hnk hkid hkk hc ek ec
        go_wp2_with fail
        refine HH.out.mono ?_
        rintro e w1 ⟨rfl, rfl⟩
        go_wp2_with fail
        refine HI.out.mono ?_
        rintro e w1 ⟨rfl, rfl⟩
        go_wp2_with fail
        go_round
        case rel => exact ⟨j + 1, by omega, by go_num, by rw [HM.out.2, HM.out.1]; congr 1; omega⟩
        case measure => simp [intOf]; omega
      · obtain rfl : j = cs.length := by omega
        rw [List.take_length]
        go_wp2_with fail
        go_ret
        exact ⟨rfl, rfl⟩

set_option maxRecDepth 100000 in
set_option maxHeartbeats 1000000 in
theorem heldTree_o {w : World} {B : Nat} {kv cv : Value} {t : Tr} (k : Int) (ht : TreeIn w B kv cv (Tr.remark k t)) (hB : B ≤ w.heap.size) (hw : t.weight ≤ 1048576) (h0 : 0 ≤ k) (h1 : k ≤ 1048576) :
    Calls Try.prog 22 #[.agg #[kv, cv], .int .i64 k] w fun e w' => e = .returned (.int .i64 (k + (Tr.nkeys t : Int))) ∧ Below w.heap.size w w' := by
  obtain ⟨ks, cs⟩ := t
  obtain ⟨a1, n1, q1, a2, n2, q2, rfl, rfl⟩ := ht.slices
  simp only [Tr.weight] at hw
  have hnk := Tr.nkeysL_le cs
  simp only [Tr.remark] at ht
  obtain ⟨W1, hW1⟩ : ∃ W1, W1 = w.alloc (.cells #[.slice a1 n1 q1, .slice a2 n2 q2] 25) := ⟨_, rfl⟩
  have hs1 : W1.heap.size = w.heap.size + 1 := by rw [hW1]; simp
  have hb1 : Below w.heap.size w W1 := by rw [hW1]; exact (Below.refl _ _).alloc (Nat.le_refl _) _
  have kb : W1.heap[w.heap.size]? = some (.cells #[.slice a1 n1 q1, .slice a2 n2 q2] 25 (0, 0)) := by rw [hW1, new_blk]
  have ht1 := ht.later hb1 hB
  obtain ⟨_, _, _, _, -, hkk, -⟩ := ht1.parts
  obtain ⟨x1, x2, x3, x4⟩ := box2 kb
  have hhe := held_c ks.length _ k W1 hkk.at (by omega) h0 (by omega)
  have hI := heldTreeS_o 1048576 (.mk ks cs) (by simpa [Tr.weight] using hw) (Nat.le_refl _) W1 B _ _ _ (k + (ks.length : Int)) ht1 (by omega) (by simp only [Tr.cs]; omega)
  simp only [Tr.cs] at hI
  have hmn : ¬ (k + (ks.length : Int) < 0) := by omega
  have hmn2 : ¬ (k + (ks.length : Int) + (Tr.nkeysL cs : Int) < 0) := by omega
  have HI := Lib.hid hI
  have HH := Lib.hid hhe
  have HW1 := Lib.hid hW1
  have HB1 := Lib.hid hb1
  clear hW1 hb1 kb ht ht1 hkk hhe hI
  go_enter Try.func22, Try.ntmps22
  go_wp2_with fail
  rw [← HW1.out]
  refine HH.out.mono ?_
  rintro e w1 ⟨rfl, rfl⟩
  go_wp2_with fail
  refine HI.out.mono ?_
  rintro e w1 ⟨rfl, rfl⟩
  go_wp2_with fail
  go_ret
  exact ⟨by simp only [Tr.nkeys]; rw [show k + (ks.length : Int) + (Tr.nkeysL cs : Int) = k + ((ks.length + Tr.nkeysL cs : Nat) : Int) by omega]; rfl, HB1.out⟩
end Go.Proofs.Ythiohdbcclbgkaa

/- The contract of tree: a node's tree, in rows of the call's own. -/
namespace Go.Proofs.Ythiohdbcclbgkaa
open Go.RowKit

theorem Nd.sameO {w w' : World} {F : Cells} {b : Nat} {t : Tr} (h : Nd w F b t) (hb : Below w.heap.size w w') : Nd w' F b t := h.keep (KeptF.of_below (F := fun _ _ => False) hb (Nat.le_refl _)) (fun _ _ _ h => h)

theorem rowF_ints {w : World} {F : Cells} {v : Value} {k : List Int} (h : RowF w F v (k.map (Value.int .i64))) : IntsAt w v k := by
  obtain ⟨_, ka, kcap, rfl, k1, k2, k3, k4⟩ := h
  refine ⟨ka, kcap, by simp, k3, ?_⟩
  rcases k4 with k4 | ⟨kb, ko, rfl, g1, g2⟩
  · subst k4
    simp at k1
    exact .inl k1
  · refine .inr ⟨kb, ko, rfl, fun i hi => ?_⟩
    rw [g2 i (by simpa using hi)]
    simp [hi]

theorem treeO_step {wr w6 w7 : World} {lo bt j rc gg cap7 : Nat} {kv xk xc : Value} {ra : Option Addr} {ks : List Int} {cs : List Tr} {kids : List KidO} {P Q : Blocks}
    (hbox : wr.heap[bt]? = some (.cells #[kv, .slice ra j rc] 25 (0, 0))) (hj : j < cs.length) (hkt : cs.take j = kids.map KidO.t) (hlo : lo ≤ bt)
    (htr : TreeO wr lo P kv (.slice ra j rc) (.mk ks (cs.take j))) (hP : ¬ P bt)
    (hn : TreeO w6 wr.heap.size Q xk xc cs[j]) (h6 : Below wr.heap.size wr w6)
    (hpar : IntsOwn wr lo kv ks ∧ (∀ x, x ∈ kids → TreeO wr lo x.P x.kv x.cv x.t) ∧ (∀ b, ownB kv b → P b) ∧ (∀ b, ownB (.slice ra j rc) b → P b) ∧ (∀ x, x ∈ kids → ∀ b, x.P b → P b) ∧ (ownB kv :: ownB (.slice ra j rc) :: kids.map KidO.P).Pairwise ApartB ∧ (∀ b, P b → lo ≤ b ∧ b < wr.heap.size))
    (hown : w7.ownsRow lo 25 2 (.slice (some ⟨gg, 0, none⟩) (j + 1) cap7) (j + 1) (flatT (kids.map KidO.pair) ++ [xk, xc]))
    (hg : (w6.alloc (.cells #[xk, xc] 25)).grownBy w7 (Value.slice ra j rc).ownBlock)
    (hat : (Value.slice ra j rc).ownBlock = some gg ∨ gg = w6.heap.size + 1) :
    ∃ P' : Blocks, (w7.setCell ⟨bt, 1, none⟩ (.slice (some ⟨gg, 0, none⟩) (j + 1) cap7)).heap[bt]? = some (.cells #[kv, .slice (some ⟨gg, 0, none⟩) (j + 1) cap7] 25 (0, 0)) ∧
      TreeO (w7.setCell ⟨bt, 1, none⟩ (.slice (some ⟨gg, 0, none⟩) (j + 1) cap7)) lo P' kv (.slice (some ⟨gg, 0, none⟩) (j + 1) cap7) (.mk ks (cs.take (j + 1))) ∧ ¬ P' bt ∧
      Below lo wr (w7.setCell ⟨bt, 1, none⟩ (.slice (some ⟨gg, 0, none⟩) (j + 1) cap7)) := by
  obtain ⟨hk, hkids, sk, sc, ss, ap, lt⟩ := hpar
  have hbt : bt < wr.heap.size := (Array.getElem?_eq_some_iff.1 hbox).1
  have hsz6 : wr.heap.size ≤ w6.heap.size := h6.size
  have hsz7 : w6.heap.size + 1 ≤ w7.heap.size := by have := hg.size; simpa using this
  obtain ⟨wf, hwf⟩ : ∃ wf, wf = w7.setCell ⟨bt, 1, none⟩ (.slice (some ⟨gg, 0, none⟩) (j + 1) cap7) := ⟨_, rfl⟩
  have hsf : wf.heap.size = w7.heap.size := by rw [hwf]; simp
  have own : ∀ k, (Value.slice ra j rc).ownBlock = some k → P k := fun k h => sc k h
  have old6 : ∀ k, k < w6.heap.size → (Value.slice ra j rc).ownBlock ≠ some k → w7.heap[k]? = w6.heap[k]? := fun k h1 h3 => by
    rw [hg.block k (by simp; omega) (fun e => h3 e.symm), old_blk _ _ _ h1]
  have old6f : ∀ k, k < w6.heap.size → k ≠ bt → (Value.slice ra j rc).ownBlock ≠ some k → wf.heap[k]? = w6.heap[k]? := fun k h1 h2 h3 => by
    rw [hwf, set_other _ _ _ _ _ h2, old6 k h1 h3]
  have hbox' : wf.heap[bt]? = some (.cells #[kv, .slice (some ⟨gg, 0, none⟩) (j + 1) cap7] 25 (0, 0)) := by
    have h1 : w7.heap[bt]? = some (.cells #[kv, .slice ra j rc] 25 (0, 0)) := ((old6 bt (by omega) (fun e => hP (own _ e))).trans (h6.block bt hbt)).trans hbox
    rw [hwf]; exact set_blk _ h1
  have hrow : TreesOwn wf lo (.slice (some ⟨gg, 0, none⟩) (j + 1) cap7) (kids.map KidO.pair ++ [(xk, xc)]) := by
    have hl : (kids.map KidO.pair ++ [(xk, xc)]).length = j + 1 := by
      have := congrArg List.length hkt
      simp at this ⊢
      omega
    unfold TreesOwn
    rw [hl, flatT_append]
    refine ownsRow_held (by simpa [flatT] using hown) (fun k e => ?_)
    have e' : gg = k := by simpa [Value.ownBlock] using e
    rw [hwf, set_other _ _ _ _ _ (fun e2 => ?_)]
    subst e'; subst e2
    rcases hat with h | h
    · exact hP (own _ h)
    · omega
  have hpush := TreeO.push (w' := wf) (u := cs[j]) hk hkids sk sc ss ap lt (by omega)
    (fun b h1 h2 => (old6f b (by have := (lt b h1).2; omega) (fun e => hP (e ▸ h1)) h2).trans (h6.block b (lt b h1).2))
    ((hn.same (w' := wf) (by omega) (fun b h => old6f b (hn.lt b h).2 (by have := (hn.lt b h).1; omega) (fun e => by have := (lt b (own b e)).2; have := (hn.lt b h).1; omega))).lower (by omega)) (fun b h => (hn.lt b h).1) hrow
    (fun b h => by
      have e' : gg = b := by simpa [ownB, Value.ownBlock] using h
      subst e'
      rcases hat with h2 | h2
      · exact .inl h2
      · exact .inr ⟨by omega, fun hq => by have := (hn.lt _ hq).2; omega⟩)
  rw [← hkt, List.take_append_getElem] at hpush
  rw [← hwf]
  refine ⟨_, hbox', hpush.1, fun h => ?_, ?_, ?_, ?_, by omega, fun k hk => ?_⟩
  · rcases hpush.2 bt h with h | h
    · exact hP h
    · omega
  · rw [hwf]; exact hg.os.trans h6.os
  · rw [hwf]; exact hg.tape.trans h6.tape
  · rw [hwf]; exact hg.output.trans h6.output
  · exact (old6f k (by omega) (by omega) (fun e => by have := (lt k (own k e)).1; omega)).trans (h6.block k (by omega))

set_option maxRecDepth 100000 in
set_option maxHeartbeats 2000000 in
theorem tree_c {w : World} {F : Cells} {b : Nat} {t : Tr} (ht : Nd w F b t) (hw : t.weight ≤ 1048576) :
    ∀ w', Below w.heap.size w w' →
    Calls Try.prog 70 #[.pointer (some ⟨b, 0, none⟩)] w' fun e w'' => ∃ kv cv P, e = .returned (.agg #[kv, cv]) ∧ TreeO w'' w'.heap.size P kv cv t ∧ Below w'.heap.size w' w'' := by
  induction ht with
  | mk ks kds F Fk Fc b kv cv hbox hkr hcr hkids sb sk sc ss ap lt ih =>
    intro w' hbw
    obtain ⟨i0, hi0, hz0, hz1, hz2⟩ := info_parts Try.infoTree
    simp only [Tr.weight] at hw
    obtain ⟨cs, hcs⟩ : ∃ cs, cs = kds.map KidD.t := ⟨_, rfl⟩
    rw [← hcs] at hw ⊢
    have hcl : cs.length = kds.length := by rw [hcs]; simp
    have hl0 := Tr.length_le_weights cs
    have hB := hbw.size
    have hblt : b < w.heap.size := (Array.getElem?_eq_some_iff.1 hbox).1
    have hka := rowF_ints (hkr.keep (KeptF.of_below (F := fun _ _ => False) hbw (Nat.le_refl _)) (fun _ _ _ h => h))
    have hcr' := hcr.keep (KeptF.of_below (F := fun _ _ => False) hbw (Nat.le_refl _)) (fun _ _ _ h => h)
    have hbox' := (hbw.block b hblt).trans hbox
    obtain ⟨_, ca, ccap, rfl, c1, c2, c3, c4⟩ := hcr'
    rw [List.length_map, ← hcl] at c1 hbox'
    have hat : ∀ (i : Nat) (h : i < cs.length), ∃ (cb co : Nat) (p : Nat), ca = some ⟨cb, co, none⟩ ∧ cb < w'.heap.size ∧ w'.cell? ⟨cb, co + i, none⟩ = some (.pointer (some ⟨p, 0, none⟩)) ∧
        ∀ w2, Below w.heap.size w w2 → Calls Try.prog 70 #[.pointer (some ⟨p, 0, none⟩)] w2 fun e w3 => ∃ kv cv P, e = .returned (.agg #[kv, cv]) ∧ TreeO w3 w2.heap.size P kv cv cs[i] ∧ Below w2.heap.size w2 w3 := fun i hi => by
      have hi' : i < kds.length := by omega
      rcases c4 with h | ⟨cb, co, rfl, g1, g2⟩
      · omega
      · have hx := g2 i (by simpa using hi')
        have hwt := Tr.weight_get_le cs i hi
        have he : cs[i] = kds[i].t := by simp [hcs]
        refine ⟨cb, co, kds[i].p, rfl, lt_of_there (o := co + i) (by rw [hx]; rfl), by rw [hx]; simp [KidD.ptr], ?_⟩
        rw [he] at hwt ⊢
        exact ih kds[i] (List.getElem_mem hi') (by omega)
    have hka0 := hka
    obtain ⟨ka, kcp, hkv, -⟩ := hka0
    subst hkv
    have HAT := Lib.hid hat
    have HKA := Lib.hid hka
    have HBW := Lib.hid hbw
    obtain ⟨W1, hW1⟩ : ∃ W1, W1 = w'.alloc (.cells #[.slice none 0 0, .slice none 0 0] 25) := ⟨_, rfl⟩
    have hs1 : W1.heap.size = w'.heap.size + 1 := by rw [hW1]; simp
    have hb1 : Below w'.heap.size w' W1 := by rw [hW1]; exact (Below.refl _ _).alloc (Nat.le_refl _) _
    have kb : W1.heap[w'.heap.size]? = some (.cells #[.slice none 0 0, .slice none 0 0] 25 (0, 0)) := by rw [hW1, new_blk]
    have nb : W1.heap[b]? = some (.cells #[.slice ka ks.length kcp, .slice ca cs.length ccap] 106 (0, 0)) := (hb1.block b (by omega)).trans hbox'
    have hcl1 := clone_c W1 (ks := ks) (v := .slice ka ks.length kcp) (by
      obtain ⟨a, cap, e1, e2, e3⟩ := hka
      refine ⟨a, cap, e1, e2, ?_⟩
      rcases e3 with e3 | ⟨kb, ko, e4, e5⟩
      · exact .inl e3
      · exact .inr ⟨kb, ko, e4, fun i hi => by rw [below_cell hb1 (World.block_lt_of_cell? w' _ (e5 i hi))]; exact e5 i hi⟩) (by omega)
    have HCL := Lib.hid hcl1
    have HW1 := Lib.hid hW1
    have HB1 := Lib.hid (And.intro hb1 (And.intro kb nb))
    have nbx := nb
    rw [hW1] at nbx
    obtain ⟨x1, x2, x3, x4⟩ := box2 nbx
    clear hcl nbx hbox hkr hcr hkids sb sk sc ss ap lt ih hbw hka hbox' c4 hat hcl1 hW1 hb1 kb nb hcs
    go_enter Try.func70, Try.ntmps70
    go_wp2_with fail
    rw [← HW1.out]
    refine HCL.out.mono ?_
    rintro e w2 ⟨v2, rfl, hown2, hb2⟩
    obtain ⟨a2, q2, rfl⟩ := hown2.shown
    have nb2 := (hb2.block b (by omega)).trans HB1.out.2.2
    clear x1 x2 x3 x4
    obtain ⟨x1, x2, x3, x4⟩ := box2 nb2
    have hs2 := hb2.size
    have hb2' := HB1.out.1.trans (hb2.mono (by omega))
    obtain ⟨y1, y2, y3, y4⟩ := box2 ((old_blk w2 (.cells #[.slice a2 ks.length q2, .slice none 0 0] 25) _ (by omega)).trans nb2)
    obtain ⟨W3, hW3⟩ : ∃ W3, W3 = w2.alloc (.cells #[.slice a2 ks.length q2, .slice none 0 0] 25) := ⟨_, rfl⟩
    have hs3 : W3.heap.size = w2.heap.size + 1 := by rw [hW3]; simp
    have hb3 : Below w2.heap.size w2 W3 := by rw [hW3]; exact (Below.refl _ _).alloc (Nat.le_refl _) _
    have hbx3 : W3.heap[w2.heap.size]? = some (.cells #[.slice a2 ks.length q2, .slice none 0 0] 25 (0, 0)) := by rw [hW3, new_blk]
    have htr3 : TreeO W3 (w'.heap.size + 1) (fun x => ownB (.slice a2 ks.length q2) x) (.slice a2 ks.length q2) (.slice none 0 0) (.mk ks (cs.take 0)) := by
      refine .mk ks [] _ _ _ (ownsRow_held (IntsOwn.lower hown2 (by omega)) (fun k e => hb3.block k (hown2.lt k e).2)) ⟨rfl, .inl ⟨rfl, rfl⟩⟩ (fun x h => by cases h) (fun b h => h) (fun b h => by cases h) (fun x h => by cases h) ?_ (fun q e => ⟨by have := (hown2.lt q e).1; omega, by have := (hown2.lt q e).2; omega⟩)
      exact List.pairwise_cons.2 ⟨fun R hR b _ h => (by simp at hR; subst hR; cases h), List.pairwise_cons.2 ⟨fun _ h => (by cases h), List.Pairwise.nil⟩⟩
    have H0 := Lib.hid (And.intro hbx3 (And.intro htr3 (show ¬ ownB (.slice a2 ks.length q2) w2.heap.size from fun e => by have := (hown2.lt _ e).2; omega)))
    have HB3 := Lib.hid (Below.trans (hb2.mono (show w'.heap.size + 1 ≤ W1.heap.size by omega)) (hb3.mono (by omega)))
    have HW3 := Lib.hid hW3
    clear hb2 hb2' hown2 nb2 hb3 hbx3 htr3 hW3
    go_wp2_with fail
    rw [← HW3.out]
    clear x1 x2 x3 x4 y1 y2 y3 y4
    go_loopw [18] (fun i wr => ∃ (j : Nat) (vk : Value) (P : Blocks), j ≤ cs.length ∧ i = .int .i64 j ∧ wr.heap[w2.heap.size]? = some (.cells #[.slice a2 ks.length q2, vk] 25 (0, 0)) ∧ TreeO wr (w'.heap.size + 1) P (.slice a2 ks.length q2) vk (.mk ks (cs.take j)) ∧ ¬ P w2.heap.size ∧ Below (w'.heap.size + 1) W1 wr) (fun i _ => cs.length - (intOf i).toNat)
    case atStart => exact ⟨0, _, _, Nat.zero_le _, rfl, H0.out.1, H0.out.2.1, H0.out.2.2, HB3.out⟩
    case round =>
      obtain ⟨j, vk, P, hj, rfl, hbx, htr, hP, hbel1⟩ := hrel
      have hbel : Below w'.heap.size w' wr := HB1.out.1.trans (hbel1.mono (by omega))
      by_cases hlt : j < cs.length
      · obtain ⟨cb, co, p, rfl, hcb, hcell, hcall⟩ := HAT.out j hlt
        have hcell' : wr.cell? ⟨cb, co + j, none⟩ = some (.pointer (some ⟨p, 0, none⟩)) := by rw [below_cell hbel (by omega)]; exact hcell
        obtain ⟨kids, hkt, hpk, hpc, hpx, psk, psc, pss, pap, plt⟩ := htr.parts
        have hlk : kids.length = j := by
          have := congrArg List.length hkt
          simp at this
          omega
        obtain ⟨ra, rc, hvk⟩ := TreesOwn.shown hpc
        rw [List.length_map, hlk] at hvk
        subst hvk
        have hrow : wr.ownsRow (w'.heap.size + 1) 25 2 (.slice ra j rc) j (flatT (kids.map KidO.pair)) := by
          have h := hpc
          unfold TreesOwn at h
          rw [List.length_map, hlk] at h
          exact h
        have hcl := hcall wr (HBW.out.trans (hbel.mono hB))
        have hszr := hbel.size
        have hlt2 : w2.heap.size < wr.heap.size := (Array.getElem?_eq_some_iff.1 hbx).1
        have ne1 : some w2.heap.size ≠ (Value.slice ra j rc).ownBlock := fun e => hP (psc _ e.symm)
        obtain ⟨u1, u2, u3, u4⟩ := box2 hbx
        have NE1 := Lib.hid ne1
        have HCALL := Lib.hid (hcall wr.drew (HBW.out.trans ((hbel.mono hB).drew)))
        have HPAR := Lib.hid (And.intro hpk (And.intro hpx (And.intro psk (And.intro psc (And.intro pss (And.intro pap plt))))))
        have HTR := Lib.hid (And.intro hbx (And.intro hkt (And.intro htr hP)))
        have HROW := Lib.hid hrow
        have HBEL := Lib.hid hbel1
        clear hbel1 hcell hcall hkt hpk hpc hpx psk psc pss pap plt hrow hcl ne1 hbx htr hP hbel
        go_wp2_with fail
        go_region_law
          (first
            | ((refine step_append_lies _ (by rfl) _ _ _ (by rfl) (w'.heap.size + 1) 25 i0 _ 2 48 Try.underlying23 hi0 hz0 hz1 hz2 rfl (by omega) _ j _ (by rfl) (H6.out.2.2.2.alloc _) ⟨w6.heap.size, 0, none⟩ 1 1 [.slice p1 p2 p3, .slice p4 p5 p6] (by rfl) (by rfl) (World.news_of_block (cs := #[.slice p1 p2 p3, .slice p4 p5 p6]) (t := 25) (fr := (0, 0)) (heap_alloc_new w6 _)) (by simp [Value.oneCell']) (by omega) (by unfold maxLen; omega) (by omega) (by simp; omega) (w6.heap.size + 1) (by simp) ?_; intro gg cap7 w7 hown7 hgrow7 hat7 hlt7; have v7c := (hgrow7.cell_far ⟨w2.heap.size, 1, none⟩ (by simp; omega) NE1.out).trans t2; have v7f := (hgrow7.frozen_far ⟨w2.heap.size, 1, none⟩ (by simp; omega) NE1.out).trans t4; have H7 := Lib.hid (And.intro hown7 (And.intro hgrow7 hat7)); clear hown7 hgrow7 hat7))
            | (go_simp; go_at_call 70; refine HCALL.out.mono ?_; rintro e w6 ⟨xk, xc, Q, rfl, htr6, hb6⟩; obtain ⟨p1, p2, p3, p4, p5, p6, rfl, rfl⟩ := htr6.tree.slices; have hs6 : wr.heap.size ≤ w6.heap.size := hb6.size; have j6 := (hb6.block w2.heap.size (by simp; omega)).trans HTR.out.1; obtain ⟨z1, z2, z3, z4⟩ := box2 j6; obtain ⟨t1, t2, t3, t4⟩ := box2 ((old_blk w6 (.cells #[.slice p1 p2 p3, .slice p4 p5 p6] 25) _ (by omega)).trans j6); have hr6 := ownsRow_same HROW.out (fun k h1 h2 => hb6.block k (by simp; omega)); have H6 := Lib.hid (And.intro htr6 (And.intro hb6 (And.intro j6 hr6))); clear htr6 hb6 j6 hr6))
        all_goals (
          go_wp2_with fail
          go_roundw
          case rel =>
            obtain ⟨P', g1, g2, g3, g4⟩ := treeO_step HTR.out.1 hlt HTR.out.2.1 (by omega) HTR.out.2.2.1 HTR.out.2.2.2 H6.out.1 (below_undrew H6.out.2.1) HPAR.out H7.out.1 H7.out.2.1 H7.out.2.2
            exact ⟨j + 1, _, P', by omega, by go_num, g1, g2, g3, HBEL.out.trans g4⟩
          case measure => simp [intOf]; omega)
      · obtain rfl : j = cs.length := by omega
        rw [List.take_length] at htr
        obtain ⟨_, _, va, vc, -, rfl⟩ := htr.shown
        have hrb := (hbel1.block w'.heap.size (by omega)).trans HB1.out.2.1
        obtain ⟨u1, u2, u3, u4⟩ := box2 hbx
        obtain ⟨r1, r2, r3, r4⟩ := box2 hrb
        have hszr := hbel.size
        have HTR := Lib.hid htr
        have HBEL := Lib.hid hbel
        have HRB := Lib.hid hrb
        clear htr hbel hbel1 hbx hrb
        go_wp2_with fail
        obtain ⟨wf, hwf⟩ : ∃ wf, wf = (wr.setCell ⟨w'.heap.size, 0, none⟩ (.slice a2 ks.length q2)).setCell ⟨w'.heap.size, 1, none⟩ (.slice va cs.length vc) := ⟨_, rfl⟩
        have hfb : wf.heap[w'.heap.size]? = some (.cells #[.slice a2 ks.length q2, .slice va cs.length vc] 25 (0, 0)) := by
          rw [hwf]; exact set_blk (o := 1) _ (set_blk (o := 0) _ HRB.out)
        obtain ⟨d1, d2, d3, d4⟩ := box2 hfb
        rw [← hwf]
        refine bodyPost_ret (v := .agg #[.slice a2 ks.length q2, .slice va cs.length vc]) (by simp [results, Try.results70, go_sem, d1, d2]) rfl ⟨_, _, P, rfl, ?_, ?_⟩
        · exact (HTR.out.same (w' := wf) (by rw [hwf]; simp) (fun q e => by have := (HTR.out.lt q e).1; rw [hwf, set_other _ _ _ _ _ (by omega), set_other _ _ _ _ _ (by omega)])).lower (by omega)
        · rw [hwf]; exact (HBEL.out.setCell (by show w'.heap.size ≤ w'.heap.size; omega) _).setCell (by show w'.heap.size ≤ w'.heap.size; omega) _
end Go.Proofs.Ythiohdbcclbgkaa

/- The contract of the model's l1Copy: the same tree in rows of the call's own. -/
namespace Go.Proofs.Ythiohdbcclbgkaa
open Go.RowKit

theorem IntsIn.atLater {w w' : World} {B : Nat} {v : Value} {ks : List Int} (h : IntsIn w B v ks) (hb : Below B w w') : IntsAt w' v ks := (h.later hb (Nat.le_refl _)).at

set_option maxRecDepth 100000 in
set_option maxHeartbeats 2000000 in
theorem copy_c {w : World} {B : Nat} {kv cv : Value} {t : Tr} (ht : TreeIn w B kv cv t) (hw : t.weight ≤ 1048576) :
    ∀ w', Below B w w' → B ≤ w'.heap.size →
    Calls Try.prog 115 #[.agg #[kv, cv]] w' fun e w'' => ∃ kv' cv' P, e = .returned (.agg #[kv', cv']) ∧ TreeO w'' w'.heap.size P kv' cv' t ∧ Below w'.heap.size w' w'' := by
  induction ht with
  | mk ks cs kv a cap kvs cvs hk hlen hcap hat hkids ih =>
    intro w' hbw hB
    obtain ⟨i0, hi0, hz0, hz1, hz2⟩ := info_parts Try.infoTree
    simp only [Tr.weight] at hw
    have hl0 := Tr.length_le_weights cs
    obtain ⟨ka, kcp, hkv, -⟩ := id hk
    subst hkv
    unfold maxLen at hcap
    have hkid : ∀ (i : Nat) (h : i < cs.length), ∃ (cb co : Nat) (p1 : Option Addr) (p2 p3 : Nat) (p4 : Option Addr) (p5 p6 : Nat), a = some ⟨cb, co, none⟩ ∧ cb < B ∧ w.cell? ⟨cb, co + i * 2, none⟩ = some (.slice p1 p2 p3) ∧ w.cell? ⟨cb, co + i * 2 + 1, none⟩ = some (.slice p4 p5 p6) ∧
        ∀ w2, Below B w w2 → B ≤ w2.heap.size → Calls Try.prog 115 #[.agg #[.slice p1 p2 p3, .slice p4 p5 p6]] w2 fun e w3 => ∃ kv' cv' P, e = .returned (.agg #[kv', cv']) ∧ TreeO w3 w2.heap.size P kv' cv' cs[i] ∧ Below w2.heap.size w2 w3 := fun i hi => by
      rcases hat with h | ⟨cb, co, rfl, hcb, g2⟩
      · omega
      · obtain ⟨p1, p2, p3, p4, p5, p6, e5, e6⟩ := (hkids i hi).slices
        have hwt := Tr.weight_get_le cs i hi
        have h2 := ih i hi (by omega)
        rw [e5, e6] at h2
        exact ⟨cb, co, p1, p2, p3, p4, p5, p6, rfl, hcb, by rw [(g2 i hi).1, e5], by rw [(g2 i hi).2, e6], h2⟩
    have HAT := Lib.hid hkid
    have HBW := Lib.hid hbw
    obtain ⟨W1, hW1⟩ : ∃ W1, W1 = (w'.alloc (.cells #[.slice ka ks.length kcp, .slice a cs.length cap] 25)).alloc (.cells #[.slice none 0 0, .slice none 0 0] 25) := ⟨_, rfl⟩
    have hs1 : W1.heap.size = w'.heap.size + 2 := by rw [hW1]; simp
    have hb1 : Below w'.heap.size w' W1 := by rw [hW1]; exact ((Below.refl _ _).alloc (Nat.le_refl _) _).alloc (by simp) _
    have kt : W1.heap[w'.heap.size]? = some (.cells #[.slice ka ks.length kcp, .slice a cs.length cap] 25 (0, 0)) := by rw [hW1, old_blk _ _ _ (by simp), new_blk]
    have kb : W1.heap[w'.heap.size + 1]? = some (.cells #[.slice none 0 0, .slice none 0 0] 25 (0, 0)) := by
      rw [hW1, show w'.heap.size + 1 = (w'.alloc (.cells #[.slice ka ks.length kcp, .slice a cs.length cap] 25)).heap.size by simp, new_blk]
    have hcl1 := leaf_c W1 (.slice ka ks.length kcp) ks (fun w2 h2 => hk.atLater (hbw.trans ((hb1.mono hB).trans (h2.mono (by omega))))) (by omega)
    have HCL := Lib.hid hcl1
    have HW1 := Lib.hid hW1
    have HB1 := Lib.hid (And.intro hb1 (And.intro kb kt))
    have ktx := kt
    rw [hW1] at ktx
    obtain ⟨x1, x2, x3, x4⟩ := box2 ktx
    clear ktx hk hat hkids ih hbw hcl1 hW1 hb1 kb kt hkid
    go_enter Try.func115, Try.ntmps115
    go_wp2_with fail
    rw [← HW1.out]
    refine HCL.out.mono ?_
    rintro e w2 ⟨kv2, g2, rfl, hown2, hlt2, hg2, hemp2, hb2⟩
    obtain ⟨a2, q2, rfl⟩ := hown2.shown
    have hglt2 : g2 < w2.heap.size := (Array.getElem?_eq_some_iff.1 hemp2).1
    have nb2 := (hb2.block w'.heap.size (by omega)).trans HB1.out.2.2
    clear x1 x2 x3 x4
    obtain ⟨x1, x2, x3, x4⟩ := box2 nb2
    have hs2 := hb2.size
    obtain ⟨y1, y2, y3, y4⟩ := box2 ((old_blk w2 (.cells #[.slice a2 ks.length q2, .slice (some ⟨g2, 0, none⟩) 0 0] 25) _ (by omega)).trans nb2)
    obtain ⟨W3, hW3⟩ : ∃ W3, W3 = w2.alloc (.cells #[.slice a2 ks.length q2, .slice (some ⟨g2, 0, none⟩) 0 0] 25) := ⟨_, rfl⟩
    have hs3 : W3.heap.size = w2.heap.size + 1 := by rw [hW3]; simp
    have hb3 : Below w2.heap.size w2 W3 := by rw [hW3]; exact (Below.refl _ _).alloc (Nat.le_refl _) _
    have hbx3 : W3.heap[w2.heap.size]? = some (.cells #[.slice a2 ks.length q2, .slice (some ⟨g2, 0, none⟩) 0 0] 25 (0, 0)) := by rw [hW3, new_blk]
    have hgb : ∀ b, ownB (.slice (some ⟨g2, 0, none⟩) 0 0) b → b = g2 := fun b h => by
      have h' : g2 = b := by simpa [ownB, Value.ownBlock] using h
      exact h'.symm
    have htr3 : TreeO W3 (w'.heap.size + 2) (fun x => ownB (.slice a2 ks.length q2) x ∨ x = g2) (.slice a2 ks.length q2) (.slice (some ⟨g2, 0, none⟩) 0 0) (.mk ks (cs.take 0)) := by
      refine .mk ks [] _ _ _ (ownsRow_held (IntsOwn.lower hown2 (by omega)) (fun k e => hb3.block k (hown2.lt k e).2)) ⟨rfl, .inr ⟨g2, 0, #[], rfl, by omega, (hb3.block _ hglt2).trans hemp2, Nat.le_refl _, by unfold maxLen; omega, rfl, rfl⟩⟩ (fun x h => by cases h) (fun b h => .inl h) (fun b h => .inr (hgb b h)) (fun x h => by cases h) ?_ (fun q e => ?_)
      · refine List.pairwise_cons.2 ⟨fun R hR b h1 h2 => ?_, List.pairwise_cons.2 ⟨fun _ h => (by cases h), List.Pairwise.nil⟩⟩
        simp at hR
        subst hR
        have h' := hgb b h2
        have := hlt2 b h1
        omega
      · rcases e with e | e
        · have := hown2.lt q e; omega
        · omega
    have H0 := Lib.hid (And.intro hbx3 (And.intro htr3 (show ¬ (ownB (.slice a2 ks.length q2) w2.heap.size ∨ w2.heap.size = g2) from fun e => by
      rcases e with e | e
      · have := (hown2.lt _ e).2; omega
      · omega)))
    have HB3 := Lib.hid (Below.trans (hb2.mono (show w'.heap.size + 2 ≤ W1.heap.size by omega)) (hb3.mono (by omega)))
    have HW3 := Lib.hid hW3
    clear hb2 hown2 nb2 hb3 hbx3 htr3 hW3 hemp2 hlt2 hglt2 hg2 hgb
    go_wp2_with fail
    rw [← HW3.out]
    clear x1 x2 x3 x4 y1 y2 y3 y4
    go_loopw [12] (fun i wr => ∃ (j : Nat) (vk : Value) (P : Blocks), j ≤ cs.length ∧ i = .int .i64 j ∧ wr.heap[w2.heap.size]? = some (.cells #[.slice a2 ks.length q2, vk] 25 (0, 0)) ∧ TreeO wr (w'.heap.size + 2) P (.slice a2 ks.length q2) vk (.mk ks (cs.take j)) ∧ ¬ P w2.heap.size ∧ Below (w'.heap.size + 2) W1 wr) (fun i _ => cs.length - (intOf i).toNat)
    case atStart => exact ⟨0, _, _, Nat.zero_le _, rfl, H0.out.1, H0.out.2.1, H0.out.2.2, HB3.out⟩
    case round =>
      obtain ⟨j, vk, P, hj, rfl, hbx, htr, hP, hbel1⟩ := hrel
      have hbel : Below w'.heap.size w' wr := HB1.out.1.trans (hbel1.mono (by omega))
      by_cases hlt : j < cs.length
      · obtain ⟨cb, co, p1, p2, p3, p4, p5, p6, rfl, hcb, hcell1, hcell2, hcall⟩ := HAT.out j hlt
        have hbwr : Below B w wr := HBW.out.trans (hbel.mono hB)
        have hcell1' : wr.cell? ⟨cb, co + j * 2, none⟩ = some (.slice p1 p2 p3) := by rw [below_cell hbwr hcb]; exact hcell1
        have hcell2' : wr.cell? ⟨cb, co + j * 2 + 1, none⟩ = some (.slice p4 p5 p6) := by rw [below_cell hbwr hcb]; exact hcell2
        obtain ⟨kids, hkt, hpk, hpc, hpx, psk, psc, pss, pap, plt⟩ := htr.parts
        have hlk : kids.length = j := by
          have := congrArg List.length hkt
          simp at this
          omega
        obtain ⟨ra, rc, hvk⟩ := TreesOwn.shown hpc
        rw [List.length_map, hlk] at hvk
        subst hvk
        have hrow : wr.ownsRow (w'.heap.size + 2) 25 2 (.slice ra j rc) j (flatT (kids.map KidO.pair)) := by
          have h := hpc
          unfold TreesOwn at h
          rw [List.length_map, hlk] at h
          exact h
        have hszr := hbel.size
        have hlt2 : w2.heap.size < wr.heap.size := (Array.getElem?_eq_some_iff.1 hbx).1
        have ne1 : some w2.heap.size ≠ (Value.slice ra j rc).ownBlock := fun e => hP (psc _ e.symm)
        obtain ⟨W5, hW5⟩ : ∃ W5, W5 = wr.alloc (.cells #[.slice p1 p2 p3, .slice p4 p5 p6] 25) := ⟨_, rfl⟩
        have hs5 : W5.heap.size = wr.heap.size + 1 := by rw [hW5]; simp
        have hb5 : Below wr.heap.size wr W5 := by rw [hW5]; exact (Below.refl _ _).alloc (Nat.le_refl _) _
        have k5 : W5.heap[wr.heap.size]? = some (.cells #[.slice p1 p2 p3, .slice p4 p5 p6] 25 (0, 0)) := by rw [hW5, new_blk]
        have n5' := (hb5.block _ hlt2).trans hbx
        obtain ⟨y1, y2, y3, y4⟩ := box2 k5
        obtain ⟨u1, u2, u3, u4⟩ := box2 n5'
        have hcl := hcall W5.drew (hbwr.trans ((hb5.drew).mono (by omega))) (by simp; omega)
        have ne2 : some wr.heap.size ≠ (Value.slice ra j rc).ownBlock := fun e => by have := (hrow.lt _ e.symm).2; omega
        have NE1 := Lib.hid ne1
        have NE2 := Lib.hid ne2
        have HCALL := Lib.hid hcl
        have HPAR := Lib.hid (And.intro hpk (And.intro hpx (And.intro psk (And.intro psc (And.intro pss (And.intro pap plt))))))
        have HTR := Lib.hid (And.intro hbx (And.intro hkt (And.intro htr hP)))
        have HROW := Lib.hid hrow
        have HBEL := Lib.hid hbel1
        have HW5 := Lib.hid hW5
        have H5 := Lib.hid (And.intro hb5 (And.intro k5 n5'))
        clear hbel hbel1 hbwr hcell1 hcell2 hcall hkt hpk hpc hpx psk psc pss pap plt hrow hcl ne1 ne2 hbx htr hP hW5 hb5 k5 n5'
        go_wp2_with fail
        rw [← HW5.out]
        go_region_law
          (first
            | ((refine step_append_lies _ (by rfl) _ _ _ (by rfl) (w'.heap.size + 2) 25 i0 _ 2 48 Try.underlying23 hi0 hz0 hz1 hz2 rfl (by omega) _ j _ (by rfl) (H6.out.2.2.2.alloc _) ⟨w6.heap.size, 0, none⟩ 1 1 [.slice r1 r2 r3, .slice r4 r5 r6] (by rfl) (by rfl) (World.news_of_block (cs := #[.slice r1 r2 r3, .slice r4 r5 r6]) (t := 25) (fr := (0, 0)) (heap_alloc_new w6 _)) (by simp [Value.oneCell']) (by omega) (by unfold maxLen; omega) (by omega) (by simp; omega) (w6.heap.size + 1) (by simp) ?_; intro gg cap7 w7 hown7 hgrow7 hat7 hlt7; have v7c := (hgrow7.cell_far ⟨w2.heap.size, 1, none⟩ (by simp; omega) NE1.out).trans t2; have v7f := (hgrow7.frozen_far ⟨w2.heap.size, 1, none⟩ (by simp; omega) NE1.out).trans t4; have H7 := Lib.hid (And.intro hown7 (And.intro hgrow7 hat7)); clear hown7 hgrow7 hat7))
            | (go_simp; go_at_call 115; refine HCALL.out.mono ?_; rintro e w6 ⟨xk, xc, Q, rfl, htr6, hb6⟩; obtain ⟨r1, r2, r3, r4, r5, r6, rfl, rfl⟩ := htr6.tree.slices; have hs6 : W5.heap.size ≤ w6.heap.size := hb6.size; have j6 := (hb6.block w2.heap.size (by simp; omega)).trans H5.out.2.2; have i6 := (hb6.block wr.heap.size (by simp; omega)).trans H5.out.2.1; obtain ⟨z1, z2, z3, z4⟩ := box2 j6; obtain ⟨s1, s2, s3, s4⟩ := box2 i6; obtain ⟨t1, t2, t3, t4⟩ := box2 ((old_blk w6 (.cells #[.slice r1 r2 r3, .slice r4 r5 r6] 25) _ (by omega)).trans j6); obtain ⟨v1, v2, v3, v4⟩ := box2 ((old_blk w6 (.cells #[.slice r1 r2 r3, .slice r4 r5 r6] 25) _ (by omega)).trans i6); have hr6 := ownsRow_same HROW.out (fun k h1 h2 => (hb6.block k (by simp; omega)).trans (H5.out.1.block k h1)); have H6 := Lib.hid (And.intro htr6 (And.intro hb6 (And.intro j6 hr6))); clear htr6 hb6 j6 i6 hr6))
        all_goals (
          go_wp2_with fail
          go_roundw
          case rel =>
            obtain ⟨P', g1, g2, g3, g4⟩ := treeO_step HTR.out.1 hlt HTR.out.2.1 (by omega) HTR.out.2.2.1 HTR.out.2.2.2 (H6.out.1.lower (lo' := wr.heap.size) (by simp; omega)) (H5.out.1.trans ((below_undrew H6.out.2.1).mono (show wr.heap.size ≤ W5.heap.size by omega))) HPAR.out H7.out.1 H7.out.2.1 H7.out.2.2
            exact ⟨j + 1, _, P', by omega, by go_num, g1, g2, g3, HBEL.out.trans g4⟩
          case measure => simp [intOf]; omega)
      · obtain rfl : j = cs.length := by omega
        rw [List.take_length] at htr
        obtain ⟨_, _, va, vc, -, rfl⟩ := htr.shown
        have hrb := (hbel1.block (w'.heap.size + 1) (by omega)).trans HB1.out.2.1
        obtain ⟨u1, u2, u3, u4⟩ := box2 hbx
        obtain ⟨r1, r2, r3, r4⟩ := box2 hrb
        have hszr := hbel.size
        have HTR := Lib.hid htr
        have HBEL := Lib.hid hbel
        have HRB := Lib.hid hrb
        clear htr hbel hbel1 hbx hrb
        go_wp2_with fail
        obtain ⟨wf, hwf⟩ : ∃ wf, wf = (wr.setCell ⟨w'.heap.size + 1, 0, none⟩ (.slice a2 ks.length q2)).setCell ⟨w'.heap.size + 1, 1, none⟩ (.slice va cs.length vc) := ⟨_, rfl⟩
        have hfb : wf.heap[w'.heap.size + 1]? = some (.cells #[.slice a2 ks.length q2, .slice va cs.length vc] 25 (0, 0)) := by
          rw [hwf]; exact set_blk (o := 1) _ (set_blk (o := 0) _ HRB.out)
        obtain ⟨d1, d2, d3, d4⟩ := box2 hfb
        rw [← hwf]
        refine bodyPost_ret (v := .agg #[.slice a2 ks.length q2, .slice va cs.length vc]) (by simp [results, Try.results115, go_sem, d1, d2]) rfl ⟨_, _, P, rfl, ?_, ?_⟩
        · exact (HTR.out.same (w' := wf) (by rw [hwf]; simp) (fun q e => by have := (HTR.out.lt q e).1; rw [hwf, set_other _ _ _ _ _ (by omega), set_other _ _ _ _ _ (by omega)])).lower (by omega)
        · rw [hwf]; exact (HBEL.out.setCell (by show w'.heap.size ≤ w'.heap.size + 1; omega) _).setCell (by show w'.heap.size ≤ w'.heap.size + 1; omega) _
end Go.Proofs.Ythiohdbcclbgkaa
