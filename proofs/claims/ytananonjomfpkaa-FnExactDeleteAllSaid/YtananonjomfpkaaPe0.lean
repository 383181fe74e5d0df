/- Loops over iterators: what an iterator owes its loop, and the law of the loop, where whoever goes on keeps the blocks of the other. -/
import Derived.WalkKit
import Derived.Lib.Hide
import Derived.Test.YtananonjomfpkaaProg
import Derived.Laws.AppendOwnNone
import Derived.OwnWalk
import Derived.WalkSmall
import Derived.RangeFuncNested

/- Plain trees and how they lie in memory: the words that the contracts of this claim use. -/
namespace Go.Proofs.Ytananonjomfpkaa
open Go.RowKit

/-- A tree as plain data: its keys and its kids. -/
inductive Tr where
  | mk (ks : List Int) (cs : List Tr)

namespace Tr
mutual
/-- Keys and kids, all together. -/
def weight : Tr → Nat
  | .mk k c => k.length + weights c
def weights : List Tr → Nat
  | [] => 0
  | t :: r => 1 + weight t + weights r
end

theorem weights_append (a b : List Tr) : weights (a ++ b) = weights a + weights b := by
  induction a with
  | nil => simp [weights]
  | cons t r ih => simp [weights, ih]; omega

theorem weights_take_succ (cs : List Tr) (j : Nat) (h : j < cs.length) : weights (cs.take (j + 1)) = weights (cs.take j) + 1 + cs[j].weight := by
  rw [List.take_succ_eq_append_getElem h, weights_append]; simp [weights]; omega

theorem length_le_weights (cs : List Tr) : cs.length ≤ weights cs := by
  induction cs with
  | nil => simp
  | cons t r ih => simp [weights]; omega

theorem weights_take_ge (cs : List Tr) (j : Nat) : weights (cs.take j) + (cs.length - j) ≤ weights cs := by
  conv => rhs; rw [← List.take_append_drop j cs, weights_append]
  have := length_le_weights (cs.drop j)
  simp at this; omega

theorem weight_get_le (cs : List Tr) (j : Nat) (h : j < cs.length) : cs[j].weight + cs.length ≤ weights cs := by
  have h1 := weights_take_ge cs (j + 1)
  have h2 := weights_take_succ cs j h
  have h3 := length_le_weights (cs.take j)
  simp at h3; omega
end Tr

namespace Tr
mutual
/-- How many nodes. -/
def count : Tr → Nat
  | .mk _ c => 1 + counts c
def counts : List Tr → Nat
  | [] => 0
  | t :: r => count t + counts r
end
mutual
/-- How many nodes lie within each other. -/
def depth : Tr → Nat
  | .mk _ c => depths c + 1
def depths : List Tr → Nat
  | [] => 0
  | t :: r => max (depth t) (depths r)
end
mutual
/-- How many nodes have just so many keys. -/
def full (n : Int) : Tr → Nat
  | .mk k c => (if (k.length : Int) = n then 1 else 0) + fulls n c
def fulls (n : Int) : List Tr → Nat
  | [] => 0
  | t :: r => full n t + fulls n r
end

theorem counts_append (a b : List Tr) : counts (a ++ b) = counts a + counts b := by
  induction a with
  | nil => simp [counts]
  | cons t r ih => simp [counts, ih]; omega
theorem depths_append (a b : List Tr) : depths (a ++ b) = max (depths a) (depths b) := by
  induction a with
  | nil => simp [depths]
  | cons t r ih => simp [depths, ih]
theorem fulls_append (n : Int) (a b : List Tr) : fulls n (a ++ b) = fulls n a + fulls n b := by
  induction a with
  | nil => simp [fulls]
  | cons t r ih => simp [fulls, ih]; omega
theorem counts_take_succ (cs : List Tr) (j : Nat) (h : j < cs.length) : counts (cs.take (j + 1)) = counts (cs.take j) + cs[j].count := by
  rw [List.take_succ_eq_append_getElem h, counts_append]; simp [counts]
theorem depths_take_succ (cs : List Tr) (j : Nat) (h : j < cs.length) : depths (cs.take (j + 1)) = max (depths (cs.take j)) cs[j].depth := by
  rw [List.take_succ_eq_append_getElem h, depths_append]; simp [depths]
theorem fulls_take_succ (n : Int) (cs : List Tr) (j : Nat) (h : j < cs.length) : fulls n (cs.take (j + 1)) = fulls n (cs.take j) + cs[j].full n := by
  rw [List.take_succ_eq_append_getElem h, fulls_append]; simp [fulls]

mutual
theorem count_le : ∀ t : Tr, t.count ≤ t.weight + 1
  | .mk k c => by have := counts_le c; simp only [count, weight]; omega
theorem counts_le : ∀ c : List Tr, counts c ≤ weights c
  | [] => by simp [counts]
  | t :: r => by have := count_le t; have := counts_le r; simp only [counts, weights]; omega
end
mutual
theorem depth_le : ∀ t : Tr, t.depth ≤ t.count
  | .mk k c => by have := depths_le c; simp only [count, depth]; omega
theorem depths_le : ∀ c : List Tr, depths c ≤ counts c
  | [] => by simp [depths]
  | t :: r => by have := depth_le t; have := depths_le r; simp only [counts, depths]; omega
end
mutual
theorem full_le (n : Int) : ∀ t : Tr, t.full n ≤ t.count
  | .mk k c => by have := fulls_le n c; simp only [count, full]; split <;> omega
theorem fulls_le (n : Int) : ∀ c : List Tr, fulls n c ≤ counts c
  | [] => by simp [fulls]
  | t :: r => by have := full_le n t; have := fulls_le n r; simp only [counts, fulls]; omega
end
theorem fulls_take_le (n : Int) (cs : List Tr) (j : Nat) : fulls n (cs.take j) ≤ fulls n cs := by
  conv => rhs; rw [← List.take_append_drop j cs, fulls_append]
  omega
theorem counts_take_le (cs : List Tr) (j : Nat) : counts (cs.take j) ≤ counts cs := by
  conv => rhs; rw [← List.take_append_drop j cs, counts_append]
  omega
end Tr

/-- A slice of ints in memory below block B. -/
def IntsIn (w : World) (B : Nat) (v : Value) (ks : List Int) : Prop :=
  ∃ (a : Option Addr) (cap : Nat), v = .slice a ks.length cap ∧ ks.length ≤ cap ∧ cap ≤ maxLen ∧ (a = none → cap = 0) ∧
    (ks = [] ∨ ∃ b o, a = some ⟨b, o, none⟩ ∧ b < B ∧ ∀ i, i < ks.length → w.cell? ⟨b, o + i, none⟩ = some (.int .i64 (ks.getD i 0)))

/-- A slice of trees in memory below block B: two cells a tree. -/
def KidsIn (w : World) (B : Nat) (a : Option Addr) (n : Nat) (kvs cvs : Nat → Value) : Prop :=
  n = 0 ∨ ∃ b o, a = some ⟨b, o, none⟩ ∧ b < B ∧ ∀ i, i < n →
    w.cell? ⟨b, o + i * 2, none⟩ = some (kvs i) ∧ w.cell? ⟨b, o + i * 2 + 1, none⟩ = some (cvs i)

/-- A tree in memory below block B: its two slices. -/
inductive TreeIn (w : World) (B : Nat) : Value → Value → Tr → Prop where
  | mk (ks : List Int) (cs : List Tr) (kv : Value) (a : Option Addr) (cap : Nat) (kvs cvs : Nat → Value)
      (hk : IntsIn w B kv ks) (hlen : cs.length ≤ cap) (hcap : cap ≤ maxLen) (hat : KidsIn w B a cs.length kvs cvs)
      (hkids : ∀ i (h : i < cs.length), TreeIn w B (kvs i) (cvs i) cs[i]) :
      TreeIn w B kv (.slice a cs.length cap) (.mk ks cs)

theorem below_cell {B : Nat} {w w' : World} (h : Below B w w') {b o : Nat} (hb : b < B) : w'.cell? ⟨b, o, none⟩ = w.cell? ⟨b, o, none⟩ := h.cell (p := ⟨b, o, none⟩) hb

theorem bcell {C : Nat} {W w1 : World} (hb : Below C W w1) : (∀ b o, b < C → w1.cell? ⟨b, o, none⟩ = W.cell? ⟨b, o, none⟩) ∧ (∀ b o, b < C → w1.frozen? ⟨b, o, none⟩ = W.frozen? ⟨b, o, none⟩) :=
  ⟨fun b o h => hb.cell (p := ⟨b, o, none⟩) h, fun b o h => hb.frozen (p := ⟨b, o, none⟩) h⟩

/-- A box of one or two cells, its cells told. -/
theorem box1 {w : World} {b : Nat} {x : Value} {t : TypeId} (h : w.heap[b]? = some (.cells #[x] t (0, 0))) : w.cell? ⟨b, 0, none⟩ = some x ∧ w.frozen? ⟨b, 0, none⟩ = false := by
  constructor <;> simp [World.cell?, World.frozen?, h]
theorem box2 {w : World} {b : Nat} {x y : Value} {t : TypeId} (h : w.heap[b]? = some (.cells #[x, y] t (0, 0))) :
    w.cell? ⟨b, 0, none⟩ = some x ∧ w.cell? ⟨b, 1, none⟩ = some y ∧ w.frozen? ⟨b, 0, none⟩ = false ∧ w.frozen? ⟨b, 1, none⟩ = false := by
  refine ⟨?_, ?_, ?_, ?_⟩ <;> simp [World.cell?, World.frozen?, h]
theorem new_blk (w : World) (o : Obj) : (w.alloc o).heap[w.heap.size]? = some o := by
  show (w.heap.push o)[w.heap.size]? = _
  simp
theorem old_blk (w : World) (o : Obj) (k : Nat) (h : k < w.heap.size) : (w.alloc o).heap[k]? = w.heap[k]? := Below.heap_alloc w o k h
theorem set_blk {w : World} {b o : Nat} {c : Array Value} {t : TypeId} (v : Value) (h : w.heap[b]? = some (.cells c t (0, 0))) :
    (w.setCell ⟨b, o, none⟩ v).heap[b]? = some (.cells (c.setIfInBounds o v) t (0, 0)) := by
  simp [World.setCell, Array.getElem?_modify, h]
theorem set_other (w : World) (b o : Nat) (v : Value) (k : Nat) (h : k ≠ b) : (w.setCell ⟨b, o, none⟩ v).heap[k]? = w.heap[k]? := Below.heap_setCell w ⟨b, o, none⟩ v k h

theorem IntsIn.later {w w' : World} {B C : Nat} {v : Value} {ks : List Int} (h : IntsIn w B v ks) (hb : Below C w w') (hC : B ≤ C) : IntsIn w' B v ks := by
  obtain ⟨a, cap, hv, h1, h2, hnl, h3⟩ := h
  refine ⟨a, cap, hv, h1, h2, hnl, ?_⟩
  rcases h3 with h3 | ⟨b, o, h3, h4, h5⟩
  · exact .inl h3
  · exact .inr ⟨b, o, h3, h4, fun i hi => by rw [below_cell hb (by omega)]; exact h5 i hi⟩

theorem KidsIn.later {w w' : World} {B C : Nat} {a : Option Addr} {n : Nat} {kvs cvs : Nat → Value} (h : KidsIn w B a n kvs cvs) (hb : Below C w w') (hC : B ≤ C) : KidsIn w' B a n kvs cvs := by
  rcases h with h3 | ⟨b, o, h3, h4, h5⟩
  · exact .inl h3
  · exact .inr ⟨b, o, h3, h4, fun i hi => ⟨by rw [below_cell hb (by omega)]; exact (h5 i hi).1, by rw [below_cell hb (by omega)]; exact (h5 i hi).2⟩⟩

theorem TreeIn.later {w w' : World} {B C : Nat} {kv cv : Value} {t : Tr} (h : TreeIn w B kv cv t) (hb : Below C w w') (hC : B ≤ C) : TreeIn w' B kv cv t := by
  induction h with
  | mk ks cs kv a cap kvs cvs hk hlen hcap hat hkids ih => exact TreeIn.mk ks cs kv a cap kvs cvs (hk.later hb hC) hlen hcap (hat.later hb hC) ih

theorem IntsIn.wider {w : World} {B C : Nat} {v : Value} {ks : List Int} (h : IntsIn w B v ks) (hC : B ≤ C) : IntsIn w C v ks := by
  obtain ⟨a, cap, hv, h1, h2, hnl, h3⟩ := h
  refine ⟨a, cap, hv, h1, h2, hnl, ?_⟩
  rcases h3 with h3 | ⟨b, o, h3, h4, h5⟩
  · exact .inl h3
  · exact .inr ⟨b, o, h3, by omega, h5⟩

theorem KidsIn.wider {w : World} {B C : Nat} {a : Option Addr} {n : Nat} {kvs cvs : Nat → Value} (h : KidsIn w B a n kvs cvs) (hC : B ≤ C) : KidsIn w C a n kvs cvs := by
  rcases h with h3 | ⟨b, o, h3, h4, h5⟩
  · exact .inl h3
  · exact .inr ⟨b, o, h3, by omega, h5⟩

theorem TreeIn.wider {w : World} {B C : Nat} {kv cv : Value} {t : Tr} (h : TreeIn w B kv cv t) (hC : B ≤ C) : TreeIn w C kv cv t := by
  induction h with
  | mk ks cs kv a cap kvs cvs hk hlen hcap hat hkids ih => exact TreeIn.mk ks cs kv a cap kvs cvs (hk.wider hC) hlen hcap (hat.wider hC) ih

theorem TreeIn.slices {w : World} {B : Nat} {kv cv : Value} {t : Tr} (h : TreeIn w B kv cv t) : ∃ a n c a' n' c', kv = .slice a n c ∧ cv = .slice a' n' c' := by
  cases h with
  | mk ks cs kv a cap kvs cvs hk hlen hcap hat hkids =>
    obtain ⟨ka, kcap, rfl, _⟩ := hk
    exact ⟨_, _, _, _, _, _, rfl, rfl⟩

/-- The one rule on heights: a property that goes from all kids to the tree holds of all trees that lie in memory. -/
theorem TreeIn.parts {w : World} {B : Nat} {kv cv : Value} {ks : List Int} {cs : List Tr} (h : TreeIn w B kv cv (.mk ks cs)) :
    ∃ (a : Option Addr) (cap : Nat) (kvs cvs : Nat → Value), cv = .slice a cs.length cap ∧ IntsIn w B kv ks ∧ cs.length ≤ cap ∧ cap ≤ maxLen ∧ KidsIn w B a cs.length kvs cvs ∧
      ∀ i (h : i < cs.length), TreeIn w B (kvs i) (cvs i) cs[i] := by
  cases h with
  | mk _ _ _ a cap kvs cvs hk hlen hcap hat hkids => exact ⟨a, cap, kvs, cvs, rfl, hk, hlen, hcap, hat, hkids⟩

theorem ret_int {k : IntKind} {a b : Int} (h : a = b) : Ending.returned (.int k a) = .returned (.int k b) := by rw [h]
theorem ret_bool {a b : Bool} (h : a = b) : Ending.returned (.bool a) = .returned (.bool b) := by rw [h]

end Go.Proofs.Ytananonjomfpkaa

/- Appends onto a slice of ints of the call's own. -/
namespace Go.Proofs.Ytananonjomfpkaa
open Go.RowKit

/-- A slice of ints that can be read, wherever it lies. -/
def IntsAt (w : World) (v : Value) (ks : List Int) : Prop :=
  ∃ (a : Option Addr) (cap : Nat), v = .slice a ks.length cap ∧ (a = none → cap = 0) ∧
    (ks = [] ∨ ∃ b o, a = some ⟨b, o, none⟩ ∧ ∀ i, i < ks.length → w.cell? ⟨b, o + i, none⟩ = some (.int .i64 (ks.getD i 0)))

theorem IntsIn.at {w : World} {B : Nat} {v : Value} {ks : List Int} (h : IntsIn w B v ks) : IntsAt w v ks := by
  obtain ⟨a, cap, hv, h1, h2, hnl, h3⟩ := h
  refine ⟨a, cap, hv, hnl, ?_⟩
  rcases h3 with h3 | ⟨b, o, h3, _, h4⟩
  · exact .inl h3
  · exact .inr ⟨b, o, h3, h4⟩

/-- A slice of ints of the call's own, from block lo on. -/
abbrev IntsOwn (w : World) (lo : Nat) (v : Value) (ks : List Int) : Prop := w.ownsRow lo 3 1 v ks.length (ks.map (Value.int .i64))

theorem IntsOwn.in {w : World} {lo : Nat} {v : Value} {ks : List Int} (h : IntsOwn w lo v ks) : IntsIn w w.heap.size v ks := by
  have h0 := h
  obtain ⟨h1, ⟨h2, h3⟩ | ⟨g, cap, cur, hv, hb, hg, hn, hm, hs, ht⟩⟩ := h
  · obtain rfl : ks = [] := List.length_eq_zero_iff.1 h3
    exact ⟨none, 0, h2, by simp, by unfold maxLen; omega, fun _ => rfl, .inl rfl⟩
  · refine ⟨_, cap, hv, hn, hm, by simp, .inr ⟨g, 0, rfl, (Array.getElem?_eq_some_iff.1 hg).1, fun i hi => ?_⟩⟩
    subst hv
    rw [Nat.zero_add, World.ownsRow.cellAt h0 i (by omega)]
    simp [hi]

theorem IntsOwn.inB {w : World} {lo B : Nat} {v : Value} {ks : List Int} (h : IntsOwn w lo v ks) (hB : w.heap.size ≤ B) : IntsIn w B v ks := (IntsOwn.in h).wider hB

theorem IntsOwn.later {w w' : World} {lo C : Nat} {v : Value} {ks : List Int} (h : IntsOwn w lo v ks) (hb : Below C w w') (hC : w.heap.size ≤ C) : IntsOwn w' lo v ks := by
  obtain ⟨h1, h2 | ⟨g, cap, cur, hv, hbb, hg, hr⟩⟩ := h
  · exact ⟨h1, .inl h2⟩
  · exact ⟨h1, .inr ⟨g, cap, cur, hv, hbb, (hb.block g (by have := (Array.getElem?_eq_some_iff.1 hg).1; omega)).trans hg, hr⟩⟩

/-- Below a number that is no greater than the row's base. -/
theorem IntsOwn.lower {w : World} {lo lo' : Nat} {v : Value} {ks : List Int} (h : IntsOwn w lo v ks) (hl : lo' ≤ lo) : IntsOwn w lo' v ks := by
  obtain ⟨h1, h2 | ⟨g, cap, cur, hv, hbb, hr⟩⟩ := h
  · exact ⟨h1, .inl h2⟩
  · exact ⟨h1, .inr ⟨g, cap, cur, hv, by omega, hr⟩⟩

theorem IntsOwn.shown {w : World} {lo : Nat} {v : Value} {ks : List Int} (h : IntsOwn w lo v ks) : ∃ a c, v = .slice a ks.length c := by
  obtain ⟨h1, ⟨h2, h3⟩ | ⟨g, cap, cur, hv, hbb, hr⟩⟩ := h
  · exact ⟨_, _, by rw [h2, h3]⟩
  · exact ⟨_, _, hv⟩

theorem IntsOwn.alloc' {w : World} {lo : Nat} {v : Value} {ks : List Int} (h : IntsOwn w lo v ks) (o : Obj) : IntsOwn (w.alloc o) lo v ks := World.ownsRow.alloc h o

/-- A row of one int, just laid. -/
theorem IntsAt.one (w : World) (x : Int) : IntsAt (w.alloc (.cells #[.int .i64 x] 3)) (.slice (some ⟨w.heap.size, 0, none⟩) 1 1) [x] :=
  ⟨_, _, rfl, by simp, .inr ⟨_, 0, rfl, fun i hi => by
    obtain rfl : i = 0 := by simpa using hi
    rw [World.cell?_alloc_at _ _ _ _ rfl]; rfl⟩⟩

theorem Try.infoTree : (Try.prog.info? 26).map (fun i => (i.zero, i.size, i.bytes)) = some (some (.agg #[.slice none 0 0, .slice none 0 0]), 2, 48) := by kernel_rfl

theorem Try.appInfo : (Try.prog.info? 3).map (fun i => (i.zero, i.size, i.bytes)) = some (some (.int .i64 0), 1, 8) := by kernel_rfl

/-- 'append(out, more...)'. -/
theorem wpList_append_ints {w : World} {ops : Array Oper} {rest : List Oper} {o : Oper} {a : Act} {Q : Exit → Act → World → Prop} (hgd : o.guard = none) (s x : Operand)
    (ho : o.op = .call { callee := .builtin .append, args := #[s, x], argTypes := #[23, 23] })
    (lo : Nat) (v y : Value) (xs ms : List Int) (hs : a.eval s = v) (hown : IntsOwn w lo v xs) (hx : a.eval x = y) (hsrc : IntsAt w y ms)
    (hlen : xs.length + ms.length ≤ 17592186044416) (hlo : lo ≤ w.heap.size)
    (h : ∀ v' w', IntsOwn w' lo v' (xs ++ ms) → Below lo w w' → w.grownBy w' v.ownBlock → (∃ a c, v' = .slice a (xs ++ ms).length c) → wpList Try.prog ops Q rest (a.put o.dst v') w') : wpList Try.prog ops Q (o :: rest) a w := by
  obtain ⟨i0, hi, hz0, hz1, hz2⟩ := info_parts Try.appInfo
  obtain ⟨pa, cap, rfl, hnl, hat⟩ := hsrc
  rcases pa with _ | p
  · obtain rfl := hnl rfl
    obtain rfl : ms = [] := by
      rcases hat with h | ⟨b, o, h, _⟩
      · exact h
      · cases h
    refine wpList_append_own_none hgd s x 23 ho lo 3 i0 1 Try.underlying23 hi v _ _ hs hown hx (h v w (by simpa using hown) (Below.refl _ _) (World.grownBy.refl _ _) ?_)
    simpa using IntsOwn.shown hown
  · refine wpList_append_own w hgd s x 23 ho lo 3 i0 (.int .i64 0) 1 8 Try.underlying23 hi hz0 hz1 hz2 rfl (by decide) v _ _ hs hown p ms.length cap (ms.map (Value.int .i64)) hx (by simp) (fun j u hj => ?_) (ints_oneCell .i64 ms) (by unfold maxLen; omega) (by omega) hlo (fun v' w' hown' hgrow _ => ?_)
    · have hjl : j < ms.length := by
        have := (List.getElem?_eq_some_iff.1 hj).1
        simpa using this
      rcases hat with h | ⟨b, o, h, hc⟩
      · simp [h] at hjl
      · cases h
        have hu : u = .int .i64 (ms.getD j 0) := by
          rw [List.getElem?_map] at hj
          simp [hjl] at hj
          simp [← hj, hjl]
        rw [hu, Addr.add_lit]
        exact hc j hjl
    · have hown2 : IntsOwn w' lo v' (xs ++ ms) := by
        unfold IntsOwn
        rw [List.length_append, List.map_append]
        exact hown'
      refine h v' w' hown2 ((Below.refl lo w).grown hgrow hlo (fun k hk => (hown.lt k hk).1)) hgrow (IntsOwn.shown hown2)
end Go.Proofs.Ytananonjomfpkaa

/- Loops over iterators: what an iterator owes its loop, and the law of the loop, where whoever goes on keeps the blocks of the other. -/
namespace Go.Proofs.Ytananonjomfpkaa
open Go.RowKit

/-- What a step from w to w' keeps: the streams, and all blocks of a set. -/
structure Keep (K : Nat → Prop) (w w' : World) : Prop where
  os : w'.os = w.os
  tape : w'.tape = w.tape
  output : w'.output = w.output
  size : w.heap.size ≤ w'.heap.size
  block : ∀ k, k < w.heap.size → K k → w'.heap[k]? = w.heap[k]?

namespace Keep
theorem refl (K : Nat → Prop) (w : World) : Keep K w w := ⟨rfl, rfl, rfl, Nat.le_refl _, fun _ _ _ => rfl⟩
theorem trans {K : Nat → Prop} {a b c : World} (h : Keep K a b) (k : Keep K b c) : Keep K a c :=
  ⟨k.os.trans h.os, k.tape.trans h.tape, k.output.trans h.output, Nat.le_trans h.size k.size, fun i hi hk => (k.block i (Nat.lt_of_lt_of_le hi h.size) hk).trans (h.block i hi hk)⟩
theorem mono {K K' : Nat → Prop} {w w' : World} (h : Keep K w w') (hk : ∀ k, k < w.heap.size → K' k → K k) : Keep K' w w' := ⟨h.os, h.tape, h.output, h.size, fun i hi x => h.block i hi (hk i hi x)⟩
theorem drew (K : Nat → Prop) (w : World) : Keep K w w.drew := ⟨rfl, rfl, rfl, Nat.le_refl _, fun _ _ _ => rfl⟩
theorem drewN (K : Nat → Prop) (w : World) (n : Nat) : Keep K w (w.drewN n) := ⟨rfl, rfl, rfl, Nat.le_refl _, fun _ _ _ => rfl⟩
theorem alloc (K : Nat → Prop) (w : World) (o : Obj) : Keep K w (w.alloc o) := ⟨rfl, rfl, rfl, by simp, fun k hk _ => Below.heap_alloc w o k hk⟩
theorem setCell (K : Nat → Prop) (w : World) (p : Addr) (u : Value) (h : ¬ K p.block) : Keep K w (w.setCell p u) :=
  ⟨rfl, rfl, rfl, by simp, fun k _ hk => Below.heap_setCell w p u k (fun e => h (e ▸ hk))⟩
theorem putObj (K : Nat → Prop) (w : World) (l : Nat) (o : Obj) (h : ¬ K l) : Keep K w (w.putObj l o) :=
  ⟨rfl, rfl, rfl, by simp, fun k _ hk => World.putObj_heap_other (fun e => h (e ▸ hk))⟩
theorem of_below {K : Nat → Prop} {B : Nat} {w w' : World} (h : Below B w w') (hk : ∀ k, k < w.heap.size → K k → k < B) : Keep K w w' := ⟨h.os, h.tape, h.output, h.size, fun k hk' hK => h.block k (hk k hk' hK)⟩
theorem below {K : Nat → Prop} {B : Nat} {w w' : World} (h : Keep K w w') (hB : B ≤ w.heap.size) (hk : ∀ k, k < B → K k) : Below B w w' := ⟨h.os, h.tape, h.output, h.size, fun k hk' => h.block k (by omega) (hk k hk')⟩
theorem grown {K : Nat → Prop} {w w' : World} {row : Option Nat} (hg : w.grownBy w' row) (hr : ∀ k, row = some k → ¬ K k) : Keep K w w' :=
  ⟨hg.os, hg.tape, hg.output, hg.size, fun k hk hK => hg.block k hk (fun e => hr k e.symm hK)⟩
end Keep

/-- What a loop's owner says of its own blocks between two rounds abides whatever is done to the blocks of the other side, and to new ones. -/
def Abide {α : Type} (J : List α → (Nat → Prop) → World → Prop) : Prop :=
  ∀ pre Pv A Pv' B, J pre Pv A → Keep (fun k => ¬ Pv k) A B → (∀ k, Pv' k → Pv k ∨ A.heap.size ≤ k) → J pre Pv' B

/-- A call of yield, the round that it asks for, and what that round does. -/
def Round1 (P : Program) (l : Nat) (args : Array Value) (W : World) (R : Ending → World → Prop) : Prop :=
  ∃ fn tmps assign body, (Instr.yield l args).run P W = .ok (.round l fn tmps assign body) W ∧ ∀ m, RoundIn Fence.wide m P l fn tmps assign body W R

theorem Round1.mono {P : Program} {l : Nat} {args : Array Value} {W : World} {R R' : Ending → World → Prop} (h : Round1 P l args W R) (hr : ∀ e w, R e w → R' e w) : Round1 P l args W R' := by
  obtain ⟨fn, tmps, assign, body, hy, hR⟩ := h
  exact ⟨fn, tmps, assign, body, hy, fun m => (hR m).mono hr⟩

/-- What all rounds of loop l do, as long as the blocks of Pv₀ are kept from W₀ on. -/
def Rounds {α : Type} (P : Program) (l : Nat) (encs : α → Array Value) (J Jx : List α → (Nat → Prop) → World → Prop) (xs : List α) (Pv₀ : Nat → Prop) (W₀ : World) : Prop :=
  ∀ (pre : List α) (x : α) (Pv : Nat → Prop) (W : World), J pre Pv W → Keep Pv₀ W₀ W → (∀ k, Pv₀ k → Pv k) → (∀ k, Pv k → k < W.heap.size) → pre ++ [x] <+: xs → Round1 P l (encs x) W fun e W' =>
    Keep Pv W W' ∧ ((e = .returned (.bool true) ∧ J (pre ++ [x]) Pv W') ∨ (e = .returned (.bool false) ∧ Jx (pre ++ [x]) Pv W'))

/-- An iterator of xs. Rd: the blocks that it reads. -/
def Iter {α : Type} (P : Program) (g : Nat) (fb lb : Array Value) (encs : α → Array Value) (Rd : Nat → Prop) (xs : List α) (w₀ : World) : Prop :=
  ∀ (l : Nat) (J Jx : List α → (Nat → Prop) → World → Prop) (Pv : Nat → Prop) (W : World), Keep Rd w₀ W → (∀ k, Rd k → Pv k) → (∀ k, Pv k → k < W.heap.size) → Abide J → Abide Jx → Rounds P l encs J Jx xs Pv W → J [] Pv W →
    Calls P g (fb ++ #[.func (.yield l) #[] #[]] ++ lb) W fun e W' => (∃ v, e = .returned v) ∧ Keep Pv W W' ∧ (J xs Pv W' ∨ ∃ pre, pre <+: xs ∧ Jx pre Pv W')

/-- How a round's body may be left. -/
def bodyEnds {α : Type} (I : List α → (Nat → Prop) → World → Prop) (Ix : Code → List α → (Nat → Prop) → World → Prop) (xs : List α) (Pv : Nat → Prop) (W : World) : Exit → Act → World → Prop
  | .normal, _, W' => Keep Pv W W' ∧ I xs Pv W'
  | .ret, _, W' => Keep Pv W W' ∧ Ix .ret xs Pv W'
  | .exit id, _, W' => Keep Pv W W' ∧ Ix (.exit id) xs Pv W'
  | .goto t, _, W' => Keep Pv W W' ∧ Ix (.goto t) xs Pv W'
  | .panic _, _, _ => False
  | .outgrown, _, _ => False

variable {P : Program} {n : Nat}

/-- The law of 'for x := range seq' in a function's own frame, where the assignment may lay blocks. -/
theorem wp_loopA {α : Type} {g : Operand} {ps : Array Tmp} {assign body : Code} {Q : Exit → Act → World → Prop} {a : Act} {w : World}
    {gf : Nat} {fb lb : Array Value} (hg : a.eval g = .func (.func gf) fb lb) (eg : ∀ args w, (callFunc gf args).run P w = .ok (.enter gf args) w)
    {encs : α → Array Value} {Rd : Nat → Prop} {xs : List α} {w₀ : World} (hit : Iter P gf fb lb encs Rd xs w₀) (hk0 : Keep Rd w₀ w) (hps : ∀ x, (encs x).size = ps.size)
    (Pv : Nat → Prop) (hRd : ∀ k, Rd k → Pv k) (hPv : ∀ k, Pv k → k < w.heap.size)
    (I : List α → (Nat → Prop) → World → Prop) (Ix : Code → List α → (Nat → Prop) → World → Prop) (hI : Abide I) (hIx : ∀ c, Abide (Ix c)) (h0 : I [] Pv w) (Ax : α → Act → (Nat → Prop) → World → Prop) (hAx : ∀ x a' Pv A B, Ax x a' Pv A → Keep (fun k => ¬ Pv k) A B → Ax x a' Pv B)
    (hassign : ∀ (l m : Nat) (pre : List α) (x : α) (Pv' : Nat → Prop) (W : World), I pre Pv' W → (∀ k, Pv' k → k < W.heap.size) →
      assign.wpIn (Fence.wide.inRound l) m P (Exit.then (fun a' W' => Keep Pv' W W' ∧ I pre Pv' W' ∧ Ax x a' Pv' W') (fun _ _ _ => False)) { tmps := (ps.zip (encs x)).foldl (fun t (p, v) => t.setIfInBounds p v) a.tmps, defers := [] } W)
    (hbody : ∀ (l m : Nat) (pre : List α) (x : α) (a' : Act) (Pv' : Nat → Prop) (W : World), I pre Pv' W → Ax x a' Pv' W → Keep Pv w W → (∀ k, Pv k → Pv' k) → (∀ k, Pv' k → k < W.heap.size) → pre ++ [x] <+: xs → body.wpIn (Fence.wide.inRound l) m P (bodyEnds I Ix (pre ++ [x]) Pv' W) a' W)
    (hdone : ∀ (W : World), Keep Pv w W → I xs (fun k => Pv k ∨ k = w.heap.size ∨ k = w.heap.size + 1) W → w.heap.size + 1 < W.heap.size → W.heap[w.heap.size]? = some (.deferred (some [])) → Q .normal { a with defers := { target := .collected w.heap.size, args := #[] } :: a.defers } W)
    (hstop : ∀ (c : Code) (pre : List α) (W : World), Keep Pv w W → pre <+: xs → Ix c pre (fun k => Pv k ∨ k = w.heap.size ∨ k = w.heap.size + 1) W → w.heap.size + 1 < W.heap.size → W.heap[w.heap.size]? = some (.deferred (some [])) → c.wpIn Fence.wide n P Q { a with defers := { target := .collected w.heap.size, args := #[] } :: a.defers } W) :
    (Code.rangeFunc g ps assign body).wpIn Fence.wide n P Q a w := by
  refine wpIn_rangeFunc (fun fn hfn => ?_)
  -- the two blocks of the loop: D for the rounds' deferred calls, L its record
  let rec' : LoopState → Option Code → Loop := fun st pe => { state := st, pending := pe, fn, tmps := a.tmps, params := ps, assign, body, defers := w.heap.size }
  obtain ⟨rc, hrc⟩ : ∃ rc, rc = rec' := ⟨_, rfl⟩
  obtain ⟨W1, hW1⟩ : ∃ W1, W1 = (w.alloc (.deferred (some []))).alloc (.loop (rc .ready none)) := ⟨_, rfl⟩
  have hs1 : W1.heap.size = w.heap.size + 2 := by rw [hW1]; simp
  have hL1 : W1.heap[w.heap.size + 1]? = some (.loop (rc .ready none)) := by
    have h := World.alloc_heap_new (w.alloc (.deferred (some []))) (.loop (rc .ready none))
    rw [World.size_alloc] at h; rw [hW1]; exact h
  have hD1 : W1.heap[w.heap.size]? = some (.deferred (some [])) := by rw [hW1, Below.heap_alloc _ _ _ (by simp)]; exact World.alloc_heap_new w _
  have hk1 : ∀ K, Keep K w W1 := fun K => by rw [hW1]; exact (Keep.alloc K _ _).trans (Keep.alloc K _ _)
  have hent : (Instr.enterLoop fn a.tmps ps assign body none).run P w = .ok (w.heap.size + 1, [{ target := .collected w.heap.size, args := #[] }]) W1 := by
    rw [hW1, hrc]; exact run_enterLoop_outer _ _ _ _ _
  clear hW1
  refine ⟨w.heap.size + 1, _, W1, { target := .fn (.func gf) lb, args := fb ++ #[.func (.yield (w.heap.size + 1)) #[] #[]] }, W1, gf, fb ++ #[.func (.yield (w.heap.size + 1)) #[] #[]] ++ lb, W1, hent, ?_, fun _ _ => trivial, ?_, fun h => (by cases h), ?_⟩
  · simp only [resolve, hg]
    simp [go_sem]
  · simp [invoke, go_sem, eg]
  · have hc := hit (w.heap.size + 1)
      (fun pre Pv' W => (∀ k, Pv' k → k ≠ w.heap.size ∧ k ≠ w.heap.size + 1) ∧ w.heap.size + 1 < W.heap.size ∧ I pre (fun k => Pv' k ∨ k = w.heap.size ∨ k = w.heap.size + 1) W ∧ W.heap[w.heap.size + 1]? = some (.loop (rc .ready none)) ∧ W.heap[w.heap.size]? = some (.deferred (some [])))
      (fun pre Pv' W => ∃ c, (∀ k, Pv' k → k ≠ w.heap.size ∧ k ≠ w.heap.size + 1) ∧ w.heap.size + 1 < W.heap.size ∧ Ix c pre (fun k => Pv' k ∨ k = w.heap.size ∨ k = w.heap.size + 1) W ∧ W.heap[w.heap.size + 1]? = some (.loop (rc .done (some c))) ∧ W.heap[w.heap.size]? = some (.deferred (some [])))
      Pv W1 (hk0.trans (hk1 _)) hRd (fun k hk => by have := hPv k hk; omega)
      (fun pre Pv1 A Pv2 B h hk hp => by
        obtain ⟨g1, g2, g3, g4, g5⟩ := h
        have e1 : ¬ Pv1 (w.heap.size + 1) := fun x => (g1 _ x).2 rfl
        have e2 : ¬ Pv1 w.heap.size := fun x => (g1 _ x).1 rfl
        refine ⟨fun k hk' => ?_, Nat.lt_of_lt_of_le g2 hk.size, hI _ _ A _ B g3 (hk.mono (fun k _ h x => h (.inl x))) ?_, (hk.block _ g2 e1).trans g4, (hk.block _ (by omega) e2).trans g5⟩
        · rcases hp k hk' with h | h
          · exact g1 k h
          · omega
        · rintro k (h | h | h)
          · rcases hp k h with h | h
            · exact .inl (.inl h)
            · exact .inr h
          · exact .inl (.inr (.inl h))
          · exact .inl (.inr (.inr h)))
      (fun pre Pv1 A Pv2 B h hk hp => by
        obtain ⟨c, g1, g2, g3, g4, g5⟩ := h
        have e1 : ¬ Pv1 (w.heap.size + 1) := fun x => (g1 _ x).2 rfl
        have e2 : ¬ Pv1 w.heap.size := fun x => (g1 _ x).1 rfl
        refine ⟨c, fun k hk' => ?_, Nat.lt_of_lt_of_le g2 hk.size, hIx c _ _ A _ B g3 (hk.mono (fun k _ h x => h (.inl x))) ?_, (hk.block _ g2 e1).trans g4, (hk.block _ (by omega) e2).trans g5⟩
        · rcases hp k hk' with h | h
          · exact g1 k h
          · omega
        · rintro k (h | h | h)
          · rcases hp k h with h | h
            · exact .inl (.inl h)
            · exact .inr h
          · exact .inl (.inr (.inl h))
          · exact .inl (.inr (.inr h)))
      ?_ ⟨fun k hk => by have := hPv k hk; omega, by omega, ?_, hL1, hD1⟩
    · have hc' := (callsIn_wide (n := n - 1)).2 hc
      refine hc'.mono ?_
      rintro e W2 ⟨⟨v, rfl⟩, hkp, (⟨g1, g2, g3, g4, g5⟩ | ⟨pre, hpre, c, g1, g2, g3, g4, g5⟩)⟩
      · have hput : Keep (fun k => ¬ (Pv k ∨ k = w.heap.size ∨ k = w.heap.size + 1)) W2 (W2.putObj (w.heap.size + 1) (.loop { rc .ready none with state := .exhausted })) := Keep.putObj _ _ _ _ (fun h => h (.inr (.inr rfl)))
        refine ⟨none, W2.putObj (w.heap.size + 1) (.loop { rc .ready none with state := .exhausted }), (run_endLoop (P := P) g4 (by rw [hrc]; simp [rec'])).trans (by have hp : (rc .ready none).pending = none := (by rw [hrc]); exact congrArg (fun p => Result.ok p _) hp), ?_⟩
        refine hdone _ (((hk1 _).trans hkp).trans (Keep.putObj _ _ _ _ (fun h => (g1 _ h).2 rfl))) (hI _ _ _ _ _ g3 hput (fun k h => .inl h)) (by simp; omega) ((World.putObj_heap_other (by omega)).trans g5)
      · have hput : Keep (fun k => ¬ (Pv k ∨ k = w.heap.size ∨ k = w.heap.size + 1)) W2 (W2.putObj (w.heap.size + 1) (.loop { rc .done (some c) with state := .exhausted })) := Keep.putObj _ _ _ _ (fun h => h (.inr (.inr rfl)))
        refine ⟨some c, W2.putObj (w.heap.size + 1) (.loop { rc .done (some c) with state := .exhausted }), (run_endLoop (P := P) g4 (by rw [hrc]; simp [rec'])).trans (by have hp : (rc .done (some c)).pending = some c := (by rw [hrc]); exact congrArg (fun p => Result.ok p _) hp), ?_⟩
        refine hstop c pre _ (((hk1 _).trans hkp).trans (Keep.putObj _ _ _ _ (fun h => (g1 _ h).2 rfl))) hpre (hIx c _ _ _ _ _ g3 hput (fun k h => .inl h)) (by simp; omega) ((World.putObj_heap_other (by omega)).trans g5)
    · -- one round
      rintro pre x Pv1 W ⟨g1, g2, g3, g4, g5⟩ hkeep hsub hbnd hpre
      have hy := run_yield (P := P) (args := encs x) g4 (by rw [hrc]; exact hps x)
      have e1 : ¬ Pv1 (w.heap.size + 1) := fun x => (g1 _ x).2 rfl
      have e2 : ¬ Pv1 w.heap.size := fun x => (g1 _ x).1 rfl
      rw [hrc] at hy
      have hbD' : ∀ k, (Pv1 k ∨ k = w.heap.size ∨ k = w.heap.size + 1) → k < W.heap.size := fun k h => h.elim (fun h => hbnd k h) (fun h => h.elim (fun h => by omega) (fun h => by omega))
      refine ⟨fn, _, assign, body, hy, fun m => roundIn_of_wpIn hfn (wpIn_mono (hassign _ m pre x _ W g3 hbD') ?_)⟩
      intro e0 a' Wa hea
      cases e0 with
      | exit _ => exact hea.elim
      | goto _ => exact hea.elim
      | ret => exact hea.elim
      | panic _ => exact hea.elim
      | outgrown => exact hea.elim
      | normal =>
      obtain ⟨hka, hia, haa⟩ := hea
      have hsa := hka.size
      replace g4 := (hka.block _ g2 (.inr (.inr rfl))).trans g4
      replace g5 := (hka.block _ (by omega) (.inr (.inl rfl))).trans g5
      replace g2 := Nat.lt_of_lt_of_le g2 hsa
      replace g3 := hia
      replace hkeep := hkeep.trans (hka.mono (fun k _ h => .inl (hsub k h)))
      have hkW := hka.mono (K' := Pv1) (fun k _ h => .inl h)
      replace hbnd : ∀ k, Pv1 k → k < Wa.heap.size := fun k h => Nat.lt_of_lt_of_le (hbnd k h) hsa
      refine ⟨_, run_beginRound g4 (by rw [hrc]), ?_⟩
      obtain ⟨Wb, hWb⟩ : ∃ Wb, Wb = Wa.putObj (w.heap.size + 1) (.loop { rc .ready none with state := .busy }) := ⟨_, rfl⟩
      rw [← hWb]
      have kb : ∀ K : Nat → Prop, ¬ K (w.heap.size + 1) → Keep K Wa Wb := fun K h => by rw [hWb]; exact Keep.putObj _ _ _ _ h
      have hbL : Wb.heap[w.heap.size + 1]? = some (.loop { rc .ready none with state := .busy }) := by rw [hWb]; exact World.putObj_heap_same g2
      have hbD : Wb.heap[w.heap.size]? = some (.deferred (some [])) := by rw [hWb]; exact (World.putObj_heap_other (by omega)).trans g5
      have hbs : Wb.heap.size = Wa.heap.size := by rw [hWb]; simp
      have hib : I pre (fun k => Pv1 k ∨ k = w.heap.size ∨ k = w.heap.size + 1) Wb := hI _ _ _ _ _ g3 (kb _ (fun h => h (.inr (.inr rfl)))) (fun k h => .inl h)
      have hab := hAx _ _ _ _ _ haa (kb _ (fun h => h (.inr (.inr rfl))))
      refine wpIn_mono (hbody _ m pre x a' _ Wb hib hab (((hk1 _).trans hkeep).trans (kb _ (fun h => e1 (hsub _ h)))) (fun k h => .inl (hsub k h)) (fun k h => h.elim (fun h => by have := hbnd k h; omega) (fun h => h.elim (fun h => by omega) (fun h => by omega))) hpre) ?_
      -- the end of a round, by whatever way
      have fin : ∀ (jump : Option Code) (W3 : World), Keep (fun k => Pv1 k ∨ k = w.heap.size ∨ k = w.heap.size + 1) Wb W3 →
          ∃ W4, (Instr.endRound (w.heap.size + 1) jump).run P W3 = .ok (.bool jump.isNone) W4 ∧ Keep Pv1 Wa W4 ∧ w.heap.size + 1 < W4.heap.size ∧
            Keep (fun k => ¬ (Pv1 k ∨ k = w.heap.size ∨ k = w.heap.size + 1)) W3 W4 ∧ W4.heap[w.heap.size + 1]? = some (.loop (rc (if jump.isNone then .ready else .done) jump)) ∧ W4.heap[w.heap.size]? = some (.deferred (some [])) := fun jump W3 hk3 => by
        have h3 := (hk3.block (w.heap.size + 1) (by omega) (.inr (.inr rfl))).trans hbL
        have hsz := hk3.size
        have hr := run_endRound (P := P) jump h3
        rw [hrc] at hr ⊢
        refine ⟨_, hr, ?_, by simp; omega, Keep.putObj _ _ _ _ (fun h => h (.inr (.inr rfl))), World.putObj_heap_same (by omega), (World.putObj_heap_other (by omega)).trans ((hk3.block w.heap.size (by omega) (.inr (.inl rfl))).trans hbD)⟩
        exact ((kb _ e1).trans (hk3.mono (fun k _ h => .inl h))).trans (Keep.putObj _ _ _ _ e1)
      rintro e a3 W3 hp
      cases e with
      | normal =>
        obtain ⟨hk3, hi3⟩ := hp
        obtain ⟨W4, hr, hkk, hlt, hk4, hl4, hd4⟩ := fin none W3 hk3
        exact ⟨_, _, hr, hkW.trans hkk, .inl ⟨rfl, g1, hlt, hI _ _ _ _ _ hi3 hk4 (fun k h => .inl h), hl4, hd4⟩⟩
      | ret =>
        obtain ⟨hk3, hi3⟩ := hp
        obtain ⟨W4, hr, hkk, hlt, hk4, hl4, hd4⟩ := fin (some .ret) W3 hk3
        exact ⟨_, _, hr, hkW.trans hkk, .inr ⟨rfl, .ret, g1, hlt, hIx _ _ _ _ _ _ hi3 hk4 (fun k h => .inl h), hl4, hd4⟩⟩
      | exit id =>
        obtain ⟨hk3, hi3⟩ := hp
        obtain ⟨W4, hr, hkk, hlt, hk4, hl4, hd4⟩ := fin (some (.exit id)) W3 hk3
        exact ⟨_, _, hr, hkW.trans hkk, .inr ⟨rfl, .exit id, g1, hlt, hIx _ _ _ _ _ _ hi3 hk4 (fun k h => .inl h), hl4, hd4⟩⟩
      | goto t =>
        obtain ⟨hk3, hi3⟩ := hp
        obtain ⟨W4, hr, hkk, hlt, hk4, hl4, hd4⟩ := fin (some (.goto t)) W3 hk3
        exact ⟨_, _, hr, hkW.trans hkk, .inr ⟨rfl, .goto t, g1, hlt, hIx _ _ _ _ _ _ hi3 hk4 (fun k h => .inl h), hl4, hd4⟩⟩
      | panic ch => exact hp.elim
      | outgrown => exact hp.elim
    · exact hI _ _ _ _ _ h0 (hk1 _) (fun k h => by
        rcases h with h | h | h
        · exact .inl h
        · exact .inr (by omega)
        · exact .inr (by omega))

/-- The law where the assignment leaves the world as it is. -/
theorem wp_loop {α : Type} {g : Operand} {ps : Array Tmp} {assign body : Code} {Q : Exit → Act → World → Prop} {a : Act} {w : World}
    {gf : Nat} {fb lb : Array Value} (hg : a.eval g = .func (.func gf) fb lb) (eg : ∀ args w, (callFunc gf args).run P w = .ok (.enter gf args) w)
    {encs : α → Array Value} {Rd : Nat → Prop} {xs : List α} {w₀ : World} (hit : Iter P gf fb lb encs Rd xs w₀) (hk0 : Keep Rd w₀ w) (hps : ∀ x, (encs x).size = ps.size)
    (Pv : Nat → Prop) (hRd : ∀ k, Rd k → Pv k) (hPv : ∀ k, Pv k → k < w.heap.size)
    (I : List α → (Nat → Prop) → World → Prop) (Ix : Code → List α → (Nat → Prop) → World → Prop) (hI : Abide I) (hIx : ∀ c, Abide (Ix c)) (h0 : I [] Pv w) (a₁ : α → Act)
    (hassign : ∀ (l m : Nat) (x : α) (W : World) (K : Act → World → Prop), K (a₁ x) W →
      assign.wpIn (Fence.wide.inRound l) m P (Exit.then K (fun _ _ _ => False)) { tmps := (ps.zip (encs x)).foldl (fun t (p, v) => t.setIfInBounds p v) a.tmps, defers := [] } W)
    (hbody : ∀ (l m : Nat) (pre : List α) (x : α) (Pv' : Nat → Prop) (W : World), I pre Pv' W → Keep Pv w W → (∀ k, Pv k → Pv' k) → (∀ k, Pv' k → k < W.heap.size) → pre ++ [x] <+: xs → body.wpIn (Fence.wide.inRound l) m P (bodyEnds I Ix (pre ++ [x]) Pv' W) (a₁ x) W)
    (hdone : ∀ (W : World), Keep Pv w W → I xs (fun k => Pv k ∨ k = w.heap.size ∨ k = w.heap.size + 1) W → w.heap.size + 1 < W.heap.size → W.heap[w.heap.size]? = some (.deferred (some [])) → Q .normal { a with defers := { target := .collected w.heap.size, args := #[] } :: a.defers } W)
    (hstop : ∀ (c : Code) (pre : List α) (W : World), Keep Pv w W → pre <+: xs → Ix c pre (fun k => Pv k ∨ k = w.heap.size ∨ k = w.heap.size + 1) W → w.heap.size + 1 < W.heap.size → W.heap[w.heap.size]? = some (.deferred (some [])) → c.wpIn Fence.wide n P Q { a with defers := { target := .collected w.heap.size, args := #[] } :: a.defers } W) :
    (Code.rangeFunc g ps assign body).wpIn Fence.wide n P Q a w :=
  wp_loopA hg eg hit hk0 hps Pv hRd hPv I Ix hI hIx h0 (fun x a' _ _ => a' = a₁ x) (fun _ _ _ _ _ h _ => h)
    (fun l m pre x Pv' W hi _ => hassign l m x W _ ⟨Keep.refl _ _, hi, rfl⟩)
    (fun l m pre x a' Pv' W hi ha h1 h2 h3 h4 => by subst ha; exact hbody l m pre x Pv' W hi h1 h2 h3 h4) hdone hstop
end Go.Proofs.Ytananonjomfpkaa
