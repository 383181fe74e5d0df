/- Plain trees and how they lie in memory: the words that the contracts of this claim use. -/
import Derived.WalkKit
import Derived.Lib.Hide
namespace Go.Proofs.Ytodcapgmhginoaa
open Go.RowKit

/-- A tree as plain data: its keys and its kids. -/
inductive Tr where
  | mk (ks : List Int) (cs : List Tr)

namespace Tr
mutual
/-- Keys and kids, all together. -/
def weight : Tr → Nat
  | .mk k c => k.length + weights c
def weights : List Tr → Nat
  | [] => 0
  | t :: r => 1 + weight t + weights r
end

theorem weights_append (a b : List Tr) : weights (a ++ b) = weights a + weights b := by
  induction a with
  | nil => simp [weights]
  | cons t r ih => simp [weights, ih]; omega

theorem weights_take_succ (cs : List Tr) (j : Nat) (h : j < cs.length) : weights (cs.take (j + 1)) = weights (cs.take j) + 1 + cs[j].weight := by
  rw [List.take_succ_eq_append_getElem h, weights_append]; simp [weights]; omega

theorem length_le_weights (cs : List Tr) : cs.length ≤ weights cs := by
  induction cs with
  | nil => simp
  | cons t r ih => simp [weights]; omega

theorem weights_take_ge (cs : List Tr) (j : Nat) : weights (cs.take j) + (cs.length - j) ≤ weights cs := by
  conv => rhs; rw [← List.take_append_drop j cs, weights_append]
  have := length_le_weights (cs.drop j)
  simp at this; omega

theorem weight_get_le (cs : List Tr) (j : Nat) (h : j < cs.length) : cs[j].weight + cs.length ≤ weights cs := by
  have h1 := weights_take_ge cs (j + 1)
  have h2 := weights_take_succ cs j h
  have h3 := length_le_weights (cs.take j)
  simp at h3; omega
end Tr

namespace Tr
mutual
/-- How many nodes. -/
def count : Tr → Nat
  | .mk _ c => 1 + counts c
def counts : List Tr → Nat
  | [] => 0
  | t :: r => count t + counts r
end
mutual
/-- How many nodes lie within each other. -/
def depth : Tr → Nat
  | .mk _ c => depths c + 1
def depths : List Tr → Nat
  | [] => 0
  | t :: r => max (depth t) (depths r)
end
mutual
/-- How many nodes have just so many keys. -/
def full (n : Int) : Tr → Nat
  | .mk k c => (if (k.length : Int) = n then 1 else 0) + fulls n c
def fulls (n : Int) : List Tr → Nat
  | [] => 0
  | t :: r => full n t + fulls n r
end

theorem counts_append (a b : List Tr) : counts (a ++ b) = counts a + counts b := by
  induction a with
  | nil => simp [counts]
  | cons t r ih => simp [counts, ih]; omega
theorem depths_append (a b : List Tr) : depths (a ++ b) = max (depths a) (depths b) := by
  induction a with
  | nil => simp [depths]
  | cons t r ih => simp [depths, ih]
theorem fulls_append (n : Int) (a b : List Tr) : fulls n (a ++ b) = fulls n a + fulls n b := by
  induction a with
  | nil => simp [fulls]
  | cons t r ih => simp [fulls, ih]; omega
theorem counts_take_succ (cs : List Tr) (j : Nat) (h : j < cs.length) : counts (cs.take (j + 1)) = counts (cs.take j) + cs[j].count := by
  rw [List.take_succ_eq_append_getElem h, counts_append]; simp [counts]
theorem depths_take_succ (cs : List Tr) (j : Nat) (h : j < cs.length) : depths (cs.take (j + 1)) = max (depths (cs.take j)) cs[j].depth := by
  rw [List.take_succ_eq_append_getElem h, depths_append]; simp [depths]
theorem fulls_take_succ (n : Int) (cs : List Tr) (j : Nat) (h : j < cs.length) : fulls n (cs.take (j + 1)) = fulls n (cs.take j) + cs[j].full n := by
  rw [List.take_succ_eq_append_getElem h, fulls_append]; simp [fulls]

mutual
theorem count_le : ∀ t : Tr, t.count ≤ t.weight + 1
  | .mk k c => by have := counts_le c; simp only [count, weight]; omega
theorem counts_le : ∀ c : List Tr, counts c ≤ weights c
  | [] => by simp [counts]
  | t :: r => by have := count_le t; have := counts_le r; simp only [counts, weights]; omega
end
mutual
theorem depth_le : ∀ t : Tr, t.depth ≤ t.count
  | .mk k c => by have := depths_le c; simp only [count, depth]; omega
theorem depths_le : ∀ c : List Tr, depths c ≤ counts c
  | [] => by simp [depths]
  | t :: r => by have := depth_le t; have := depths_le r; simp only [counts, depths]; omega
end
mutual
theorem full_le (n : Int) : ∀ t : Tr, t.full n ≤ t.count
  | .mk k c => by have := fulls_le n c; simp only [count, full]; split <;> omega
theorem fulls_le (n : Int) : ∀ c : List Tr, fulls n c ≤ counts c
  | [] => by simp [fulls]
  | t :: r => by have := full_le n t; have := fulls_le n r; simp only [counts, fulls]; omega
end
theorem fulls_take_le (n : Int) (cs : List Tr) (j : Nat) : fulls n (cs.take j) ≤ fulls n cs := by
  conv => rhs; rw [← List.take_append_drop j cs, fulls_append]
  omega
theorem counts_take_le (cs : List Tr) (j : Nat) : counts (cs.take j) ≤ counts cs := by
  conv => rhs; rw [← List.take_append_drop j cs, counts_append]
  omega
end Tr

/-- A slice of ints in memory below block B. -/
def IntsIn (w : World) (B : Nat) (v : Value) (ks : List Int) : Prop :=
  ∃ (a : Option Addr) (cap : Nat), v = .slice a ks.length cap ∧ ks.length ≤ cap ∧ cap ≤ maxLen ∧ (a = none → cap = 0) ∧
    (ks = [] ∨ ∃ b o, a = some ⟨b, o, none⟩ ∧ b < B ∧ ∀ i, i < ks.length → w.cell? ⟨b, o + i, none⟩ = some (.int .i64 (ks.getD i 0)))

/-- A slice of trees in memory below block B: two cells a tree. -/
def KidsIn (w : World) (B : Nat) (a : Option Addr) (n : Nat) (kvs cvs : Nat → Value) : Prop :=
  n = 0 ∨ ∃ b o, a = some ⟨b, o, none⟩ ∧ b < B ∧ ∀ i, i < n →
    w.cell? ⟨b, o + i * 2, none⟩ = some (kvs i) ∧ w.cell? ⟨b, o + i * 2 + 1, none⟩ = some (cvs i)

/-- A tree in memory below block B: its two slices. -/
inductive TreeIn (w : World) (B : Nat) : Value → Value → Tr → Prop where
  | mk (ks : List Int) (cs : List Tr) (kv : Value) (a : Option Addr) (cap : Nat) (kvs cvs : Nat → Value)
      (hk : IntsIn w B kv ks) (hlen : cs.length ≤ cap) (hcap : cap ≤ maxLen) (hat : KidsIn w B a cs.length kvs cvs)
      (hkids : ∀ i (h : i < cs.length), TreeIn w B (kvs i) (cvs i) cs[i]) :
      TreeIn w B kv (.slice a cs.length cap) (.mk ks cs)

theorem below_cell {B : Nat} {w w' : World} (h : Below B w w') {b o : Nat} (hb : b < B) : w'.cell? ⟨b, o, none⟩ = w.cell? ⟨b, o, none⟩ := h.cell (p := ⟨b, o, none⟩) hb

theorem bcell {C : Nat} {W w1 : World} (hb : Below C W w1) : (∀ b o, b < C → w1.cell? ⟨b, o, none⟩ = W.cell? ⟨b, o, none⟩) ∧ (∀ b o, b < C → w1.frozen? ⟨b, o, none⟩ = W.frozen? ⟨b, o, none⟩) :=
  ⟨fun b o h => hb.cell (p := ⟨b, o, none⟩) h, fun b o h => hb.frozen (p := ⟨b, o, none⟩) h⟩

/-- A box of one or two cells, its cells told. -/
theorem box1 {w : World} {b : Nat} {x : Value} {t : TypeId} (h : w.heap[b]? = some (.cells #[x] t (0, 0))) : w.cell? ⟨b, 0, none⟩ = some x ∧ w.frozen? ⟨b, 0, none⟩ = false := by
  constructor <;> simp [World.cell?, World.frozen?, h]
theorem box2 {w : World} {b : Nat} {x y : Value} {t : TypeId} (h : w.heap[b]? = some (.cells #[x, y] t (0, 0))) :
    w.cell? ⟨b, 0, none⟩ = some x ∧ w.cell? ⟨b, 1, none⟩ = some y ∧ w.frozen? ⟨b, 0, none⟩ = false ∧ w.frozen? ⟨b, 1, none⟩ = false := by
  refine ⟨?_, ?_, ?_, ?_⟩ <;> simp [World.cell?, World.frozen?, h]
theorem new_blk (w : World) (o : Obj) : (w.alloc o).heap[w.heap.size]? = some o := by
  show (w.heap.push o)[w.heap.size]? = _
  simp
theorem old_blk (w : World) (o : Obj) (k : Nat) (h : k < w.heap.size) : (w.alloc o).heap[k]? = w.heap[k]? := Below.heap_alloc w o k h
theorem set_blk {w : World} {b o : Nat} {c : Array Value} {t : TypeId} (v : Value) (h : w.heap[b]? = some (.cells c t (0, 0))) :
    (w.setCell ⟨b, o, none⟩ v).heap[b]? = some (.cells (c.setIfInBounds o v) t (0, 0)) := by
  simp [World.setCell, Array.getElem?_modify, h]
theorem set_other (w : World) (b o : Nat) (v : Value) (k : Nat) (h : k ≠ b) : (w.setCell ⟨b, o, none⟩ v).heap[k]? = w.heap[k]? := Below.heap_setCell w ⟨b, o, none⟩ v k h

theorem IntsIn.later {w w' : World} {B C : Nat} {v : Value} {ks : List Int} (h : IntsIn w B v ks) (hb : Below C w w') (hC : B ≤ C) : IntsIn w' B v ks := by
  obtain ⟨a, cap, hv, h1, h2, hnl, h3⟩ := h
  refine ⟨a, cap, hv, h1, h2, hnl, ?_⟩
  rcases h3 with h3 | ⟨b, o, h3, h4, h5⟩
  · exact .inl h3
  · exact .inr ⟨b, o, h3, h4, fun i hi => by rw [below_cell hb (by omega)]; exact h5 i hi⟩

theorem KidsIn.later {w w' : World} {B C : Nat} {a : Option Addr} {n : Nat} {kvs cvs : Nat → Value} (h : KidsIn w B a n kvs cvs) (hb : Below C w w') (hC : B ≤ C) : KidsIn w' B a n kvs cvs := by
  rcases h with h3 | ⟨b, o, h3, h4, h5⟩
  · exact .inl h3
  · exact .inr ⟨b, o, h3, h4, fun i hi => ⟨by rw [below_cell hb (by omega)]; exact (h5 i hi).1, by rw [below_cell hb (by omega)]; exact (h5 i hi).2⟩⟩

theorem TreeIn.later {w w' : World} {B C : Nat} {kv cv : Value} {t : Tr} (h : TreeIn w B kv cv t) (hb : Below C w w') (hC : B ≤ C) : TreeIn w' B kv cv t := by
  induction h with
  | mk ks cs kv a cap kvs cvs hk hlen hcap hat hkids ih => exact TreeIn.mk ks cs kv a cap kvs cvs (hk.later hb hC) hlen hcap (hat.later hb hC) ih

theorem IntsIn.wider {w : World} {B C : Nat} {v : Value} {ks : List Int} (h : IntsIn w B v ks) (hC : B ≤ C) : IntsIn w C v ks := by
  obtain ⟨a, cap, hv, h1, h2, hnl, h3⟩ := h
  refine ⟨a, cap, hv, h1, h2, hnl, ?_⟩
  rcases h3 with h3 | ⟨b, o, h3, h4, h5⟩
  · exact .inl h3
  · exact .inr ⟨b, o, h3, by omega, h5⟩

theorem KidsIn.wider {w : World} {B C : Nat} {a : Option Addr} {n : Nat} {kvs cvs : Nat → Value} (h : KidsIn w B a n kvs cvs) (hC : B ≤ C) : KidsIn w C a n kvs cvs := by
  rcases h with h3 | ⟨b, o, h3, h4, h5⟩
  · exact .inl h3
  · exact .inr ⟨b, o, h3, by omega, h5⟩

theorem TreeIn.wider {w : World} {B C : Nat} {kv cv : Value} {t : Tr} (h : TreeIn w B kv cv t) (hC : B ≤ C) : TreeIn w C kv cv t := by
  induction h with
  | mk ks cs kv a cap kvs cvs hk hlen hcap hat hkids ih => exact TreeIn.mk ks cs kv a cap kvs cvs (hk.wider hC) hlen hcap (hat.wider hC) ih

theorem TreeIn.slices {w : World} {B : Nat} {kv cv : Value} {t : Tr} (h : TreeIn w B kv cv t) : ∃ a n c a' n' c', kv = .slice a n c ∧ cv = .slice a' n' c' := by
  cases h with
  | mk ks cs kv a cap kvs cvs hk hlen hcap hat hkids =>
    obtain ⟨ka, kcap, rfl, _⟩ := hk
    exact ⟨_, _, _, _, _, _, rfl, rfl⟩

/-- The one rule on heights: a property that goes from all kids to the tree holds of all trees that lie in memory. -/
theorem TreeIn.parts {w : World} {B : Nat} {kv cv : Value} {ks : List Int} {cs : List Tr} (h : TreeIn w B kv cv (.mk ks cs)) :
    ∃ (a : Option Addr) (cap : Nat) (kvs cvs : Nat → Value), cv = .slice a cs.length cap ∧ IntsIn w B kv ks ∧ cs.length ≤ cap ∧ cap ≤ maxLen ∧ KidsIn w B a cs.length kvs cvs ∧
      ∀ i (h : i < cs.length), TreeIn w B (kvs i) (cvs i) cs[i] := by
  cases h with
  | mk _ _ _ a cap kvs cvs hk hlen hcap hat hkids => exact ⟨a, cap, kvs, cvs, rfl, hk, hlen, hcap, hat, hkids⟩

theorem ret_int {k : IntKind} {a b : Int} (h : a = b) : Ending.returned (.int k a) = .returned (.int k b) := by rw [h]
theorem ret_bool {a b : Bool} (h : a = b) : Ending.returned (.bool a) = .returned (.bool b) := by rw [h]

end Go.Proofs.Ytodcapgmhginoaa
