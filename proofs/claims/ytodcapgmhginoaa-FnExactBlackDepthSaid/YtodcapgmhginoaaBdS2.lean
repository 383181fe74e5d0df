/- Coloured trees as plain data, and how they lie in memory. -/
import Derived.Test.YtodcapgmhginoaaBdS0
import Derived.WalkKit
import Derived.Lib.Hide
namespace Go.Proofs.Ytodcapgmhginoaa
open Go.RowKit

/-- A coloured tree as plain data: its key, its colour, its kids. -/
inductive Bt where
  | mk (key : Int) (red : Bool) (cs : List Bt)

namespace Bt
def key : Bt → Int | .mk k _ _ => k
def red : Bt → Bool | .mk _ r _ => r
def cs : Bt → List Bt | .mk _ _ c => c
mutual
/-- How many lie below. -/
def weight : Bt → Nat
  | .mk _ _ c => weights c
def weights : List Bt → Nat
  | [] => 0
  | t :: r => 1 + weight t + weights r
end
theorem weights_append (a b : List Bt) : weights (a ++ b) = weights a + weights b := by
  induction a with
  | nil => simp [weights]
  | cons t r ih => simp [weights, ih]; omega
theorem weights_take_succ (cs : List Bt) (j : Nat) (h : j < cs.length) : weights (cs.take (j + 1)) = weights (cs.take j) + 1 + cs[j].weight := by
  rw [List.take_succ_eq_append_getElem h, weights_append]; simp [weights]; omega
theorem length_le_weights (cs : List Bt) : cs.length ≤ weights cs := by
  induction cs with
  | nil => simp
  | cons t r ih => simp [weights]; omega
theorem weights_take_ge (cs : List Bt) (j : Nat) : weights (cs.take j) + (cs.length - j) ≤ weights cs := by
  conv => rhs; rw [← List.take_append_drop j cs, weights_append]
  have := length_le_weights (cs.drop j)
  simp at this; omega
theorem weight_get_le (cs : List Bt) (j : Nat) (h : j < cs.length) : cs[j].weight + cs.length ≤ weights cs := by
  have h1 := weights_take_ge cs (j + 1)
  have h2 := weights_take_succ cs j h
  have h3 := length_le_weights (cs.take j)
  simp at h3; omega
theorem weight_eq (t : Bt) : t.weight = weights t.cs := by cases t; rfl
end Bt

/-- A slice of coloured trees in memory below block B: three cells a tree. -/
def BKidsIn (w : World) (B : Nat) (a : Option Addr) (cs : List Bt) (cvs : Nat → Value) : Prop :=
  cs.length = 0 ∨ ∃ b o, a = some ⟨b, o, none⟩ ∧ b < B ∧ ∀ i (h : i < cs.length),
    w.cell? ⟨b, o + i * 3, none⟩ = some (.int .i64 cs[i].key) ∧ w.cell? ⟨b, o + i * 3 + 1, none⟩ = some (.bool cs[i].red) ∧ w.cell? ⟨b, o + i * 3 + 2, none⟩ = some (cvs i)

/-- A coloured tree in memory below block B: the slice of its kids. -/
inductive BinIn (w : World) (B : Nat) : Value → Bt → Prop where
  | mk (key : Int) (red : Bool) (cs : List Bt) (a : Option Addr) (cap : Nat) (cvs : Nat → Value)
      (hlen : cs.length ≤ cap) (hcap : cap ≤ maxLen) (hat : BKidsIn w B a cs cvs)
      (hkids : ∀ i (h : i < cs.length), BinIn w B (cvs i) cs[i]) :
      BinIn w B (.slice a cs.length cap) (.mk key red cs)

theorem BKidsIn.later {w w' : World} {B C : Nat} {a : Option Addr} {cs : List Bt} {cvs : Nat → Value} (h : BKidsIn w B a cs cvs) (hb : Below C w w') (hC : B ≤ C) : BKidsIn w' B a cs cvs := by
  rcases h with h3 | ⟨b, o, h3, h4, h5⟩
  · exact .inl h3
  · exact .inr ⟨b, o, h3, h4, fun i hi => ⟨by rw [below_cell hb (by omega)]; exact (h5 i hi).1, by rw [below_cell hb (by omega)]; exact (h5 i hi).2.1, by rw [below_cell hb (by omega)]; exact (h5 i hi).2.2⟩⟩
theorem BinIn.later {w w' : World} {B C : Nat} {cv : Value} {t : Bt} (h : BinIn w B cv t) (hb : Below C w w') (hC : B ≤ C) : BinIn w' B cv t := by
  induction h with
  | mk key red cs a cap cvs hlen hcap hat hkids ih => exact .mk key red cs a cap cvs hlen hcap (hat.later hb hC) ih
theorem BKidsIn.wider {w : World} {B C : Nat} {a : Option Addr} {cs : List Bt} {cvs : Nat → Value} (h : BKidsIn w B a cs cvs) (hC : B ≤ C) : BKidsIn w C a cs cvs := by
  rcases h with h3 | ⟨b, o, h3, h4, h5⟩
  · exact .inl h3
  · exact .inr ⟨b, o, h3, by omega, h5⟩
theorem BinIn.wider {w : World} {B C : Nat} {cv : Value} {t : Bt} (h : BinIn w B cv t) (hC : B ≤ C) : BinIn w C cv t := by
  induction h with
  | mk key red cs a cap cvs hlen hcap hat hkids ih => exact .mk key red cs a cap cvs hlen hcap (hat.wider hC) ih
theorem BinIn.parts {w : World} {B : Nat} {cv : Value} {t : Bt} (h : BinIn w B cv t) :
    ∃ (a : Option Addr) (cap : Nat) (cvs : Nat → Value), cv = .slice a t.cs.length cap ∧ t.cs.length ≤ cap ∧ cap ≤ maxLen ∧ BKidsIn w B a t.cs cvs ∧ ∀ i (h : i < t.cs.length), BinIn w B (cvs i) t.cs[i] := by
  cases h with
  | mk key red cs a cap cvs hlen hcap hat hkids => exact ⟨a, cap, cvs, rfl, hlen, hcap, hat, hkids⟩

theorem box3 {w : World} {b : Nat} {x y z : Value} {t : TypeId} (h : w.heap[b]? = some (.cells #[x, y, z] t (0, 0))) :
    w.cell? ⟨b, 0, none⟩ = some x ∧ w.cell? ⟨b, 1, none⟩ = some y ∧ w.cell? ⟨b, 2, none⟩ = some z ∧ w.frozen? ⟨b, 0, none⟩ = false ∧ w.frozen? ⟨b, 1, none⟩ = false ∧ w.frozen? ⟨b, 2, none⟩ = false := by
  refine ⟨?_, ?_, ?_, ?_, ?_, ?_⟩ <;> simp [World.cell?, World.frozen?, h]

namespace Bt
mutual
/-- How many nodes lie within each other: none in nothing. -/
def depth : Bt → Nat
  | .mk _ _ c => if c.length = 0 then 0 else depths c + 1
def depths : List Bt → Nat
  | [] => 0
  | t :: r => max (depth t) (depths r)
end
theorem depths_append (a b : List Bt) : depths (a ++ b) = max (depths a) (depths b) := by
  induction a with
  | nil => simp [depths]
  | cons t r ih => simp [depths, ih]
theorem depths_take_succ (cs : List Bt) (j : Nat) (h : j < cs.length) : depths (cs.take (j + 1)) = max (depths (cs.take j)) cs[j].depth := by
  rw [List.take_succ_eq_append_getElem h, depths_append]; simp [depths]
mutual
theorem depth_le : ∀ t : Bt, t.depth ≤ t.weight
  | .mk k r c => by
    have := depths_le c
    simp only [depth, weight]
    split
    · omega
    · rename_i h
      cases c with
      | nil => simp at h
      | cons t q => simp only [weights] at this ⊢; simp only [depths] at this ⊢; have h1 := depth_le t; have h2 := depths_le q; omega
theorem depths_le : ∀ c : List Bt, depths c ≤ weights c
  | [] => by simp [depths]
  | t :: r => by have := depth_le t; have := depths_le r; simp only [depths, weights]; omega
end
end Bt
end Go.Proofs.Ytodcapgmhginoaa
