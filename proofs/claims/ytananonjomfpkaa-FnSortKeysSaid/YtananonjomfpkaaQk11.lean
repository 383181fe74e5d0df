/- Appending one element to a slice whose cells are its own; copying within it. -/
import Derived.Test.YtananonjomfpkaaQk10
import Derived.ArgAppend
import Derived.Laws.IdiomCopy
import Derived.Deep.RegionLaw
/- Nodes of the program, each with the cells that are its own. -/
namespace Go.Proofs.Ytananonjomfpkaa
open Go.RowKit
abbrev Cells := Nat → Nat → Prop
def boxOf (b : Nat) : Cells := fun x _ => x = b
def Apart (F G : Cells) : Prop := ∀ x o, F x o → ¬ G x o
structure KeptF (F : Cells) (w w' : World) : Prop where
 os : w'.os = w.os
 tape : w'.tape = w.tape
 output : w'.output = w.output
 size : w.heap.size ≤ w'.heap.size
 block : ∀ k, k < w.heap.size → (∀ o, ¬ F k o) → w'.heap[k]? = w.heap[k]?
 cell : ∀ b o, b < w.heap.size → ¬ F b o → w'.cell? ⟨b, o, none⟩ = w.cell? ⟨b, o, none⟩
 frozen : ∀ b o, b < w.heap.size → w'.frozen? ⟨b, o, none⟩ = w.frozen? ⟨b, o, none⟩
 there : ∀ b o, (w.cell? ⟨b, o, none⟩).isSome = true → (w'.cell? ⟨b, o, none⟩).isSome = true
def RowF (w : World) (F : Cells) (v : Value) (xs : List Value) : Prop :=
 (∀ x q, F x q → x < w.heap.size) ∧ ∃ (a : Option Addr) (cap : Nat), v = .slice a xs.length cap ∧ xs.length ≤ cap ∧ cap ≤ maxLen ∧ (a = none → cap = 0) ∧
   (cap = 0 ∨ ∃ b o, a = some ⟨b, o, none⟩ ∧ (∀ i, i < cap → F b (o + i) ∧ (w.cell? ⟨b, o + i, none⟩).isSome = true ∧ w.frozen? ⟨b, o + i, none⟩ = false) ∧
     ∀ i (h : i < xs.length), w.cell? ⟨b, o + i, none⟩ = some xs[i])
structure KidD where
 p : Nat
 F : Cells
 t : Tr
def KidD.ptr (x : KidD) : Value := .pointer (some ⟨x.p, 0, none⟩)
inductive Nd (w : World) : Cells → Nat → Tr → Prop where
 | mk (ks : List Int) (kids : List KidD) (F Fk Fc : Cells) (b : Nat) (kv cv : Value)
     (hbox : w.heap[b]? = some (.cells #[kv, cv] 99 (0, 0)))
     (hk : RowF w Fk kv (ks.map (Value.int .i64))) (hc : RowF w Fc cv (kids.map KidD.ptr))
     (hkids : ∀ x, x ∈ kids → Nd w x.F x.p x.t)
     (sb : ∀ o, F b o) (sk : ∀ x o, Fk x o → F x o) (sc : ∀ x o, Fc x o → F x o) (ss : ∀ y, y ∈ kids → ∀ x o, y.F x o → F x o)
     (ap : (boxOf b :: Fk :: Fc :: kids.map KidD.F).Pairwise Apart) (lt : ∀ x o, F x o → x < w.heap.size) : Nd w F b (.mk ks (kids.map KidD.t))
end Go.Proofs.Ytananonjomfpkaa
/- Appending one element to a slice whose cells are its own; copying within it. -/
namespace Go.Proofs.Ytananonjomfpkaa
open Go.RowKit
end Go.Proofs.Ytananonjomfpkaa
