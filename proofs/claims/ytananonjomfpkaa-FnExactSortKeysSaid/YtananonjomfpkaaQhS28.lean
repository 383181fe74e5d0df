/- Trees in rows of a call's own, no two of which share a block. -/
import Derived.Test.YtananonjomfpkaaQh22
import Derived.Test.YtananonjomfpkaaQh10
namespace Go.Proofs.Ytananonjomfpkaa
open Go.RowKit
abbrev Blocks := Nat → Prop
def ownB (v : Value) : Blocks := fun b => v.ownBlock = some b
def ApartB (P Q : Blocks) : Prop := ∀ b, P b → ¬ Q b
structure KidO where
 kv : Value
 cv : Value
 P : Blocks
 t : Tr
def KidO.pair (x : KidO) : Value × Value := (x.kv, x.cv)
inductive TreeO (w : World) (lo : Nat) : Blocks → Value → Value → Tr → Prop where
 | mk (ks : List Int) (kids : List KidO) (P : Blocks) (kv cv : Value)
     (hk : IntsOwn w lo kv ks) (hc : TreesOwn w lo cv (kids.map KidO.pair))
     (hkids : ∀ x, x ∈ kids → TreeO w lo x.P x.kv x.cv x.t)
     (sk : ∀ b, ownB kv b → P b) (sc : ∀ b, ownB cv b → P b) (ss : ∀ x, x ∈ kids → ∀ b, x.P b → P b)
     (ap : (ownB kv :: ownB cv :: kids.map KidO.P).Pairwise ApartB) (lt : ∀ b, P b → lo ≤ b ∧ b < w.heap.size) : TreeO w lo P kv cv (.mk ks (kids.map KidO.t))
namespace Tr
mutual
def nkeys : Tr → Nat
 | .mk k c => k.length + nkeysL c
def nkeysL : List Tr → Nat
 | [] => 0
 | t :: r => nkeys t + nkeysL r
end
mutual
def remark (k : Int) : Tr → Tr
 | .mk ks cs => .mk (marks k ks.length) (remarks (k + ks.length) cs)
def remarks (k : Int) : List Tr → List Tr
 | [] => []
 | t :: r => remark k t :: remarks (k + nkeys t) r
end
mutual
theorem nkeys_le : ∀ t : Tr, nkeys t ≤ t.weight
 | .mk k c => by have := nkeysL_le c; simp only [nkeys, weight]; omega
theorem nkeysL_le : ∀ c : List Tr, nkeysL c ≤ weights c
 | [] => by simp [nkeysL]
 | t :: r => by have := nkeys_le t; have := nkeysL_le r; simp only [nkeysL, weights]; omega
end
def upTo (k : Int) (j : Nat) (cs : List Tr) : List Tr := remarks k (cs.take j) ++ cs.drop j
mutual
theorem remark_weight (k : Int) : ∀ t : Tr, (remark k t).weight = t.weight
 | .mk ks cs => by simp only [remark, weight, marks_length, remarks_weights]
theorem remarks_weights (k : Int) : ∀ cs : List Tr, weights (remarks k cs) = weights cs
 | [] => rfl
 | t :: r => by simp only [remarks, weights, remark_weight, remarks_weights]
end
end Tr
end Go.Proofs.Ytananonjomfpkaa
