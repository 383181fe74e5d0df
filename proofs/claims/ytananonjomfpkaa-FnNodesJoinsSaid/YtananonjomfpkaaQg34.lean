/- The contract of the method keyAt. -/
import Derived.Test.YtananonjomfpkaaQg33
/- The contract of count: how many keys lie in each node and below it, kept in a map. -/
namespace Go.Proofs.Ytananonjomfpkaa
open Go.RowKit
def kidAt (w : World) (b i p : Nat) : Prop :=
 ∃ (kv : Value) (qb qo n cap : Nat), w.heap[b]? = some (.cells #[kv, .slice (some ⟨qb, qo, none⟩) n cap] 99 (0, 0)) ∧ w.cell? ⟨qb, qo + i, none⟩ = some (.pointer (some ⟨p, 0, none⟩))
inductive Counted (w : World) (K : Nat → Option Nat) : Nat → Tr → Prop where
 | mk (b : Nat) (ks : List Int) (cs : List Tr) (h : K b = some (Tr.mk ks cs).keys.length) (kids : ∀ i (hi : i < cs.length) (p : Nat), kidAt w b i p → Counted w K p cs[i]) : Counted w K b (.mk ks cs)
end Go.Proofs.Ytananonjomfpkaa
/- A node's block holds cells. -/
namespace Go.Proofs.Ytananonjomfpkaa
open Go.RowKit
end Go.Proofs.Ytananonjomfpkaa
/- The contract of the method keyAt. -/
namespace Go.Proofs.Ytananonjomfpkaa
open Go.RowKit
attribute [local go_sem] Oper.semAt_some
end Go.Proofs.Ytananonjomfpkaa
