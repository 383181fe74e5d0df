/- The iterator that recurs: all keys in order. -/
import Derived.Test.YtananonjomfpkaaQkS4
namespace Go.Proofs.Ytananonjomfpkaa
open Go.RowKit
attribute [local go_sem] Oper.semAt_some
def flat (kss : List (List Int)) : List Part → List Int
 | [] => []
 | .kid i _ :: r => kss.getD i [] ++ flat kss r
 | .key k :: r => k :: flat kss r
def intEnc (k : Int) : Array Value := #[.int .i64 k]
def Under (X : (Nat → Prop) → World → Prop) (Pv₀ : Nat → Prop) (B3 B4 : Nat) (o3 o4 : Obj) (Pv : Nat → Prop) (W : World) : Prop :=
 ∃ Pv2, X Pv2 W ∧ (∀ k, Pv k → k < W.heap.size → Pv2 k) ∧ (∀ k, Pv₀ k → Pv2 k) ∧ Pv2 B3 ∧ Pv2 B4 ∧ ¬ Pv B3 ∧ ¬ Pv B4 ∧ (∀ k, Pv2 k → k < W.heap.size) ∧ W.heap[B3]? = some o3 ∧ W.heap[B4]? = some o4
end Go.Proofs.Ytananonjomfpkaa
