/- The contract of hasAt: whether a key is the one at a place of a node. -/
import Derived.Sort.QuietIn
import Derived.TacticsInMore
import Derived.RangeFuncCalls
import Derived.Test.YtananonjomfpkaaQk4
import Derived.StillTailTactics
/- Regions that draw their order and only read, inside a round of a loop over an iterator. -/
namespace Go.Proofs.Ytananonjomfpkaa
open Go.RowKit
def undeferred (o : Oper) : Bool := match o.op with | .defer _ => false | _ => true
variable {F : Fence} {n : Nat} {P : Program} {ops : Array Oper} {Q : Exit → Act → World → Prop} {md : Region.Mode}
end Go.Proofs.Ytananonjomfpkaa
/- Finding: what the planting of a tree and the making of the iterator over the way down leave. -/
namespace Go.Proofs.Ytananonjomfpkaa
open Go.RowKit
def DownAt (B gf : Nat) (n : Int) (t : Tr) (s : Value) (W : World) : Prop :=
 ∃ lo hi b q bn bf : Nat, s = .func (.func 104) #[] #[.pointer (some ⟨bn, 0, none⟩), .pointer (some ⟨bf, 0, none⟩)] ∧ NodeIn W lo hi b t ∧ B ≤ lo ∧ hi ≤ W.heap.size ∧ B ≤ q ∧ B ≤ bn ∧ B ≤ bf ∧
   W.heap[bn]? = some (.cells #[.pointer (some ⟨b, 0, none⟩)] 70 (0, 0)) ∧
   W.heap[bf]? = some (.cells #[.func (.func gf) #[] #[.pointer (some ⟨q, 0, none⟩)]] 81 (0, 0)) ∧
   W.heap[q]? = some (.cells #[.int .i64 n] 3 (0, 0))
end Go.Proofs.Ytananonjomfpkaa
/- The contract of hasAt: whether a key is the one at a place of a node. -/
namespace Go.Proofs.Ytananonjomfpkaa
open Go.RowKit
end Go.Proofs.Ytananonjomfpkaa
