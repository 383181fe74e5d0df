/- A walker goes down to a leaf: sink. -/
import Derived.Test.YticfkfjijnfcbaaDoorCvS19
import Derived.Sort.CutIn
namespace Go.Proofs.YticfkfjijnfcbaaDoor
open Go.RowKit
attribute [local go_sem] Oper.semAt_some
attribute [local go_sem] wide_fn
def Ahead (gf : Nat) (n c : Int) : Prop := (gf = 109 ∧ c = n) ∨ (gf = 121 ∧ c = n + 1)
end Go.Proofs.YticfkfjijnfcbaaDoor
