/- Finding: wayDown, and the iterator that it returns. -/
import Derived.Test.YtananonjomfpkaaQk10
import Derived.Sort.LoopGhostIn
namespace Go.Proofs.Ytananonjomfpkaa
open Go.RowKit
attribute [local go_sem] Oper.semAt_some
theorem wide_fn (f : Nat) : Fence.wide.fn f = True := rfl
attribute [local go_sem] wide_fn
end Go.Proofs.Ytananonjomfpkaa
