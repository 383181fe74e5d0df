/- The contract of pathTo: the way to a key from a node. -/
import Derived.Test.YtananonjomfpkaaQh8
import Derived.Test.YtananonjomfpkaaQh10
import Derived.Sort.CutIn
namespace Go.Proofs.Ytananonjomfpkaa
open Go.RowKit
attribute [local go_sem] Oper.semAt_some
attribute [local go_sem] wide_fn
end Go.Proofs.Ytananonjomfpkaa
