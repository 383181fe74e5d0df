/- The contract of pathTo: the way to a key from a node. -/
import Derived.Test.YtananonjomfpkaaQk15
import Derived.Test.YtananonjomfpkaaQkS14
import Derived.Test.YtananonjomfpkaaQk16
import Derived.Sort.CutIn
namespace Go.Proofs.Ytananonjomfpkaa
open Go.RowKit
attribute [local go_sem] Oper.semAt_some
attribute [local go_sem] wide_fn
end Go.Proofs.Ytananonjomfpkaa
