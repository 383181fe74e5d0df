/- The model's l2Place and PathOf. -/
import Derived.Test.YtananonjomfpkaaQk7
import Derived.Test.YtananonjomfpkaaQkS6
import Derived.Deep.LoopGhost
namespace Go.Proofs.Ytananonjomfpkaa
open Go.RowKit
end Go.Proofs.Ytananonjomfpkaa
