/- The model's l2Place and PathOf. -/
import Derived.Test.YtananonjomfpkaaQh4
import Derived.Test.YtananonjomfpkaaQhS8
import Derived.Deep.LoopGhost
namespace Go.Proofs.Ytananonjomfpkaa
open Go.RowKit
end Go.Proofs.Ytananonjomfpkaa
