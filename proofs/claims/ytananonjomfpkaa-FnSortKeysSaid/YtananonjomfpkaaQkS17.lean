/- The contract of withGap, at ints and at pointers to nodes. -/
import Derived.Test.YtananonjomfpkaaQkS6
import Derived.Test.YtananonjomfpkaaQk11
import Derived.Deep.OwnRows
import Derived.Deep.Cut
namespace Go.Proofs.Ytananonjomfpkaa
open Go.RowKit
end Go.Proofs.Ytananonjomfpkaa
