/- The contract of melt. -/
import Derived.Test.YtananonjomfpkaaQkS17
namespace Go.Proofs.Ytananonjomfpkaa
open Go.RowKit
end Go.Proofs.Ytananonjomfpkaa
