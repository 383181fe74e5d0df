/- The contract of removeBelow at a node with kids, given what it does to the kid. -/
import Derived.Test.YtananonjomfpkaaQk23
namespace Go.Proofs.Ytananonjomfpkaa
open Go.RowKit
end Go.Proofs.Ytananonjomfpkaa
