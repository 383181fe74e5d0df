/- The contract of joinKids. -/
import Derived.Test.YtananonjomfpkaaQk21
import Derived.Test.YtananonjomfpkaaQkS18
namespace Go.Proofs.Ytananonjomfpkaa
open Go.RowKit
end Go.Proofs.Ytananonjomfpkaa
