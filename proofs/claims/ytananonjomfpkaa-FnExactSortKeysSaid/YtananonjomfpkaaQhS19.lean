/- The contract of joinKids. -/
import Derived.Test.YtananonjomfpkaaQh13
import Derived.Test.YtananonjomfpkaaQhS18
namespace Go.Proofs.Ytananonjomfpkaa
open Go.RowKit
end Go.Proofs.Ytananonjomfpkaa
