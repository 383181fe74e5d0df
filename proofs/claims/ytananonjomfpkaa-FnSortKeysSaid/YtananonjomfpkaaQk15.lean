/- Appends of one int onto a slice of the call's own, inside a fence. -/
import Derived.Test.YtananonjomfpkaaQk14
import Derived.Maps.OwnIn
/- The contract of the program's TreeValid. -/
namespace Go.Proofs.Ytananonjomfpkaa
open Go.RowKit
end Go.Proofs.Ytananonjomfpkaa
/- Whether a tree is valid for some width: the program. -/
namespace Go.Proofs.Ytananonjomfpkaa
open Go.RowKit
end Go.Proofs.Ytananonjomfpkaa
/- Appends of one int onto a slice of the call's own, inside a fence. -/
namespace Go.Proofs.Ytananonjomfpkaa
open Go.RowKit
end Go.Proofs.Ytananonjomfpkaa
