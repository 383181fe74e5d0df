/- Deleting: the key that stands in for one is the key ahead, and lies in a leaf: plain data. -/
import Derived.Test.YtananonjomfpkaaQhS12
import Derived.Test.YtananonjomfpkaaQh6
/- The contract of the program's PathOf. -/
namespace Go.Proofs.Ytananonjomfpkaa
open Go.RowKit
end Go.Proofs.Ytananonjomfpkaa
/- The model's HasKey and VisitsOf, and the program's, over PathOf. -/
namespace Go.Proofs.Ytananonjomfpkaa
open Go.RowKit
def Tr.visitsB (key : Int) (t : Tr) : Int := if t.someB then ((t.pathB key).1.length : Int) + 1 else -1
-- END
end Go.Proofs.Ytananonjomfpkaa
/- Deleting: the key that stands in for one is the key ahead, and lies in a leaf: plain data. -/
namespace Go.Proofs.Ytananonjomfpkaa
open Go.RowKit
namespace Tr
end Tr
end Go.Proofs.Ytananonjomfpkaa
