/- The model's HasKey and VisitsOf, and the program's, over PathOf. -/
import Derived.Test.YtananonjomfpkaaQkS15
/- The contract of the program's PathOf. -/
namespace Go.Proofs.Ytananonjomfpkaa
open Go.RowKit
end Go.Proofs.Ytananonjomfpkaa
/- The model's HasKey and VisitsOf, and the program's, over PathOf. -/
namespace Go.Proofs.Ytananonjomfpkaa
open Go.RowKit
def Tr.visitsB (key : Int) (t : Tr) : Int := if t.someB then ((t.pathB key).1.length : Int) + 1 else -1
-- END
end Go.Proofs.Ytananonjomfpkaa
