/- Cells that lie apart: rows that have grown, kids that come and go. -/
import Derived.Deep.RegionLawGrows
import Derived.Test.YtananonjomfpkaaQkS19
/- Appending one element to a slice whose cells are its own, at a step of a region that draws its order. -/
namespace Go.Proofs.Ytananonjomfpkaa
open Go.RowKit
end Go.Proofs.Ytananonjomfpkaa
/- Cells that lie apart: rows that have grown, kids that come and go. -/
namespace Go.Proofs.Ytananonjomfpkaa
open Go.RowKit
end Go.Proofs.Ytananonjomfpkaa
