/- The contracts of the model's functions on trees: CountNodes, l1Depth, FullNodes. -/
import Derived.Test.YtdkldcgiiiejfaaDoorProg
import Derived.Test.YtdkldcgiiiejfaaDoorBase
namespace Go.Proofs.YtdkldcgiiiejfaaDoor
open Go.RowKit

end Go.Proofs.YtdkldcgiiiejfaaDoor
