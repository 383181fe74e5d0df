/- A tree is valid just if evenDepth tells a depth and the keys ascend: plain data. -/
import Derived.Test.YtananonjomfpkaaQh3
namespace Go.Proofs.Ytananonjomfpkaa
open Go.RowKit
end Go.Proofs.Ytananonjomfpkaa
