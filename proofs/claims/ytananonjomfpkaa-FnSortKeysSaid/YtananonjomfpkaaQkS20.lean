/- The contract of borrowFromBehind. -/
import Derived.Test.YtananonjomfpkaaQk22
namespace Go.Proofs.Ytananonjomfpkaa
open Go.RowKit
def Tr.oneMore (a b : List Tr) : List Tr := if b.length = 0 then a else a ++ [Tr.kidAt b 0]
end Go.Proofs.Ytananonjomfpkaa
