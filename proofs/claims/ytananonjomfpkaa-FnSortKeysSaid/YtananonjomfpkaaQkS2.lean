/- The contracts of the model's TreeValid and what it calls. -/
import Derived.Test.YtananonjomfpkaaQkS1
import Derived.Test.YtananonjomfpkaaQk3
namespace Go.Proofs.Ytananonjomfpkaa
open Go.RowKit
namespace Tr
mutual
def nodesB (wide least depth : Int) : Tr → Bool
 | .mk k c => inB k.length least wide && ((decide (c.length = 0)) == (decide (depth = 1))) &&
     (decide (c.length = 0) || (decide (c.length = k.length + 1) && !decide (k.length = 0) && nodesAllB wide (depth - 1) c))
def nodesAllB (wide depth : Int) : List Tr → Bool
 | [] => true
 | t :: r => nodesB wide (wide / 2) depth t && nodesAllB wide depth r
end
end Tr
end Go.Proofs.Ytananonjomfpkaa
