/- Deleting: the key that stands in for one is the key ahead, and lies in a leaf: plain data. -/
import Derived.Test.YtananonjomfpkaaQk12
import Derived.Test.YtananonjomfpkaaQk17
/- Deleting: the key that stands in for one, as plain data. -/
namespace Go.Proofs.Ytananonjomfpkaa
open Go.RowKit
namespace Tr
mutual
def greatest : Tr → Int
 | .mk k cs => if cs.length = 0 then k.getD (k.length - 1) 0 else (greatests cs).getD (cs.length - 1) 0
def greatests : List Tr → List Int
 | [] => []
 | t :: r => greatest t :: greatests r
end
mutual
def stand (key : Int) : Tr → Int × Bool
 | .mk k cs =>
   if place key k < k.length ∧ k.getD (place key k) 0 = key then (if cs.length = 0 then (0, false) else ((greatests cs).getD (place key k) 0, true))
   else (stands key cs).getD (place key k) (0, false)
def stands (key : Int) : List Tr → List (Int × Bool)
 | [] => []
 | t :: r => stand key t :: stands key r
end
def standB (wide key : Int) (t : Tr) : Int × Bool := if t.validB wide = true then t.stand key else (0, false)
def hit (key : Int) (t : Tr) : Bool := t.hasAt key && t.inner
def Full (t : Tr) : Prop := ∃ wide least d, 2 ≤ wide ∧ 1 ≤ least ∧ nodesB wide least d t = true
def Tops (t : Tr) : Prop := ∃ wide least d, 2 ≤ wide ∧ nodesB wide least d t = true
end Tr
end Go.Proofs.Ytananonjomfpkaa
/- Deleting: the key that stands in for one is the key ahead, and lies in a leaf: plain data. -/
namespace Go.Proofs.Ytananonjomfpkaa
open Go.RowKit
namespace Tr
end Tr
end Go.Proofs.Ytananonjomfpkaa
