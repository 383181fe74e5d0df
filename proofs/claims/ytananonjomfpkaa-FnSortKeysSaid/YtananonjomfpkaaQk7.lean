/- Finding: plain data: places in a node, the way down. -/
import Derived.Test.YtananonjomfpkaaQk6
/- A tree is valid just if evenDepth tells a depth and the keys ascend: plain data. -/
namespace Go.Proofs.Ytananonjomfpkaa
open Go.RowKit
end Go.Proofs.Ytananonjomfpkaa
/- Whether a tree is valid for some width: the model. -/
namespace Go.Proofs.Ytananonjomfpkaa
open Go.RowKit
def Tr.someB (t : Tr) : Bool := Tr.validB 2 t || Tr.validB 3 t || Tr.validB 4 t || Tr.validB 5 t || Tr.validB 6 t
end Go.Proofs.Ytananonjomfpkaa
/- Finding: plain data: places in a node, the way down. -/
namespace Go.Proofs.Ytananonjomfpkaa
open Go.RowKit
def place (key : Int) : List Int → Nat
 | [] => 0
 | k :: r => if k < key then place key r + 1 else 0
namespace Tr
def ks : Tr → List Int | .mk k _ => k
def cs : Tr → List Tr | .mk _ c => c
mutual
def path (key : Int) : Tr → List Int × Bool
 | .mk k c =>
   if place key k < k.length ∧ k.getD (place key k) 0 = key then ([], true)
   else if c.length = 0 then ([], false)
   else ((place key k : Int) :: ((paths key c).getD (place key k) ([], false)).1, ((paths key c).getD (place key k) ([], false)).2)
def paths (key : Int) : List Tr → List (List Int × Bool)
 | [] => []
 | t :: r => path key t :: paths key r
end
def pathB (key : Int) (t : Tr) : List Int × Bool := if t.someB then t.path key else ([], false)
def Well (t : Tr) : Prop := (∃ wide least d, nodesB wide least d t = true) ∧ t.keys.Pairwise (· < ·)
end Tr
end Go.Proofs.Ytananonjomfpkaa
