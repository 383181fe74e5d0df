/- The contracts of the model's l1Sorted and TreeValid. -/
import Derived.Test.YtananonjomfpkaaQhS1
import Derived.Deep.RegionWith
import Derived.Deep.QuietTactic
import Derived.BigQuiet
import Derived.Deep.RegionHeld3
namespace Go.Proofs.Ytananonjomfpkaa
open Go.RowKit
def okAt (ks : List Int) (i : Nat) : Bool := inB (ks.getD i 0) 0 99 && (decide (i = 0) || decide (ks.getD (i - 1) 0 < ks.getD i 0))
def sortedB (ks : List Int) : Bool := (List.range ks.length).all (okAt ks)
def Tr.validB (wide : Int) (t : Tr) : Bool := inB wide 2 6 && (Tr.nodesB wide 0 t.depth t && sortedB t.keys)
end Go.Proofs.Ytananonjomfpkaa
