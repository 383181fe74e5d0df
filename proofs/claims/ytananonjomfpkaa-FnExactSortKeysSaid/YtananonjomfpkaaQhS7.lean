/- Finding: plain data: what stands next to a number, how many keys are less. -/
import Derived.Test.YtananonjomfpkaaQh4
namespace Go.Proofs.Ytananonjomfpkaa
open Go.RowKit
namespace Tr
def nextStep (c : Int) (acc : Int × Bool) (x : Tr) : Int × Bool := if place c x.ks < x.ks.length then (x.ks.getD (place c x.ks) 0, true) else acc
def prevStep (c : Int) (acc : Int × Bool) (x : Tr) : Int × Bool := if 0 < place c x.ks then (x.ks.getD (place c x.ks - 1) 0, true) else acc
def optOr (o : Option Int) (acc : Int × Bool) : Int × Bool := match o with | some k => (k, true) | none => acc
def prevOf (c : Int) (keys : List Int) (acc : Int × Bool) : Int × Bool := if 0 < place c keys then (keys.getD (place c keys - 1) 0, true) else acc
def nextB (key : Int) (t : Tr) : Int × Bool := if t.someB then optOr (t.keys.find? (fun x => decide (key + 1 ≤ x))) (0, false) else (0, false)
def prevB (key : Int) (t : Tr) : Int × Bool := if t.someB then prevOf key t.keys (0, false) else (0, false)
def rankStep (c : Int) (x : Tr) : Nat := (upto (keyss x.cs) x.ks (place c x.ks)).length
end Tr
end Go.Proofs.Ytananonjomfpkaa
