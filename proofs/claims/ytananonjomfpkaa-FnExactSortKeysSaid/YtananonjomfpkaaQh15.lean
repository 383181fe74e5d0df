/- Deleting: the keys of a tree from which one is taken. -/
import Derived.Test.YtananonjomfpkaaQh11
import Derived.Test.YtananonjomfpkaaQhS22
/- What is asked of a node below which a key is deleted, and the shape of what is left. Plain data. -/
namespace Go.Proofs.Ytananonjomfpkaa
open Go.RowKit
namespace Tr
def Lacks (key : Int) (t : Tr) : Prop := Well t ∧ Full t ∧ (t.path key).2 = true
def Less (t : Tr) (k : List Int) (c : List Tr) : Prop := Shaped t ∧ t.ks.length ≤ k.length ∧ t.cs.length ≤ c.length
end Tr
end Go.Proofs.Ytananonjomfpkaa
/- Inserting: the keys of a tree into which a key is put. -/
namespace Go.Proofs.Ytananonjomfpkaa
open Go.RowKit
namespace Tr
def weave : List Tr → List Int → List Int
 | [], ks => ks
 | t :: r, [] => t.keys ++ weave r []
 | t :: r, x :: ks => t.keys ++ x :: weave r ks
def tailW (r : List Tr) : List Int → List Int
 | [] => weave r []
 | x :: ks => x :: weave r ks
end Tr
end Go.Proofs.Ytananonjomfpkaa
/- Deleting: the keys of a tree from which one is taken. -/
namespace Go.Proofs.Ytananonjomfpkaa
open Go.RowKit
namespace Tr
def Pair (x y : Tr) : Prop := (x.cs.length = 0 ∧ y.cs.length = 0) ∨ (x.cs.length = x.ks.length + 1 ∧ y.cs.length = y.ks.length + 1)
end Tr
end Go.Proofs.Ytananonjomfpkaa
