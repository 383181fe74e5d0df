/- The contract of the program's greatest: the greatest key below a node. -/
import Derived.Test.YtananonjomfpkaaQkS22
/- What is asked of a node below which a key is deleted, and the shape of what is left. Plain data. -/
namespace Go.Proofs.Ytananonjomfpkaa
open Go.RowKit
namespace Tr
def Lacks (key : Int) (t : Tr) : Prop := Well t ∧ Full t ∧ (t.path key).2 = true
def Less (t : Tr) (k : List Int) (c : List Tr) : Prop := Shaped t ∧ t.ks.length ≤ k.length ∧ t.cs.length ≤ c.length
end Tr
end Go.Proofs.Ytananonjomfpkaa
/- Deleting: the keys of a tree from which one is taken. -/
namespace Go.Proofs.Ytananonjomfpkaa
open Go.RowKit
namespace Tr
def Pair (x y : Tr) : Prop := (x.cs.length = 0 ∧ y.cs.length = 0) ∨ (x.cs.length = x.ks.length + 1 ∧ y.cs.length = y.ks.length + 1)
end Tr
end Go.Proofs.Ytananonjomfpkaa
/- The contract of removeBelow at a leaf. -/
namespace Go.Proofs.Ytananonjomfpkaa
open Go.RowKit
end Go.Proofs.Ytananonjomfpkaa
/- The contract of the program's greatest: the greatest key below a node. -/
namespace Go.Proofs.Ytananonjomfpkaa
open Go.RowKit
end Go.Proofs.Ytananonjomfpkaa
