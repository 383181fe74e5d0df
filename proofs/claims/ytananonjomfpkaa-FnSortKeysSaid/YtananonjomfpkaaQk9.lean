/- Inserting: a tree whose nodes are as a valid tree's keeps such nodes. -/
import Derived.Test.YtananonjomfpkaaQk8
/- Inserting: the keys of a tree into which a key is put. -/
namespace Go.Proofs.Ytananonjomfpkaa
open Go.RowKit
namespace Tr
def weave : List Tr → List Int → List Int
 | [], ks => ks
 | t :: r, [] => t.keys ++ weave r []
 | t :: r, x :: ks => t.keys ++ x :: weave r ks
def tailW (r : List Tr) : List Int → List Int
 | [] => weave r []
 | x :: ks => x :: weave r ks
end Tr
end Go.Proofs.Ytananonjomfpkaa
/- Inserting: a tree whose nodes are as a valid tree's keeps such nodes. -/
namespace Go.Proofs.Ytananonjomfpkaa
open Go.RowKit
namespace Tr
def Over (wide least d : Int) : Tr → Prop
 | .mk k c => (least ≤ (k.length : Int) ∧ (k.length : Int) ≤ wide + 1) ∧ ((c.length = 0 ∧ d = 1) ∨ (c.length ≠ 0 ∧ d ≠ 1 ∧ c.length = k.length + 1 ∧ k.length ≠ 0 ∧ ∀ x ∈ c, nodesB wide (wide / 2) (d - 1) x = true))
end Tr
end Go.Proofs.Ytananonjomfpkaa
