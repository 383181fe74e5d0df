/- Deleting: a valid tree stays one, without the key. -/
import Derived.Test.YtananonjomfpkaaQk24
namespace Go.Proofs.Ytananonjomfpkaa
open Go.RowKit
namespace Tr
def Under (wide least d : Int) : Tr → Prop
 | .mk k c => (least ≤ (k.length : Int) + 1 ∧ (k.length : Int) ≤ wide) ∧ ((c.length = 0 ∧ d = 1) ∨ (c.length ≠ 0 ∧ d ≠ 1 ∧ c.length = k.length + 1 ∧ ∀ x ∈ c, nodesB wide (wide / 2) (d - 1) x = true))
end Tr
end Go.Proofs.Ytananonjomfpkaa
