/- The model's FirstCursor, LastCursor and SeekCursor. -/
import Derived.Test.YticfkfjijnfcbaaDoorCwS9
import Derived.Test.YticfkfjijnfcbaaDoorCwS25
namespace Go.Proofs.YticfkfjijnfcbaaDoor
open Go.RowKit
def Tr.wholeB (t : Tr) (r : List Int × Int × Bool) : List Int × Int × Bool := if t.someB = true ∧ t.ks.length ≠ 0 then r else ([], 0, false)
end Go.Proofs.YticfkfjijnfcbaaDoor
