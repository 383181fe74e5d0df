/- The contract of borrowFromAhead. -/
import Derived.Test.YtananonjomfpkaaQk22
namespace Go.Proofs.Ytananonjomfpkaa
open Go.RowKit
def Tr.oneFirst (a b : List Tr) (n : Nat) : List Tr := if a.length = 0 then b else Tr.kidAt a n :: b
end Go.Proofs.Ytananonjomfpkaa
