/- The contracts of the functions that weigh an argument: szIntS, szTreeS, szTree. -/
import Derived.Test.YtananonjomfpkaaQkS12
/- The model's KeyAt. -/
namespace Go.Proofs.Ytananonjomfpkaa
open Go.RowKit
def keyL (keys : List Int) (r : Int) : Int × Bool := if 0 ≤ r ∧ r < (keys.length : Int) then (keys.getD r.toNat 0, true) else (0, false)
def Tr.keyAtB (r : Int) (t : Tr) : Int × Bool := if t.someB then keyL t.keys r else (0, false)
-- END
end Go.Proofs.Ytananonjomfpkaa
/- Finding: a key is found where it is among the keys in order; plain data. -/
namespace Go.Proofs.Ytananonjomfpkaa
open Go.RowKit
namespace Tr
end Tr
end Go.Proofs.Ytananonjomfpkaa
/- The contracts of the functions that weigh an argument: szIntS, szTreeS, szTree. -/
namespace Go.Proofs.Ytananonjomfpkaa
open Go.RowKit
def leftOf (n : Int) (m : Nat) : Int := if n < m then -1 else n - m
end Go.Proofs.Ytananonjomfpkaa
