/- The law on TreeValid: the walk over the contracts. -/
import Derived.Test.YtdcifdpkfcgmhaaDoorProg
import Derived.Test.YtdcifdpkfcgmhaaDoorCwS1
import Derived.Test.YtdcifdpkfcgmhaaDoorCw0
import Derived.Test.YtdcifdpkfcgmhaaDoorCwS2
import Derived.Test.YtdcifdpkfcgmhaaDoorCw1
import Derived.Test.YtdcifdpkfcgmhaaDoorCwS8
import Derived.Deep.RegionHeld3
namespace Go.Proofs.YtdcifdpkfcgmhaaDoor
open Go.RowKit

/-- What the program's TreeValid is to do. -/
def ImplTreeValid : Prop := ∀ (w0 : World) (B : Nat) (kv cv : Value) (t : Tr) (n : Int), TreeIn w0 B kv cv t → t.weight ≤ 1048576 → -9223372036854775808 ≤ n → n ≤ 9223372036854775807 → ∀ w', Below B w0 w' → B ≤ w'.heap.size →
  Calls Tryd.prog 113 #[.agg #[kv, cv], .int .i64 n] w' fun e w'' => e = .returned (.bool (Tr.validB n t)) ∧ Below w'.heap.size w' w''


-- END

end Go.Proofs.YtdcifdpkfcgmhaaDoor
