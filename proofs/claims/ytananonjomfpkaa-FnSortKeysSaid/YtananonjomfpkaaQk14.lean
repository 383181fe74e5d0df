/- The law on TreeValid: the walk over the contracts. -/
import Derived.Test.YtananonjomfpkaaQk13
import Derived.Test.YtananonjomfpkaaQkS13
/- The contracts of the functions that compare: eqIntS, eqTreeS, eqTree: at two readings of one datum they answer true. -/
namespace Go.Proofs.Ytananonjomfpkaa
open Go.RowKit
end Go.Proofs.Ytananonjomfpkaa
/- The law on TreeValid: the walk over the contracts. -/
namespace Go.Proofs.Ytananonjomfpkaa
open Go.RowKit
def ImplTreeValid : Prop := ∀ (w0 : World) (B : Nat) (kv cv : Value) (t : Tr) (n : Int), TreeIn w0 B kv cv t → t.weight ≤ 1048576 → -9223372036854775808 ≤ n → n ≤ 9223372036854775807 → ∀ w', Below B w0 w' → B ≤ w'.heap.size →
 Calls Try.prog 19 #[.agg #[kv, cv], .int .i64 n] w' fun e w'' => e = .returned (.bool (Tr.validB n t)) ∧ Below w'.heap.size w' w''
-- END
end Go.Proofs.Ytananonjomfpkaa
