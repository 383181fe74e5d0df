/- The contract of the program's CountNodes. -/
import Derived.Test.YtodcapgmhginoaaProg
import Derived.Test.YtodcapgmhginoaaCnS0
import Derived.Test.YtodcapgmhginoaaCnS2
import Derived.Test.YtodcapgmhginoaaCnS5
import Derived.Test.YtodcapgmhginoaaCnS23
import Derived.Test.YtodcapgmhginoaaCnS27
namespace Go.Proofs.Ytodcapgmhginoaa
open Go.RowKit

theorem impl_count : ImplCountNodes := fun w0 lo kv cv t ht hwt w' hbw => impl_count_a ((ht.a hwt).later hbw (Nat.le_refl _)) hwt
end Go.Proofs.Ytodcapgmhginoaa
