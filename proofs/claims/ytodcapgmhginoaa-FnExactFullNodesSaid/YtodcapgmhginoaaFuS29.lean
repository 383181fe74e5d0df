/- The contract of the program's FullNodes. -/
import Derived.Test.YtodcapgmhginoaaProg
import Derived.Test.YtodcapgmhginoaaFuS0
import Derived.Test.YtodcapgmhginoaaFuS2
import Derived.Test.YtodcapgmhginoaaFuS5
import Derived.Test.YtodcapgmhginoaaFuS24
import Derived.Test.YtodcapgmhginoaaFuS28
namespace Go.Proofs.Ytodcapgmhginoaa
open Go.RowKit

theorem impl_full : ImplFullNodes := fun w0 lo kv cv t nn ht hwt hn1 hn2 w' hbw => impl_full_a ((ht.a hwt).later hbw (Nat.le_refl _)) hwt nn hn1 hn2
end Go.Proofs.Ytodcapgmhginoaa
