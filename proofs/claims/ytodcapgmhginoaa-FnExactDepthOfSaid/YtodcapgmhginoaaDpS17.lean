/- The contract of the program's DepthOf. -/
import Derived.Test.YtodcapgmhginoaaProg
import Derived.Test.YtodcapgmhginoaaDpS0
import Derived.Test.YtodcapgmhginoaaDpS2
import Derived.Test.YtodcapgmhginoaaDpS5
import Derived.Test.YtodcapgmhginoaaDpS12
import Derived.Test.YtodcapgmhginoaaDpS16
namespace Go.Proofs.Ytodcapgmhginoaa
open Go.RowKit

theorem impl_depth : ImplDepthOf := fun w0 lo kv cv t ht hwt w' hbw => impl_depth_a ((ht.a hwt).later hbw (Nat.le_refl _)) hwt
end Go.Proofs.Ytodcapgmhginoaa
