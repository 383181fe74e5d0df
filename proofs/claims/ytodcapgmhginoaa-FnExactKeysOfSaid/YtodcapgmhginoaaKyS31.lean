/- The contract of the program's KeysOf. -/
import Derived.Test.YtodcapgmhginoaaProg
import Derived.Test.YtodcapgmhginoaaKyS0
import Derived.Test.YtodcapgmhginoaaKyS2
import Derived.Test.YtodcapgmhginoaaKyS5
import Derived.Test.YtodcapgmhginoaaKyS25
import Derived.Test.YtodcapgmhginoaaKyS30
namespace Go.Proofs.Ytodcapgmhginoaa
open Go.RowKit

theorem impl_keys : ImplKeysOf := fun w0 lo kv cv t ht hwt w' hbw => impl_keys_a ((ht.a hwt).later hbw (Nat.le_refl _)) hwt
end Go.Proofs.Ytodcapgmhginoaa
