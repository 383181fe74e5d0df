/- For every tree in memory, the law on KeysOf returns true and leaves its arguments as they were; no conditions. -/
import Derived.Test.YtodcapgmhginoaaRows
import Derived.Test.YtodcapgmhginoaaKyS31
import Derived.Test.YtodcapgmhginoaaKyS34
namespace Go.Proofs.Ytodcapgmhginoaa

theorem keys_of_said : Rows.FnExactKeysOfSaid := exKeysOf.proved impl_keys
end Go.Proofs.Ytodcapgmhginoaa
