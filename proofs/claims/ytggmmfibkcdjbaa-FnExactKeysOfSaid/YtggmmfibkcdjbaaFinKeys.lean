/- For every tree in memory, the law on KeysOf returns true and leaves its arguments as they were; no conditions. -/
import Derived.Test.YtggmmfibkcdjbaaRows
import Derived.Test.YtggmmfibkcdjbaaImKeys
import Derived.Test.YtggmmfibkcdjbaaRowKeys
namespace Go.Proofs.Ytggmmfibkcdjbaa

theorem keys_of_said : Rows.FnExactKeysOfSaid := exKeysOf.proved impl_keys
end Go.Proofs.Ytggmmfibkcdjbaa
