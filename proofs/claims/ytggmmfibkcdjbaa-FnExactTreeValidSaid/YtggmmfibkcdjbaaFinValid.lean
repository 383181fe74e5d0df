/- For every tree in memory and every int, the law on TreeValid returns true and leaves its arguments as they were; no conditions. -/
import Derived.Test.YtggmmfibkcdjbaaRows
import Derived.Test.YtggmmfibkcdjbaaImValid
import Derived.Test.YtggmmfibkcdjbaaRowValid
namespace Go.Proofs.Ytggmmfibkcdjbaa

theorem tree_valid_said : Rows.FnExactTreeValidSaid := exTreeValid.proved impl_valid
end Go.Proofs.Ytggmmfibkcdjbaa
