/- For every tree in memory, the law on CountNodes returns true and leaves its arguments as they were; no conditions. -/
import Derived.Test.YtggmmfibkcdjbaaRows
import Derived.Test.YtggmmfibkcdjbaaImCount
import Derived.Test.YtggmmfibkcdjbaaRowCount
namespace Go.Proofs.Ytggmmfibkcdjbaa

theorem count_nodes_said : Rows.FnExactCountNodesSaid := exCountNodes.proved impl_count
end Go.Proofs.Ytggmmfibkcdjbaa
