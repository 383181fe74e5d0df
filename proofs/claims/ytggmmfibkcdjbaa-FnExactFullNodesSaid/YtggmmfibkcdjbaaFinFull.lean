/- For every tree in memory and every int, the law on FullNodes returns true and leaves its arguments as they were; no conditions. -/
import Derived.Test.YtggmmfibkcdjbaaRows
import Derived.Test.YtggmmfibkcdjbaaImFull
import Derived.Test.YtggmmfibkcdjbaaRowFull
namespace Go.Proofs.Ytggmmfibkcdjbaa

theorem full_nodes_said : Rows.FnExactFullNodesSaid := exFullNodes.proved impl_full
end Go.Proofs.Ytggmmfibkcdjbaa
