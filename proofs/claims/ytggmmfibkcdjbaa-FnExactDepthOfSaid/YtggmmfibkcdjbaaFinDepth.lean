/- For every tree in memory, the law on DepthOf returns true and leaves its arguments as they were; no conditions. -/
import Derived.Test.YtggmmfibkcdjbaaRows
import Derived.Test.YtggmmfibkcdjbaaImDepth
import Derived.Test.YtggmmfibkcdjbaaRowDepth
namespace Go.Proofs.Ytggmmfibkcdjbaa

theorem depth_of_said : Rows.FnExactDepthOfSaid := exDepthOf.proved impl_depth
end Go.Proofs.Ytggmmfibkcdjbaa
