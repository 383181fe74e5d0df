/- For every tree in memory and every int, the law on PathOf returns true and leaves its arguments as they were; no conditions. -/
import Derived.Test.YtggmmfibkcdjbaaRows
import Derived.Test.YtggmmfibkcdjbaaImPath
import Derived.Test.YtggmmfibkcdjbaaRowPath
namespace Go.Proofs.Ytggmmfibkcdjbaa

theorem path_of_said : Rows.FnExactPathOfSaid := exPathOf.proved (fun _ _ _ _ _ n ht hw _ _ w' hb hB => impl_path ht hw n w' hb hB)
end Go.Proofs.Ytggmmfibkcdjbaa
