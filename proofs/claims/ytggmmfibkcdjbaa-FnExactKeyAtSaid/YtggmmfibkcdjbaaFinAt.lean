/- For every tree in memory and every int, the law on KeyAt returns true and leaves its arguments as they were; no conditions. -/
import Derived.Test.YtggmmfibkcdjbaaRows
import Derived.Test.YtggmmfibkcdjbaaImKeyAt
import Derived.Test.YtggmmfibkcdjbaaRowAt
namespace Go.Proofs.Ytggmmfibkcdjbaa

theorem key_at_said : Rows.FnExactKeyAtSaid := exKeyAt.proved (fun _ _ _ _ _ n ht hw _ h2 w' hb hB => impl_keyAt ht hw n h2 w' hb hB)
end Go.Proofs.Ytggmmfibkcdjbaa
