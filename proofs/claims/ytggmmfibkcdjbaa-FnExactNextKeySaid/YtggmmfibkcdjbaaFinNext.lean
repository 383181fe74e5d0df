/- For every tree in memory and every int, the law on NextKey returns true and leaves its arguments as they were; no conditions. -/
import Derived.Test.YtggmmfibkcdjbaaRows
import Derived.Test.YtggmmfibkcdjbaaImNext
import Derived.Test.YtggmmfibkcdjbaaRowNext
namespace Go.Proofs.Ytggmmfibkcdjbaa

theorem next_key_said : Rows.FnExactNextKeySaid := exNextKey.proved (fun _ _ _ _ _ n ht hw _ _ w' hb hB => impl_next ht hw n w' hb hB)
end Go.Proofs.Ytggmmfibkcdjbaa
