/- For every tree in memory and every int, the law on PrevKey returns true and leaves its arguments as they were; no conditions. -/
import Derived.Test.YtggmmfibkcdjbaaRows
import Derived.Test.YtggmmfibkcdjbaaImPrev
import Derived.Test.YtggmmfibkcdjbaaRowPrev
namespace Go.Proofs.Ytggmmfibkcdjbaa

theorem prev_key_said : Rows.FnExactPrevKeySaid := exPrevKey.proved (fun _ _ _ _ _ n ht hw _ _ w' hb hB => impl_prev ht hw n w' hb hB)
end Go.Proofs.Ytggmmfibkcdjbaa
