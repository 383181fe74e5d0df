/- For every tree in memory and every two ints, the law on RangeOf returns true and leaves its arguments as they were; no conditions. -/
import Derived.Test.YtggmmfibkcdjbaaRows
import Derived.Test.YtggmmfibkcdjbaaImRange
import Derived.Test.YtggmmfibkcdjbaaRowRange
namespace Go.Proofs.Ytggmmfibkcdjbaa

theorem range_of_said : Rows.FnExactRangeOfSaid := exRangeOf.proved (fun _ _ _ _ _ n m ht hw _ _ _ _ w' hb hB => impl_range ht hw n m w' hb hB)
end Go.Proofs.Ytggmmfibkcdjbaa
