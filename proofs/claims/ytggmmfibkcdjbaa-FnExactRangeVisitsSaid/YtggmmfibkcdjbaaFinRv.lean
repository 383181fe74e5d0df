/- For every tree in memory and every two ints, the law on RangeVisits returns true and leaves its arguments as they were; no conditions. -/
import Derived.Test.YtggmmfibkcdjbaaRows
import Derived.Test.YtggmmfibkcdjbaaRvImpl
import Derived.Test.YtggmmfibkcdjbaaRowRv
namespace Go.Proofs.Ytggmmfibkcdjbaa

theorem range_visits_said : Rows.FnExactRangeVisitsSaid := exRangeVisits.proved (fun _ _ _ _ _ n m ht hw _ _ _ _ w' hb hB => impl_rangeVisits ht hw n m w' hb hB)
end Go.Proofs.Ytggmmfibkcdjbaa
