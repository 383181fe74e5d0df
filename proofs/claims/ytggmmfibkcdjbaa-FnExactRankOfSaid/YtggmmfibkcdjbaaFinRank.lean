/- For every tree in memory and every int, the law on RankOf returns true and leaves its arguments as they were; no conditions. -/
import Derived.Test.YtggmmfibkcdjbaaRows
import Derived.Test.YtggmmfibkcdjbaaImRank
import Derived.Test.YtggmmfibkcdjbaaRowRank
namespace Go.Proofs.Ytggmmfibkcdjbaa

theorem rank_of_said : Rows.FnExactRankOfSaid := exRankOf.proved (fun _ _ _ _ _ n ht hw _ _ w' hb hB => impl_rank ht hw n w' hb hB)
end Go.Proofs.Ytggmmfibkcdjbaa
