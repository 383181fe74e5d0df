/- For every tree in memory and any two ints, the law on StandIn returns true and leaves its arguments as they were; no conditions. -/
import Derived.Test.YteelnkhajlmnfaaRows
import Derived.Test.YteelnkhajlmnfaaImStand
import Derived.Test.YteelnkhajlmnfaaRowStand
namespace Go.Proofs.Yteelnkhajlmnfaa

theorem stand_in_said : Rows.FnExactStandInSaid := exStandIn.proved (fun _ _ _ _ _ n m ht hw h1 h2 _ _ w' hb hB => impl_stand ht hw n m h1 h2 w' hb hB)
end Go.Proofs.Yteelnkhajlmnfaa
