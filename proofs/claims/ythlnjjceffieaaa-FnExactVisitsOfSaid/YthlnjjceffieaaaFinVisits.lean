/- For every tree in memory and every int, the law on VisitsOf returns true and leaves its arguments as they were; no conditions. -/
import Derived.Test.YthlnjjceffieaaaRows
import Derived.Test.YthlnjjceffieaaaHasSpec
import Derived.Test.YthlnjjceffieaaaRowVisits
namespace Go.Proofs.Ythlnjjceffieaaa

theorem visits_of_said : Rows.FnExactVisitsOfSaid := exVisitsOf.proved (fun _ _ _ _ _ n ht hw _ _ w' hb hB => impl_visits ht hw n w' hb hB)
end Go.Proofs.Ythlnjjceffieaaa
