/- For every tree in memory, the law on DepthOf returns true and leaves its arguments as they were; no conditions. -/
import Derived.Test.YtodcapgmhginoaaRows
import Derived.Test.YtodcapgmhginoaaDpS17
import Derived.Test.YtodcapgmhginoaaDpS20
namespace Go.Proofs.Ytodcapgmhginoaa

theorem depth_of_said : Rows.FnExactDepthOfSaid := exDepthOf.proved impl_depth
end Go.Proofs.Ytodcapgmhginoaa
