/- For every coloured tree in memory, the law on BinDepth returns true and leaves its argument as it was; no conditions. -/
import Derived.Test.YtodcapgmhginoaaRows
import Derived.Test.YtodcapgmhginoaaBdS10
import Derived.Test.YtodcapgmhginoaaBdS18
namespace Go.Proofs.Ytodcapgmhginoaa

theorem bin_depth_said : Rows.FnExactBinDepthSaid := exBinDepth.proved (fun _ _ _ _ h hw w' hb => impl_binDepth h hw w' hb)
end Go.Proofs.Ytodcapgmhginoaa
