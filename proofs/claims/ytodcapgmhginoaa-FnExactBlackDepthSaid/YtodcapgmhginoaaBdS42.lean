/- For every coloured tree in memory, the law on BlackDepth returns true and leaves its argument as it was; no conditions. -/
import Derived.Test.YtodcapgmhginoaaRows
import Derived.Test.YtodcapgmhginoaaBdS33
import Derived.Test.YtodcapgmhginoaaBdS41
namespace Go.Proofs.Ytodcapgmhginoaa

theorem black_depth_said : Rows.FnExactBlackDepthSaid := exBlackDepth.proved (fun _ _ _ _ h hw w' hb => impl_blackDepth h hw w' hb)
end Go.Proofs.Ytodcapgmhginoaa
