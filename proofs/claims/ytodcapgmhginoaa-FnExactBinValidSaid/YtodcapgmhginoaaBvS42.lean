/- For every coloured tree in memory, the law on BinValid returns true and leaves its argument as it was; no conditions. -/
import Derived.Test.YtodcapgmhginoaaRows
import Derived.Test.YtodcapgmhginoaaBvS33
import Derived.Test.YtodcapgmhginoaaBvS41
namespace Go.Proofs.Ytodcapgmhginoaa

theorem bin_valid_said : Rows.FnExactBinValidSaid := exBinValid.proved (fun _ _ _ _ h hw w' hb => impl_binValid h hw w' hb)
end Go.Proofs.Ytodcapgmhginoaa
