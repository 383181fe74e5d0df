/- For every coloured tree in memory, the law on BinKeys returns true and leaves its argument as it was; no conditions. -/
import Derived.Test.YtodcapgmhginoaaRows
import Derived.Test.YtodcapgmhginoaaBkS14
import Derived.Test.YtodcapgmhginoaaBkS29
namespace Go.Proofs.Ytodcapgmhginoaa

theorem bin_keys_said : Rows.FnExactBinKeysSaid := exBinKeys.proved (fun _ _ _ _ h hw w' hb => impl_binKeys h hw w' hb)
end Go.Proofs.Ytodcapgmhginoaa
