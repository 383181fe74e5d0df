/- For every tree in memory, the law on CountNodes returns true and leaves its arguments as they were; no conditions. -/
import Derived.Test.YtodcapgmhginoaaRows
import Derived.Test.YtodcapgmhginoaaCnS28
import Derived.Test.YtodcapgmhginoaaCnS31
namespace Go.Proofs.Ytodcapgmhginoaa

theorem count_nodes_said : Rows.FnExactCountNodesSaid := exCountNodes.proved impl_count
end Go.Proofs.Ytodcapgmhginoaa
