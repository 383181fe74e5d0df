/- For every tree in memory and every int, the law on FullNodes returns true and leaves its arguments as they were; no conditions. -/
import Derived.Test.YtodcapgmhginoaaRows
import Derived.Test.YtodcapgmhginoaaFuS29
import Derived.Test.YtodcapgmhginoaaFuS32
namespace Go.Proofs.Ytodcapgmhginoaa

theorem full_nodes_said : Rows.FnExactFullNodesSaid := exFullNodes.proved impl_full
end Go.Proofs.Ytodcapgmhginoaa
