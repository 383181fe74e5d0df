/- For every two trees in memory, the law on SameTree returns true and leaves its arguments as they were; no conditions. -/
import Derived.Test.YtodcapgmhginoaaRows
import Derived.Test.YtodcapgmhginoaaSaS14
import Derived.Test.YtodcapgmhginoaaSaS21
namespace Go.Proofs.Ytodcapgmhginoaa

theorem same_tree_said : Rows.FnExactSameTreeSaid := exSameTree.proved (fun _ _ _ _ _ _ _ _ ht hw ht' w' hb => impl_same ht hw ht' w' hb)
end Go.Proofs.Ytodcapgmhginoaa
