/- For every tree in memory and every int, the law on TreeValid returns true and leaves its arguments as they were; no conditions. -/
import Derived.Test.YtodcapgmhginoaaRows
import Derived.Test.YtodcapgmhginoaaTvS20
import Derived.Test.YtodcapgmhginoaaTvS23
namespace Go.Proofs.Ytodcapgmhginoaa

theorem tree_valid_said : Rows.FnExactTreeValidSaid := exTreeValid.proved impl_valid
end Go.Proofs.Ytodcapgmhginoaa
