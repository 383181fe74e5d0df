/- For every slice of bytes, the law on counts returns true and leaves its arguments as they were; no conditions. -/
import Derived.Test.YthiohdbcclbgkaaRows
import Derived.Test.YthiohdbcclbgkaaRowFnCounts
namespace Go.Proofs.Ythiohdbcclbgkaa

theorem counts_said : Rows.FnCountsSaid := fnCountsRowP.over
end Go.Proofs.Ythiohdbcclbgkaa
