/- For every two ints, the law on LeastDepth returns true and leaves its arguments as they were, where the two tables of sizes hold what the program's text lays; the card ties them to that text. -/
import Derived.Test.YtpoeggimpdllbaaDoorRows
import Derived.Test.YtpoeggimpdllbaaDoorCards
import Derived.Test.YtpoeggimpdllbaaDoorRowLeastDepth
namespace Go.Proofs.YtpoeggimpdllbaaDoor

theorem leastDepth_said : Rows.FnExactLeastDepthCardSaid := rowLeastDepth.card
end Go.Proofs.YtpoeggimpdllbaaDoor
