/- For every two ints, the law on MostDepth returns true and leaves its arguments as they were, where the two tables of sizes hold what the program's text lays; the card ties them to that text. -/
import Derived.Test.YtpoeggimpdllbaaDoorRows
import Derived.Test.YtpoeggimpdllbaaDoorCards
import Derived.Test.YtpoeggimpdllbaaDoorRowMostDepth
namespace Go.Proofs.YtpoeggimpdllbaaDoor

theorem mostDepth_said : Rows.FnExactMostDepthCardSaid := rowMostDepth.card
end Go.Proofs.YtpoeggimpdllbaaDoor
