/- For every two ints, the law on LeastKeys returns true and leaves its arguments as they were, where the two tables of sizes hold what the program's text lays; the card ties them to that text. -/
import Derived.Test.YtpoeggimpdllbaaDoorRows
import Derived.Test.YtpoeggimpdllbaaDoorCards
import Derived.Test.YtpoeggimpdllbaaDoorRowLeastKeys
namespace Go.Proofs.YtpoeggimpdllbaaDoor

theorem leastKeys_said : Rows.FnExactLeastKeysCardSaid := rowLeastKeys.card
end Go.Proofs.YtpoeggimpdllbaaDoor
