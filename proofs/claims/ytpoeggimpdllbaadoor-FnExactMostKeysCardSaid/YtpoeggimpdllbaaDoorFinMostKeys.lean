/- For every two ints, the law on MostKeys returns true and leaves its arguments as they were, where the two tables of sizes hold what the program's text lays; the card ties them to that text. -/
import Derived.Test.YtpoeggimpdllbaaDoorRows
import Derived.Test.YtpoeggimpdllbaaDoorCards
import Derived.Test.YtpoeggimpdllbaaDoorRowMostKeys
namespace Go.Proofs.YtpoeggimpdllbaaDoor

theorem mostKeys_said : Rows.FnExactMostKeysCardSaid := rowMostKeys.card
end Go.Proofs.YtpoeggimpdllbaaDoor
