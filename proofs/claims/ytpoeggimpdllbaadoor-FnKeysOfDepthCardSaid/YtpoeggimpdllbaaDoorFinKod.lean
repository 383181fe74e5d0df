/- For every slice of bytes, the law on Kod returns true and leaves its arguments as they were, where the two tables of sizes hold what the program's text lays; the card ties them to that text. -/
import Derived.Test.YtpoeggimpdllbaaDoorRows
import Derived.Test.YtpoeggimpdllbaaDoorCards
import Derived.Test.YtpoeggimpdllbaaDoorRowKod
namespace Go.Proofs.YtpoeggimpdllbaaDoor

theorem kod_said : Rows.FnKeysOfDepthCardSaid := rowKod.card
end Go.Proofs.YtpoeggimpdllbaaDoor
