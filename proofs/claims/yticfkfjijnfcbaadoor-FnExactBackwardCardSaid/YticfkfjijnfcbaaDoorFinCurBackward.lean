/- For every tree and cursor, the law on Backward returns true and leaves its arguments as they were, where the program's errNowhere and errEnd hold what its text lays; the card ties it to that text. -/
import Derived.Test.YticfkfjijnfcbaaDoorRows
import Derived.Test.YticfkfjijnfcbaaDoorCards
import Derived.Test.YticfkfjijnfcbaaDoorRowCurBackward
namespace Go.Proofs.YticfkfjijnfcbaaDoor

theorem backward_said : Rows.FnExactBackwardCardSaid := rowCurBackward.card
end Go.Proofs.YticfkfjijnfcbaaDoor
