/- For every tree and cursor, the law on Forward returns true and leaves its arguments as they were, where the program's errNowhere and errEnd hold what its text lays; the card ties it to that text. -/
import Derived.Test.YticfkfjijnfcbaaDoorRows
import Derived.Test.YticfkfjijnfcbaaDoorCards
import Derived.Test.YticfkfjijnfcbaaDoorRowCurForward
namespace Go.Proofs.YticfkfjijnfcbaaDoor

theorem forward_said : Rows.FnExactForwardCardSaid := rowCurForward.card
end Go.Proofs.YticfkfjijnfcbaaDoor
