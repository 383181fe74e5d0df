/- For every tree, the law on FirstCursor returns true and leaves its arguments as they were, where the program's errNowhere and errEnd hold what its text lays; the card ties it to that text. -/
import Derived.Test.YticfkfjijnfcbaaDoorRows
import Derived.Test.YticfkfjijnfcbaaDoorCards
import Derived.Test.YticfkfjijnfcbaaDoorRowCurFirst
namespace Go.Proofs.YticfkfjijnfcbaaDoor

theorem first_cursor_said : Rows.FnExactFirstCursorCardSaid := rowCurFirst.card
end Go.Proofs.YticfkfjijnfcbaaDoor
