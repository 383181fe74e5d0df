/- For every tree, the law on LastCursor returns true and leaves its arguments as they were, where the program's errNowhere and errEnd hold what its text lays; the card ties it to that text. -/
import Derived.Test.YticfkfjijnfcbaaDoorRows
import Derived.Test.YticfkfjijnfcbaaDoorCards
import Derived.Test.YticfkfjijnfcbaaDoorRowCurLast
namespace Go.Proofs.YticfkfjijnfcbaaDoor

theorem last_cursor_said : Rows.FnExactLastCursorCardSaid := rowCurLast.card
end Go.Proofs.YticfkfjijnfcbaaDoor
