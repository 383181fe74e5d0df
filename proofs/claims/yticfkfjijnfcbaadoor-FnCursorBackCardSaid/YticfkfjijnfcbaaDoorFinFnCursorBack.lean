/- For every slice of bytes, the law on cursors (FnCursorBack) returns true and leaves its arguments as they were, where the program's errNowhere and errEnd hold what its text lays; the card ties it to that text. -/
import Derived.Test.YticfkfjijnfcbaaDoorRows
import Derived.Test.YticfkfjijnfcbaaDoorCards
import Derived.Test.YticfkfjijnfcbaaDoorRowFnCursorBack
namespace Go.Proofs.YticfkfjijnfcbaaDoor

theorem cursor_back_said : Rows.FnCursorBackCardSaid := rowFnCursorBack.card
end Go.Proofs.YticfkfjijnfcbaaDoor
