/- For every tree and cursor, the law on CursorValid returns true and leaves its arguments as they were, where the program's errNowhere holds what its text lays; the card ties it to that text. -/
import Derived.Test.YtbdamminjbaaoaaDoorRows
import Derived.Test.YtbdamminjbaaoaaDoorCards
import Derived.Test.YtbdamminjbaaoaaDoorCvS43
namespace Go.Proofs.YtbdamminjbaaoaaDoor

theorem cursor_valid_said : Rows.FnExactCursorValidCardSaid := rowCurV.card
end Go.Proofs.YtbdamminjbaaoaaDoor
