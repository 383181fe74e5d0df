/- For every tree and cursor, the law on CursorKey returns true and leaves its arguments as they were, where the program's errNowhere holds what its text lays; the card ties it to that text. -/
import Derived.Test.YtbdamminjbaaoaaDoorRows
import Derived.Test.YtbdamminjbaaoaaDoorCards
import Derived.Test.YtbdamminjbaaoaaDoorCkS45
namespace Go.Proofs.YtbdamminjbaaoaaDoor

theorem cursor_key_said : Rows.FnExactCursorKeyCardSaid := rowCurK.card
end Go.Proofs.YtbdamminjbaaoaaDoor
