/- For every tree and number, the law on SeekCursor returns true and leaves its arguments as they were, where the program's errNowhere and errEnd hold what its text lays; the card ties it to that text. -/
import Derived.Test.YticfkfjijnfcbaaDoorRows
import Derived.Test.YticfkfjijnfcbaaDoorCards
import Derived.Test.YticfkfjijnfcbaaDoorRowCurSeek
namespace Go.Proofs.YticfkfjijnfcbaaDoor

theorem seek_cursor_said : Rows.FnExactSeekCursorCardSaid := rowCurSeek.card
end Go.Proofs.YticfkfjijnfcbaaDoor
