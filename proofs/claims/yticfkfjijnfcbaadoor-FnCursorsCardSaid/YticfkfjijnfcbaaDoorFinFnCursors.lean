/- For every slice of bytes, the law on cursors (FnCursors) returns true and leaves its arguments as they were, where the program's errNowhere and errEnd hold what its text lays; the card ties it to that text. -/
import Derived.Test.YticfkfjijnfcbaaDoorRows
import Derived.Test.YticfkfjijnfcbaaDoorCards
import Derived.Test.YticfkfjijnfcbaaDoorRowFnCursors
namespace Go.Proofs.YticfkfjijnfcbaaDoor

theorem cursors_said : Rows.FnCursorsCardSaid := rowFnCursors.card
end Go.Proofs.YticfkfjijnfcbaaDoor
