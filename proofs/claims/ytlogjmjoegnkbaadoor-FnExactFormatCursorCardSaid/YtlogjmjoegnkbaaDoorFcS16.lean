/- For every cursor, the law on FormatCursor returns true and leaves its argument as it was, where the library's table of powers of ten holds what the library's text lays; the card ties it to that text. -/
import Derived.Test.YtlogjmjoegnkbaaDoorRows
import Derived.Test.YtlogjmjoegnkbaaDoorCards
import Derived.Test.YtlogjmjoegnkbaaDoorFcS15
namespace Go.Proofs.YtlogjmjoegnkbaaDoor

theorem format_cursor_said : Rows.FnExactFormatCursorCardSaid := rowFmtCur.card
end Go.Proofs.YtlogjmjoegnkbaaDoor
