/- For every repair, the law on FormatRepair returns true and leaves its argument as it was, where the library's table of powers of ten holds what the library's text lays; the card ties it to that text. -/
import Derived.Test.YtpejnmfikjodaaaDoorRows
import Derived.Test.YtpejnmfikjodaaaDoorCards
import Derived.Test.YtpejnmfikjodaaaDoorFrB
namespace Go.Proofs.YtpejnmfikjodaaaDoor

theorem format_repair_said : Rows.FnExactFormatRepairCardSaid := rowFmtRep.card
end Go.Proofs.YtpejnmfikjodaaaDoor
