/- The model's NextKey, PrevKey, RankOf. -/
import Derived.Test.YtananonjomfpkaaQkS11
import Derived.Test.YtananonjomfpkaaQk8
namespace Go.Proofs.Ytananonjomfpkaa
open Go.RowKit
-- END
-- END
def Tr.rankB (key : Int) (t : Tr) : Int := if t.someB then (place key t.keys : Int) else -1
end Go.Proofs.Ytananonjomfpkaa
