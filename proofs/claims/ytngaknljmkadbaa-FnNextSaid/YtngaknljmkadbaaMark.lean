/- The contracts of the functions that mark a result and look whether the marks held. -/
import Derived.Test.YtngaknljmkadbaaProg
import Derived.Test.YtngaknljmkadbaaBase
import Derived.Test.YtngaknljmkadbaaApp
import Derived.Test.YtngaknljmkadbaaSzTo
namespace Go.Proofs.Ytngaknljmkadbaa
open Go.RowKit

/-- n numbers from k on. -/
def marks (k : Int) (n : Nat) : List Int := (List.range n).map (fun (i : Nat) => k + (i : Int))
theorem marks_length (k : Int) (n : Nat) : (marks k n).length = n := by simp [marks]
theorem marks_get (k : Int) (n i : Nat) (h : i < n) : (marks k n).getD i 0 = k + i := by simp [marks, h]





end Go.Proofs.Ytngaknljmkadbaa
