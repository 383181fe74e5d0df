/- A node's block holds cells. -/
import Derived.Test.YtngaknljmkadbaaProg
import Derived.Test.YtngaknljmkadbaaNode
import Derived.Test.YtngaknljmkadbaaWayIn
namespace Go.Proofs.Ytngaknljmkadbaa
open Go.RowKit

theorem node_cells {w : World} {lo hi b : Nat} {t : Tr} (h : NodeIn w lo hi b t) : ∃ c, w.heap[b]? = some (.cells c 73 (0, 0)) := by
  cases h with
  | mk ks cs lo hi b kv a cap ps s hlo hhi hs0 hsn hs hbox hk hlen hcap hat hkids => exact ⟨_, hbox⟩
theorem nodeAt_cells {w : World} {lo hi b : Nat} {t : Tr} (h : NodeAt w lo hi b t) : ∃ c, w.heap[b]? = some (.cells c 73 (0, 0)) := by
  cases h with
  | mk ks cs b kv a cap ps hlo hhi hbox hk hlen hcap hat hkids => exact ⟨_, hbox⟩
end Go.Proofs.Ytngaknljmkadbaa
