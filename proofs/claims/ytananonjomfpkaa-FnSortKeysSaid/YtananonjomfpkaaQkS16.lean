/- The contract of plant: a copy of a tree as nodes, each with the cells that are its own. -/
import Derived.Test.YtananonjomfpkaaQkS6
import Derived.Test.YtananonjomfpkaaQk16
import Derived.Test.YtananonjomfpkaaQkS8
namespace Go.Proofs.Ytananonjomfpkaa
open Go.RowKit
def span (lo hi : Nat) : Cells := fun x _ => lo ≤ x ∧ x < hi
structure PlantedN (w : World) (lo bn : Nat) (kv vk : Value) (ks : List Int) (cs : List Tr) (ps s e : Nat → Nat) (j : Nat) : Prop where
 box : w.heap[bn]? = some (.cells #[kv, vk] 99 (0, 0))
 keys : w.ownsRow lo 3 1 kv ks.length (ks.map (Value.int .i64)) ∧ ∀ k, kv.ownBlock = some k → k < bn
 row : w.ownsRow (bn + 1) 70 1 vk j ((List.range j).map (fun i => .pointer (some ⟨ps i, 0, none⟩)))
 kids : ∀ i (h : i < cs.length), i < j → Nd w (span (s i) (e i)) (ps i) cs[i]
 at' : ∀ i, i < j → bn < s i ∧ e i ≤ w.heap.size
 apart : ∀ i, i + 1 < j → e i ≤ s (i + 1)
 far : ∀ k, vk.ownBlock = some k → ∀ i, i < j → k < s i ∨ e i ≤ k
end Go.Proofs.Ytananonjomfpkaa
