/- markTree over trees that a call owns, and heldTree: the marks are there. -/
import Derived.Test.YtananonjomfpkaaQhS28
namespace Go.Proofs.Ytananonjomfpkaa
open Go.RowKit
structure KeptB (P : Blocks) (w w' : World) : Prop where
 os : w'.os = w.os
 tape : w'.tape = w.tape
 output : w'.output = w.output
 size : w.heap.size ≤ w'.heap.size
 block : ∀ k, k < w.heap.size → ¬ P k → w'.heap[k]? = w.heap[k]?
end Go.Proofs.Ytananonjomfpkaa
