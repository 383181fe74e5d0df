/- A node that grows in a box of its own: its row of keys, its row of kids, the kids' trees apart from all three. -/
import Derived.Test.YticfkfjijnfcbaaDoorCv1
import Derived.Test.YticfkfjijnfcbaaDoorCv2
import Derived.Deep.AppendLies
namespace Go.Proofs.YticfkfjijnfcbaaDoor
open Go.RowKit
def kcells : List (Value × Value × Tr) → List Value
 | [] => []
 | x :: r => x.1 :: x.2.1 :: kcells r
structure Sown (W : World) (lo bx : Nat) (kv cvv : Value) (kk : List Int) (K : List (Value × Value × Tr)) : Prop where
 box : W.heap[bx]? = some (.cells #[kv, cvv] 33 (0, 0))
 hlo : lo ≤ bx
 keys : IntsOwn W lo kv kk
 row : W.ownsRow lo 33 2 cvv K.length (kcells K)
 kne : kv.ownBlock ≠ some bx
 cne : cvv.ownBlock ≠ some bx
 apart : ∀ k, kv.ownBlock = some k → cvv.ownBlock ≠ some k
 kids : ∀ x ∈ K, TreeQ W (fun k => lo ≤ k ∧ k < W.heap.size ∧ k ≠ bx ∧ kv.ownBlock ≠ some k ∧ cvv.ownBlock ≠ some k) x.1 x.2.1 x.2.2
theorem ownsRow_keep {w w' : World} {base : Nat} {e : TypeId} {size n : Nat} {v : Value} {xs : List Value} (h : w.ownsRow base e size v n xs) (hb : ∀ k, v.ownBlock = some k → w'.heap[k]? = w.heap[k]?) : w'.ownsRow base e size v n xs := by
 obtain ⟨h1, h2 | ⟨g, cap, cur, hv, hbb, hg, hr⟩⟩ := h
 · exact ⟨h1, .inl h2⟩
 · exact ⟨h1, .inr ⟨g, cap, cur, hv, hbb, (hb g (by rw [hv]; rfl)).trans hg, hr⟩⟩
end Go.Proofs.YticfkfjijnfcbaaDoor
