/- The contract of grownBy. -/
import Derived.Test.YtepkigcbjepbpaaProg
import Derived.Test.YtepkigcbjepbpaaDk0
import Derived.Test.YtepkigcbjepbpaaPathTo
import Derived.Test.YtepkigcbjepbpaaInsBelow
import Derived.Deep.Cut
import Derived.Test.YtepkigcbjepbpaaDk7
import Derived.Test.YtepkigcbjepbpaaDk5
import Derived.Test.YtepkigcbjepbpaaDk13
import Derived.Test.YtepkigcbjepbpaaPlantNd
import Derived.Test.YtepkigcbjepbpaaDk10

/- The contract of insert. -/
namespace Go.Proofs.Ytepkigcbjepbpaa
open Go.RowKit


end Go.Proofs.Ytepkigcbjepbpaa

/- The contract of grownBy. -/
namespace Go.Proofs.Ytepkigcbjepbpaa
open Go.RowKit

/-- Whether a key can be put into a tree. -/
def Tr.askedB (wide key : Int) (t : Tr) : Bool := Tr.validB wide t && (inB key 0 99 && !(t.pathB key).2)

theorem Tr.valid_some {wide : Int} {t : Tr} (h : Tr.validB wide t = true) : t.someB = true := by
  have hw := Tr.valid_wide h
  obtain ⟨q, hq⟩ : ∃ q : Nat, wide = (q : Int) := ⟨wide.toNat, by omega⟩
  subst hq
  exact (someB_of t).1 q (by omega) (by omega) h

theorem Tr.asked_path {wide key : Int} {t : Tr} (h : Tr.askedB wide key t = true) : Tr.validB wide t = true ∧ (t.path key).2 = false := by
  simp only [Tr.askedB, Bool.and_eq_true, Bool.not_eq_true'] at h
  refine ⟨h.1, ?_⟩
  have := (someB_path key t).1 (Tr.valid_some h.1)
  rw [← this]; exact h.2.2


end Go.Proofs.Ytepkigcbjepbpaa
