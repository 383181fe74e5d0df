/- The model's HasKey and VisitsOf, and the program's, over PathOf. -/
import Derived.Test.YtepkigcbjepbpaaProg
import Derived.Test.YtepkigcbjepbpaaBase
import Derived.Test.YtepkigcbjepbpaaApp
import Derived.Test.YtepkigcbjepbpaaSomeSpec
import Derived.Test.YtepkigcbjepbpaaSomeImpl
import Derived.Test.YtepkigcbjepbpaaPathData
import Derived.Test.YtepkigcbjepbpaaPathSpec
import Derived.Test.YtepkigcbjepbpaaImPath
namespace Go.Proofs.Ytepkigcbjepbpaa
open Go.RowKit

theorem tuple_ret {a : Value} {c d : Bool} (h : c = d) : Ending.returned (.tuple #[a, .bool c]) = .returned (.tuple #[a, .bool d]) := by rw [h]

set_option maxHeartbeats 1000000 in
theorem specHasKey_c {w : World} {B : Nat} {kv cv : Value} {t : Tr} (ht : TreeIn w B kv cv t) (hw : t.weight ≤ 1048576) (key : Int) (w' : World) (hbw : Below B w w') (hB : B ≤ w'.heap.size) :
    Calls Try.prog 83 #[.agg #[kv, cv], .int .i64 key] w' fun e w'' => e = .returned (.bool (t.pathB key).2) ∧ Below w'.heap.size w' w'' := by
  have HB := Lib.hid hbw
  have hb1 : Below w'.heap.size w' (w'.alloc (.cells #[kv, cv] 29)) := (Below.refl _ _).alloc (Nat.le_refl _) _
  clear hbw
  go_enter Try.func83, Try.ntmps83
  go_wp2_with fail
  refine (specPathOf_c ht hw key _ (HB.out.trans (hb1.mono hB)) (by simp; omega)).mono ?_
  rintro e w1 ⟨v, rfl, hv, hb2⟩
  obtain ⟨va, vc, rfl⟩ := IntsOwn.shown hv
  have HX := Lib.hid (hb1.trans (hb2.mono (by simp)))
  clear hb1 hb2 hv
  go_wp2_with fail
  go_ret
  exact ⟨rfl, HX.out⟩

set_option maxHeartbeats 1000000 in
theorem impl_has {w : World} {B : Nat} {kv cv : Value} {t : Tr} (ht : TreeIn w B kv cv t) (hw : t.weight ≤ 1048576) (key : Int) (w' : World) (hbw : Below B w w') (hB : B ≤ w'.heap.size) :
    Calls Try.prog 38 #[.agg #[kv, cv], .int .i64 key] w' fun e w'' => e = .returned (.bool (t.pathB key).2) ∧ Below w'.heap.size w' w'' := by
  have HB := Lib.hid hbw
  have hb1 : Below w'.heap.size w' (w'.alloc (.cells #[kv, cv] 29)) := (Below.refl _ _).alloc (Nat.le_refl _) _
  clear hbw
  go_enter Try.func38, Try.ntmps38
  go_wp2_with fail
  refine (impl_path ht hw key _ (HB.out.trans (hb1.mono hB)) (by simp; omega)).mono ?_
  rintro e w1 ⟨v, rfl, hv, hb2⟩
  obtain ⟨va, vc, rfl⟩ := IntsOwn.shown hv
  have HX := Lib.hid (hb1.trans (hb2.mono (by simp)))
  clear hb1 hb2 hv
  go_wp2_with fail
  go_ret
  exact ⟨rfl, HX.out⟩

/-- How many nodes are visited. -/
def Tr.visitsB (key : Int) (t : Tr) : Int := if t.someB then ((t.pathB key).1.length : Int) + 1 else -1
theorem visitsB_is (key : Int) (t : Tr) : (t.someB = true → t.visitsB key = ((t.pathB key).1.length : Int) + 1) ∧ (t.someB = false → t.visitsB key = -1) := by
  unfold Tr.visitsB
  constructor <;> intro h <;> simp [h]
theorem pathB_len (key : Int) (t : Tr) : (t.pathB key).1.length ≤ t.weight := by
  unfold Tr.pathB
  split
  · exact Tr.path_len key t
  · simp


-- END


end Go.Proofs.Ytepkigcbjepbpaa
