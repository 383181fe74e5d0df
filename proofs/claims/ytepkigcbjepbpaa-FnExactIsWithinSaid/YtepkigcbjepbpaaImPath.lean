/- The contract of the program's PathOf. -/
import Derived.Test.YtepkigcbjepbpaaProg
import Derived.Test.YtepkigcbjepbpaaBase
import Derived.Test.YtepkigcbjepbpaaApp
import Derived.Test.YtepkigcbjepbpaaNode
import Derived.Test.YtepkigcbjepbpaaPlant
import Derived.Test.YtepkigcbjepbpaaSomeImpl
import Derived.Test.YtepkigcbjepbpaaPathData
import Derived.Test.YtepkigcbjepbpaaWayIn
import Derived.Test.YtepkigcbjepbpaaPathTo
namespace Go.Proofs.Ytepkigcbjepbpaa
open Go.RowKit

set_option maxRecDepth 100000 in
set_option maxHeartbeats 2000000 in
theorem impl_path {w : World} {B : Nat} {kv cv : Value} {t : Tr} (ht : TreeIn w B kv cv t) (hw : t.weight ≤ 1048576) (key : Int) (w' : World) (hbw : Below B w w') (hB : B ≤ w'.heap.size) :
    Calls Try.prog 75 #[.agg #[kv, cv], .int .i64 key] w' fun e w'' => ∃ v, e = .returned (.tuple #[v, .bool (t.pathB key).2]) ∧ IntsOwn w'' w'.heap.size v (t.pathB key).1 ∧ Below w'.heap.size w' w'' := by
  obtain ⟨a5, n5, m5, a6, n6, m6, rfl, rfl⟩ := ht.slices
  obtain ⟨W1, hW1⟩ : ∃ W1, W1 = w'.alloc (.cells #[.slice a5 n5 m5, .slice a6 n6 m6] 29) := ⟨_, rfl⟩
  have hs1 : W1.heap.size = w'.heap.size + 1 := by rw [hW1]; simp
  have hb1 : Below w'.heap.size w' W1 := by rw [hW1]; exact (Below.refl _ _).alloc (Nat.le_refl _) _
  have k0 : W1.heap[w'.heap.size]? = some (.cells #[.slice a5 n5 m5, .slice a6 n6 m6] 29 (0, 0)) := by rw [hW1, new_blk]
  obtain ⟨x1, x2, x3, x4⟩ := box2 k0
  have hsome := someB_path key t
  have HT := Lib.hid ht
  have HBW := Lib.hid hbw
  have HW1 := Lib.hid hW1
  have H1 := Lib.hid (And.intro hb1 k0)
  have HSOME := Lib.hid hsome
  clear ht hbw hW1 hb1 k0 hsome
  go_enter Try.func75, Try.ntmps75
  go_wp2_with fail
  rw [← HW1.out]
  refine (validForSome_c HT.out hw W1 (HBW.out.trans (H1.out.1.mono hB)) (by omega)).mono ?_
  rintro e w2 ⟨rfl, hb2⟩
  have hs2 := hb2.size
  clear x1 x2 x3 x4
  have j0 := (hb2.block _ (by omega)).trans H1.out.2
  obtain ⟨x1, x2, x3, x4⟩ := box2 j0
  have hb2' := H1.out.1.trans (hb2.mono (by omega))
  have H2 := Lib.hid hb2'
  have HB2 := Lib.hid (HBW.out.trans (hb2'.mono hB))
  clear hb2 hb2' j0
  cases hv : t.someB with
  | false =>
    have hp := HSOME.out.2 hv
    have HP := Lib.hid hp
    clear hp hv
    go_wp2_with fail
    refine bodyPost_ret (v := .tuple #[.slice none 0 0, .bool false]) (by simp [results, Try.results75, go_sem]) rfl ⟨.slice none 0 0, by rw [HP.out], by rw [HP.out]; exact ⟨rfl, .inl ⟨rfl, rfl⟩⟩, H2.out⟩
  | true =>
    have hp := HSOME.out.1 hv
    have hwell := Tr.Well.of_some hv
    have HP := Lib.hid hp
    have HWELL := Lib.hid hwell
    clear hp hv hwell
    go_wp2_with fail
    refine (plant_c HT.out hw _ HB2.out (by omega)).mono ?_
    rintro e w3 ⟨nb, rfl, hnd, hb3⟩
    have hs3 := hb3.size
    have HND := Lib.hid (And.intro hnd hb3)
    clear hnd hb3 x1 x2 x3 x4
    go_wp2_with fail
    refine (pathTo_c HND.out.1.nodeAt HWELL.out hw key w3 (Below.refl _ _) (Nat.le_refl _)).mono ?_
    rintro e w4 ⟨v, rfl, hown, hb4⟩
    obtain ⟨va, vc, rfl⟩ := IntsOwn.shown hown
    have H4 := Lib.hid (And.intro hown (H2.out.trans ((HND.out.2.mono (by omega)).trans (hb4.mono (by omega)))))
    clear hown hb4
    go_wp2_with fail
    refine bodyPost_ret (v := .tuple #[.slice va (t.path key).1.length vc, .bool (t.path key).2]) (by simp [results, Try.results75, go_sem]) rfl ⟨_, by rw [HP.out], by rw [HP.out]; exact IntsOwn.lower H4.out.1 (by omega), H4.out.2⟩
end Go.Proofs.Ytepkigcbjepbpaa
