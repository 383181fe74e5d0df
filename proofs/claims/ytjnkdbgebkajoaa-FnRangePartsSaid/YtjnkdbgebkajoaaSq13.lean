/- The model's HasKey and VisitsOf, and the program's, over PathOf. -/
import Derived.Test.YtjnkdbgebkajoaaProg
import Derived.Test.YtjnkdbgebkajoaaSq0
import Derived.Test.YtjnkdbgebkajoaaSq4
import Derived.Test.YtjnkdbgebkajoaaPlant
import Derived.Test.YtjnkdbgebkajoaaSq10
import Derived.Test.YtjnkdbgebkajoaaSq11
import Derived.Test.YtjnkdbgebkajoaaPathTo
import Derived.Test.YtjnkdbgebkajoaaSq6
import Derived.Test.YtjnkdbgebkajoaaPathSpec

/- The contract of the program's PathOf. -/
namespace Go.Proofs.Ytjnkdbgebkajoaa
open Go.RowKit

set_option maxRecDepth 100000 in
set_option maxHeartbeats 2000000 in
theorem impl_path {w : World} {B : Nat} {kv cv : Value} {t : Tr} (ht : TreeIn w B kv cv t) (hw : t.weight ≤ 1048576) (key : Int) (w' : World) (hbw : Below B w w') (hB : B ≤ w'.heap.size) :
    Calls Try.prog 39 #[.agg #[kv, cv], .int .i64 key] w' fun e w'' => ∃ v, e = .returned (.tuple #[v, .bool (t.pathB key).2]) ∧ IntsOwn w'' w'.heap.size v (t.pathB key).1 ∧ Below w'.heap.size w' w'' := by
  obtain ⟨a5, n5, m5, a6, n6, m6, rfl, rfl⟩ := ht.slices
  obtain ⟨W1, hW1⟩ : ∃ W1, W1 = w'.alloc (.cells #[.slice a5 n5 m5, .slice a6 n6 m6] 26) := ⟨_, rfl⟩
  have hs1 : W1.heap.size = w'.heap.size + 1 := by rw [hW1]; simp
  have hb1 : Below w'.heap.size w' W1 := by rw [hW1]; exact (Below.refl _ _).alloc (Nat.le_refl _) _
  have k0 : W1.heap[w'.heap.size]? = some (.cells #[.slice a5 n5 m5, .slice a6 n6 m6] 26 (0, 0)) := by rw [hW1, new_blk]
  obtain ⟨x1, x2, x3, x4⟩ := box2 k0
  have hsome := someB_path key t
  have HT := Lib.hid ht
  have HBW := Lib.hid hbw
  have HW1 := Lib.hid hW1
  have H1 := Lib.hid (And.intro hb1 k0)
  have HSOME := Lib.hid hsome
  clear ht hbw hW1 hb1 k0 hsome
  go_enter Try.func39, Try.ntmps39
  go_wp2_with fail
  rw [← HW1.out]
  refine (validForSome_c HT.out hw W1 (HBW.out.trans (H1.out.1.mono hB)) (by omega)).mono ?_
  rintro e w2 ⟨rfl, hb2⟩
  have hs2 := hb2.size
  clear x1 x2 x3 x4
  have j0 := (hb2.block _ (by omega)).trans H1.out.2
  obtain ⟨x1, x2, x3, x4⟩ := box2 j0
  have hb2' := H1.out.1.trans (hb2.mono (by omega))
  have H2 := Lib.hid hb2'
  have HB2 := Lib.hid (HBW.out.trans (hb2'.mono hB))
  clear hb2 hb2' j0
  cases hv : t.someB with
  | false =>
    have hp := HSOME.out.2 hv
    have HP := Lib.hid hp
    clear hp hv
    go_wp2_with fail
    refine bodyPost_ret (v := .tuple #[.slice none 0 0, .bool false]) (by simp [results, Try.results39, go_sem]) rfl ⟨.slice none 0 0, by rw [HP.out], by rw [HP.out]; exact ⟨rfl, .inl ⟨rfl, rfl⟩⟩, H2.out⟩
  | true =>
    have hp := HSOME.out.1 hv
    have hwell := Tr.Well.of_some hv
    have HP := Lib.hid hp
    have HWELL := Lib.hid hwell
    clear hp hv hwell
    go_wp2_with fail
    refine (plant_c HT.out hw _ HB2.out (by omega)).mono ?_
    rintro e w3 ⟨nb, rfl, hnd, hb3⟩
    have hs3 := hb3.size
    have HND := Lib.hid (And.intro hnd hb3)
    clear hnd hb3 x1 x2 x3 x4
    go_wp2_with fail
    refine (pathTo_c HND.out.1.nodeAt HWELL.out hw key w3 (Below.refl _ _) (Nat.le_refl _)).mono ?_
    rintro e w4 ⟨v, rfl, hown, hb4⟩
    obtain ⟨va, vc, rfl⟩ := IntsOwn.shown hown
    have H4 := Lib.hid (And.intro hown (H2.out.trans ((HND.out.2.mono (by omega)).trans (hb4.mono (by omega)))))
    clear hown hb4
    go_wp2_with fail
    refine bodyPost_ret (v := .tuple #[.slice va (t.path key).1.length vc, .bool (t.path key).2]) (by simp [results, Try.results39, go_sem]) rfl ⟨_, by rw [HP.out], by rw [HP.out]; exact IntsOwn.lower H4.out.1 (by omega), H4.out.2⟩
end Go.Proofs.Ytjnkdbgebkajoaa

/- The model's HasKey and VisitsOf, and the program's, over PathOf. -/
namespace Go.Proofs.Ytjnkdbgebkajoaa
open Go.RowKit

theorem tuple_ret {a : Value} {c d : Bool} (h : c = d) : Ending.returned (.tuple #[a, .bool c]) = .returned (.tuple #[a, .bool d]) := by rw [h]

set_option maxHeartbeats 1000000 in
theorem specHasKey_c {w : World} {B : Nat} {kv cv : Value} {t : Tr} (ht : TreeIn w B kv cv t) (hw : t.weight ≤ 1048576) (key : Int) (w' : World) (hbw : Below B w w') (hB : B ≤ w'.heap.size) :
    Calls Try.prog 115 #[.agg #[kv, cv], .int .i64 key] w' fun e w'' => e = .returned (.bool (t.pathB key).2) ∧ Below w'.heap.size w' w'' := by
  have HB := Lib.hid hbw
  have hb1 : Below w'.heap.size w' (w'.alloc (.cells #[kv, cv] 26)) := (Below.refl _ _).alloc (Nat.le_refl _) _
  clear hbw
  go_enter Try.func115, Try.ntmps115
  go_wp2_with fail
  refine (specPathOf_c ht hw key _ (HB.out.trans (hb1.mono hB)) (by simp; omega)).mono ?_
  rintro e w1 ⟨v, rfl, hv, hb2⟩
  obtain ⟨va, vc, rfl⟩ := IntsOwn.shown hv
  have HX := Lib.hid (hb1.trans (hb2.mono (by simp)))
  clear hb1 hb2 hv
  go_wp2_with fail
  go_ret
  exact ⟨rfl, HX.out⟩

set_option maxHeartbeats 1000000 in
theorem impl_has {w : World} {B : Nat} {kv cv : Value} {t : Tr} (ht : TreeIn w B kv cv t) (hw : t.weight ≤ 1048576) (key : Int) (w' : World) (hbw : Below B w w') (hB : B ≤ w'.heap.size) :
    Calls Try.prog 31 #[.agg #[kv, cv], .int .i64 key] w' fun e w'' => e = .returned (.bool (t.pathB key).2) ∧ Below w'.heap.size w' w'' := by
  have HB := Lib.hid hbw
  have hb1 : Below w'.heap.size w' (w'.alloc (.cells #[kv, cv] 26)) := (Below.refl _ _).alloc (Nat.le_refl _) _
  clear hbw
  go_enter Try.func31, Try.ntmps31
  go_wp2_with fail
  refine (impl_path ht hw key _ (HB.out.trans (hb1.mono hB)) (by simp; omega)).mono ?_
  rintro e w1 ⟨v, rfl, hv, hb2⟩
  obtain ⟨va, vc, rfl⟩ := IntsOwn.shown hv
  have HX := Lib.hid (hb1.trans (hb2.mono (by simp)))
  clear hb1 hb2 hv
  go_wp2_with fail
  go_ret
  exact ⟨rfl, HX.out⟩

/-- How many nodes are visited. -/
def Tr.visitsB (key : Int) (t : Tr) : Int := if t.someB then ((t.pathB key).1.length : Int) + 1 else -1
theorem visitsB_is (key : Int) (t : Tr) : (t.someB = true → t.visitsB key = ((t.pathB key).1.length : Int) + 1) ∧ (t.someB = false → t.visitsB key = -1) := by
  unfold Tr.visitsB
  constructor <;> intro h <;> simp [h]
theorem pathB_len (key : Int) (t : Tr) : (t.pathB key).1.length ≤ t.weight := by
  unfold Tr.pathB
  split
  · exact Tr.path_len key t
  · simp

-- OPT
set_option maxHeartbeats 1000000 in
theorem specVisitsOf_c {w : World} {B : Nat} {kv cv : Value} {t : Tr} (ht : TreeIn w B kv cv t) (hw : t.weight ≤ 1048576) (key : Int) (w' : World) (hbw : Below B w w') (hB : B ≤ w'.heap.size) :
    Calls Try.prog 42 #[.agg #[kv, cv], .int .i64 key] w' fun e w'' => e = .returned (.int .i64 (t.visitsB key)) ∧ Below w'.heap.size w' w'' := by
  obtain ⟨a5, n5, m5, a6, n6, m6, rfl, rfl⟩ := ht.slices
  obtain ⟨W1, hW1⟩ : ∃ W1, W1 = w'.alloc (.cells #[.slice a5 n5 m5, .slice a6 n6 m6] 26) := ⟨_, rfl⟩
  have hs1 : W1.heap.size = w'.heap.size + 1 := by rw [hW1]; simp
  have hb1 : Below w'.heap.size w' W1 := by rw [hW1]; exact (Below.refl _ _).alloc (Nat.le_refl _) _
  have kb : W1.heap[w'.heap.size]? = some (.cells #[.slice a5 n5 m5, .slice a6 n6 m6] 26 (0, 0)) := by rw [hW1, new_blk]
  obtain ⟨x1, x2, x3, x4⟩ := box2 kb
  have hv := visitsB_is key t
  have hl := pathB_len key t
  have HB := Lib.hid hbw
  have HT := Lib.hid ht
  have HW1 := Lib.hid hW1
  have H1 := Lib.hid (And.intro hb1 kb)
  have HV := Lib.hid hv
  clear hbw ht hW1 hb1 kb hv
  go_enter Try.func42, Try.ntmps42
  go_wp2_with fail
  rw [← HW1.out]
  refine (specPathOf_c HT.out hw key _ (HB.out.trans (H1.out.1.mono hB)) (by omega)).mono ?_
  rintro e w2 ⟨v, rfl, hv, hb2⟩
  obtain ⟨va, vc, rfl⟩ := IntsOwn.shown hv
  have hs2 := hb2.size
  have kb2 := (hb2.block w'.heap.size (by omega)).trans H1.out.2
  clear x1 x2 x3 x4
  obtain ⟨x1, x2, x3, x4⟩ := box2 kb2
  have H2 := Lib.hid (H1.out.1.trans (hb2.mono (by omega)))
  clear hb2 hv kb2
  go_wp2_with fail
  refine (l2Valid_c HT.out hw w2 (HB.out.trans (H2.out.mono hB)) (by omega)).mono ?_
  rintro e w3 ⟨rfl, hb3⟩
  have H3 := Lib.hid (H2.out.trans (hb3.mono (by omega)))
  clear hb3 x1 x2 x3 x4
  cases hsb : t.someB with
  | false =>
    have h := HV.out.2 hsb
    have HZ := Lib.hid h
    have HSB := Lib.hid hsb
    clear h hsb
    go_wp2_with fail
    go_ret
    exact ⟨ret_int HZ.out.symm, H3.out⟩
  | true =>
    have h := HV.out.1 hsb
    have HZ := Lib.hid h
    have HSB := Lib.hid hsb
    clear h hsb
    go_wp2_with fail
    go_ret
    exact ⟨ret_int HZ.out.symm, H3.out⟩

-- END

set_option maxHeartbeats 1000000 in
theorem impl_visits {w : World} {B : Nat} {kv cv : Value} {t : Tr} (ht : TreeIn w B kv cv t) (hw : t.weight ≤ 1048576) (key : Int) (w' : World) (hbw : Below B w w') (hB : B ≤ w'.heap.size) :
    Calls Try.prog 41 #[.agg #[kv, cv], .int .i64 key] w' fun e w'' => e = .returned (.int .i64 (t.visitsB key)) ∧ Below w'.heap.size w' w'' := by
  obtain ⟨a5, n5, m5, a6, n6, m6, rfl, rfl⟩ := ht.slices
  obtain ⟨W1, hW1⟩ : ∃ W1, W1 = w'.alloc (.cells #[.slice a5 n5 m5, .slice a6 n6 m6] 26) := ⟨_, rfl⟩
  have hs1 : W1.heap.size = w'.heap.size + 1 := by rw [hW1]; simp
  have hb1 : Below w'.heap.size w' W1 := by rw [hW1]; exact (Below.refl _ _).alloc (Nat.le_refl _) _
  have kb : W1.heap[w'.heap.size]? = some (.cells #[.slice a5 n5 m5, .slice a6 n6 m6] 26 (0, 0)) := by rw [hW1, new_blk]
  obtain ⟨x1, x2, x3, x4⟩ := box2 kb
  have hv := visitsB_is key t
  have hl := pathB_len key t
  have HB := Lib.hid hbw
  have HT := Lib.hid ht
  have HW1 := Lib.hid hW1
  have H1 := Lib.hid (And.intro hb1 kb)
  have HV := Lib.hid hv
  clear hbw ht hW1 hb1 kb hv
  go_enter Try.func41, Try.ntmps41
  go_wp2_with fail
  rw [← HW1.out]
  refine (validForSome_c HT.out hw W1 (HB.out.trans (H1.out.1.mono hB)) (by omega)).mono ?_
  rintro e w2 ⟨rfl, hb2⟩
  have hs2 := hb2.size
  have kb2 := (hb2.block w'.heap.size (by omega)).trans H1.out.2
  clear x1 x2 x3 x4
  obtain ⟨x1, x2, x3, x4⟩ := box2 kb2
  have H2 := Lib.hid (H1.out.1.trans (hb2.mono (by omega)))
  clear hb2 kb2
  cases hsb : t.someB with
  | false =>
    have h := HV.out.2 hsb
    have HZ := Lib.hid h
    have HSB := Lib.hid hsb
    clear h hsb
    go_wp2_with fail
    go_ret
    exact ⟨ret_int HZ.out.symm, H2.out⟩
  | true =>
    have h := HV.out.1 hsb
    have HZ := Lib.hid h
    have HSB := Lib.hid hsb
    clear h hsb
    go_wp2_with fail
    refine (impl_path HT.out hw key _ (HB.out.trans (H2.out.mono hB)) (by omega)).mono ?_
    rintro e w3 ⟨v, rfl, hv, hb3⟩
    obtain ⟨va, vc, rfl⟩ := IntsOwn.shown hv
    have H3 := Lib.hid (H2.out.trans (hb3.mono (by omega)))
    clear hb3 hv x1 x2 x3 x4
    go_wp2_with fail
    go_ret
    exact ⟨ret_int HZ.out.symm, H3.out⟩

end Go.Proofs.Ytjnkdbgebkajoaa
