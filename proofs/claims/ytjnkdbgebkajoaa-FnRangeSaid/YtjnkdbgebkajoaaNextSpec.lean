/- The model's NextKey, PrevKey, RankOf. -/
import Derived.Test.YtjnkdbgebkajoaaProg
import Derived.Test.YtjnkdbgebkajoaaSq0
import Derived.Test.YtjnkdbgebkajoaaKeys
import Derived.Test.YtjnkdbgebkajoaaSq6
import Derived.Test.YtjnkdbgebkajoaaSq10
import Derived.Test.YtjnkdbgebkajoaaPathSpec
import Derived.Test.YtjnkdbgebkajoaaFindData
namespace Go.Proofs.Ytjnkdbgebkajoaa
open Go.RowKit

theorem next_at {key : Int} {ks : List Int} {j : Nat} (h : place (key + 1) ks = j) : Tr.optOr (ks.find? (fun x => decide (key + 1 ≤ x))) (0, false) = if j < ks.length then (ks.getD j 0, true) else (0, false) := by
  rw [find_place, h]
  by_cases hj : j < ks.length
  · rw [if_pos hj]; simp [Tr.optOr, hj, List.getD_eq_getElem?_getD]
  · rw [if_neg hj, List.getElem?_eq_none (by omega)]; rfl

theorem ret_ib {a a' : Int} {b b' : Bool} (h : a = a') (h2 : b = b') : Ending.returned (.tuple #[.int .i64 a, .bool b]) = .returned (.tuple #[.int .i64 a', .bool b']) := by rw [h, h2]


-- END


-- END

/-- How many keys are less than a number, in a tree that is valid. -/
def Tr.rankB (key : Int) (t : Tr) : Int := if t.someB then (place key t.keys : Int) else -1
theorem rankB_is (key : Int) (t : Tr) : (t.someB = true → t.rankB key = (place key t.keys : Int)) ∧ (t.someB = false → t.rankB key = -1) := by
  unfold Tr.rankB; constructor <;> intro h <;> simp [h]

set_option maxRecDepth 100000 in
set_option maxHeartbeats 1000000 in
theorem specRankOf_c {w : World} {B : Nat} {kv cv : Value} {t : Tr} (ht : TreeIn w B kv cv t) (hw : t.weight ≤ 1048576) (key : Int) (w' : World) (hbw : Below B w w') (hB : B ≤ w'.heap.size) :
    Calls Try.prog 32 #[.agg #[kv, cv], .int .i64 key] w' fun e w'' => e = .returned (.int .i64 (t.rankB key)) ∧ Below w'.heap.size w' w'' := by
  obtain ⟨a5, n5, m5, a6, n6, m6, rfl, rfl⟩ := ht.slices
  obtain ⟨W1, hW1⟩ : ∃ W1, W1 = w'.alloc (.cells #[.slice a5 n5 m5, .slice a6 n6 m6] 26) := ⟨_, rfl⟩
  have hs1 : W1.heap.size = w'.heap.size + 1 := by rw [hW1]; simp
  have hb1 : Below w'.heap.size w' W1 := by rw [hW1]; exact (Below.refl _ _).alloc (Nat.le_refl _) _
  have kb : W1.heap[w'.heap.size]? = some (.cells #[.slice a5 n5 m5, .slice a6 n6 m6] 26 (0, 0)) := by rw [hW1, new_blk]
  obtain ⟨x1, x2, x3, x4⟩ := box2 kb
  have hv := rankB_is key t
  have HB := Lib.hid hbw
  have HT := Lib.hid ht
  have HW1 := Lib.hid hW1
  have H1 := Lib.hid (And.intro hb1 kb)
  have HV := Lib.hid hv
  clear hbw ht hW1 hb1 kb hv
  go_enter Try.func32, Try.ntmps32
  go_wp2_with fail
  rw [← HW1.out]
  refine (l2Valid_c HT.out hw W1 (HB.out.trans (H1.out.1.mono hB)) (by omega)).mono ?_
  rintro e w2 ⟨rfl, hb2⟩
  have hs2 := hb2.size
  have kb2 := (hb2.block w'.heap.size (by omega)).trans H1.out.2
  clear x1 x2 x3 x4
  obtain ⟨x1, x2, x3, x4⟩ := box2 kb2
  have H2 := Lib.hid (H1.out.1.trans (hb2.mono (by omega)))
  clear hb2 kb2
  cases hsb : t.someB with
  | false =>
    have h := HV.out.2 hsb
    have HZ := Lib.hid h
    have HSB := Lib.hid hsb
    clear h hsb
    go_wp2_with fail
    go_ret
    exact ⟨ret_int HZ.out.symm, H2.out⟩
  | true =>
    have h := HV.out.1 hsb
    have HZ := Lib.hid h
    have HSB := Lib.hid hsb
    clear h hsb
    go_wp2_with fail
    refine (specKeys_c HT.out hw _ (HB.out.trans (H2.out.mono hB)) (by omega)).mono ?_
    rintro e w3 ⟨v, rfl, hv, hb3⟩
    obtain ⟨va, vc, rfl⟩ := IntsOwn.shown hv
    have hki := IntsOwn.in hv
    have H3 := Lib.hid (H2.out.trans (hb3.mono (by omega)))
    have hs3 := hb3.size
    have HKI := Lib.hid hki
    clear hb3 hv hki x1 x2 x3 x4
    go_wp2_with fail
    refine (l2Place_c w3 w3.heap.size HKI.out key).mono ?_
    rintro e w4 ⟨rfl, hb4⟩
    have H4 := Lib.hid (H3.out.trans (hb4.mono (by omega)))
    clear hb4
    go_wp2_with fail
    go_ret
    exact ⟨ret_int HZ.out.symm, H4.out⟩

end Go.Proofs.Ytjnkdbgebkajoaa
