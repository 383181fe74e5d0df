/- The model's NextKey, PrevKey, RankOf. -/
import Derived.Test.YtggmmfibkcdjbaaProg
import Derived.Test.YtggmmfibkcdjbaaBase
import Derived.Test.YtggmmfibkcdjbaaApp
import Derived.Test.YtggmmfibkcdjbaaKeys
import Derived.Test.YtggmmfibkcdjbaaSomeSpec
import Derived.Test.YtggmmfibkcdjbaaPathData
import Derived.Test.YtggmmfibkcdjbaaPathSpec
import Derived.Test.YtggmmfibkcdjbaaFindData
namespace Go.Proofs.Ytggmmfibkcdjbaa
open Go.RowKit

theorem next_at {key : Int} {ks : List Int} {j : Nat} (h : place (key + 1) ks = j) : Tr.optOr (ks.find? (fun x => decide (key + 1 ≤ x))) (0, false) = if j < ks.length then (ks.getD j 0, true) else (0, false) := by
  rw [find_place, h]
  by_cases hj : j < ks.length
  · rw [if_pos hj]; simp [Tr.optOr, hj, List.getD_eq_getElem?_getD]
  · rw [if_neg hj, List.getElem?_eq_none (by omega)]; rfl

theorem ret_ib {a a' : Int} {b b' : Bool} (h : a = a') (h2 : b = b') : Ending.returned (.tuple #[.int .i64 a, .bool b]) = .returned (.tuple #[.int .i64 a', .bool b']) := by rw [h, h2]

set_option maxRecDepth 100000 in
set_option maxHeartbeats 1000000 in
theorem specNextKey_c {w : World} {B : Nat} {kv cv : Value} {t : Tr} (ht : TreeIn w B kv cv t) (hw : t.weight ≤ 1048576) (key : Int) (w' : World) (hbw : Below B w w') (hB : B ≤ w'.heap.size) :
    Calls Try.prog 48 #[.agg #[kv, cv], .int .i64 key] w' fun e w'' => e = .returned (.tuple #[.int .i64 (t.nextB key).1, .bool (t.nextB key).2]) ∧ Below w'.heap.size w' w'' := by
  obtain ⟨a5, n5, m5, a6, n6, m6, rfl, rfl⟩ := ht.slices
  obtain ⟨W1, hW1⟩ : ∃ W1, W1 = w'.alloc (.cells #[.slice a5 n5 m5, .slice a6 n6 m6] 30) := ⟨_, rfl⟩
  have hs1 : W1.heap.size = w'.heap.size + 1 := by rw [hW1]; simp
  have hb1 : Below w'.heap.size w' W1 := by rw [hW1]; exact (Below.refl _ _).alloc (Nat.le_refl _) _
  have kb : W1.heap[w'.heap.size]? = some (.cells #[.slice a5 n5 m5, .slice a6 n6 m6] 30 (0, 0)) := by rw [hW1, new_blk]
  obtain ⟨x1, x2, x3, x4⟩ := box2 kb
  have hv := Tr.nextB_is key t
  have hl := Tr.keys_length_le t
  have HB := Lib.hid hbw
  have HT := Lib.hid ht
  have HW1 := Lib.hid hW1
  have H1 := Lib.hid (And.intro hb1 kb)
  have HV := Lib.hid hv
  clear hbw ht hW1 hb1 kb hv
  go_enter Try.func48, Try.ntmps48
  go_wp2_with fail
  rw [← HW1.out]
  refine (l2Valid_c HT.out hw W1 (HB.out.trans (H1.out.1.mono hB)) (by omega)).mono ?_
  rintro e w2 ⟨rfl, hb2⟩
  have hs2 := hb2.size
  have kb2 := (hb2.block w'.heap.size (by omega)).trans H1.out.2
  clear x1 x2 x3 x4
  obtain ⟨x1, x2, x3, x4⟩ := box2 kb2
  have H2 := Lib.hid (H1.out.1.trans (hb2.mono (by omega)))
  clear hb2 kb2
  cases hsb : t.someB with
  | false =>
    have h := HV.out.2 hsb
    have HZ := Lib.hid h
    have HSB := Lib.hid hsb
    clear h hsb
    go_wp2_with fail
    go_ret2
    exact ⟨ret_ib (by rw [HZ.out]) (by rw [HZ.out]), H2.out⟩
  | true =>
    have h := HV.out.1 hsb
    have HZ := Lib.hid h
    have HSB := Lib.hid hsb
    clear h hsb
    go_wp2_with fail
    refine (specKeys_c HT.out hw _ (HB.out.trans (H2.out.mono hB)) (by omega)).mono ?_
    rintro e w3 ⟨v, rfl, hv, hb3⟩
    obtain ⟨va, vc, rfl⟩ := IntsOwn.shown hv
    have hki := IntsOwn.in hv
    have H3 := Lib.hid (H2.out.trans (hb3.mono (by omega)))
    have HKI := Lib.hid hki
    clear hb3 hv hki x1 x2 x3 x4
    generalize t.keys = ks at HKI HZ hl
    go_wp2_with fail
    go_loop [14] (fun i => ∃ j : Nat, j ≤ ks.length ∧ i = .int .i64 j ∧ ∀ q, q < j → ks.getD q 0 < key + 1) (fun i => ks.length - (intOf i).toNat)
    case atStart => exact ⟨0, Nat.zero_le _, rfl, fun q h => by omega⟩
    case round =>
      obtain ⟨j, hj, rfl, hall⟩ := hrel
      have HALL := Lib.hid hall
      clear hall
      by_cases hlt : j < ks.length
      · obtain ⟨_, _, hv, h1, h2, _, h⟩ := HKI.out
        injection hv with e1 _ e3
        subst e1 e3
        rcases h with h | ⟨b, off, rfl, hb, hat⟩
        · rw [h] at hlt; simp at hlt
        have ha' : w3.cell? ⟨b, off + j, none⟩ = some (.int .i64 (ks.getD j 0)) := hat j hlt
        obtain ⟨x, hx⟩ : ∃ x, x = ks.getD j 0 := ⟨_, rfl⟩
        rw [← hx] at ha'
        have HX := Lib.hid hx
        have hlt' : (j : Int) < (ks.length : Int) := by omega
        clear hat hx
        unfold maxLen at h2
        by_cases hgt : key < x
        · have hp : place (key + 1) ks = j := place_eq hj HALL.out (fun _ => by rw [← HX.out]; omega)
          have HP := Lib.hid (HZ.out.trans (next_at hp))
          clear hp
          go_wp2_with fail
          go_ret2
          exact ⟨ret_ib (by rw [HP.out, if_pos hlt, HX.out]) (by rw [HP.out, if_pos hlt]), H3.out⟩
        · have hgt' : ¬ (x > key) := by omega
          go_wp2_with fail
          go_round
          case rel =>
            refine ⟨j + 1, by omega, by go_num, fun q hq => ?_⟩
            by_cases hqj : q = j
            · rw [hqj, ← HX.out]; omega
            · exact HALL.out q (by omega)
          case measure => simp [intOf]; omega
      · have hp : place (key + 1) ks = j := place_eq hj HALL.out (fun h => absurd h hlt)
        have HP := Lib.hid (HZ.out.trans (next_at hp))
        have hlt' : ¬ (j : Int) < (ks.length : Int) := by omega
        clear hp
        go_wp2_with fail
        go_ret2
        exact ⟨ret_ib (by rw [HP.out, if_neg hlt]) (by rw [HP.out, if_neg hlt]), H3.out⟩

set_option maxRecDepth 100000 in
set_option maxHeartbeats 1000000 in
theorem specPrevKey_c {w : World} {B : Nat} {kv cv : Value} {t : Tr} (ht : TreeIn w B kv cv t) (hw : t.weight ≤ 1048576) (key : Int) (w' : World) (hbw : Below B w w') (hB : B ≤ w'.heap.size) :
    Calls Try.prog 50 #[.agg #[kv, cv], .int .i64 key] w' fun e w'' => e = .returned (.tuple #[.int .i64 (t.prevB key).1, .bool (t.prevB key).2]) ∧ Below w'.heap.size w' w'' := by
  obtain ⟨a5, n5, m5, a6, n6, m6, rfl, rfl⟩ := ht.slices
  obtain ⟨W1, hW1⟩ : ∃ W1, W1 = w'.alloc (.cells #[.slice a5 n5 m5, .slice a6 n6 m6] 30) := ⟨_, rfl⟩
  have hs1 : W1.heap.size = w'.heap.size + 1 := by rw [hW1]; simp
  have hb1 : Below w'.heap.size w' W1 := by rw [hW1]; exact (Below.refl _ _).alloc (Nat.le_refl _) _
  have kb : W1.heap[w'.heap.size]? = some (.cells #[.slice a5 n5 m5, .slice a6 n6 m6] 30 (0, 0)) := by rw [hW1, new_blk]
  obtain ⟨x1, x2, x3, x4⟩ := box2 kb
  have hv := Tr.prevB_is key t
  have hl := Tr.keys_length_le t
  have HB := Lib.hid hbw
  have HT := Lib.hid ht
  have HW1 := Lib.hid hW1
  have H1 := Lib.hid (And.intro hb1 kb)
  have HV := Lib.hid hv
  clear hbw ht hW1 hb1 kb hv
  go_enter Try.func50, Try.ntmps50
  go_wp2_with fail
  rw [← HW1.out]
  refine (l2Valid_c HT.out hw W1 (HB.out.trans (H1.out.1.mono hB)) (by omega)).mono ?_
  rintro e w2 ⟨rfl, hb2⟩
  have hs2 := hb2.size
  have kb2 := (hb2.block w'.heap.size (by omega)).trans H1.out.2
  clear x1 x2 x3 x4
  obtain ⟨x1, x2, x3, x4⟩ := box2 kb2
  have H2 := Lib.hid (H1.out.1.trans (hb2.mono (by omega)))
  clear hb2 kb2
  cases hsb : t.someB with
  | false =>
    have h := HV.out.2 hsb
    have HZ := Lib.hid h
    have HSB := Lib.hid hsb
    clear h hsb
    go_wp2_with fail
    go_ret2
    exact ⟨ret_ib (by rw [HZ.out]) (by rw [HZ.out]), H2.out⟩
  | true =>
    have h := HV.out.1 hsb
    have HZ := Lib.hid h
    have HSB := Lib.hid hsb
    clear h hsb
    go_wp2_with fail
    refine (specKeys_c HT.out hw _ (HB.out.trans (H2.out.mono hB)) (by omega)).mono ?_
    rintro e w3 ⟨v, rfl, hv, hb3⟩
    obtain ⟨va, vc, rfl⟩ := IntsOwn.shown hv
    have hki := IntsOwn.in hv
    have H3 := Lib.hid (H2.out.trans (hb3.mono (by omega)))
    have hs3 := hb3.size
    have HKI := Lib.hid hki
    clear hb3 hv hki x1 x2 x3 x4
    generalize t.keys = ks at HKI HZ hl
    go_wp2_with fail
    refine (l2Place_c w3 w3.heap.size HKI.out key).mono ?_
    rintro e w4 ⟨rfl, hb4⟩
    have hki4 := HKI.out.later hb4 (Nat.le_refl _)
    have HK4 := Lib.hid hki4
    have H4 := Lib.hid (H3.out.trans (hb4.mono (by omega)))
    have hpl := place_le key ks
    unfold Tr.prevOf at HZ
    obtain ⟨i, hi⟩ : ∃ i, i = place key ks := ⟨_, rfl⟩
    rw [← hi] at HZ hpl ⊢
    clear hb4 hki4 hi
    by_cases h0 : i = 0
    · subst h0
      go_wp2_with fail
      go_ret2
      exact ⟨ret_ib (by rw [HZ.out, if_neg (by omega)]) (by rw [HZ.out, if_neg (by omega)]), H4.out⟩
    · obtain ⟨j, rfl⟩ : ∃ j, i = j + 1 := ⟨i - 1, by omega⟩
      have h0' : (((j + 1 : Nat) : Int) == 0) = false := by rw [beq_eq_false_iff_ne]; omega
      have h0'' : (((j : Int) + 1) == 0) = false := by rw [beq_eq_false_iff_ne]; omega
      have hju : ((j + 1 : Nat) : Int) - 1 = (j : Int) := by omega
      obtain ⟨_, _, hv, h1, h2, _, h⟩ := HK4.out
      injection hv with e1 _ e3
      subst e1 e3
      rcases h with h | ⟨b, off, rfl, hb, hat⟩
      · rw [h] at hpl; simp at hpl
      have ha' : w4.cell? ⟨b, off + j, none⟩ = some (.int .i64 (ks.getD j 0)) := hat j (by omega)
      obtain ⟨x, hx⟩ : ∃ x, x = ks.getD j 0 := ⟨_, rfl⟩
      rw [← hx] at ha'
      have HX := Lib.hid hx
      have hlt' : (j : Int) < (ks.length : Int) := by omega
      clear hat hx h0
      unfold maxLen at h2
      go_wp2_with fail
      go_ret2
      exact ⟨ret_ib (by rw [HZ.out, if_pos (by omega), Nat.add_sub_cancel]; exact HX.out) (by rw [HZ.out, if_pos (by omega)]), H4.out⟩

/-- How many keys are less than a number, in a tree that is valid. -/
def Tr.rankB (key : Int) (t : Tr) : Int := if t.someB then (place key t.keys : Int) else -1
theorem rankB_is (key : Int) (t : Tr) : (t.someB = true → t.rankB key = (place key t.keys : Int)) ∧ (t.someB = false → t.rankB key = -1) := by
  unfold Tr.rankB; constructor <;> intro h <;> simp [h]

set_option maxRecDepth 100000 in
set_option maxHeartbeats 1000000 in
theorem specRankOf_c {w : World} {B : Nat} {kv cv : Value} {t : Tr} (ht : TreeIn w B kv cv t) (hw : t.weight ≤ 1048576) (key : Int) (w' : World) (hbw : Below B w w') (hB : B ≤ w'.heap.size) :
    Calls Try.prog 44 #[.agg #[kv, cv], .int .i64 key] w' fun e w'' => e = .returned (.int .i64 (t.rankB key)) ∧ Below w'.heap.size w' w'' := by
  obtain ⟨a5, n5, m5, a6, n6, m6, rfl, rfl⟩ := ht.slices
  obtain ⟨W1, hW1⟩ : ∃ W1, W1 = w'.alloc (.cells #[.slice a5 n5 m5, .slice a6 n6 m6] 30) := ⟨_, rfl⟩
  have hs1 : W1.heap.size = w'.heap.size + 1 := by rw [hW1]; simp
  have hb1 : Below w'.heap.size w' W1 := by rw [hW1]; exact (Below.refl _ _).alloc (Nat.le_refl _) _
  have kb : W1.heap[w'.heap.size]? = some (.cells #[.slice a5 n5 m5, .slice a6 n6 m6] 30 (0, 0)) := by rw [hW1, new_blk]
  obtain ⟨x1, x2, x3, x4⟩ := box2 kb
  have hv := rankB_is key t
  have HB := Lib.hid hbw
  have HT := Lib.hid ht
  have HW1 := Lib.hid hW1
  have H1 := Lib.hid (And.intro hb1 kb)
  have HV := Lib.hid hv
  clear hbw ht hW1 hb1 kb hv
  go_enter Try.func44, Try.ntmps44
  go_wp2_with fail
  rw [← HW1.out]
  refine (l2Valid_c HT.out hw W1 (HB.out.trans (H1.out.1.mono hB)) (by omega)).mono ?_
  rintro e w2 ⟨rfl, hb2⟩
  have hs2 := hb2.size
  have kb2 := (hb2.block w'.heap.size (by omega)).trans H1.out.2
  clear x1 x2 x3 x4
  obtain ⟨x1, x2, x3, x4⟩ := box2 kb2
  have H2 := Lib.hid (H1.out.1.trans (hb2.mono (by omega)))
  clear hb2 kb2
  cases hsb : t.someB with
  | false =>
    have h := HV.out.2 hsb
    have HZ := Lib.hid h
    have HSB := Lib.hid hsb
    clear h hsb
    go_wp2_with fail
    go_ret
    exact ⟨ret_int HZ.out.symm, H2.out⟩
  | true =>
    have h := HV.out.1 hsb
    have HZ := Lib.hid h
    have HSB := Lib.hid hsb
    clear h hsb
    go_wp2_with fail
    refine (specKeys_c HT.out hw _ (HB.out.trans (H2.out.mono hB)) (by omega)).mono ?_
    rintro e w3 ⟨v, rfl, hv, hb3⟩
    obtain ⟨va, vc, rfl⟩ := IntsOwn.shown hv
    have hki := IntsOwn.in hv
    have H3 := Lib.hid (H2.out.trans (hb3.mono (by omega)))
    have hs3 := hb3.size
    have HKI := Lib.hid hki
    clear hb3 hv hki x1 x2 x3 x4
    go_wp2_with fail
    refine (l2Place_c w3 w3.heap.size HKI.out key).mono ?_
    rintro e w4 ⟨rfl, hb4⟩
    have H4 := Lib.hid (H3.out.trans (hb4.mono (by omega)))
    clear hb4
    go_wp2_with fail
    go_ret
    exact ⟨ret_int HZ.out.symm, H4.out⟩
end Go.Proofs.Ytggmmfibkcdjbaa
