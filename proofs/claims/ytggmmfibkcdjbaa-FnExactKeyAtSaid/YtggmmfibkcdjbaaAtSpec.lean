/- The model's KeyAt. -/
import Derived.Test.YtggmmfibkcdjbaaProg
import Derived.Test.YtggmmfibkcdjbaaBase
import Derived.Test.YtggmmfibkcdjbaaApp
import Derived.Test.YtggmmfibkcdjbaaKeys
import Derived.Test.YtggmmfibkcdjbaaValid
import Derived.Test.YtggmmfibkcdjbaaSomeSpec
import Derived.Test.YtggmmfibkcdjbaaPathData
import Derived.Test.YtggmmfibkcdjbaaFindData
import Derived.Test.YtggmmfibkcdjbaaNextSpec
namespace Go.Proofs.Ytggmmfibkcdjbaa
open Go.RowKit

/-- The key with so many less ones. -/
def keyL (keys : List Int) (r : Int) : Int × Bool := if 0 ≤ r ∧ r < (keys.length : Int) then (keys.getD r.toNat 0, true) else (0, false)
def Tr.keyAtB (r : Int) (t : Tr) : Int × Bool := if t.someB then keyL t.keys r else (0, false)
theorem keyAtB_is (r : Int) (t : Tr) : (t.someB = true → t.keyAtB r = keyL t.keys r) ∧ (t.someB = false → t.keyAtB r = (0, false)) := by
  unfold Tr.keyAtB; constructor <;> intro h <;> simp [h]

set_option maxRecDepth 100000 in
set_option maxHeartbeats 2000000 in
theorem specKeyAt_c {w : World} {B : Nat} {kv cv : Value} {t : Tr} (ht : TreeIn w B kv cv t) (hw : t.weight ≤ 1048576) (r : Int) (w' : World) (hbw : Below B w w') (hB : B ≤ w'.heap.size) :
    Calls Try.prog 46 #[.agg #[kv, cv], .int .i64 r] w' fun e w'' => e = .returned (.tuple #[.int .i64 (t.keyAtB r).1, .bool (t.keyAtB r).2]) ∧ Below w'.heap.size w' w'' := by
  obtain ⟨a5, n5, m5, a6, n6, m6, rfl, rfl⟩ := ht.slices
  obtain ⟨W1, hW1⟩ : ∃ W1, W1 = w'.alloc (.cells #[.slice a5 n5 m5, .slice a6 n6 m6] 30) := ⟨_, rfl⟩
  have hs1 : W1.heap.size = w'.heap.size + 1 := by rw [hW1]; simp
  have hb1 : Below w'.heap.size w' W1 := by rw [hW1]; exact (Below.refl _ _).alloc (Nat.le_refl _) _
  have kb : W1.heap[w'.heap.size]? = some (.cells #[.slice a5 n5 m5, .slice a6 n6 m6] 30 (0, 0)) := by rw [hW1, new_blk]
  obtain ⟨x1, x2, x3, x4⟩ := box2 kb
  have hv := keyAtB_is r t
  have hl := Tr.keys_length_le t
  have HB := Lib.hid hbw
  have HT := Lib.hid ht
  have HW1 := Lib.hid hW1
  have H1 := Lib.hid (And.intro hb1 kb)
  have HV := Lib.hid hv
  clear hbw ht hW1 hb1 kb hv
  go_enter Try.func46, Try.ntmps46
  go_wp2_with fail
  rw [← HW1.out]
  refine (specKeys_c HT.out hw _ (HB.out.trans (H1.out.1.mono hB)) (by omega)).mono ?_
  rintro e w2 ⟨v, rfl, hv, hb2⟩
  obtain ⟨va, vc, rfl⟩ := IntsOwn.shown hv
  have hki := IntsOwn.in hv
  have hs2 := hb2.size
  have kb2 := (hb2.block w'.heap.size (by omega)).trans H1.out.2
  clear x1 x2 x3 x4
  obtain ⟨x1, x2, x3, x4⟩ := box2 kb2
  have H2 := Lib.hid (H1.out.1.trans (hb2.mono (by omega)))
  have HKI := Lib.hid hki
  clear hb2 hv hki kb2
  go_wp2_with fail
  refine (l2Valid_c HT.out hw w2 (HB.out.trans (H2.out.mono hB)) (by omega)).mono ?_
  rintro e w3 ⟨rfl, hb3⟩
  have H3 := Lib.hid (H2.out.trans (hb3.mono (by omega)))
  have hki3 := HKI.out.later hb3 (Nat.le_refl _)
  have HK3 := Lib.hid hki3
  clear hb3 hki3 x1 x2 x3 x4
  cases hsb : t.someB with
  | false =>
    have h := HV.out.2 hsb
    have HZ := Lib.hid h
    have HSB := Lib.hid hsb
    clear h hsb
    go_wp2_with fail
    go_ret2
    exact ⟨ret_ib (by rw [HZ.out]) (by rw [HZ.out]), H3.out⟩
  | true =>
    have h := HV.out.1 hsb
    have HZ := Lib.hid h
    have HSB := Lib.hid hsb
    clear h hsb
    generalize t.keys = ks at HK3 HZ hl HKI
    unfold keyL at HZ
    by_cases hin : 0 ≤ r ∧ r < (ks.length : Int)
    · have hib : inB r 0 ((ks.length : Int) - 1) = true := inB_true hin.1 (by omega)
      obtain ⟨i, hi⟩ : ∃ i : Nat, r = (i : Int) := ⟨r.toNat, by omega⟩
      subst hi
      have HIB := Lib.hid hib
      obtain ⟨_, _, hv, h1, h2, _, h⟩ := HK3.out
      injection hv with e1 _ e3
      subst e1 e3
      have hlt : i < ks.length := by omega
      rcases h with h | ⟨b, off, rfl, hb, hat⟩
      · rw [h] at hlt; simp at hlt
      have ha' : w3.cell? ⟨b, off + i, none⟩ = some (.int .i64 (ks.getD i 0)) := hat i hlt
      obtain ⟨x, hx⟩ : ∃ x, x = ks.getD i 0 := ⟨_, rfl⟩
      rw [← hx] at ha'
      have HX := Lib.hid hx
      have hlt' : (i : Int) < (ks.length : Int) := by omega
      have HIN := Lib.hid hin
      clear hat hx hib hin
      unfold maxLen at h2
      go_wp2_with fail
      refine (l1In_c _ _ _ _).mono ?_
      rintro e w4 ⟨rfl, rfl⟩
      rw [HIB.out]
      go_wp2_with fail
      go_ret2
      exact ⟨ret_ib (by rw [HZ.out, if_pos HIN.out]; exact HX.out) (by rw [HZ.out, if_pos HIN.out]), H3.out⟩
    · have hib : inB r 0 ((ks.length : Int) - 1) = false := inB_false (by omega)
      have HIB := Lib.hid hib
      have HIN := Lib.hid hin
      clear hib hin
      go_wp2_with fail
      refine (l1In_c _ _ _ _).mono ?_
      rintro e w4 ⟨rfl, rfl⟩
      rw [HIB.out]
      go_wp2_with fail
      go_ret2
      exact ⟨ret_ib (by rw [HZ.out, if_neg HIN.out]) (by rw [HZ.out, if_neg HIN.out]), H3.out⟩
end Go.Proofs.Ytggmmfibkcdjbaa
