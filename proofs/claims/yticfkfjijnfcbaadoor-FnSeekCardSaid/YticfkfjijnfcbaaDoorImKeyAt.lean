/- The contract of the program's KeyAt. -/
import Derived.Test.YticfkfjijnfcbaaDoorProg
import Derived.Test.YticfkfjijnfcbaaDoorSh0
import Derived.Test.YticfkfjijnfcbaaDoorSh3
import Derived.Test.YticfkfjijnfcbaaDoorPlant
import Derived.Test.YticfkfjijnfcbaaDoorIter
import Derived.Test.YticfkfjijnfcbaaDoorSh6
import Derived.Test.YticfkfjijnfcbaaDoorSh27
import Derived.Test.YticfkfjijnfcbaaDoorSh26
import Derived.Test.YticfkfjijnfcbaaDoorKeyAtC
namespace Go.Proofs.YticfkfjijnfcbaaDoor
open Go.RowKit

theorem keyL_neg {keys : List Int} {r : Int} (h : r < 0) : keyL keys r = (0, false) := by
  unfold keyL; rw [if_neg (by omega)]
theorem keyL_far {keys : List Int} {r : Nat} (h : 1048576 < r) (h2 : keys.length ≤ 1048576) : keyL keys (r : Int) = keyL keys ((1048576 : Nat) : Int) := by
  rw [keyL_out (by omega), keyL_out h2]

set_option maxRecDepth 100000 in
set_option maxHeartbeats 2000000 in
theorem impl_keyAt {w : World} {B : Nat} {kv cv : Value} {t : Tr} (ht : TreeIn w B kv cv t) (hw : t.weight ≤ 1048576) (r : Int) (hr2 : r ≤ 9223372036854775807) (w' : World) (hbw : Below B w w') (hB : B ≤ w'.heap.size) :
    Calls Tryd.prog 42 #[.agg #[kv, cv], .int .i64 r] w' fun e w'' => e = .returned (.tuple #[.int .i64 (t.keyAtB r).1, .bool (t.keyAtB r).2]) ∧ Below w'.heap.size w' w'' := by
  have hmm := @run_makeMap Tryd.prog
  obtain ⟨a5, n5, m5, a6, n6, m6, rfl, rfl⟩ := ht.slices
  obtain ⟨W1, hW1⟩ : ∃ W1, W1 = w'.alloc (.cells #[.slice a5 n5 m5, .slice a6 n6 m6] 33) := ⟨_, rfl⟩
  have hs1 : W1.heap.size = w'.heap.size + 1 := by rw [hW1]; simp
  have hb1 : Below w'.heap.size w' W1 := by rw [hW1]; exact (Below.refl _ _).alloc (Nat.le_refl _) _
  have kb : W1.heap[w'.heap.size]? = some (.cells #[.slice a5 n5 m5, .slice a6 n6 m6] 33 (0, 0)) := by rw [hW1, new_blk]
  obtain ⟨x1, x2, x3, x4⟩ := box2 kb
  have hv := keyAtB_is r t
  have HB := Lib.hid hbw
  have HT := Lib.hid ht
  have HW1 := Lib.hid hW1
  have H1 := Lib.hid (And.intro hb1 kb)
  have HV := Lib.hid hv
  clear hbw ht hW1 hb1 kb hv
  go_enter Tryd.func42, Tryd.ntmps42
  go_wp2_with fail
  rw [← HW1.out]
  refine (validForSome_c HT.out hw W1 (HB.out.trans (H1.out.1.mono hB)) (by omega)).mono ?_
  rintro e w2 ⟨rfl, hb2⟩
  have hs2 := hb2.size
  have kb2 := (hb2.block w'.heap.size (by omega)).trans H1.out.2
  clear x1 x2 x3 x4
  obtain ⟨x1, x2, x3, x4⟩ := box2 kb2
  have H2 := Lib.hid (H1.out.1.trans (hb2.mono (by omega)))
  clear hb2 kb2
  cases hsb : t.someB with
  | false =>
    have h := HV.out.2 hsb
    have HZ := Lib.hid h
    have HSB := Lib.hid hsb
    clear h hsb hmm
    go_wp2_with fail
    go_ret2
    exact ⟨ret_ib (by rw [HZ.out]) (by rw [HZ.out]), H2.out⟩
  | true =>
    have h := HV.out.1 hsb
    have HZ := Lib.hid h
    have HSB := Lib.hid hsb
    clear h hsb
    by_cases hneg : r < 0
    · have hk := keyL_neg (keys := t.keys) hneg
      have HK := Lib.hid hk
      clear hk hmm
      go_wp2_with fail
      go_ret2
      exact ⟨ret_ib (by rw [HZ.out, HK.out]) (by rw [HZ.out, HK.out]), H2.out⟩
    · obtain ⟨i, hi⟩ : ∃ i : Nat, r = (i : Int) := ⟨r.toNat, by omega⟩
      subst hi
      have hi9 : i ≤ 9223372036854775807 := by omega
      have hneg' : ¬ ((i : Int) < 0) := by omega
      clear hneg
      go_wp2_with fail
      refine (plant_c HT.out hw _ (HB.out.trans (H2.out.mono hB)) (by omega)).mono ?_
      rintro e w3 ⟨nb, rfl, hnd, hb3⟩
      have HND := Lib.hid hnd
      have hs3 := hb3.size
      have H3 := Lib.hid (H2.out.trans (hb3.mono (by omega)))
      clear hb3 hnd
      go_wp2_with fail
      have hb4 : Below w3.heap.size w3 (w3.alloc (.map #[] 0)) := (Below.refl _ _).alloc (Nat.le_refl _) _
      refine (count_c HND.out hw (Nat.le_refl _) (w3.alloc (.map #[] 0)) w3.heap.size (fun _ => none) (Keep.alloc _ _ _) (cmap_new w3) (fun _ _ _ => rfl) (by omega)).mono ?_
      rintro e w5 ⟨rfl, K', hm5, hc5, hK5, hk5, hs5⟩
      have hkeep : Keep (fun k => w2.heap.size ≤ k ∧ k < w3.heap.size) w3 w5 := (Keep.alloc _ _ _).trans (hk5.mono (fun k _ h => by omega))
      have H5 := Lib.hid (And.intro hm5 (And.intro hc5 hkeep))
      have hbb : Below w3.heap.size w3 w5 := hb4.trans (hk5.below (by simp) (fun k h => by omega))
      have HBB := Lib.hid hbb
      have hkl := Tr.keys_length_le t
      clear hm5 hc5 hK5 hk5 hkeep hbb hb4 hmm x1 x2 x3 x4
      generalize hkk : t.keys.length = kl at hkl
      have HKK := Lib.hid hkk
      clear hkk
      go_wp2_with fail
      refine (keyAt_c HND.out hw (Nat.le_refl _) K' H5.out.2.1 i w3.heap.size w5 hi9 H5.out.2.2 H5.out.1).mono ?_
      rintro e w6 ⟨rfl, hb6⟩
      have H6 := Lib.hid (H3.out.trans ((HBB.out.mono (by omega)).trans (hb6.mono (by have := HBB.out.size; omega))))
      clear hb6
      go_wp2_with fail
      go_ret2
      exact ⟨ret_ib (by rw [HZ.out]) (by rw [HZ.out]), H6.out⟩
end Go.Proofs.YticfkfjijnfcbaaDoor
