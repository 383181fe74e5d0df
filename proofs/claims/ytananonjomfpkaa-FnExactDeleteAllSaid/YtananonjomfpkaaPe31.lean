/- PopLeast: what there is behind the call; plain data. -/
import Derived.Test.YtananonjomfpkaaProg
import Derived.Test.YtananonjomfpkaaPe0
import Derived.Test.YtananonjomfpkaaPe1
import Derived.Test.YtananonjomfpkaaPe6
import Derived.Test.YtananonjomfpkaaPe29
import Derived.Test.YtananonjomfpkaaPe30
import Derived.Test.YtananonjomfpkaaPe17
import Derived.Test.YtananonjomfpkaaPe28
import Derived.Test.YtananonjomfpkaaPe20
import Derived.Deep.Cut
import Derived.Deep.RegionLaw
import Derived.Test.YtananonjomfpkaaKeys
import Derived.Test.YtananonjomfpkaaPe3
import Derived.Test.YtananonjomfpkaaDelKeyS
import Derived.Deep.RegionHeld3

/- The contract of the program's KeyAt. -/
namespace Go.Proofs.Ytananonjomfpkaa
open Go.RowKit

theorem keyL_neg {keys : List Int} {r : Int} (h : r < 0) : keyL keys r = (0, false) := by
  unfold keyL; rw [if_neg (by omega)]
theorem keyL_far {keys : List Int} {r : Nat} (h : 1048576 < r) (h2 : keys.length ≤ 1048576) : keyL keys (r : Int) = keyL keys ((1048576 : Nat) : Int) := by
  rw [keyL_out (by omega), keyL_out h2]

set_option maxRecDepth 100000 in
set_option maxHeartbeats 2000000 in
theorem impl_keyAt {w : World} {B : Nat} {kv cv : Value} {t : Tr} (ht : TreeIn w B kv cv t) (hw : t.weight ≤ 1048576) (r : Int) (hr2 : r ≤ 9223372036854775807) (w' : World) (hbw : Below B w w') (hB : B ≤ w'.heap.size) :
    Calls Try.prog 73 #[.agg #[kv, cv], .int .i64 r] w' fun e w'' => e = .returned (.tuple #[.int .i64 (t.keyAtB r).1, .bool (t.keyAtB r).2]) ∧ Below w'.heap.size w' w'' := by
  have hmm := @run_makeMap Try.prog
  obtain ⟨a5, n5, m5, a6, n6, m6, rfl, rfl⟩ := ht.slices
  obtain ⟨W1, hW1⟩ : ∃ W1, W1 = w'.alloc (.cells #[.slice a5 n5 m5, .slice a6 n6 m6] 26) := ⟨_, rfl⟩
  have hs1 : W1.heap.size = w'.heap.size + 1 := by rw [hW1]; simp
  have hb1 : Below w'.heap.size w' W1 := by rw [hW1]; exact (Below.refl _ _).alloc (Nat.le_refl _) _
  have kb : W1.heap[w'.heap.size]? = some (.cells #[.slice a5 n5 m5, .slice a6 n6 m6] 26 (0, 0)) := by rw [hW1, new_blk]
  obtain ⟨x1, x2, x3, x4⟩ := box2 kb
  have hv := keyAtB_is r t
  have HB := Lib.hid hbw
  have HT := Lib.hid ht
  have HW1 := Lib.hid hW1
  have H1 := Lib.hid (And.intro hb1 kb)
  have HV := Lib.hid hv
  clear hbw ht hW1 hb1 kb hv
  go_enter Try.func73, Try.ntmps73
  go_wp2_with fail
  rw [← HW1.out]
  refine (validForSome_c HT.out hw W1 (HB.out.trans (H1.out.1.mono hB)) (by omega)).mono ?_
  rintro e w2 ⟨rfl, hb2⟩
  have hs2 := hb2.size
  have kb2 := (hb2.block w'.heap.size (by omega)).trans H1.out.2
  clear x1 x2 x3 x4
  obtain ⟨x1, x2, x3, x4⟩ := box2 kb2
  have H2 := Lib.hid (H1.out.1.trans (hb2.mono (by omega)))
  clear hb2 kb2
  cases hsb : t.someB with
  | false =>
    have h := HV.out.2 hsb
    have HZ := Lib.hid h
    have HSB := Lib.hid hsb
    clear h hsb hmm
    go_wp2_with fail
    go_ret2
    exact ⟨ret_ib (by rw [HZ.out]) (by rw [HZ.out]), H2.out⟩
  | true =>
    have h := HV.out.1 hsb
    have HZ := Lib.hid h
    have HSB := Lib.hid hsb
    clear h hsb
    by_cases hneg : r < 0
    · have hk := keyL_neg (keys := t.keys) hneg
      have HK := Lib.hid hk
      clear hk hmm
      go_wp2_with fail
      go_ret2
      exact ⟨ret_ib (by rw [HZ.out, HK.out]) (by rw [HZ.out, HK.out]), H2.out⟩
    · obtain ⟨i, hi⟩ : ∃ i : Nat, r = (i : Int) := ⟨r.toNat, by omega⟩
      subst hi
      have hi9 : i ≤ 9223372036854775807 := by omega
      have hneg' : ¬ ((i : Int) < 0) := by omega
      clear hneg
      go_wp2_with fail
      refine (plant_c HT.out hw _ (HB.out.trans (H2.out.mono hB)) (by omega)).mono ?_
      rintro e w3 ⟨nb, rfl, hnd, hb3⟩
      have HND := Lib.hid hnd
      have hs3 := hb3.size
      have H3 := Lib.hid (H2.out.trans (hb3.mono (by omega)))
      clear hb3 hnd
      go_wp2_with fail
      have hb4 : Below w3.heap.size w3 (w3.alloc (.map #[] 0)) := (Below.refl _ _).alloc (Nat.le_refl _) _
      refine (count_c HND.out hw (Nat.le_refl _) (w3.alloc (.map #[] 0)) w3.heap.size (fun _ => none) (Keep.alloc _ _ _) (cmap_new w3) (fun _ _ _ => rfl) (by omega)).mono ?_
      rintro e w5 ⟨rfl, K', hm5, hc5, hK5, hk5, hs5⟩
      have hkeep : Keep (fun k => w2.heap.size ≤ k ∧ k < w3.heap.size) w3 w5 := (Keep.alloc _ _ _).trans (hk5.mono (fun k _ h => by omega))
      have H5 := Lib.hid (And.intro hm5 (And.intro hc5 hkeep))
      have hbb : Below w3.heap.size w3 w5 := hb4.trans (hk5.below (by simp) (fun k h => by omega))
      have HBB := Lib.hid hbb
      have hkl := Tr.keys_length_le t
      clear hm5 hc5 hK5 hk5 hkeep hbb hb4 hmm x1 x2 x3 x4
      generalize hkk : t.keys.length = kl at hkl
      have HKK := Lib.hid hkk
      clear hkk
      go_wp2_with fail
      refine (keyAt_c HND.out hw (Nat.le_refl _) K' H5.out.2.1 i w3.heap.size w5 hi9 H5.out.2.2 H5.out.1).mono ?_
      rintro e w6 ⟨rfl, hb6⟩
      have H6 := Lib.hid (H3.out.trans ((HBB.out.mono (by omega)).trans (hb6.mono (by have := HBB.out.size; omega))))
      clear hb6
      go_wp2_with fail
      go_ret2
      exact ⟨ret_ib (by rw [HZ.out]) (by rw [HZ.out]), H6.out⟩
end Go.Proofs.Ytananonjomfpkaa

/- The contract of the program's PopLeast. -/
namespace Go.Proofs.Ytananonjomfpkaa
open Go.RowKit

/-- What PopLeast answers. -/
def Tr.popB (wide : Int) (t : Tr) : Bool := (t.keyAtB 0).2 && Tr.lacksB wide (t.keyAtB 0).1 t
def Tr.popK (wide : Int) (t : Tr) : Int := if Tr.popB wide t = true then (t.keyAtB 0).1 else 0
def Tr.popT (wide : Int) (t : Tr) : Tr := if Tr.popB wide t = true then Tr.delT wide (t.keyAtB 0).1 t else .mk [] []

set_option maxRecDepth 100000 in
set_option maxHeartbeats 2000000 in
theorem impl_pop {w : World} {B : Nat} {kv cv : Value} {t : Tr} (ht : TreeIn w B kv cv t) (hw : t.weight ≤ 1048576) (wide : Int) (hn1 : -9223372036854775808 ≤ wide) (hn2 : wide ≤ 9223372036854775807) (w' : World) (hbw : Below B w w') (hB : B ≤ w'.heap.size) :
    Calls Try.prog 25 #[.agg #[kv, cv], .int .i64 wide] w' fun e w'' => ∃ kv' cv' P, e = .returned (.tuple #[.int .i64 (Tr.popK wide t), .agg #[kv', cv'], .bool (Tr.popB wide t)]) ∧ TreeO w'' w'.heap.size P kv' cv' (Tr.popT wide t) ∧ Below w'.heap.size w' w'' := by
  obtain ⟨a5, n5, m5, a6, n6, m6, rfl, rfl⟩ := ht.slices
  obtain ⟨W1, hW1⟩ : ∃ W1, W1 = (w'.alloc (.cells #[.slice a5 n5 m5, .slice a6 n6 m6] 26)).alloc (.cells #[.slice none 0 0, .slice none 0 0] 26) := ⟨_, rfl⟩
  have hs1 : W1.heap.size = w'.heap.size + 2 := by rw [hW1]; simp
  have hb1 : Below w'.heap.size w' W1 := by rw [hW1]; exact ((Below.refl _ _).alloc (Nat.le_refl _) _).alloc (by simp) _
  have k0 : W1.heap[w'.heap.size]? = some (.cells #[.slice a5 n5 m5, .slice a6 n6 m6] 26 (0, 0)) := by rw [hW1, old_blk _ _ _ (by simp), new_blk]
  have kb : W1.heap[w'.heap.size + 1]? = some (.cells #[.slice none 0 0, .slice none 0 0] 26 (0, 0)) := by
    rw [hW1, show w'.heap.size + 1 = (w'.alloc (.cells #[.slice a5 n5 m5, .slice a6 n6 m6] 26)).heap.size by simp, new_blk]
  have k0x := k0
  rw [hW1] at k0x
  obtain ⟨x1, x2, x3, x4⟩ := box2 k0x
  have HT := Lib.hid ht
  have HBW := Lib.hid hbw
  have HW1 := Lib.hid hW1
  have H1 := Lib.hid (And.intro hb1 (And.intro kb k0))
  clear ht hbw hW1 hb1 k0 kb k0x
  go_enter Try.func25, Try.ntmps25
  go_wp2_with fail
  rw [← HW1.out]
  refine (impl_keyAt HT.out hw 0 (by omega) W1 (HBW.out.trans (H1.out.1.mono hB)) (by omega)).mono ?_
  rintro e w2 ⟨rfl, hb2⟩
  have hs2 := hb2.size
  have kb2 := (hb2.block (w'.heap.size + 1) (by omega)).trans H1.out.2.1
  have k02 := (hb2.block w'.heap.size (by omega)).trans H1.out.2.2
  clear x1 x2 x3 x4
  obtain ⟨x1, x2, x3, x4⟩ := box2 k02
  have H2 := Lib.hid (And.intro (H1.out.1.trans (hb2.mono (by omega))) kb2)
  clear hb2 k02 kb2
  obtain ⟨K0, hK0⟩ : ∃ K0, K0 = (t.keyAtB 0).1 := ⟨_, rfl⟩
  obtain ⟨O0, hO0⟩ : ∃ O0, O0 = (t.keyAtB 0).2 := ⟨_, rfl⟩
  rw [← hK0, ← hO0]
  have HK0 := Lib.hid (And.intro hK0 hO0)
  clear hK0 hO0
  go_wp2_with fail
  refine (impl_delete HT.out hw wide K0 hn1 hn2 w2 (HBW.out.trans (H2.out.1.mono hB)) (by omega)).mono ?_
  rintro e w3 ⟨k3, c3, P, rfl, ho3, hb3⟩
  obtain ⟨q1, q2, q3, q4, q5, q6, rfl, rfl⟩ := ho3.tree.slices
  have hs3 := hb3.size
  obtain ⟨W4, hW4⟩ : ∃ W4, W4 = w3.alloc (.cells #[.slice q1 q2 q3, .slice q4 q5 q6] 26) := ⟨_, rfl⟩
  have hs4 : W4.heap.size = w3.heap.size + 1 := by rw [hW4]; simp
  have hb4 : Below w3.heap.size w3 W4 := by rw [hW4]; exact (Below.refl _ _).alloc (Nat.le_refl _) _
  have kp : W4.heap[w3.heap.size]? = some (.cells #[.slice q1 q2 q3, .slice q4 q5 q6] 26 (0, 0)) := by rw [hW4, new_blk]
  have kb4 := (hb4.block (w'.heap.size + 1) (by omega)).trans ((hb3.block (w'.heap.size + 1) (by omega)).trans H2.out.2)
  have hbl : Below w'.heap.size w' W4 := (H2.out.1.trans (hb3.mono (by omega))).trans (hb4.mono (by omega))
  have hlt := ho3.lt
  have H4 := Lib.hid (And.intro hbl (And.intro kb4 (And.intro (ho3.later hb4 (Nat.le_refl _)) hlt)))
  have hbx : w'.heap.size + 2 ≤ w3.heap.size := by omega
  have hb2s : w'.heap.size + 2 ≤ w2.heap.size := by omega
  clear x1 x2 x3 x4
  obtain ⟨x1, x2, x3, x4⟩ := box2 kp
  obtain ⟨r1, r2, r3, r4⟩ := box2 kb4
  have hd1 : ¬ w3.heap.size = w'.heap.size + 1 := by omega
  have HW4 := Lib.hid hW4
  clear ho3 hb3 hW4 hb4 kp kb4 hbl hlt
  have hpb : Tr.popB wide t = (O0 && Tr.lacksB wide K0 t) := by unfold Tr.popB; rw [← HK0.out.1, ← HK0.out.2]
  have HPB := Lib.hid hpb
  clear hpb
  obtain ⟨L, hL⟩ : ∃ L, L = Tr.lacksB wide K0 t := ⟨_, rfl⟩
  rw [← hL]
  have HL := Lib.hid hL
  clear hL
  cases O0 with
  | false =>
    go_upto_region 4 with (fail)
    rw [← HW4.out]
    go_wp2_with fail
    obtain ⟨wf, hwf⟩ : ∃ wf, wf = (W4.setCell ⟨w'.heap.size + 1, 0, none⟩ (.slice none 0 0)).setCell ⟨w'.heap.size + 1, 1, none⟩ (.slice none 0 0) := ⟨_, rfl⟩
    have hfb : wf.heap[w'.heap.size + 1]? = some (.cells #[.slice none 0 0, .slice none 0 0] 26 (0, 0)) := by
      rw [hwf]; exact set_blk (o := 1) _ (set_blk (o := 0) _ H4.out.2.1)
    obtain ⟨d1, d2, d3, d4⟩ := box2 hfb
    rw [← hwf]
    have hp : Tr.popB wide t = false := by rw [HPB.out]; rfl
    refine bodyPost_ret (v := .tuple #[.int .i64 0, .agg #[.slice none 0 0, .slice none 0 0], .bool false]) (by simp [results, Try.results25, go_sem, d1, d2]) rfl ⟨_, _, _, by rw [show Tr.popK wide t = 0 by (simp [Tr.popK, hp]), hp], by simp only [Tr.popT, hp]; exact TreeO.nil _ _, ?_⟩
    rw [hwf]; exact (H4.out.1.setCell (by show w'.heap.size ≤ w'.heap.size + 1; omega) _).setCell (by show w'.heap.size ≤ w'.heap.size + 1; omega) _
  | true =>
    cases L with
    | false =>
      go_upto_region 4 with (fail)
      rw [← HW4.out]
      go_wp2_with fail
      obtain ⟨wf, hwf⟩ : ∃ wf, wf = (W4.setCell ⟨w'.heap.size + 1, 0, none⟩ (.slice none 0 0)).setCell ⟨w'.heap.size + 1, 1, none⟩ (.slice none 0 0) := ⟨_, rfl⟩
      have hfb : wf.heap[w'.heap.size + 1]? = some (.cells #[.slice none 0 0, .slice none 0 0] 26 (0, 0)) := by
        rw [hwf]; exact set_blk (o := 1) _ (set_blk (o := 0) _ H4.out.2.1)
      obtain ⟨d1, d2, d3, d4⟩ := box2 hfb
      rw [← hwf]
      have hp : Tr.popB wide t = false := by rw [HPB.out, ← HL.out]; rfl
      refine bodyPost_ret (v := .tuple #[.int .i64 0, .agg #[.slice none 0 0, .slice none 0 0], .bool false]) (by simp [results, Try.results25, go_sem, d1, d2]) rfl ⟨_, _, _, by rw [show Tr.popK wide t = 0 by (simp [Tr.popK, hp]), hp], by simp only [Tr.popT, hp]; exact TreeO.nil _ _, ?_⟩
      rw [hwf]; exact (H4.out.1.setCell (by show w'.heap.size ≤ w'.heap.size + 1; omega) _).setCell (by show w'.heap.size ≤ w'.heap.size + 1; omega) _
    | true =>
      have hp : Tr.popB wide t = true := by rw [HPB.out, ← HL.out]; rfl
      have hX : Tr.popT wide t = Tr.delKeyT wide K0 t := by unfold Tr.popT Tr.delKeyT; rw [if_pos hp, if_pos HL.out.symm, HK0.out.1]
      have hKK : Tr.popK wide t = K0 := by unfold Tr.popK; rw [if_pos hp, HK0.out.1]
      have HP := Lib.hid (And.intro hp (And.intro hX hKK))
      clear hp hX hKK
      go_upto_region 5 with (fail)
      rw [← HW4.out]
      go_region_law (fail)
      all_goals (
        go_wp2_with fail
        obtain ⟨wf, hwf⟩ : ∃ wf, wf = (W4.setCell ⟨w'.heap.size + 1, 0, none⟩ (.slice q1 q2 q3)).setCell ⟨w'.heap.size + 1, 1, none⟩ (.slice q4 q5 q6) := ⟨_, rfl⟩
        have hfb : wf.heap[w'.heap.size + 1]? = some (.cells #[.slice q1 q2 q3, .slice q4 q5 q6] 26 (0, 0)) := by
          rw [hwf]; exact set_blk (o := 1) _ (set_blk (o := 0) _ H4.out.2.1)
        obtain ⟨d1, d2, d3, d4⟩ := box2 hfb
        rw [← hwf]
        refine bodyPost_ret (v := .tuple #[.int .i64 K0, .agg #[.slice q1 q2 q3, .slice q4 q5 q6], .bool true]) (by simp [results, Try.results25, go_sem, d1, d2]) rfl ⟨_, _, P, by rw [HP.out.1, HP.out.2.2], ?_, ?_⟩
        · rw [HP.out.2.1]
          have hA := (H4.out.2.2.1.same (w' := wf) (by rw [hwf]; simp) (fun q e => by have := (H4.out.2.2.2 q e).1; rw [hwf, set_other _ _ _ _ _ (by omega), set_other _ _ _ _ _ (by omega)])).lower (lo' := w'.heap.size) (by omega)
          first
            | exact hA
            | exact hA.same (w' := wf.drew) (Nat.le_refl _) (fun _ _ => rfl)
        · have hA : Below w'.heap.size w' wf := by rw [hwf]; exact (H4.out.1.setCell (by show w'.heap.size ≤ w'.heap.size + 1; omega) _).setCell (by show w'.heap.size ≤ w'.heap.size + 1; omega) _
          first
            | exact hA
            | exact hA.drew)
end Go.Proofs.Ytananonjomfpkaa

/- PopLeast: what there is behind the call; plain data. -/
namespace Go.Proofs.Ytananonjomfpkaa
open Go.RowKit

namespace Tr
theorem pop_is (wide : Int) (t : Tr) : popB wide t = (validB wide t && !(t.keys.length == 0)) := by
  unfold popB
  cases hv : validB wide t with
  | false =>
    have : lacksB wide (t.keyAtB 0).1 t = false := by unfold lacksB; rw [hv]; rfl
    rw [this]; simp
  | true =>
    have hs := someB_valid hv
    rw [(keyAtB_is 0 t).1 hs, keyL]
    by_cases h0 : t.keys.length = 0
    · rw [if_neg (by omega)]; simp [h0]
    · rw [if_pos ⟨by omega, by omega⟩]
      have hmem : t.keys.getD (Int.toNat 0) 0 ∈ t.keys := by
        rw [List.getD_eq_getElem?_getD, List.getElem?_eq_getElem (by show 0 < _; omega)]
        exact List.getElem_mem _
      have hl : lacksB wide (t.keys.getD (Int.toNat 0) 0) t = true := by
        unfold lacksB
        rw [hv, ← (someB_path _ t).1 hs, (hasB_iff _ t hs).2 hmem]; rfl
      rw [hl]; simp [h0]
theorem pop_first {wide : Int} {t : Tr} (h : popB wide t = true) : (t.keyAtB 0).1 = t.keys.getD 0 0 ∧ 0 < t.keys.length ∧ lacksB wide (t.keys.getD 0 0) t = true := by
  have h2 := h
  rw [pop_is] at h
  simp only [Bool.and_eq_true, Bool.not_eq_true', beq_eq_false_iff_ne] at h
  have hs := someB_valid h.1
  have e : (t.keyAtB 0).1 = t.keys.getD 0 0 := by
    rw [(keyAtB_is 0 t).1 hs, keyL, if_pos ⟨by omega, by omega⟩]; rfl
  refine ⟨e, by omega, ?_⟩
  unfold popB at h2
  rw [e] at h2
  exact (Bool.and_eq_true_iff.1 h2).2
theorem pop_weight (wide : Int) (t : Tr) : (popT wide t).weight ≤ 1048576 := by
  unfold popT
  split
  · rename_i h
    have hv := h
    rw [pop_is] at hv
    have := valid_small (Bool.and_eq_true_iff.1 hv).1
    have := delT_weight wide (t.keyAtB 0).1 t
    omega
  · simp [weight, weights]
end Tr

/-- What there is behind l4Key and its boxes: the tree in one of them. -/
def PopAfter (w5 wx : World) (T : Tr) (p : Nat) : Prop :=
  ∃ (e1 : Option Addr) (e2 e3 : Nat) (e4 : Option Addr) (e5 e6 : Nat) (P : Blocks), wx.heap[p]? = some (.cells #[.slice e1 e2 e3, .slice e4 e5 e6] 26 (0, 0)) ∧
    TreeO wx w5.heap.size P (.slice e1 e2 e3) (.slice e4 e5 e6) T ∧ Below w5.heap.size w5 wx ∧ w5.heap.size ≤ p ∧ (∀ b, P b → b ≠ p)

section
variable {w5 Wc w6 : World} {P : Blocks} {T : Tr} {e1 : Option Addr} {e2 e3 : Nat} {e4 : Option Addr} {e5 e6 : Nat} {b j : Int} {sh : Bool}
theorem popAfter6 {W : World} {p q : Nat} (hB : Boxed w6 W p q (.slice e1 e2 e3) (.slice e4 e5 e6) b j sh) (ht : TreeO w6 Wc.heap.size P (.slice e1 e2 e3) (.slice e4 e5 e6) T) (hb : Below w5.heap.size w5 w6) (hW : w5.heap.size ≤ Wc.heap.size)
    (hp5 : w5.heap.size ≤ p) (hq5 : w5.heap.size ≤ q) (hp : p < Wc.heap.size ∨ w6.heap.size ≤ p) (hq : q < Wc.heap.size ∨ w6.heap.size ≤ q) : PopAfter w5 W T p := by
  have hk := hB.kept
  have hz := hb.size
  refine ⟨e1, e2, e3, e4, e5, e6, P, hB.bp, (ht.same (w' := W) hk.size (fun x e => ?_)).lower hW, hb.trans (hk.below hz (fun x o h => by omega)), hp5, fun x e h => ?_⟩
  · have hl := ht.lt x e
    exact hk.block x hl.2 (fun o h => by omega)
  · have hl := ht.lt x e
    omega
theorem popAfter_1 (ht : TreeO w6 Wc.heap.size P (.slice e1 e2 e3) (.slice e4 e5 e6) T) (hb : Below w5.heap.size w5 w6) (hz : Wc.heap.size = w5.heap.size + 0) :
    PopAfter w5 ((w6.alloc (.cells #[.slice e1 e2 e3, .slice e4 e5 e6] 26)).alloc (.cells #[.int .i64 b, .int .i64 j, .bool sh] 52)) T w6.heap.size := by
  have h1 := hb.size
  exact popAfter6 (Wc := Wc) boxed1 ht hb (by omega) h1 (by omega) (.inr (Nat.le_refl _)) (.inr (by omega))
theorem popAfter_2 (ht : TreeO w6 Wc.heap.size P (.slice e1 e2 e3) (.slice e4 e5 e6) T) (hb : Below w5.heap.size w5 w6) (hz : Wc.heap.size = w5.heap.size + 0) :
    PopAfter w5 ((w6.alloc (.cells #[.int .i64 b, .int .i64 j, .bool sh] 52)).alloc (.cells #[.slice e1 e2 e3, .slice e4 e5 e6] 26)) T (w6.heap.size + 1) := by
  have h1 := hb.size
  exact popAfter6 (Wc := Wc) boxed2 ht hb (by omega) (by omega) h1 (.inr (by omega)) (.inr (Nat.le_refl _))
theorem popAfter_3 {o0 o1 : Value} (t6 : w6.heap[w5.heap.size]? = some (.cells #[o0, o1] 26 (0, 0))) (ht : TreeO w6 Wc.heap.size P (.slice e1 e2 e3) (.slice e4 e5 e6) T) (hb : Below w5.heap.size w5 w6) (hz : Wc.heap.size = w5.heap.size + 1) :
    PopAfter w5 (((w6.setCell ⟨w5.heap.size, 0, none⟩ (.slice e1 e2 e3)).setCell ⟨w5.heap.size, 1, none⟩ (.slice e4 e5 e6)).alloc (.cells #[.int .i64 b, .int .i64 j, .bool sh] 52)) T w5.heap.size := by
  have h1 := hb.size
  exact popAfter6 (Wc := Wc) (boxed3 t6) ht hb (by omega) (Nat.le_refl _) h1 (.inl (by omega)) (.inr (Nat.le_refl _))
theorem popAfter_5 {o0 o1 o2 : Value} (t6 : w6.heap[w5.heap.size]? = some (.cells #[o0, o1, o2] 52 (0, 0))) (ht : TreeO w6 Wc.heap.size P (.slice e1 e2 e3) (.slice e4 e5 e6) T) (hb : Below w5.heap.size w5 w6) (hz : Wc.heap.size = w5.heap.size + 1) :
    PopAfter w5 ((((w6.setCell ⟨w5.heap.size, 0, none⟩ (.int .i64 b)).setCell ⟨w5.heap.size, 1, none⟩ (.int .i64 j)).setCell ⟨w5.heap.size, 2, none⟩ (.bool sh)).alloc (.cells #[.slice e1 e2 e3, .slice e4 e5 e6] 26)) T w6.heap.size := by
  have h1 := hb.size
  exact popAfter6 (Wc := Wc) (boxed5 t6) ht hb (by omega) h1 (Nat.le_refl _) (.inr (Nat.le_refl _)) (.inl (by omega))
theorem popAfter_4 {o0 o1 p0 p1 p2 : Value} (t6 : w6.heap[w5.heap.size]? = some (.cells #[o0, o1] 26 (0, 0))) (u6 : w6.heap[w5.heap.size + 1]? = some (.cells #[p0, p1, p2] 52 (0, 0))) (ht : TreeO w6 Wc.heap.size P (.slice e1 e2 e3) (.slice e4 e5 e6) T) (hb : Below w5.heap.size w5 w6) (hz : Wc.heap.size = w5.heap.size + 2) :
    PopAfter w5 (((((w6.setCell ⟨w5.heap.size, 0, none⟩ (.slice e1 e2 e3)).setCell ⟨w5.heap.size, 1, none⟩ (.slice e4 e5 e6)).setCell ⟨w5.heap.size + 1, 0, none⟩ (.int .i64 b)).setCell ⟨w5.heap.size + 1, 1, none⟩ (.int .i64 j)).setCell ⟨w5.heap.size + 1, 2, none⟩ (.bool sh)) T w5.heap.size := by
  have h1 := hb.size
  exact popAfter6 (Wc := Wc) (boxed4 (by omega) t6 u6) ht hb (by omega) (Nat.le_refl _) (by omega) (.inl (by omega)) (.inl (by omega))
theorem popAfter_6 {o0 o1 p0 p1 p2 : Value} (u6 : w6.heap[w5.heap.size + 1]? = some (.cells #[o0, o1] 26 (0, 0))) (t6 : w6.heap[w5.heap.size]? = some (.cells #[p0, p1, p2] 52 (0, 0))) (ht : TreeO w6 Wc.heap.size P (.slice e1 e2 e3) (.slice e4 e5 e6) T) (hb : Below w5.heap.size w5 w6) (hz : Wc.heap.size = w5.heap.size + 2) :
    PopAfter w5 (((((w6.setCell ⟨w5.heap.size + 1, 0, none⟩ (.slice e1 e2 e3)).setCell ⟨w5.heap.size + 1, 1, none⟩ (.slice e4 e5 e6)).setCell ⟨w5.heap.size, 0, none⟩ (.int .i64 b)).setCell ⟨w5.heap.size, 1, none⟩ (.int .i64 j)).setCell ⟨w5.heap.size, 2, none⟩ (.bool sh)) T (w5.heap.size + 1) := by
  have h1 := hb.size
  exact popAfter6 (Wc := Wc) (boxed4 (by omega) u6 t6) ht hb (by omega) (by omega) (Nat.le_refl _) (.inl (by omega)) (.inl (by omega))
end

end Go.Proofs.Ytananonjomfpkaa
