/- What two trees have together: the program's count and the model's. -/
import Derived.Test.YtepkigcbjepbpaaProg
import Derived.Test.YtepkigcbjepbpaaBase
import Derived.Test.YtepkigcbjepbpaaAt
import Derived.Test.YtepkigcbjepbpaaKeysA
import Derived.Test.YtepkigcbjepbpaaSomeImpl
import Derived.Test.YtepkigcbjepbpaaSomeSpec
import Derived.Test.YtepkigcbjepbpaaPlant
import Derived.Test.YtepkigcbjepbpaaPathTo
import Derived.Test.YtepkigcbjepbpaaHasSpec
import Derived.Test.YtepkigcbjepbpaaKeys
import Derived.Test.YtepkigcbjepbpaaStandData
namespace Go.Proofs.Ytepkigcbjepbpaa
open Go.RowKit

/-- How many of a list's first keys a tree has. -/
def Tr.cntB (b : Tr) (K : List Int) (j : Nat) : Nat := ((K.take j).filter (fun k => (b.path k).2)).length
def Tr.commonB (a b : Tr) : Int := if a.someB && b.someB then (Tr.cntB b a.keys a.keys.length : Int) else -1

namespace Tr
theorem cnt_le (b : Tr) (K : List Int) (j : Nat) : cntB b K j ≤ j := by
  unfold cntB
  refine Nat.le_trans (List.length_filter_le _ _) ?_
  rw [List.length_take]; omega
theorem cnt_succ {b : Tr} {K : List Int} {j : Nat} (h : j < K.length) : cntB b K (j + 1) = cntB b K j + (if (b.path (K.getD j 0)).2 then 1 else 0) := by
  unfold cntB
  have e : K.take (j + 1) = K.take j ++ [K.getD j 0] := by
    rw [List.take_succ_eq_append_getElem h, List.getD_eq_getElem?_getD, List.getElem?_eq_getElem h]; rfl
  rw [e, List.filter_append, List.length_append]
  generalize K.getD j 0 = x
  cases hq : (b.path x).2 <;> simp [hq]
end Tr

theorem isIn1_c {w : World} {lo hi b : Nat} {t : Tr} (ht : NodeAt w lo hi b t) (hwell : Tr.Well t) (hw : t.weight ≤ 1048576) (key : Int) (q : Nat) (w' : World) (hbw : Below hi w w') (hhi : hi ≤ w'.heap.size) (hq : w'.cell? ⟨q, 0, none⟩ = some (.pointer (some ⟨b, 0, none⟩))) :
    Calls Try.prog 104 #[.int .i64 key, .pointer (some ⟨q, 0, none⟩)] w' fun e w'' => e = .returned (.bool (t.path key).2) ∧ Below w'.heap.size w' w'' := by
  have HP := Lib.hid (pathTo_c ht hwell hw key w' hbw hhi)
  clear ht hwell hbw
  go_enter Try.func104, Try.ntmps104
  go_wp2_with fail
  refine HP.out.mono ?_
  rintro e w2 ⟨v, rfl, ho, hb2⟩
  obtain ⟨va, vc, rfl⟩ := IntsOwn.shown ho
  have HB := Lib.hid hb2
  clear ho hb2
  go_wp2_with fail
  go_ret
  exact ⟨rfl, HB.out⟩

theorem isIn_c {w : World} {B : Nat} {kv cv : Value} {t : Tr} (ht : TreeIn w B kv cv t) (hw : t.weight ≤ 1048576) (w' : World) (hbw : Below B w w') (hB : B ≤ w'.heap.size) :
    Calls Try.prog 84 #[.agg #[kv, cv]] w' fun e w'' => ∃ q b lo hi, e = .returned (.func (.func 104) #[] #[.pointer (some ⟨q, 0, none⟩)]) ∧ w''.heap[q]? = some (.cells #[.pointer (some ⟨b, 0, none⟩)] 71 (0, 0)) ∧ NodeAt w'' lo hi b t ∧ hi ≤ w''.heap.size ∧ Below w'.heap.size w' w'' := by
  obtain ⟨a5, n5, m5, a6, n6, m6, rfl, rfl⟩ := ht.slices
  obtain ⟨W1, hW1⟩ : ∃ W1, W1 = w'.alloc (.cells #[.slice a5 n5 m5, .slice a6 n6 m6] 29) := ⟨_, rfl⟩
  have hs1 : W1.heap.size = w'.heap.size + 1 := by rw [hW1]; simp
  have hb1 : Below w'.heap.size w' W1 := by rw [hW1]; exact (Below.refl _ _).alloc (Nat.le_refl _) _
  have k0 : W1.heap[w'.heap.size]? = some (.cells #[.slice a5 n5 m5, .slice a6 n6 m6] 29 (0, 0)) := by rw [hW1, new_blk]
  obtain ⟨x1, x2, x3, x4⟩ := box2 k0
  have HT := Lib.hid ht
  have HBW := Lib.hid hbw
  have HW1 := Lib.hid hW1
  have H1 := Lib.hid hb1
  clear ht hbw hW1 hb1 k0
  go_enter Try.func84, Try.ntmps84
  go_wp2_with fail
  rw [← HW1.out]
  refine (plant_c HT.out hw W1 (HBW.out.trans (H1.out.mono hB)) (by omega)).mono ?_
  rintro e w3 ⟨nb, rfl, hnd, hb3⟩
  have hs3 := hb3.size
  obtain ⟨W4, hW4⟩ : ∃ W4, W4 = w3.alloc (.cells #[.pointer (some ⟨nb, 0, none⟩)] 71) := ⟨_, rfl⟩
  have hb4 : Below w3.heap.size w3 W4 := by rw [hW4]; exact (Below.refl _ _).alloc (Nat.le_refl _) _
  have kq : W4.heap[w3.heap.size]? = some (.cells #[.pointer (some ⟨nb, 0, none⟩)] 71 (0, 0)) := by rw [hW4, new_blk]
  have hnd4 : NodeAt W4 W1.heap.size w3.heap.size nb t := hnd.nodeAt.same (fun k _ h => hb4.block k h)
  have HF := Lib.hid (And.intro kq (And.intro hnd4 (And.intro hb4.size (H1.out.trans ((hb3.mono (by omega)).trans (hb4.mono (by omega)))))))
  have HW4 := Lib.hid hW4
  clear hnd hb3 hb4 kq hnd4 hW4 x1 x2 x3 x4
  go_wp2_with fail
  rw [← HW4.out]
  go_ret
  exact ⟨_, _, _, _, rfl, HF.out.1, HF.out.2.1, HF.out.2.2.1, HF.out.2.2.2⟩

set_option maxRecDepth 100000 in
set_option maxHeartbeats 2000000 in
theorem impl_common {w' : World} {kv cv kv' cv' : Value} {a b : Tr} (ha : TreeA w' kv cv a) (hwa : a.weight ≤ 1048576) (hb : TreeIn w' w'.heap.size kv' cv' b) (hwb : b.weight ≤ 1048576) :
    Calls Try.prog 43 #[.agg #[kv, cv], .agg #[kv', cv']] w' fun e w'' => e = .returned (.int .i64 (Tr.commonB a b)) ∧ Below w'.heap.size w' w'' := by
  obtain ⟨a1, a2, a3, a4, a5, a6, rfl, rfl⟩ := ha.slices
  obtain ⟨b1, b2, b3, b4, b5, b6, rfl, rfl⟩ := hb.slices
  obtain ⟨W1, hW1⟩ : ∃ W1, W1 = (w'.alloc (.cells #[.slice a1 a2 a3, .slice a4 a5 a6] 29)).alloc (.cells #[.slice b1 b2 b3, .slice b4 b5 b6] 29) := ⟨_, rfl⟩
  have hs1 : W1.heap.size = w'.heap.size + 2 := by rw [hW1]; simp
  have hb1 : Below w'.heap.size w' W1 := by rw [hW1]; exact ((Below.refl _ _).alloc (Nat.le_refl _) _).alloc (by simp) _
  have k0 : W1.heap[w'.heap.size]? = some (.cells #[.slice a1 a2 a3, .slice a4 a5 a6] 29 (0, 0)) := by rw [hW1, old_blk _ _ _ (by simp), new_blk]
  have kb : W1.heap[w'.heap.size + 1]? = some (.cells #[.slice b1 b2 b3, .slice b4 b5 b6] 29 (0, 0)) := by
    rw [hW1, show w'.heap.size + 1 = (w'.alloc (.cells #[.slice a1 a2 a3, .slice a4 a5 a6] 29)).heap.size by simp, new_blk]
  have BOXA : Hid (∀ W, Below W1.heap.size W1 W → W.heap[w'.heap.size]? = some (.cells #[.slice a1 a2 a3, .slice a4 a5 a6] 29 (0, 0))) := Lib.hid (fun W h => (h.block _ (by omega)).trans k0)
  have BOXB : Hid (∀ W, Below W1.heap.size W1 W → W.heap[w'.heap.size + 1]? = some (.cells #[.slice b1 b2 b3, .slice b4 b5 b6] 29 (0, 0))) := Lib.hid (fun W h => (h.block _ (by omega)).trans kb)
  obtain ⟨x1, x2, x3, x4⟩ := box2 k0
  have HA := Lib.hid ha
  have HB := Lib.hid hb
  have HW1 := Lib.hid hW1
  have H1 := Lib.hid hb1
  have hcm : (a.someB = true → b.someB = true → Tr.commonB a b = (Tr.cntB b a.keys a.keys.length : Int)) ∧ (a.someB = false ∨ b.someB = false → Tr.commonB a b = -1) := by
    unfold Tr.commonB
    constructor
    · intro h1 h2; simp [h1, h2]
    · rintro (h | h) <;> simp [h]
  have HC := Lib.hid hcm
  clear ha hb hW1 hb1 k0 kb hcm
  go_enter Try.func43, Try.ntmps43
  go_wp2_with fail
  rw [← HW1.out]
  refine (validForSome_c HA.out.tree hwa W1 H1.out (by omega)).mono ?_
  rintro e w2 ⟨rfl, hb2⟩
  have H2 := Lib.hid hb2
  have hs2 := hb2.size
  clear hb2 x1 x2 x3 x4
  obtain ⟨y1, y2, y3, y4⟩ := box2 (BOXB.out w2 H2.out)
  cases hsa : a.someB with
  | false =>
    have HR := Lib.hid (HC.out.2 (.inl hsa))
    clear hsa
    go_wp2_with fail
    go_ret
    exact ⟨ret_int HR.out.symm, H1.out.trans (H2.out.mono (by omega))⟩
  | true =>
    have HSA := Lib.hid hsa
    clear hsa
    go_wp2_with fail
    refine (validForSome_c HB.out hwb w2 (H1.out.trans (H2.out.mono (by omega))) (by omega)).mono ?_
    rintro e w3 ⟨rfl, hb3⟩
    have H3 := Lib.hid (H2.out.trans (hb3.mono hs2))
    have hs3 := H3.out.size
    clear hb3 y1 y2 y3 y4
    obtain ⟨y1, y2, y3, y4⟩ := box2 (BOXB.out w3 H3.out)
    cases hsb : b.someB with
    | false =>
      have HR := Lib.hid (HC.out.2 (.inr hsb))
      clear hsb
      go_wp2_with fail
      go_ret
      exact ⟨ret_int HR.out.symm, H1.out.trans (H3.out.mono (by omega))⟩
    | true =>
      have hwell := Tr.Well.of_some hsb
      have HR := Lib.hid (HC.out.1 HSA.out hsb)
      have HWELL := Lib.hid hwell
      clear hsb hwell
      go_wp2_with fail
      refine (isIn_c HB.out hwb w3 (H1.out.trans (H3.out.mono (by omega))) (by omega)).mono ?_
      rintro e w4 ⟨q, nb, lo, hi, rfl, hq, hnd, hhi, hb4⟩
      have H4 := Lib.hid (H3.out.trans (hb4.mono hs3))
      have hs4 := H4.out.size
      have HN := Lib.hid (And.intro hq (And.intro hnd hhi))
      clear hb4 hq hnd hhi y1 y2 y3 y4
      obtain ⟨x1, x2, x3, x4⟩ := box2 (BOXA.out w4 H4.out)
      go_wp2_with fail
      refine (impl_keys_a (HA.out.later (H1.out.trans (H4.out.mono (by omega))) (Nat.le_refl _)) hwa).mono ?_
      rintro e w5 ⟨v5, rfl, ho5, hb5⟩
      obtain ⟨K, hK⟩ : ∃ K, K = a.keys := ⟨_, rfl⟩
      rw [← hK] at ho5
      obtain ⟨ka, kc, rfl⟩ := IntsOwn.shown ho5
      obtain ⟨_, _, hv5, hk1, hk2, -, hat⟩ := IntsOwn.in ho5
      injection hv5 with ev1 _ ev3
      subst ev1 ev3
      have hkw : K.length ≤ 1048576 := by rw [hK]; exact Nat.le_trans (Tr.keys_length_le a) hwa
      have H5 := Lib.hid (H4.out.trans (hb5.mono hs4))
      have hs5 := hb5.size
      have hq5 := (hb5.block q ((Array.getElem?_eq_some_iff.1 HN.out.1).1)).trans HN.out.1
      have hnd5 := HN.out.2.1.same (w' := w5) (fun k _ h => hb5.block k (by have := HN.out.2.2; omega))
      have hhi5 : hi ≤ w5.heap.size := by have := HN.out.2.2; omega
      have hql : q < w5.heap.size := (Array.getElem?_eq_some_iff.1 hq5).1
      have HN5 := Lib.hid (And.intro hq5 hnd5)
      have HAT := Lib.hid hat
      have HK := Lib.hid hK
      clear ho5 hb5 hat hq5 hnd5 hK x1 x2 x3 x4
      go_wp2_with fail
      go_loopw [6, 22] (fun s6 s22 wr => ∃ j : Nat, j ≤ K.length ∧ s22 = .int .i64 j ∧ s6 = .int .i64 (Tr.cntB b K j) ∧ Below w5.heap.size w5 wr) (fun _ s22 _ => K.length - (intOf s22).toNat)
      case atStart => exact ⟨0, Nat.zero_le _, rfl, by simp [Tr.cntB], Below.refl _ _⟩
      case round =>
        obtain ⟨j, hj, rfl, rfl, hbel⟩ := hrel
        have hsz := hbel.size
        have HR5 := Lib.hid hbel
        obtain ⟨c, hc⟩ : ∃ c, c = Tr.cntB b K j := ⟨_, rfl⟩
        have hcj : c ≤ j := by rw [hc]; exact Tr.cnt_le b K j
        rw [← hc]
        by_cases hlt : j < K.length
        · rcases HAT.out with h | ⟨kb, ko, rfl, hkb, hat⟩
          · rw [h] at hlt; simp at hlt
          have hcell : wr.cell? ⟨kb, ko + j, none⟩ = some (.int .i64 (K.getD j 0)) := by rw [below_cell hbel hkb]; exact hat j hlt
          have hsucc := Tr.cnt_succ (b := b) hlt
          obtain ⟨k, hk⟩ : ∃ k, k = K.getD j 0 := ⟨_, rfl⟩
          rw [← hk] at hcell hsucc
          rw [← hc] at hsucc
          have hjk : (j : Int) < (K.length : Int) := by omega
          have hqc := (box1 ((hbel.block q hql).trans HN5.out.1)).1
          have hcall := isIn1_c HN5.out.2 HWELL.out hwb k q wr (hbel.mono hhi5) (by omega) hqc
          have HS := Lib.hid hsucc
          have HCALL := Lib.hid hcall
          clear hat hbel hk hc hsucc hcall hqc
          go_wp2_with fail
          refine HCALL.out.mono ?_
          rintro e w6 ⟨rfl, hb6⟩
          have H6 := Lib.hid (HR5.out.trans (hb6.mono hsz))
          clear hb6
          cases hp : (b.path k).2 with
          | false =>
            have HS2 := HS.out
            rw [hp] at HS2
            have HS3 := Lib.hid HS2
            clear hp HS2
            go_wp2_with fail
            go_roundw
            case rel => exact ⟨j + 1, by omega, by go_num, by rw [HS3.out]; simp, H6.out⟩
            case measure => simp [intOf]; omega
          | true =>
            have HS2 := HS.out
            rw [hp] at HS2
            have HS3 := Lib.hid HS2
            clear hp HS2
            go_wp2_with fail
            go_roundw
            case rel => exact ⟨j + 1, by omega, by go_num, by rw [HS3.out]; simp only [if_true]; go_num, H6.out⟩
            case measure => simp [intOf]; omega
        · have hjk : ¬ (j : Int) < (K.length : Int) := by omega
          have hje : j = K.length := by omega
          have HF := Lib.hid (show Tr.commonB a b = (c : Int) by rw [HR.out, ← HK.out, hc, hje])
          clear hbel hc
          go_wp2_with fail
          go_ret
          exact ⟨ret_int HF.out.symm, H1.out.trans ((H5.out.trans (HR5.out.mono (by omega))).mono (by omega))⟩

set_option maxRecDepth 100000 in
set_option maxHeartbeats 2000000 in
theorem specCommon_c {w : World} {B : Nat} {kv cv kv' cv' : Value} {a b : Tr} (ha : TreeIn w B kv cv a) (hwa : a.weight ≤ 1048576) (hb : TreeIn w B kv' cv' b) (hwb : b.weight ≤ 1048576) (w' : World) (hbw : Below B w w') (hB : B ≤ w'.heap.size) :
    Calls Try.prog 42 #[.agg #[kv, cv], .agg #[kv', cv']] w' fun e w'' => e = .returned (.int .i64 (Tr.commonB a b)) ∧ Below w'.heap.size w' w'' := by
  obtain ⟨a1, a2, a3, a4, a5, a6, rfl, rfl⟩ := ha.slices
  obtain ⟨b1, b2, b3, b4, b5, b6, rfl, rfl⟩ := hb.slices
  obtain ⟨W1, hW1⟩ : ∃ W1, W1 = (w'.alloc (.cells #[.slice a1 a2 a3, .slice a4 a5 a6] 29)).alloc (.cells #[.slice b1 b2 b3, .slice b4 b5 b6] 29) := ⟨_, rfl⟩
  have hs1 : W1.heap.size = w'.heap.size + 2 := by rw [hW1]; simp
  have hb1 : Below w'.heap.size w' W1 := by rw [hW1]; exact ((Below.refl _ _).alloc (Nat.le_refl _) _).alloc (by simp) _
  have k0 : W1.heap[w'.heap.size]? = some (.cells #[.slice a1 a2 a3, .slice a4 a5 a6] 29 (0, 0)) := by rw [hW1, old_blk _ _ _ (by simp), new_blk]
  have kb : W1.heap[w'.heap.size + 1]? = some (.cells #[.slice b1 b2 b3, .slice b4 b5 b6] 29 (0, 0)) := by
    rw [hW1, show w'.heap.size + 1 = (w'.alloc (.cells #[.slice a1 a2 a3, .slice a4 a5 a6] 29)).heap.size by simp, new_blk]
  have BOXA : Hid (∀ W, Below W1.heap.size W1 W → W.heap[w'.heap.size]? = some (.cells #[.slice a1 a2 a3, .slice a4 a5 a6] 29 (0, 0))) := Lib.hid (fun W h => (h.block _ (by omega)).trans k0)
  have BOXB : Hid (∀ W, Below W1.heap.size W1 W → W.heap[w'.heap.size + 1]? = some (.cells #[.slice b1 b2 b3, .slice b4 b5 b6] 29 (0, 0))) := Lib.hid (fun W h => (h.block _ (by omega)).trans kb)
  have PAST : Hid (∀ W, Below W1.heap.size W1 W → Below B w W ∧ B ≤ W.heap.size) := Lib.hid (fun W h => ⟨hbw.trans ((hb1.trans (h.mono (by omega))).mono hB), by have := h.size; omega⟩)
  obtain ⟨x1, x2, x3, x4⟩ := box2 k0
  have HA := Lib.hid ha
  have HB := Lib.hid hb
  have HW1 := Lib.hid hW1
  have H1 := Lib.hid hb1
  have hcm : (a.someB = true → b.someB = true → Tr.commonB a b = (Tr.cntB b a.keys a.keys.length : Int)) ∧ (a.someB = false ∨ b.someB = false → Tr.commonB a b = -1) := by
    unfold Tr.commonB
    constructor
    · intro h1 h2; simp [h1, h2]
    · rintro (h | h) <;> simp [h]
  have HC := Lib.hid hcm
  clear ha hb hW1 hb1 k0 kb hcm hbw
  go_enter Try.func42, Try.ntmps42
  go_wp2_with fail
  rw [← HW1.out]
  refine (l2Valid_c HA.out hwa W1 (PAST.out W1 (Below.refl _ _)).1 (by omega)).mono ?_
  rintro e w2 ⟨rfl, hb2⟩
  have H2 := Lib.hid hb2
  have hs2 := hb2.size
  clear hb2 x1 x2 x3 x4
  obtain ⟨y1, y2, y3, y4⟩ := box2 (BOXB.out w2 H2.out)
  cases hsa : a.someB with
  | false =>
    have HR := Lib.hid (HC.out.2 (.inl hsa))
    clear hsa
    go_wp2_with fail
    go_ret
    exact ⟨ret_int HR.out.symm, H1.out.trans (H2.out.mono (by omega))⟩
  | true =>
    have HSA := Lib.hid hsa
    clear hsa
    go_wp2_with fail
    refine (l2Valid_c HB.out hwb w2 (PAST.out w2 H2.out).1 (by omega)).mono ?_
    rintro e w3 ⟨rfl, hb3⟩
    have H3 := Lib.hid (H2.out.trans (hb3.mono hs2))
    have hs3 := H3.out.size
    clear hb3 y1 y2 y3 y4
    obtain ⟨x1, x2, x3, x4⟩ := box2 (BOXA.out w3 H3.out)
    cases hsb : b.someB with
    | false =>
      have HR := Lib.hid (HC.out.2 (.inr hsb))
      clear hsb
      go_wp2_with fail
      go_ret
      exact ⟨ret_int HR.out.symm, H1.out.trans (H3.out.mono (by omega))⟩
    | true =>
      have HR := Lib.hid (HC.out.1 HSA.out hsb)
      have HSB := Lib.hid (fun k => (someB_path k b).1 hsb)
      clear hsb
      go_wp2_with fail
      refine (specKeys_c HA.out hwa w3 (PAST.out w3 H3.out).1 (by omega)).mono ?_
      rintro e w5 ⟨v5, rfl, ho5, hb5⟩
      obtain ⟨K, hK⟩ : ∃ K, K = a.keys := ⟨_, rfl⟩
      rw [← hK] at ho5
      obtain ⟨ka, kc, rfl⟩ := IntsOwn.shown ho5
      obtain ⟨_, _, hv5, hk1, hk2, -, hat⟩ := IntsOwn.in ho5
      injection hv5 with ev1 _ ev3
      subst ev1 ev3
      have hkw : K.length ≤ 1048576 := by rw [hK]; exact Nat.le_trans (Tr.keys_length_le a) hwa
      have H5 := Lib.hid (H3.out.trans (hb5.mono hs3))
      have hs5 := H5.out.size
      have HAT := Lib.hid hat
      have HK := Lib.hid hK
      clear ho5 hb5 hat hK x1 x2 x3 x4
      go_wp2_with fail
      go_loopw [5, 19] (fun s6 s22 wr => ∃ j : Nat, j ≤ K.length ∧ s22 = .int .i64 j ∧ s6 = .int .i64 (Tr.cntB b K j) ∧ Below w5.heap.size w5 wr) (fun _ s22 _ => K.length - (intOf s22).toNat)
      case atStart => exact ⟨0, Nat.zero_le _, rfl, by simp [Tr.cntB], Below.refl _ _⟩
      case round =>
        obtain ⟨j, hj, rfl, rfl, hbel⟩ := hrel
        have hsz := hbel.size
        have HR5 := Lib.hid hbel
        obtain ⟨c, hc⟩ : ∃ c, c = Tr.cntB b K j := ⟨_, rfl⟩
        have hcj : c ≤ j := by rw [hc]; exact Tr.cnt_le b K j
        rw [← hc]
        by_cases hlt : j < K.length
        · rcases HAT.out with h | ⟨kb, ko, rfl, hkb, hat⟩
          · rw [h] at hlt; simp at hlt
          have hcell : wr.cell? ⟨kb, ko + j, none⟩ = some (.int .i64 (K.getD j 0)) := by rw [below_cell hbel hkb]; exact hat j hlt
          have hsucc := Tr.cnt_succ (b := b) hlt
          obtain ⟨k, hk⟩ : ∃ k, k = K.getD j 0 := ⟨_, rfl⟩
          rw [← hk] at hcell hsucc
          rw [← hc] at hsucc
          have hjk : (j : Int) < (K.length : Int) := by omega
          have hbr : Below W1.heap.size W1 wr := H5.out.trans (hbel.mono hs5)
          obtain ⟨y1, y2, y3, y4⟩ := box2 (BOXB.out wr hbr)
          have hcall := specHasKey_c HB.out hwb k wr (PAST.out wr hbr).1 (PAST.out wr hbr).2
          rw [HSB.out k] at hcall
          have HS := Lib.hid hsucc
          have HCALL := Lib.hid hcall
          clear hat hbel hk hc hsucc hcall hbr
          go_wp2_with fail
          refine HCALL.out.mono ?_
          rintro e w6 ⟨rfl, hb6⟩
          have H6 := Lib.hid (HR5.out.trans (hb6.mono hsz))
          clear hb6 y1 y2 y3 y4
          cases hp : (b.path k).2 with
          | false =>
            have HS2 := HS.out
            rw [hp] at HS2
            have HS3 := Lib.hid HS2
            clear hp HS2
            go_wp2_with fail
            go_roundw
            case rel => exact ⟨j + 1, by omega, by go_num, by rw [HS3.out]; simp, H6.out⟩
            case measure => simp [intOf]; omega
          | true =>
            have HS2 := HS.out
            rw [hp] at HS2
            have HS3 := Lib.hid HS2
            clear hp HS2
            go_wp2_with fail
            go_roundw
            case rel => exact ⟨j + 1, by omega, by go_num, by rw [HS3.out]; simp only [if_true]; go_num, H6.out⟩
            case measure => simp [intOf]; omega
        · have hjk : ¬ (j : Int) < (K.length : Int) := by omega
          have hje : j = K.length := by omega
          have HF := Lib.hid (show Tr.commonB a b = (c : Int) by rw [HR.out, ← HK.out, hc, hje])
          clear hbel hc
          go_wp2_with fail
          go_ret
          exact ⟨ret_int HF.out.symm, H1.out.trans ((H5.out.trans (HR5.out.mono (by omega))).mono (by omega))⟩
end Go.Proofs.Ytepkigcbjepbpaa
