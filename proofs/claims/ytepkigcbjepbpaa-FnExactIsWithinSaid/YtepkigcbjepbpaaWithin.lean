/- Whether a tree's keys are all in another one: the program and the model. -/
import Derived.Test.YtepkigcbjepbpaaProg
import Derived.Test.YtepkigcbjepbpaaBase
import Derived.Test.YtepkigcbjepbpaaCommon
namespace Go.Proofs.Ytepkigcbjepbpaa
open Go.RowKit

def Tr.withinB (a b : Tr) : Bool := a.someB && b.someB && decide (Tr.cntB b a.keys a.keys.length = a.keys.length)

namespace Tr
theorem cnt_all {b : Tr} {K : List Int} {i : Nat} (hi : i < K.length) (hf : (b.path (K.getD i 0)).2 = false) : ∀ j, i < j → j ≤ K.length → cntB b K j < j := by
  intro j hij hj
  induction j with
  | zero => omega
  | succ j ih =>
    rw [cnt_succ (by omega)]
    by_cases e : i = j
    · subst e
      rw [hf]
      have := cnt_le b K i
      simp; omega
    · have := ih (by omega) (by omega)
      split <;> omega
end Tr

set_option maxRecDepth 100000 in
set_option maxHeartbeats 2000000 in
theorem impl_within {w' : World} {kv cv kv' cv' : Value} {a b : Tr} (ha : TreeA w' kv cv a) (hwa : a.weight ≤ 1048576) (hb : TreeIn w' w'.heap.size kv' cv' b) (hwb : b.weight ≤ 1048576) :
    Calls Try.prog 45 #[.agg #[kv, cv], .agg #[kv', cv']] w' fun e w'' => e = .returned (.bool (Tr.withinB a b)) ∧ Below w'.heap.size w' w'' := by
  obtain ⟨a1, a2, a3, a4, a5, a6, rfl, rfl⟩ := ha.slices
  obtain ⟨b1, b2, b3, b4, b5, b6, rfl, rfl⟩ := hb.slices
  obtain ⟨W1, hW1⟩ : ∃ W1, W1 = (w'.alloc (.cells #[.slice a1 a2 a3, .slice a4 a5 a6] 29)).alloc (.cells #[.slice b1 b2 b3, .slice b4 b5 b6] 29) := ⟨_, rfl⟩
  have hs1 : W1.heap.size = w'.heap.size + 2 := by rw [hW1]; simp
  have hb1 : Below w'.heap.size w' W1 := by rw [hW1]; exact ((Below.refl _ _).alloc (Nat.le_refl _) _).alloc (by simp) _
  have k0 : W1.heap[w'.heap.size]? = some (.cells #[.slice a1 a2 a3, .slice a4 a5 a6] 29 (0, 0)) := by rw [hW1, old_blk _ _ _ (by simp), new_blk]
  have kb : W1.heap[w'.heap.size + 1]? = some (.cells #[.slice b1 b2 b3, .slice b4 b5 b6] 29 (0, 0)) := by
    rw [hW1, show w'.heap.size + 1 = (w'.alloc (.cells #[.slice a1 a2 a3, .slice a4 a5 a6] 29)).heap.size by simp, new_blk]
  have BOXA : Hid (∀ W, Below W1.heap.size W1 W → W.heap[w'.heap.size]? = some (.cells #[.slice a1 a2 a3, .slice a4 a5 a6] 29 (0, 0))) := Lib.hid (fun W h => (h.block _ (by omega)).trans k0)
  obtain ⟨x1, x2, x3, x4⟩ := box2 k0
  obtain ⟨y1, y2, y3, y4⟩ := box2 kb
  have HC := Lib.hid (impl_common (ha.later hb1 (Nat.le_refl _)) hwa ((hb.later hb1 (Nat.le_refl _)).wider hb1.size) hwb)
  have HA := Lib.hid ha
  have HW1 := Lib.hid hW1
  have H1 := Lib.hid hb1
  have hcm : (a.someB = true ∧ b.someB = true ∧ Tr.commonB a b = (Tr.cntB b a.keys a.keys.length : Int) ∧ Tr.withinB a b = decide (Tr.cntB b a.keys a.keys.length = a.keys.length)) ∨ (Tr.commonB a b = -1 ∧ Tr.withinB a b = false) := by
    unfold Tr.commonB Tr.withinB
    cases h1 : a.someB <;> cases h2 : b.someB <;> simp
  clear ha hb hW1 hb1 k0 kb
  go_enter Try.func45, Try.ntmps45
  go_wp2_with fail
  rw [← HW1.out]
  refine HC.out.mono ?_
  rintro e w2 ⟨rfl, hb2⟩
  have H2 := Lib.hid hb2
  have hs2 := hb2.size
  clear hb2 x1 x2 x3 x4 y1 y2 y3 y4
  rcases hcm with ⟨-, -, hc, hwn⟩ | ⟨hc, hwn⟩
  · obtain ⟨C, hC⟩ : ∃ C, C = Tr.cntB b a.keys a.keys.length := ⟨_, rfl⟩
    rw [hc, ← hC]
    rw [← hC] at hwn
    have HWN := Lib.hid hwn
    have h0 : ((C : Int) ≥ 0) := by omega
    clear hc hwn hC
    obtain ⟨x1, x2, x3, x4⟩ := box2 (BOXA.out w2 H2.out)
    go_wp2_with fail
    refine (impl_keys_a (HA.out.later (H1.out.trans (H2.out.mono (by omega))) (Nat.le_refl _)) hwa).mono ?_
    rintro e w5 ⟨v5, rfl, ho5, hb5⟩
    obtain ⟨K, hK⟩ : ∃ K, K = a.keys := ⟨_, rfl⟩
    rw [← hK] at ho5
    obtain ⟨ka, kc, rfl⟩ := IntsOwn.shown ho5
    have HF := Lib.hid (And.intro hK (H1.out.trans ((H2.out.trans (hb5.mono (by omega))).mono (by omega))))
    clear ho5 hb5 hK x1 x2 x3 x4
    by_cases he : C = K.length
    · have he' : ((C : Int) == (K.length : Int)) = true := by simp [he]
      have HR := Lib.hid (show Tr.withinB a b = true by rw [HWN.out, ← HF.out.1, he]; simp)
      go_wp2_with fail
      go_ret
      exact ⟨by rw [HR.out]; rfl, HF.out.2⟩
    · have he' : ((C : Int) == (K.length : Int)) = false := beq_eq_false_iff_ne.2 (by omega)
      have HR := Lib.hid (show Tr.withinB a b = false by rw [HWN.out, ← HF.out.1]; exact decide_eq_false he)
      go_wp2_with fail
      go_ret
      exact ⟨by rw [HR.out]; rfl, HF.out.2⟩
  · rw [hc]
    have HWN := Lib.hid hwn
    clear hc hwn
    go_wp2_with fail
    go_ret
    exact ⟨by rw [HWN.out]; rfl, H1.out.trans (H2.out.mono (by omega))⟩

set_option maxRecDepth 100000 in
set_option maxHeartbeats 2000000 in
theorem specWithin_c {w : World} {B : Nat} {kv cv kv' cv' : Value} {a b : Tr} (ha : TreeIn w B kv cv a) (hwa : a.weight ≤ 1048576) (hb : TreeIn w B kv' cv' b) (hwb : b.weight ≤ 1048576) (w' : World) (hbw : Below B w w') (hB : B ≤ w'.heap.size) :
    Calls Try.prog 44 #[.agg #[kv, cv], .agg #[kv', cv']] w' fun e w'' => e = .returned (.bool (Tr.withinB a b)) ∧ Below w'.heap.size w' w'' := by
  obtain ⟨a1, a2, a3, a4, a5, a6, rfl, rfl⟩ := ha.slices
  obtain ⟨b1, b2, b3, b4, b5, b6, rfl, rfl⟩ := hb.slices
  obtain ⟨W1, hW1⟩ : ∃ W1, W1 = (w'.alloc (.cells #[.slice a1 a2 a3, .slice a4 a5 a6] 29)).alloc (.cells #[.slice b1 b2 b3, .slice b4 b5 b6] 29) := ⟨_, rfl⟩
  have hs1 : W1.heap.size = w'.heap.size + 2 := by rw [hW1]; simp
  have hb1 : Below w'.heap.size w' W1 := by rw [hW1]; exact ((Below.refl _ _).alloc (Nat.le_refl _) _).alloc (by simp) _
  have k0 : W1.heap[w'.heap.size]? = some (.cells #[.slice a1 a2 a3, .slice a4 a5 a6] 29 (0, 0)) := by rw [hW1, old_blk _ _ _ (by simp), new_blk]
  have kb : W1.heap[w'.heap.size + 1]? = some (.cells #[.slice b1 b2 b3, .slice b4 b5 b6] 29 (0, 0)) := by
    rw [hW1, show w'.heap.size + 1 = (w'.alloc (.cells #[.slice a1 a2 a3, .slice a4 a5 a6] 29)).heap.size by simp, new_blk]
  have BOXA : Hid (∀ W, Below W1.heap.size W1 W → W.heap[w'.heap.size]? = some (.cells #[.slice a1 a2 a3, .slice a4 a5 a6] 29 (0, 0))) := Lib.hid (fun W h => (h.block _ (by omega)).trans k0)
  have BOXB : Hid (∀ W, Below W1.heap.size W1 W → W.heap[w'.heap.size + 1]? = some (.cells #[.slice b1 b2 b3, .slice b4 b5 b6] 29 (0, 0))) := Lib.hid (fun W h => (h.block _ (by omega)).trans kb)
  have PAST : Hid (∀ W, Below W1.heap.size W1 W → Below B w W ∧ B ≤ W.heap.size) := Lib.hid (fun W h => ⟨hbw.trans ((hb1.trans (h.mono (by omega))).mono hB), by have := h.size; omega⟩)
  obtain ⟨x1, x2, x3, x4⟩ := box2 k0
  have HA := Lib.hid ha
  have HB := Lib.hid hb
  have HW1 := Lib.hid hW1
  have H1 := Lib.hid hb1
  have hcm : (a.someB = true → b.someB = true → Tr.withinB a b = decide (Tr.cntB b a.keys a.keys.length = a.keys.length)) ∧ (a.someB = false ∨ b.someB = false → Tr.withinB a b = false) := by
    unfold Tr.withinB
    constructor
    · intro h1 h2; simp [h1, h2]
    · rintro (h | h) <;> simp [h]
  have HC := Lib.hid hcm
  clear ha hb hW1 hb1 k0 kb hcm hbw
  go_enter Try.func44, Try.ntmps44
  go_wp2_with fail
  rw [← HW1.out]
  refine (l2Valid_c HA.out hwa W1 (PAST.out W1 (Below.refl _ _)).1 (by omega)).mono ?_
  rintro e w2 ⟨rfl, hb2⟩
  have H2 := Lib.hid hb2
  have hs2 := hb2.size
  clear hb2 x1 x2 x3 x4
  obtain ⟨y1, y2, y3, y4⟩ := box2 (BOXB.out w2 H2.out)
  cases hsa : a.someB with
  | false =>
    have HR := Lib.hid (HC.out.2 (.inl hsa))
    clear hsa
    go_wp2_with fail
    go_ret
    exact ⟨by rw [HR.out]; rfl, H1.out.trans (H2.out.mono (by omega))⟩
  | true =>
    have HSA := Lib.hid hsa
    clear hsa
    go_wp2_with fail
    refine (l2Valid_c HB.out hwb w2 (PAST.out w2 H2.out).1 (by omega)).mono ?_
    rintro e w3 ⟨rfl, hb3⟩
    have H3 := Lib.hid (H2.out.trans (hb3.mono hs2))
    have hs3 := H3.out.size
    clear hb3 y1 y2 y3 y4
    obtain ⟨x1, x2, x3, x4⟩ := box2 (BOXA.out w3 H3.out)
    cases hsb : b.someB with
    | false =>
      have HR := Lib.hid (HC.out.2 (.inr hsb))
      clear hsb
      go_wp2_with fail
      go_ret
      exact ⟨by rw [HR.out]; rfl, H1.out.trans (H3.out.mono (by omega))⟩
    | true =>
      have HR := Lib.hid (HC.out.1 HSA.out hsb)
      have HSB := Lib.hid (fun k => (someB_path k b).1 hsb)
      clear hsb
      go_wp2_with fail
      refine (specKeys_c HA.out hwa w3 (PAST.out w3 H3.out).1 (by omega)).mono ?_
      rintro e w5 ⟨v5, rfl, ho5, hb5⟩
      obtain ⟨K, hK⟩ : ∃ K, K = a.keys := ⟨_, rfl⟩
      rw [← hK] at ho5
      obtain ⟨ka, kc, rfl⟩ := IntsOwn.shown ho5
      obtain ⟨_, _, hv5, hk1, hk2, -, hat⟩ := IntsOwn.in ho5
      injection hv5 with ev1 _ ev3
      subst ev1 ev3
      have hkw : K.length ≤ 1048576 := by rw [hK]; exact Nat.le_trans (Tr.keys_length_le a) hwa
      have H5 := Lib.hid (H3.out.trans (hb5.mono hs3))
      have hs5 := H5.out.size
      have HAT := Lib.hid hat
      have HK := Lib.hid hK
      clear ho5 hb5 hat hK x1 x2 x3 x4
      go_wp2_with fail
      go_loopw [18] (fun s22 wr => ∃ j : Nat, j ≤ K.length ∧ s22 = .int .i64 j ∧ Hid (Tr.cntB b K j = j) ∧ Below w5.heap.size w5 wr) (fun s22 _ => K.length - (intOf s22).toNat)
      case atStart => exact ⟨0, Nat.zero_le _, rfl, Lib.hid (by simp [Tr.cntB]), Below.refl _ _⟩
      case round =>
        obtain ⟨j, hj, rfl, HJ, hbel⟩ := hrel
        have hsz := hbel.size
        have HR5 := Lib.hid hbel
        by_cases hlt : j < K.length
        · rcases HAT.out with h | ⟨kb, ko, rfl, hkb, hat⟩
          · rw [h] at hlt; simp at hlt
          have hcell : wr.cell? ⟨kb, ko + j, none⟩ = some (.int .i64 (K.getD j 0)) := by rw [below_cell hbel hkb]; exact hat j hlt
          have hsucc := Tr.cnt_succ (b := b) hlt
          have hbad := fun h => Tr.cnt_all (b := b) hlt h K.length hlt (Nat.le_refl _)
          obtain ⟨k, hk⟩ : ∃ k, k = K.getD j 0 := ⟨_, rfl⟩
          rw [← hk] at hcell hsucc hbad
          rw [HJ.out] at hsucc
          have hjk : (j : Int) < (K.length : Int) := by omega
          have hbr : Below W1.heap.size W1 wr := H5.out.trans (hbel.mono hs5)
          obtain ⟨y1, y2, y3, y4⟩ := box2 (BOXB.out wr hbr)
          have hcall := specHasKey_c HB.out hwb k wr (PAST.out wr hbr).1 (PAST.out wr hbr).2
          rw [HSB.out k] at hcall
          have HS := Lib.hid (And.intro hsucc hbad)
          have HCALL := Lib.hid hcall
          clear hat hbel hk hsucc hbad hcall hbr
          go_wp2_with fail
          refine HCALL.out.mono ?_
          rintro e w6 ⟨rfl, hb6⟩
          have H6 := Lib.hid (HR5.out.trans (hb6.mono hsz))
          clear hb6 y1 y2 y3 y4
          cases hp : (b.path k).2 with
          | false =>
            have hlow := HS.out.2 hp
            have HF := Lib.hid (show Tr.withinB a b = false by rw [HR.out, ← HK.out]; exact decide_eq_false (by omega))
            clear hp hlow
            go_wp2_with fail
            go_ret
            exact ⟨by rw [HF.out]; rfl, H1.out.trans ((H5.out.trans (H6.out.mono (by omega))).mono (by omega))⟩
          | true =>
            have HS2 := HS.out.1
            rw [hp] at HS2
            have HS3 := Lib.hid HS2
            clear hp HS2
            go_wp2_with fail
            go_roundw
            case rel => exact ⟨j + 1, by omega, by go_num, Lib.hid (by rw [HS3.out]; simp), H6.out⟩
            case measure => simp [intOf]; omega
        · have hjk : ¬ (j : Int) < (K.length : Int) := by omega
          have hje : j = K.length := by omega
          have HF := Lib.hid (show Tr.withinB a b = true by rw [HR.out, ← HK.out, ← hje, HJ.out]; simp)
          clear hbel
          go_wp2_with fail
          go_ret
          exact ⟨by rw [HF.out]; rfl, H1.out.trans ((H5.out.trans (HR5.out.mono (by omega))).mono (by omega))⟩
end Go.Proofs.Ytepkigcbjepbpaa
