/- The program's BinValid and BlackDepth. -/
import Derived.Test.YtodcapgmhginoaaProg
import Derived.Test.YtodcapgmhginoaaBvS0
import Derived.Test.YtodcapgmhginoaaBvS1
import Derived.Test.YtodcapgmhginoaaBvS2
import Derived.Test.YtodcapgmhginoaaBvS3
import Derived.Test.YtodcapgmhginoaaBvS4
import Derived.Test.YtodcapgmhginoaaBvS5
import Derived.Test.YtodcapgmhginoaaBvS6
import Derived.Test.YtodcapgmhginoaaBvS15
import Derived.Test.YtodcapgmhginoaaBvS24
import Derived.Test.YtodcapgmhginoaaBvS26
import Derived.Test.YtodcapgmhginoaaBvS31
import Derived.Test.YtodcapgmhginoaaBvS32
import Derived.RangeFuncNested
import Derived.Shelf.RegionOpen
import Derived.WalkKit
import Derived.OwnWalkIn
import Derived.TacticsInMore
namespace Go.Proofs.Ytodcapgmhginoaa
open Go.RowKit

namespace Bt
theorem keys_ge : ∀ (t : Bt) (n : Nat), t.shape = some n → 2 ^ n ≤ t.keys.length + 1
  | .mk k r [], n, h => by
    simp only [shape] at h
    split at h
    · cases h; simp
    · cases h
  | .mk k r [a, b], n, h => by
    simp only [shape] at h
    cases ha : a.shape with
    | none => rw [ha] at h; cases h
    | some x =>
      cases hb : b.shape with
      | none => rw [ha, hb] at h; cases h
      | some y =>
        have h1 := keys_ge a x ha
        have h2 := keys_ge b y hb
        rw [ha, hb] at h
        simp only at h
        split at h
        · cases h
        · rename_i hc
          have hxy : x = y := by
            by_cases e : x = y
            · exact e
            · exact absurd (Or.inl e) hc
          subst hxy
          simp only [Option.some.injEq] at h
          rw [keys_two]
          simp only [List.length_append, List.length_cons, List.length_nil]
          split at h
          · subst h; omega
          · subst h; rw [Nat.pow_succ]; omega
  | .mk _ _ [_], n, h => by simp [shape] at h
  | .mk _ _ (_ :: _ :: _ :: _), n, h => by simp [shape] at h

theorem shape_six {t : Bt} {n : Nat} (h : t.shape = some n) (hs : sortedB t.keys = true) : n ≤ 6 := by
  have h1 := keys_ge t n h
  have h2 := sorted_len hs
  by_cases h7 : n ≤ 6
  · exact h7
  · have : 2 ^ 7 ≤ 2 ^ n := Nat.pow_le_pow_right (by omega) (by omega)
    omega

theorem validB_prog (t : Bt) : t.validB = (!t.red && (decide (0 ≤ t.blk 6) && sortedB t.keys)) := by
  unfold validB blk
  cases h : t.shape with
  | none => simp
  | some n =>
    rw [red_shape h]
    cases hs : sortedB t.keys with
    | false => simp
    | true =>
      have := shape_six h hs
      simp [show (n : Int) ≤ 6 by omega]
theorem blackB_prog (t : Bt) : t.blackB = if t.validB then t.blk 6 else -1 := by
  unfold blackB
  cases hv : t.validB with
  | false => rfl
  | true =>
    unfold validB at hv
    cases h : t.shape with
    | none => rw [h] at hv; simp at hv
    | some n =>
      simp only [Bool.and_eq_true] at hv
      have := shape_six h hv.2.2
      simp [blk, h, show (n : Int) ≤ 6 by omega]
end Bt

set_option maxHeartbeats 2000000 in
set_option maxRecDepth 100000 in
theorem impl_binValid {w : World} {lo : Nat} {cv : Value} {t : Bt} (h : BinNew w lo cv t) (hw : t.weight ≤ 1048576) (w' : World) (hbw : Below w.heap.size w w') :
    Calls Try.prog 44 #[.agg #[.int .i64 t.key, .bool t.red, cv]] w' fun e w'' => e = .returned (.bool t.validB) ∧ Below w'.heap.size w' w'' := by
  have h' := h.later hbw (Nat.le_refl _)
  obtain ⟨gv, rfl⟩ := h.shown
  obtain ⟨W1, hW1⟩ : ∃ W1, W1 = w'.alloc (.cells #[.int .i64 t.key, .bool t.red, .slice (some ⟨gv, 0, none⟩) t.cs.length t.cs.length] 48) := ⟨_, rfl⟩
  have hs1 : W1.heap.size = w'.heap.size + 1 := by rw [hW1]; simp
  have hb1 : Below w'.heap.size w' W1 := by rw [hW1]; exact (Below.refl _ _).alloc (Nat.le_refl _) _
  have k1 : W1.heap[w'.heap.size]? = some (.cells #[.int .i64 t.key, .bool t.red, .slice (some ⟨gv, 0, none⟩) t.cs.length t.cs.length] 48 (0, 0)) := by rw [hW1, new_blk]
  obtain ⟨x1, x2, x3, -⟩ := box3 k1
  have h1 := h'.later hb1 (Nat.le_refl _)
  have HBL := Lib.hid (blacks_c h1 w'.heap.size 0 x1 x2 x3 6 (by omega) (by omega) W1 (Below.refl _ _))
  have HKY := Lib.hid (fun wx (hx : Below W1.heap.size W1 wx) => impl_binKeys h1 hw wx hx)
  rw [Bt.validB_prog]
  have hkl := Bt.keys_le t
  obtain ⟨kk, hkk⟩ : ∃ kk, kk = t.key := ⟨_, rfl⟩
  obtain ⟨kr, hkr⟩ : ∃ kr, kr = t.red := ⟨_, rfl⟩
  obtain ⟨L, hL⟩ : ∃ L, L = t.cs.length := ⟨_, rfl⟩
  obtain ⟨ks, hks⟩ : ∃ ks, ks = t.keys := ⟨_, rfl⟩
  obtain ⟨N, hN⟩ : ∃ N, N = t.blk 6 := ⟨_, rfl⟩
  rw [← hkk, ← hkr, ← hL] at hW1 k1
  rw [← hks] at hkl
  simp only [← hkk, ← hkr, ← hL, ← hks, ← hN] at HBL HKY x1 x2 x3 ⊢
  have hkl' : ks.length ≤ 1048576 := by omega
  have HW1 := Lib.hid hW1
  have H1 := Lib.hid (And.intro hb1 k1)
  clear hW1 hb1 k1 hkk hkr hL hks hN h h' h1 hbw hkl
  cases kr with
  | true =>
    go_enter Try.func44, Try.ntmps44
    go_wp2_with fail
    rw [← HW1.out]
    go_ret
    exact ⟨rfl, H1.out.1⟩
  | false =>
    by_cases hn : 0 ≤ N
    · have hd : decide (N ≥ 0) = true := decide_eq_true hn
      have hd' : decide (0 ≤ N) = true := decide_eq_true hn
      rw [hd', Bool.not_false, Bool.true_and, Bool.true_and]
      clear hd'
      go_enter Try.func44, Try.ntmps44
      go_wp2_with fail
      rw [← HW1.out]
      refine HBL.out.mono ?_
      rintro e W2 ⟨rfl, hb2⟩
      have kb2 := (hb2.block w'.heap.size (by omega)).trans H1.out.2
      have hs2 := hb2.size
      have H2 := Lib.hid (And.intro (H1.out.1.trans (hb2.mono (by omega))) hb2)
      clear x1 x2 x3 hb2
      obtain ⟨x1, x2, x3, -⟩ := box3 kb2
      clear kb2
      go_wp2_with fail
      refine (HKY.out W2 H2.out.2).mono ?_
      rintro e W3 ⟨v, rfl, ho, hb3⟩
      obtain ⟨va, vc, rfl⟩ := IntsOwn.shown ho
      have hs3 := hb3.size
      have H3 := Lib.hid (And.intro (H2.out.1.trans (hb3.mono (by omega))) ho)
      clear hb3 ho
      go_wp2_with fail
      refine (values_c W3 va ks.length vc).mono ?_
      rintro e W4 ⟨rfl, hW4⟩
      have hs4 : W4.heap.size = W3.heap.size + 1 := by rw [hW4]; simp
      have hb4 : Below W3.heap.size W3 W4 := by rw [hW4]; exact (Below.refl _ _).alloc (Nat.le_refl _) _
      have kb4 : W4.heap[W3.heap.size]? = some (.cells #[.slice va ks.length vc] 22 (0, 0)) := by rw [hW4, new_blk]
      have hit := values_iter (B := W4.heap.size) kb4 (IntsOwn.in (IntsOwn.later H3.out.2 hb4 (Nat.le_refl _))) hkl'
      have has := ascend_c (enters_of Try.func112 (by kernel_rfl) rfl) hit (fun k h => h)
      have HAS := Lib.hid has
      have H4 := Lib.hid (H3.out.1.trans (hb4.mono (by omega)))
      clear hW4 hb4 kb4 hit has
      go_wp2_with fail
      refine HAS.out.mono ?_
      rintro e W5 ⟨rfl, hb5⟩
      have H5 := Lib.hid (H4.out.trans (hb5.mono (by omega)))
      clear hb5
      go_wp2_with fail
      go_ret
      exact ⟨rfl, H5.out⟩
    · have hd : decide (N ≥ 0) = false := decide_eq_false hn
      have hd' : decide (0 ≤ N) = false := decide_eq_false hn
      rw [hd']
      clear hd'
      go_enter Try.func44, Try.ntmps44
      go_wp2_with fail
      rw [← HW1.out]
      refine HBL.out.mono ?_
      rintro e W2 ⟨rfl, hb2⟩
      have H2 := Lib.hid (H1.out.1.trans (hb2.mono (by omega)))
      clear hb2
      go_wp2_with fail
      go_ret
      exact ⟨rfl, H2.out⟩

set_option maxHeartbeats 2000000 in
theorem impl_blackDepth {w : World} {lo : Nat} {cv : Value} {t : Bt} (h : BinNew w lo cv t) (hw : t.weight ≤ 1048576) (w' : World) (hbw : Below w.heap.size w w') :
    Calls Try.prog 46 #[.agg #[.int .i64 t.key, .bool t.red, cv]] w' fun e w'' => e = .returned (.int .i64 t.blackB) ∧ Below w'.heap.size w' w'' := by
  have h' := h.later hbw (Nat.le_refl _)
  have HVA := Lib.hid (fun wx (hx : Below w'.heap.size w' wx) => impl_binValid h' hw wx hx)
  obtain ⟨gv, rfl⟩ := h.shown
  obtain ⟨W1, hW1⟩ : ∃ W1, W1 = w'.alloc (.cells #[.int .i64 t.key, .bool t.red, .slice (some ⟨gv, 0, none⟩) t.cs.length t.cs.length] 48) := ⟨_, rfl⟩
  have hs1 : W1.heap.size = w'.heap.size + 1 := by rw [hW1]; simp
  have hb1 : Below w'.heap.size w' W1 := by rw [hW1]; exact (Below.refl _ _).alloc (Nat.le_refl _) _
  have k1 : W1.heap[w'.heap.size]? = some (.cells #[.int .i64 t.key, .bool t.red, .slice (some ⟨gv, 0, none⟩) t.cs.length t.cs.length] 48 (0, 0)) := by rw [hW1, new_blk]
  obtain ⟨x1, x2, x3, -⟩ := box3 k1
  have h1 := h'.later hb1 (Nat.le_refl _)
  have HBL := Lib.hid (fun wx (hx : Below W1.heap.size W1 wx) => blacks_c h1 w'.heap.size 0 x1 x2 x3 6 (by omega) (by omega) wx hx)
  rw [Bt.blackB_prog]
  obtain ⟨kk, hkk⟩ : ∃ kk, kk = t.key := ⟨_, rfl⟩
  obtain ⟨kr, hkr⟩ : ∃ kr, kr = t.red := ⟨_, rfl⟩
  obtain ⟨L, hL⟩ : ∃ L, L = t.cs.length := ⟨_, rfl⟩
  obtain ⟨N, hN⟩ : ∃ N, N = t.blk 6 := ⟨_, rfl⟩
  obtain ⟨V, hV⟩ : ∃ V, V = t.validB := ⟨_, rfl⟩
  rw [← hkk, ← hkr, ← hL] at hW1 k1
  simp only [← hkk, ← hkr, ← hL, ← hN, ← hV] at HBL HVA x1 x2 x3 ⊢
  have HW1 := Lib.hid hW1
  have H1 := Lib.hid (And.intro hb1 k1)
  clear hW1 hb1 k1 hkk hkr hL hN hV h h' h1 hbw
  cases V with
  | true =>
    rw [if_pos rfl]
    go_enter Try.func46, Try.ntmps46
    go_wp2_with fail
    rw [← HW1.out]
    refine (HVA.out W1 H1.out.1).mono ?_
    rintro e W2 ⟨rfl, hb2⟩
    have hs2 := hb2.size
    have H2 := Lib.hid (And.intro (H1.out.1.trans (hb2.mono (by omega))) hb2)
    clear x1 x2 x3 hb2
    go_wp2_with fail
    refine (HBL.out W2 H2.out.2).mono ?_
    rintro e W3 ⟨rfl, hb3⟩
    have H3 := Lib.hid (H2.out.1.trans (hb3.mono (by omega)))
    clear hb3
    go_wp2_with fail
    go_ret
    exact ⟨rfl, H3.out⟩
  | false =>
    rw [if_neg (by simp)]
    go_enter Try.func46, Try.ntmps46
    go_wp2_with fail
    rw [← HW1.out]
    refine (HVA.out W1 H1.out.1).mono ?_
    rintro e W2 ⟨rfl, hb2⟩
    have H2 := Lib.hid (H1.out.1.trans (hb2.mono (by omega)))
    clear hb2
    go_wp2_with fail
    go_ret
    exact ⟨rfl, H2.out⟩
end Go.Proofs.Ytodcapgmhginoaa
