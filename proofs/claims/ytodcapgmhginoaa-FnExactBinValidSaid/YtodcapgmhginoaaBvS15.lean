/- The model's BinValid and BlackDepth. -/
import Derived.Test.YtodcapgmhginoaaProg
import Derived.Test.YtodcapgmhginoaaBvS0
import Derived.Test.YtodcapgmhginoaaBvS1
import Derived.Test.YtodcapgmhginoaaBvS2
import Derived.Test.YtodcapgmhginoaaBvS4
import Derived.Test.YtodcapgmhginoaaBvS6
import Derived.Test.YtodcapgmhginoaaBvS8
import Derived.Test.YtodcapgmhginoaaBvS9
import Derived.Test.YtodcapgmhginoaaBvS14
import Derived.WalkKit
namespace Go.Proofs.Ytodcapgmhginoaa
open Go.RowKit

namespace Bt
/-- The coloured tree is valid. -/
def validB (t : Bt) : Bool := t.shape.isSome && (!t.redN && sortedB t.keys)
/-- How many black nodes lie on each way down, or -1. -/
def blackB (t : Bt) : Int := if t.validB then ((t.shape.getD 0 : Nat) : Int) else -1
end Bt

set_option maxHeartbeats 2000000 in
theorem specBinValid_c {w : World} {B : Nat} {cv : Value} {t : Bt} (ht : BinIn w B cv t) (hw : t.weight ≤ 1048576) (w' : World) (hbw : Below B w w') (hB : B ≤ w'.heap.size) :
    Calls Try.prog 43 #[.agg #[.int .i64 t.key, .bool t.red, cv]] w' fun e w'' => e = .returned (.bool t.validB) ∧ Below w'.heap.size w' w'' := by
  obtain ⟨a, n, cvs, rfl, h1, h2, h3, h4⟩ := ht.parts
  obtain ⟨W1, hW1⟩ : ∃ W1, W1 = w'.alloc (.cells #[.int .i64 t.key, .bool t.red, .slice a t.cs.length n] 48) := ⟨_, rfl⟩
  have hs1 : W1.heap.size = w'.heap.size + 1 := by rw [hW1]; simp
  have hb1 : Below w'.heap.size w' W1 := by rw [hW1]; exact (Below.refl _ _).alloc (Nat.le_refl _) _
  have kb1 : W1.heap[w'.heap.size]? = some (.cells #[.int .i64 t.key, .bool t.red, .slice a t.cs.length n] 48 (0, 0)) := by rw [hW1, new_blk]
  obtain ⟨x1, x2, x3, -⟩ := box3 kb1
  have hb1' : Below B w W1 := hbw.trans (hb1.mono hB)
  have HSH := Lib.hid (l10Shape_c ht hw W1 hb1' (by omega))
  have HKY := Lib.hid (fun wx (h : Below B w wx) (h' : B ≤ wx.heap.size) => specBinKeys_c ht hw wx h h')
  have hq : t.redN = (((t.cs.length : Int) == 2) && t.red) := by unfold Bt.redN; congr 1; rw [Bool.eq_iff_iff]; simp; omega
  have HRE := Lib.hid (fun W => hq ▸ l10Red_c t.key t.red a t.cs.length n W)
  obtain ⟨o1, ho1⟩ : ∃ o, o = t.shape.isSome := ⟨_, rfl⟩
  obtain ⟨o2, ho2⟩ : ∃ o, o = t.redN := ⟨_, rfl⟩
  have hv : t.validB = (o1 && (!o2 && sortedB t.keys)) := by unfold Bt.validB; rw [ho1, ho2]
  rw [hv]
  rw [← ho1] at HSH
  rw [← ho2] at HRE
  obtain ⟨kk, hkk⟩ : ∃ kk, kk = t.key := ⟨_, rfl⟩
  obtain ⟨kr, hkr⟩ : ∃ kr, kr = t.red := ⟨_, rfl⟩
  obtain ⟨L, hL⟩ : ∃ L, L = t.cs.length := ⟨_, rfl⟩
  obtain ⟨ks, hks⟩ : ∃ ks, ks = t.keys := ⟨_, rfl⟩
  rw [← hkk, ← hkr, ← hL] at HSH HRE hW1 kb1 ⊢
  simp only [← hkk, ← hkr, ← hL, ← hks] at HKY x1 x2 x3 ⊢
  have HW1 := Lib.hid hW1
  have H1 := Lib.hid (And.intro hb1 (And.intro kb1 hb1'))
  clear hW1 hb1 kb1 hb1' hq hv ho1 ho2 hkk hkr hL hks h1 h2 h3 h4 ht
  go_enter Try.func43, Try.ntmps43
  go_wp2_with fail
  rw [← HW1.out]
  refine HSH.out.mono ?_
  rintro e W2 ⟨rfl, hb2⟩
  have kb2 := (hb2.block w'.heap.size (by omega)).trans H1.out.2.1
  have hs2 := hb2.size
  have H2 := Lib.hid (And.intro (H1.out.1.trans (hb2.mono (by omega))) (And.intro kb2 (H1.out.2.2.trans (hb2.mono (by omega)))))
  clear x1 x2 x3 hb2
  obtain ⟨x1, x2, x3, -⟩ := box3 kb2
  clear kb2
  cases o1 with
  | false =>
    go_wp2_with fail
    go_ret
    exact ⟨rfl, H2.out.1⟩
  | true =>
    cases o2 with
    | true =>
      go_wp2_with fail
      refine (HRE.out W2).mono ?_
      rintro e W3 ⟨rfl, hb3⟩
      have H3 := Lib.hid (H2.out.1.trans (hb3.mono (by omega)))
      clear hb3
      go_wp2_with fail
      go_ret
      exact ⟨rfl, H3.out⟩
    | false =>
      go_wp2_with fail
      refine (HRE.out W2).mono ?_
      rintro e W3 ⟨rfl, hb3⟩
      have kb3 := (hb3.block w'.heap.size (by omega)).trans H2.out.2.1
      have hs3 := hb3.size
      have H3 := Lib.hid (And.intro (H2.out.1.trans (hb3.mono (by omega))) (H2.out.2.2.trans (hb3.mono (by omega))))
      clear x1 x2 x3 hb3
      obtain ⟨x1, x2, x3, -⟩ := box3 kb3
      clear kb3
      go_wp2_with fail
      refine (HKY.out W3 H3.out.2 (by omega)).mono ?_
      rintro e W4 ⟨v, rfl, ho, hb4⟩
      have H4 := Lib.hid (And.intro (H3.out.1.trans (hb4.mono (by omega))) ho)
      clear hb4 ho
      go_wp2_with fail
      refine (l1Sorted_c _ _ _ _ (Nat.le_refl _) (IntsOwn.in H4.out.2)).mono ?_
      rintro e W5 ⟨rfl, rfl⟩
      go_wp2_with fail
      go_ret
      exact ⟨rfl, H4.out.1⟩

set_option maxHeartbeats 2000000 in
theorem specBlackDepth_c {w : World} {B : Nat} {cv : Value} {t : Bt} (ht : BinIn w B cv t) (hw : t.weight ≤ 1048576) (w' : World) (hbw : Below B w w') (hB : B ≤ w'.heap.size) :
    Calls Try.prog 45 #[.agg #[.int .i64 t.key, .bool t.red, cv]] w' fun e w'' => e = .returned (.int .i64 t.blackB) ∧ Below w'.heap.size w' w'' := by
  have HSH := Lib.hid (fun wx (h : Below B w wx) (h' : B ≤ wx.heap.size) => l10Shape_c ht hw wx h h')
  have HVA := Lib.hid (fun wx (h : Below B w wx) (h' : B ≤ wx.heap.size) => specBinValid_c ht hw wx h h')
  obtain ⟨a, n, cvs, rfl, h1, h2, h3, h4⟩ := ht.parts
  obtain ⟨W1, hW1⟩ : ∃ W1, W1 = w'.alloc (.cells #[.int .i64 t.key, .bool t.red, .slice a t.cs.length n] 48) := ⟨_, rfl⟩
  have hs1 : W1.heap.size = w'.heap.size + 1 := by rw [hW1]; simp
  have hb1 : Below w'.heap.size w' W1 := by rw [hW1]; exact (Below.refl _ _).alloc (Nat.le_refl _) _
  have kb1 : W1.heap[w'.heap.size]? = some (.cells #[.int .i64 t.key, .bool t.red, .slice a t.cs.length n] 48 (0, 0)) := by rw [hW1, new_blk]
  obtain ⟨x1, x2, x3, -⟩ := box3 kb1
  have hb1' : Below B w W1 := hbw.trans (hb1.mono hB)
  obtain ⟨V, hV⟩ : ∃ V, V = t.validB := ⟨_, rfl⟩
  obtain ⟨N, hN⟩ : ∃ N : Int, N = ((t.shape.getD 0 : Nat) : Int) := ⟨_, rfl⟩
  have hv : t.blackB = if V then N else -1 := by unfold Bt.blackB; rw [hV, hN]
  rw [hv]
  obtain ⟨kk, hkk⟩ : ∃ kk, kk = t.key := ⟨_, rfl⟩
  obtain ⟨kr, hkr⟩ : ∃ kr, kr = t.red := ⟨_, rfl⟩
  obtain ⟨L, hL⟩ : ∃ L, L = t.cs.length := ⟨_, rfl⟩
  rw [← hkk, ← hkr, ← hL] at hW1 kb1 ⊢
  simp only [← hkk, ← hkr, ← hL, ← hV, ← hN] at HSH HVA x1 x2 x3 ⊢
  have HW1 := Lib.hid hW1
  have H1 := Lib.hid (And.intro hb1 (And.intro kb1 hb1'))
  clear hW1 hb1 kb1 hb1' hv hV hN hkk hkr hL h1 h2 h3 h4 ht
  cases V with
  | true =>
    rw [if_pos rfl]
    go_enter Try.func45, Try.ntmps45
    go_wp2_with fail
    rw [← HW1.out]
    refine (HSH.out W1 H1.out.2.2 (by omega)).mono ?_
    rintro e W2 ⟨rfl, hb2⟩
    have kb2 := (hb2.block w'.heap.size (by omega)).trans H1.out.2.1
    have hs2 := hb2.size
    have H2 := Lib.hid (And.intro (H1.out.1.trans (hb2.mono (by omega))) (H1.out.2.2.trans (hb2.mono (by omega))))
    clear x1 x2 x3 hb2
    obtain ⟨x1, x2, x3, -⟩ := box3 kb2
    clear kb2
    go_wp2_with fail
    refine (HVA.out W2 H2.out.2 (by omega)).mono ?_
    rintro e W3 ⟨rfl, hb3⟩
    have H3 := Lib.hid (H2.out.1.trans (hb3.mono (by omega)))
    clear hb3
    go_wp2_with fail
    go_ret
    exact ⟨rfl, H3.out⟩
  | false =>
    rw [if_neg (by simp)]
    go_enter Try.func45, Try.ntmps45
    go_wp2_with fail
    rw [← HW1.out]
    refine (HSH.out W1 H1.out.2.2 (by omega)).mono ?_
    rintro e W2 ⟨rfl, hb2⟩
    have kb2 := (hb2.block w'.heap.size (by omega)).trans H1.out.2.1
    have hs2 := hb2.size
    have H2 := Lib.hid (And.intro (H1.out.1.trans (hb2.mono (by omega))) (H1.out.2.2.trans (hb2.mono (by omega))))
    clear x1 x2 x3 hb2
    obtain ⟨x1, x2, x3, -⟩ := box3 kb2
    clear kb2
    go_wp2_with fail
    refine (HVA.out W2 H2.out.2 (by omega)).mono ?_
    rintro e W3 ⟨rfl, hb3⟩
    have H3 := Lib.hid (H2.out.1.trans (hb3.mono (by omega)))
    clear hb3
    go_wp2_with fail
    go_ret
    exact ⟨rfl, H3.out⟩
end Go.Proofs.Ytodcapgmhginoaa
