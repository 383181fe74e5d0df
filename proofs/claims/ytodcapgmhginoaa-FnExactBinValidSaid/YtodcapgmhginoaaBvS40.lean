/- The law on BinValid: the walk over the contracts. -/
import Derived.Test.YtodcapgmhginoaaProg
import Derived.Test.YtodcapgmhginoaaBvS0
import Derived.Test.YtodcapgmhginoaaBvS2
import Derived.Test.YtodcapgmhginoaaBvS38
import Derived.Test.YtodcapgmhginoaaBvS3
import Derived.Test.YtodcapgmhginoaaBvS39
import Derived.Test.YtodcapgmhginoaaBvS15
import Derived.Deep.RegionHeld3
namespace Go.Proofs.Ytodcapgmhginoaa
open Go.RowKit

/-- What the program's BinValid is to do. -/
def ImplBinValid : Prop := ∀ (w0 : World) (lo : Nat) (cv : Value) (t : Bt), BinNew w0 lo cv t → t.weight ≤ 1048576 → ∀ w', Below w0.heap.size w0 w' →
  Calls Try.prog 44 #[.agg #[.int .i64 t.key, .bool t.red, cv]] w' fun e w'' => e = .returned (.bool t.validB) ∧ Below w'.heap.size w' w''

set_option maxHeartbeats 2000000 in
set_option maxRecDepth 100000 in
theorem exBinValid_c {cv : Value} {t : Bt} (w : World) (ht : BinIn w w.heap.size cv t)
    (hI : ImplBinValid) :
    Calls Try.prog 11 #[.agg #[.int .i64 t.key, .bool t.red, cv]] w fun e w' => e = .returned (.bool true) ∧ Below w.heap.size w w' := by
  obtain ⟨W1, hW1⟩ : ∃ W1, W1 = w.alloc (.cells #[.int .i64 t.key, .bool t.red, cv] 43) := ⟨_, rfl⟩
  have hs1 : W1.heap.size = w.heap.size + 1 := by rw [hW1]; simp
  have hb1 : Below w.heap.size w W1 := by rw [hW1]; exact (Below.refl _ _).alloc (Nat.le_refl _) _
  have kb : W1.heap[w.heap.size]? = some (.cells #[.int .i64 t.key, .bool t.red, cv] 43 (0, 0)) := by rw [hW1, new_blk]
  obtain ⟨x1, x2, x3, x4, x5, x6⟩ := box3 kb
  have HSZ := Lib.hid (fun wx (h : Below w.heap.size w wx) => szBin_c ht wx 1048576 h h.size (by omega) (by omega))
  have HTO := Lib.hid (fun wx (h : Below w.heap.size w wx) (hw : t.weight ≤ 1048576) => toBin_c ht hw wx h h.size)
  have HSP := Lib.hid (fun wx cv' (h : BinIn wx wx.heap.size cv' t) (hw : t.weight ≤ 1048576) => specBinValid_c h hw wx (Below.refl _ _) (Nat.le_refl _))
  have HIM := Lib.hid (fun (w0 : World) lo cv' (h : BinNew w0 lo cv' t) (hw : t.weight ≤ 1048576) w' (hb : Below w0.heap.size w0 w') => hI w0 lo cv' t h hw w' hb)
  have HEQ := Lib.hid (fun (wx : World) cv' cv'' (h : BinIn wx wx.heap.size cv' t) (h' : BinIn wx wx.heap.size cv'' t) => eqBin_c h cv'' h' wx (Below.refl _ _) (Nat.le_refl _))
  obtain ⟨kk, hkk⟩ : ∃ kk, kk = t.key := ⟨_, rfl⟩
  obtain ⟨kr, hkr⟩ : ∃ kr, kr = t.red := ⟨_, rfl⟩
  obtain ⟨R, hR⟩ : ∃ R : Bool, R = t.validB := ⟨_, rfl⟩
  rw [← hkk] at x1 HSZ HTO HSP HIM HEQ hW1 kb ⊢
  rw [← hkr] at x2 HSZ HTO HSP HIM HEQ hW1 kb ⊢
  rw [← hR] at HSP HIM
  have HW1 := Lib.hid hW1
  have H1 := Lib.hid (And.intro hb1 kb)
  have hcl : t.cs.length ≤ t.weight := by rw [Bt.weight_eq]; exact Bt.length_le_weights _
  clear hW1 hb1 kb ht hI hkk hkr hR
  go_enter Try.func11, Try.ntmps11
  go_wp2_with fail
  rw [← HW1.out]
  refine (HSZ.out W1 H1.out.1).mono ?_
  rintro e w2 ⟨rfl, hb2⟩
  have hs2 := hb2.size
  have kb2 := (hb2.block w.heap.size (by omega)).trans H1.out.2
  have hb2' := H1.out.1.trans (hb2.mono (by omega))
  clear x1 x2 x3 x4 x5 x6
  obtain ⟨x1, x2, x3, x4, x5, x6⟩ := box3 kb2
  have H2 := Lib.hid (And.intro hb2' kb2)
  clear hb2 hb2' kb2
  by_cases hwt : t.weight ≤ 1048576
  · rw [leftOf_ge (by omega)]
    have hnn : ¬ ((1048576 : Int) - (t.weight : Int) < 0) := by omega
    go_wp2_with fail
    -- the first copy, for the model
    refine (HTO.out w2 H2.out.1 hwt).mono ?_
    rintro e w3 ⟨c3, rfl, hn3, hb3⟩
    have hs3 := hb3.size
    have kb3 := (hb3.block w.heap.size (by omega)).trans H2.out.2
    have hb3' := H2.out.1.trans (hb3.mono (by omega))
    clear x1 x2 x3 x4 x5 x6
    obtain ⟨x1, x2, x3, x4, x5, x6⟩ := box3 kb3
    have H3 := Lib.hid (And.intro hb3' kb3)
    have HN3 := Lib.hid (hn3.tree hwt)
    clear hb3 hb3' kb3 hn3
    go_wp2_with fail
    refine (HSP.out w3 _ HN3.out hwt).mono ?_
    rintro e w4 ⟨rfl, hb4⟩
    have hs4 := hb4.size
    have kb4 := (hb4.block w.heap.size (by omega)).trans H3.out.2
    have hb4' := H3.out.1.trans (hb4.mono (by omega))
    clear x1 x2 x3 x4 x5 x6
    obtain ⟨x1, x2, x3, x4, x5, x6⟩ := box3 kb4
    have H4 := Lib.hid (And.intro hb4' kb4)
    clear hb4 hb4' kb4
    go_wp2_with fail
    -- the second copy, for the program
    refine (HTO.out w4 H4.out.1 hwt).mono ?_
    rintro e w5 ⟨k5, rfl, hn5, hb5⟩
    obtain ⟨g5, rfl⟩ := hn5.shown
    have hs5 := hb5.size
    have kb5 := (hb5.block w.heap.size (by omega)).trans H4.out.2
    have hb5' := H4.out.1.trans (hb5.mono (by omega))
    clear x1 x2 x3 x4 x5 x6
    obtain ⟨x1, x2, x3, x4, x5, x6⟩ := box3 kb5
    have H5 := Lib.hid (And.intro hb5' kb5)
    have HN5 := Lib.hid (hn5.tree hwt)
    have HT5 := Lib.hid hn5
    clear hb5 hb5' kb5 hn5
    go_wp2_with fail
    obtain ⟨W6, hW6⟩ : ∃ W6, W6 = w5.alloc (.cells #[.int .i64 kk, .bool kr, .slice (some ⟨g5, 0, none⟩) t.cs.length t.cs.length] 48) := ⟨_, rfl⟩
    rw [← hW6]
    have hs6 : W6.heap.size = w5.heap.size + 1 := by rw [hW6]; simp
    have hb6 : Below w5.heap.size w5 W6 := by rw [hW6]; exact (Below.refl _ _).alloc (Nat.le_refl _) _
    have kx6 : W6.heap[w5.heap.size]? = some (.cells #[.int .i64 kk, .bool kr, .slice (some ⟨g5, 0, none⟩) t.cs.length t.cs.length] 48 (0, 0)) := by rw [hW6, new_blk]
    have kb6 := (hb6.block w.heap.size (by omega)).trans H5.out.2
    have hb6' := H5.out.1.trans (hb6.mono (by omega))
    clear x1 x2 x3 x4 x5 x6 hW6
    refine (HIM.out _ _ _ HT5.out hwt W6 hb6).mono ?_
    rintro e w7 ⟨rfl, hb7⟩
    have hs7 := hb7.size
    have kb7 := (hb7.block w.heap.size (by omega)).trans kb6
    have kx7 := (hb7.block w5.heap.size (by omega)).trans kx6
    have hb7' := hb6'.trans (hb7.mono (by omega))
    have hb57 : Below w5.heap.size w5 w7 := hb6.trans (hb7.mono (by omega))
    obtain ⟨x1, x2, x3, x4, x5, x6⟩ := box3 kb7
    obtain ⟨y1, y2, y3, y4, y5, y6⟩ := box3 kx7
    have H7 := Lib.hid (And.intro hb7' (And.intro kb7 (And.intro kx7 hb57)))
    have hne : (R != R) = false := by simp
    clear hb7 hb7' kb7 kx7 kb6 kx6 hb6 hb6' hb57
    go_wp2_with fail
    go_region_held3 (fun x => (x.cell? ⟨w.heap.size, 0, none⟩ = some (.int .i64 kk) ∧ x.cell? ⟨w.heap.size, 1, none⟩ = some (.bool kr) ∧ x.cell? ⟨w.heap.size, 2, none⟩ = some cv) ∧ x.cell? ⟨w5.heap.size, 0, none⟩ = some (.int .i64 kk) ∧ x.cell? ⟨w5.heap.size, 1, none⟩ = some (.bool kr) ∧ x.cell? ⟨w5.heap.size, 2, none⟩ = some (.slice (some ⟨g5, 0, none⟩) t.cs.length t.cs.length))
      (first | exact ⟨⟨x1, x2, x3⟩, y1, y2, y3⟩ | exact ⟨⟨z1, z2, z3⟩, u1, u2, u3⟩ | exact ⟨⟨q1, q2, q3⟩, r1, r2, r3⟩ | go_keep)
      (first
        | (go_at_call 37; refine (HTO.out _ (H7.out.1.drew) hwt).mono ?_; rintro e w8 ⟨k8, rfl, hn8, hb8⟩; obtain ⟨g8, rfl⟩ := hn8.shown; have hs8 := hb8.size; have HN8 := Lib.hid (hn8.tree hwt); have kb8 := (hb8.block w.heap.size (by simp; omega)).trans H7.out.2.1; have kx8 := (hb8.block w5.heap.size (by simp; omega)).trans H7.out.2.2.1; obtain ⟨z1, z2, z3, z4, z5, z6⟩ := box3 kb8; obtain ⟨u1, u2, u3, u4, u5, u6⟩ := box3 kx8; have H8 := Lib.hid (And.intro (H7.out.1.drew.trans (hb8.mono (by simp; omega))) (And.intro (H7.out.2.2.2.drew.trans (hb8.mono (by simp; omega))) (And.intro kb8 kx8))); clear hb8 hn8 kb8 kx8)
        | (go_at_call 39; refine (HEQ.out _ _ _ (BinIn.wider (BinIn.later HN5.out H8.out.2.1 (Nat.le_refl _)) (by simp at hs8; omega)) HN8.out).mono ?_; rintro e w9 ⟨rfl, hb9⟩; have hs9 := hb9.size; obtain ⟨q1, q2, q3, q4, q5, q6⟩ := box3 ((hb9.block w.heap.size (by simp at hs8; omega)).trans H8.out.2.2.1); obtain ⟨r1, r2, r3, r4, r5, r6⟩ := box3 ((hb9.block w5.heap.size (by simp at hs8; omega)).trans H8.out.2.2.2); have H9 := Lib.hid (H8.out.1.trans (hb9.mono (by simp at hs8; omega))); clear hb9))
    go_wp2_with fail
    go_ret
    exact ⟨rfl, H9.out⟩
  · rw [leftOf_lt (by omega)]
    go_wp2_with fail
    go_ret
    exact ⟨rfl, H2.out.1⟩
end Go.Proofs.Ytodcapgmhginoaa
