/- The law on FullNodes: the walk over the contracts. -/
import Derived.Test.YtodcapgmhginoaaProg
import Derived.Test.YtodcapgmhginoaaFuS0
import Derived.Test.YtodcapgmhginoaaFuS25
import Derived.Test.YtodcapgmhginoaaFuS2
import Derived.Test.YtodcapgmhginoaaFuS26
import Derived.Test.YtodcapgmhginoaaFuS27
import Derived.Deep.RegionHeld3
namespace Go.Proofs.Ytodcapgmhginoaa
open Go.RowKit

/-- What the program's FullNodes is to do. -/
def ImplFullNodes : Prop := ∀ (w0 : World) (lo : Nat) (kv cv : Value) (t : Tr) (n : Int), TreeNew w0 lo kv cv t → t.weight ≤ 1048576 → -9223372036854775808 ≤ n → n ≤ 9223372036854775807 → ∀ w', Below w0.heap.size w0 w' →
  Calls Try.prog 30 #[.agg #[kv, cv], .int .i64 n] w' fun e w'' => e = .returned (.int .i64 (Tr.full n t)) ∧ Below w'.heap.size w' w''

set_option maxHeartbeats 2000000 in
set_option maxRecDepth 100000 in
theorem exFullNodes_c {kv cv : Value} {t : Tr} (w : World) (ht : TreeIn w w.heap.size kv cv t) (n : Int) (hd1 : -9223372036854775808 ≤ n) (hd2 : n ≤ 9223372036854775807)
    (hI : ImplFullNodes) :
    Calls Try.prog 6 #[.agg #[kv, cv], .int .i64 n] w fun e w' => e = .returned (.bool true) ∧ Below w.heap.size w w' := by
  obtain ⟨W1, hW1⟩ : ∃ W1, W1 = w.alloc (.cells #[kv, cv] 25) := ⟨_, rfl⟩
  have hs1 : W1.heap.size = w.heap.size + 1 := by rw [hW1]; simp
  have hb1 : Below w.heap.size w W1 := by rw [hW1]; exact (Below.refl _ _).alloc (Nat.le_refl _) _
  have kb : W1.heap[w.heap.size]? = some (.cells #[kv, cv] 25 (0, 0)) := by rw [hW1, new_blk]
  obtain ⟨x1, x2, x3, x4⟩ := box2 kb
  have HW1 := Lib.hid hW1
  have HT := Lib.hid ht
  have H1 := Lib.hid (And.intro hb1 kb)
  clear hW1 hb1 kb ht
  go_enter Try.func6, Try.ntmps6
  go_wp2_with fail
  rw [← HW1.out]
  refine (szTree_c HT.out W1 1048576 H1.out.1 (by omega) (by omega) (by omega)).mono ?_
  rintro e w2 ⟨rfl, hb2⟩
  have hs2 := hb2.size
  have kb2 := (hb2.block w.heap.size (by omega)).trans H1.out.2
  have hb2' := H1.out.1.trans (hb2.mono (by omega))
  clear x1 x2 x3 x4
  obtain ⟨x1, x2, x3, x4⟩ := box2 kb2
  have H2 := Lib.hid (And.intro hb2' kb2)
  clear hb2 hb2' kb2
  by_cases hwt : t.weight ≤ 1048576
  · rw [leftOf_ge (by omega)]
    have hnn : ¬ ((1048576 : Int) - (t.weight : Int) < 0) := by omega
    go_wp2_with fail
    -- the first copy, for the model
    refine (toTree_c HT.out hwt w2 H2.out.1 (by omega)).mono ?_
    rintro e w3 ⟨k3, c3, rfl, hn3, hb3⟩
    have hs3 := hb3.size
    have kb3 := (hb3.block w.heap.size (by omega)).trans H2.out.2
    have hb3' := H2.out.1.trans (hb3.mono (by omega))
    clear x1 x2 x3 x4
    obtain ⟨x1, x2, x3, x4⟩ := box2 kb3
    have H3 := Lib.hid (And.intro hb3' kb3)
    have HN3 := Lib.hid (hn3.tree hwt)
    clear hb3 hb3' kb3 hn3
    go_wp2_with fail
    refine (specFull_c HN3.out n hwt w3 (Below.refl _ _) (Nat.le_refl _)).mono ?_
    rintro e w4 ⟨rfl, hb4⟩
    have hs4 := hb4.size
    have kb4 := (hb4.block w.heap.size (by omega)).trans H3.out.2
    have hb4' := H3.out.1.trans (hb4.mono (by omega))
    clear x1 x2 x3 x4
    obtain ⟨x1, x2, x3, x4⟩ := box2 kb4
    have H4 := Lib.hid (And.intro hb4' kb4)
    clear hb4 hb4' kb4
    go_wp2_with fail
    -- the second copy, for the program
    refine (toTree_c HT.out hwt w4 H4.out.1 (by omega)).mono ?_
    rintro e w5 ⟨k5, c5, rfl, hn5, hb5⟩
    obtain ⟨g5, h5, n5, m5, rfl, rfl⟩ := hn5.slices
    have hs5 := hb5.size
    have kb5 := (hb5.block w.heap.size (by omega)).trans H4.out.2
    have hb5' := H4.out.1.trans (hb5.mono (by omega))
    clear x1 x2 x3 x4
    obtain ⟨x1, x2, x3, x4⟩ := box2 kb5
    have H5 := Lib.hid (And.intro hb5' kb5)
    have HN5 := Lib.hid (hn5.tree hwt)
    have HT5 := Lib.hid hn5
    clear hb5 hb5' kb5 hn5
    go_wp2_with fail
    obtain ⟨W6, hW6⟩ : ∃ W6, W6 = w5.alloc (.cells #[.slice (some ⟨g5, 0, none⟩) n5 n5, .slice (some ⟨h5, 0, none⟩) m5 m5] 30) := ⟨_, rfl⟩
    rw [← hW6]
    have hs6 : W6.heap.size = w5.heap.size + 1 := by rw [hW6]; simp
    have hb6 : Below w5.heap.size w5 W6 := by rw [hW6]; exact (Below.refl _ _).alloc (Nat.le_refl _) _
    have kx6 : W6.heap[w5.heap.size]? = some (.cells #[.slice (some ⟨g5, 0, none⟩) n5 n5, .slice (some ⟨h5, 0, none⟩) m5 m5] 30 (0, 0)) := by rw [hW6, new_blk]
    have kb6 := (hb6.block w.heap.size (by omega)).trans H5.out.2
    have hb6' := H5.out.1.trans (hb6.mono (by omega))
    clear x1 x2 x3 x4 hW6
    refine (hI _ _ _ _ _ n HT5.out hwt hd1 hd2 W6 hb6).mono ?_
    rintro e w7 ⟨rfl, hb7⟩
    have hs7 := hb7.size
    have kb7 := (hb7.block w.heap.size (by omega)).trans kb6
    have kx7 := (hb7.block w5.heap.size (by omega)).trans kx6
    have hb7' := hb6'.trans (hb7.mono (by omega))
    have hb57 : Below w5.heap.size w5 w7 := hb6.trans (hb7.mono (by omega))
    obtain ⟨x1, x2, x3, x4⟩ := box2 kb7
    obtain ⟨y1, y2, y3, y4⟩ := box2 kx7
    have H7 := Lib.hid (And.intro hb7' (And.intro kb7 (And.intro kx7 hb57)))
    have hne : ((Tr.full n t : Int) != (Tr.full n t : Int)) = false := by simp
    clear hb7 hb7' kb7 kx7 kb6 kx6 hb6 hb6' hb57
    go_wp2_with fail
    go_region_held3 (fun x => x.cell? ⟨w.heap.size, 0, none⟩ = some kv ∧ x.cell? ⟨w.heap.size, 1, none⟩ = some cv ∧ x.cell? ⟨w5.heap.size, 0, none⟩ = some (.slice (some ⟨g5, 0, none⟩) n5 n5) ∧ x.cell? ⟨w5.heap.size, 1, none⟩ = some (.slice (some ⟨h5, 0, none⟩) m5 m5))
      (first | exact ⟨x1, x2, y1, y2⟩ | exact ⟨z1, z2, u1, u2⟩ | exact ⟨q1, q2, r1, r2⟩ | go_keep)
      (first
        | (go_at_call 18; refine (toTree_c HT.out hwt _ (H7.out.1.drew) (by simp; omega)).mono ?_; rintro e w8 ⟨k8, c8, rfl, hn8, hb8⟩; obtain ⟨g8, h8, n8, m8, rfl, rfl⟩ := hn8.slices; have hs8 := hb8.size; have HN8 := Lib.hid (hn8.tree hwt); have kb8 := (hb8.block w.heap.size (by simp; omega)).trans H7.out.2.1; have kx8 := (hb8.block w5.heap.size (by simp; omega)).trans H7.out.2.2.1; obtain ⟨z1, z2, z3, z4⟩ := box2 kb8; obtain ⟨u1, u2, u3, u4⟩ := box2 kx8; have H8 := Lib.hid (And.intro (H7.out.1.drew.trans (hb8.mono (by simp; omega))) (And.intro (H7.out.2.2.2.drew.trans (hb8.mono (by simp; omega))) (And.intro kb8 kx8))); clear hb8 hn8 kb8 kx8)
        | (go_at_call 20; refine (eqTree_c (TreeIn.wider (TreeIn.later HN5.out H8.out.2.1 (Nat.le_refl _)) (by simp at hs8; omega)) _ _ HN8.out _ (Below.refl _ _) (Nat.le_refl _)).mono ?_; rintro e w9 ⟨rfl, hb9⟩; have hs9 := hb9.size; obtain ⟨q1, q2, q3, q4⟩ := box2 ((hb9.block w.heap.size (by simp at hs8; omega)).trans H8.out.2.2.1); obtain ⟨r1, r2, r3, r4⟩ := box2 ((hb9.block w5.heap.size (by simp at hs8; omega)).trans H8.out.2.2.2); have H9 := Lib.hid (H8.out.1.trans (hb9.mono (by simp at hs8; omega))); clear hb9))
    go_wp2_with fail
    go_ret
    exact ⟨rfl, H9.out⟩
  · rw [leftOf_lt (by omega)]
    go_wp2_with fail
    go_ret
    exact ⟨rfl, H2.out.1⟩
end Go.Proofs.Ytodcapgmhginoaa
