/- The law on RepairsBy: the walk over the contracts. -/
import Derived.Test.YtepkigcbjepbpaaProg
import Derived.Test.YtepkigcbjepbpaaSh0
import Derived.Test.YtepkigcbjepbpaaSh16
import Derived.Test.YtepkigcbjepbpaaSh4
import Derived.Test.YtepkigcbjepbpaaRepBy
import Derived.Deep.RegionHeld3
namespace Go.Proofs.Ytepkigcbjepbpaa
open Go.RowKit

/-- What the program's RepairsBy is to do. -/
def ImplRepairsBy : Prop := ∀ (w0 : World) (B : Nat) (kv cv : Value) (t : Tr) (n m : Int), TreeIn w0 B kv cv t → t.weight ≤ 1048576 → -9223372036854775808 ≤ n → n ≤ 9223372036854775807 → -9223372036854775808 ≤ m → m ≤ 9223372036854775807 → ∀ w', Below B w0 w' → B ≤ w'.heap.size →
  Calls Try.prog 30 #[.agg #[kv, cv], .int .i64 n, .int .i64 m] w' fun e w'' => e = .returned (.tuple #[repV (Tr.repBy n m t), .bool (Tr.lacksB n m t)]) ∧ Below w'.heap.size w' w''

set_option maxHeartbeats 2000000 in
set_option maxRecDepth 100000 in
theorem exRepairsBy_c {kv cv : Value} {t : Tr} (w : World) (ht : TreeIn w w.heap.size kv cv t) (n m : Int) (hd1 : -9223372036854775808 ≤ n) (hd2 : n ≤ 9223372036854775807) (hd3 : -9223372036854775808 ≤ m) (hd4 : m ≤ 9223372036854775807)
    (hI : ImplRepairsBy) :
    Calls Try.prog 6 #[.agg #[kv, cv], .int .i64 n, .int .i64 m] w fun e w' => e = .returned (.bool true) ∧ Below w.heap.size w w' := by
  obtain ⟨W1, hW1⟩ : ∃ W1, W1 = w.alloc (.cells #[kv, cv] 25) := ⟨_, rfl⟩
  have hs1 : W1.heap.size = w.heap.size + 1 := by rw [hW1]; simp
  have hb1 : Below w.heap.size w W1 := by rw [hW1]; exact (Below.refl _ _).alloc (Nat.le_refl _) _
  have kb : W1.heap[w.heap.size]? = some (.cells #[kv, cv] 25 (0, 0)) := by rw [hW1, new_blk]
  obtain ⟨x1, x2, x3, x4⟩ := box2 kb
  have HW1 := Lib.hid hW1
  have HT := Lib.hid ht
  have H1 := Lib.hid (And.intro hb1 kb)
  clear hW1 hb1 kb ht
  go_enter Try.func6, Try.ntmps6
  go_wp2_with fail
  rw [← HW1.out]
  refine (szTree_c HT.out W1 1048576 H1.out.1 (by omega) (by omega) (by omega)).mono ?_
  rintro e w2 ⟨rfl, hb2⟩
  have hs2 := hb2.size
  have kb2 := (hb2.block w.heap.size (by omega)).trans H1.out.2
  have hb2' := H1.out.1.trans (hb2.mono (by omega))
  clear x1 x2 x3 x4
  obtain ⟨x1, x2, x3, x4⟩ := box2 kb2
  have H2 := Lib.hid (And.intro hb2' kb2)
  clear hb2 hb2' kb2
  by_cases hwt : t.weight ≤ 1048576
  · rw [leftOf_ge (by omega)]
    have hnn : ¬ ((1048576 : Int) - (t.weight : Int) < 0) := by omega
    go_wp2_with fail
    -- the first copy, for the model
    refine (toTree_c HT.out hwt w2 H2.out.1 (by omega)).mono ?_
    rintro e w3 ⟨k3, c3, rfl, hn3, hb3⟩
    have hs3 := hb3.size
    have kb3 := (hb3.block w.heap.size (by omega)).trans H2.out.2
    have hb3' := H2.out.1.trans (hb3.mono (by omega))
    clear x1 x2 x3 x4
    obtain ⟨x1, x2, x3, x4⟩ := box2 kb3
    have H3 := Lib.hid (And.intro hb3' kb3)
    have HN3 := Lib.hid (hn3.tree hwt)
    clear hb3 hb3' kb3 hn3
    go_wp2_with fail
    refine (specRepairsBy_c HN3.out hwt n m w3 (Below.refl _ _) (Nat.le_refl _)).mono ?_
    rintro e w4 ⟨rfl, hb4⟩
    have hs4 := hb4.size
    have kb4 := (hb4.block w.heap.size (by omega)).trans H3.out.2
    have hb4' := H3.out.1.trans (hb4.mono (by omega))
    clear x1 x2 x3 x4
    obtain ⟨x1, x2, x3, x4⟩ := box2 kb4
    have H4 := Lib.hid (And.intro hb4' kb4)
    clear hb4 hb4' kb4
    obtain ⟨⟨rb, rj, rs⟩, hr⟩ : ∃ r, r = Tr.repBy n m t := ⟨_, rfl⟩
    rw [← hr]
    obtain ⟨ok, hok⟩ : ∃ ok, ok = Tr.lacksB n m t := ⟨_, rfl⟩
    rw [← hok]
    have HR := Lib.hid (And.intro hr hok)
    clear hr hok
    unfold repV
    dsimp only
    obtain ⟨W4, hW4⟩ : ∃ W4, W4 = w4.alloc (.cells #[.int .i64 (rb : Int), .int .i64 (rj : Int), .bool rs] 47) := ⟨_, rfl⟩
    have hs4b : W4.heap.size = w4.heap.size + 1 := by rw [hW4]; simp
    have hb4b : Below w4.heap.size w4 W4 := by rw [hW4]; exact (Below.refl _ _).alloc (Nat.le_refl _) _
    have kr4 : W4.heap[w4.heap.size]? = some (.cells #[.int .i64 (rb : Int), .int .i64 (rj : Int), .bool rs] 47 (0, 0)) := by rw [hW4, new_blk]
    have kb4b := (hb4b.block w.heap.size (by omega)).trans H4.out.2
    have H4b := Lib.hid (And.intro (H4.out.1.trans (hb4b.mono (by omega))) (And.intro kb4b kr4))
    have HW4 := Lib.hid hW4
    clear hW4 hb4b kb4b kr4
    go_upto_region 6 with (fail)
    rw [← HW4.out]
    clear x1 x2 x3 x4
    obtain ⟨x1, x2, x3, x4⟩ := box2 H4b.out.2.1
    go_wp2_with fail
    -- the second copy, for the program
    refine (toTree_c HT.out hwt W4 H4b.out.1 (by omega)).mono ?_
    rintro e w5 ⟨k5, c5, rfl, hn5, hb5⟩
    obtain ⟨g5, h5, n5, m5, rfl, rfl⟩ := hn5.slices
    have hs5 := hb5.size
    have kb5 := (hb5.block w.heap.size (by omega)).trans H4b.out.2.1
    have kr5 := (hb5.block w4.heap.size (by omega)).trans H4b.out.2.2
    have hb5' := H4b.out.1.trans (hb5.mono (by omega))
    clear x1 x2 x3 x4
    obtain ⟨x1, x2, x3, x4⟩ := box2 kb5
    have H5 := Lib.hid (And.intro hb5' kb5)
    have KR5 := Lib.hid kr5
    clear kr5
    have HN5 := Lib.hid (hn5.tree hwt)
    clear hb5 hb5' kb5 hn5
    go_wp2_with fail
    obtain ⟨W6, hW6⟩ : ∃ W6, W6 = w5.alloc (.cells #[.slice (some ⟨g5, 0, none⟩) n5 n5, .slice (some ⟨h5, 0, none⟩) m5 m5] 29) := ⟨_, rfl⟩
    rw [← hW6]
    have hs6 : W6.heap.size = w5.heap.size + 1 := by rw [hW6]; simp
    have hb6 : Below w5.heap.size w5 W6 := by rw [hW6]; exact (Below.refl _ _).alloc (Nat.le_refl _) _
    have kx6 : W6.heap[w5.heap.size]? = some (.cells #[.slice (some ⟨g5, 0, none⟩) n5 n5, .slice (some ⟨h5, 0, none⟩) m5 m5] 29 (0, 0)) := by rw [hW6, new_blk]
    have kb6 := (hb6.block w.heap.size (by omega)).trans H5.out.2
    have hb6' := H5.out.1.trans (hb6.mono (by omega))
    clear x1 x2 x3 x4 hW6
    refine (hI _ _ _ _ _ n m HN5.out hwt hd1 hd2 hd3 hd4 W6 hb6 (by omega)).mono ?_
    rintro e w7 ⟨rfl, hb7⟩
    rw [← HR.out.1, ← HR.out.2]
    unfold repV
    dsimp only
    have hs7 := hb7.size
    have kb7 := (hb7.block w.heap.size (by omega)).trans kb6
    have kx7 := (hb7.block w5.heap.size (by omega)).trans kx6
    have kr7 := (hb7.block w4.heap.size (by omega)).trans ((hb6.block w4.heap.size (by omega)).trans KR5.out)
    have hb7' := hb6'.trans (hb7.mono (by omega))
    have hb57 : Below w5.heap.size w5 w7 := hb6.trans (hb7.mono (by omega))
    obtain ⟨W8, hW8⟩ : ∃ W8, W8 = w7.alloc (.cells #[.int .i64 (rb : Int), .int .i64 (rj : Int), .bool rs] 47) := ⟨_, rfl⟩
    have hs8 : W8.heap.size = w7.heap.size + 1 := by rw [hW8]; simp
    have hb8 : Below w7.heap.size w7 W8 := by rw [hW8]; exact (Below.refl _ _).alloc (Nat.le_refl _) _
    have kr8 : W8.heap[w7.heap.size]? = some (.cells #[.int .i64 (rb : Int), .int .i64 (rj : Int), .bool rs] 47 (0, 0)) := by rw [hW8, new_blk]
    have kb8 := (hb8.block w.heap.size (by omega)).trans kb7
    have kx8 := (hb8.block w5.heap.size (by omega)).trans kx7
    have ks8 := (hb8.block w4.heap.size (by omega)).trans kr7
    have H7 := Lib.hid (And.intro (hb7'.trans (hb8.mono (by omega))) (And.intro kb8 (And.intro kx8 (hb57.trans (hb8.mono (by omega))))))
    have HW8 := Lib.hid hW8
    have hneq : (ok != ok) = false := by simp
    clear hb7 hb7' kb7 kx7 kr7 kb6 kx6 hb6 hb6' hb57 hW8 hb8
    go_upto_region 8 with (fail)
    rw [← HW8.out]
    obtain ⟨p1, p2, p3, p4, p5, p6⟩ := box3 kr8
    obtain ⟨v1, v2, v3, v4, v5, v6⟩ := box3 ks8
    clear kr8 ks8
    go_wp2_with fail
    refine (eqRepair_c W8 rb rj rs).mono ?_
    rintro e w9 ⟨rfl, hb9⟩
    have hs9 := hb9.size
    have kb9 := (hb9.block w.heap.size (by omega)).trans kb8
    have kx9 := (hb9.block w5.heap.size (by omega)).trans kx8
    have H7' := Lib.hid (And.intro (H7.out.1.trans (hb9.mono (by omega))) (And.intro kb9 (And.intro kx9 (H7.out.2.2.2.trans (hb9.mono (by omega))))))
    clear H7 kb8 kx8 hb9 p1 p2 p3 p4 p5 p6 v1 v2 v3 v4 v5 v6
    have H7 := H7'
    obtain ⟨x1, x2, x3, x4⟩ := box2 kb9
    obtain ⟨y1, y2, y3, y4⟩ := box2 kx9
    clear kb9 kx9
    go_wp2_with fail
    go_region_held3 (fun x => x.cell? ⟨w.heap.size, 0, none⟩ = some kv ∧ x.cell? ⟨w.heap.size, 1, none⟩ = some cv ∧ x.cell? ⟨w5.heap.size, 0, none⟩ = some (.slice (some ⟨g5, 0, none⟩) n5 n5) ∧ x.cell? ⟨w5.heap.size, 1, none⟩ = some (.slice (some ⟨h5, 0, none⟩) m5 m5))
      (first | exact ⟨x1, x2, y1, y2⟩ | exact ⟨z1, z2, u1, u2⟩ | exact ⟨q1, q2, r1, r2⟩ | go_keep)
      (first
        | (go_at_call 16; refine (toTree_c HT.out hwt _ (H7.out.1.drew) (by simp; omega)).mono ?_; rintro e w8 ⟨k8, c8, rfl, hn8, hb8⟩; obtain ⟨g8, h8, n8, m8, rfl, rfl⟩ := hn8.slices; have hs8 := hb8.size; have HN8 := Lib.hid (hn8.tree hwt); have kb8 := (hb8.block w.heap.size (by simp; omega)).trans H7.out.2.1; have kx8 := (hb8.block w5.heap.size (by simp; omega)).trans H7.out.2.2.1; obtain ⟨z1, z2, z3, z4⟩ := box2 kb8; obtain ⟨u1, u2, u3, u4⟩ := box2 kx8; have H8 := Lib.hid (And.intro (H7.out.1.drew.trans (hb8.mono (by simp; omega))) (And.intro (H7.out.2.2.2.drew.trans (hb8.mono (by simp; omega))) (And.intro kb8 kx8))); clear hb8 hn8 kb8 kx8)
        | (go_at_call 18; refine (eqTree_c (TreeIn.wider (TreeIn.later HN5.out H8.out.2.1 (Nat.le_refl _)) (by simp at hs8; omega)) _ _ HN8.out _ (Below.refl _ _) (Nat.le_refl _)).mono ?_; rintro e w9 ⟨rfl, hb9⟩; have hs9 := hb9.size; obtain ⟨q1, q2, q3, q4⟩ := box2 ((hb9.block w.heap.size (by simp at hs8; omega)).trans H8.out.2.2.1); obtain ⟨r1, r2, r3, r4⟩ := box2 ((hb9.block w5.heap.size (by simp at hs8; omega)).trans H8.out.2.2.2); have H9 := Lib.hid (H8.out.1.trans (hb9.mono (by simp at hs8; omega))); clear hb9))
    go_wp2_with fail
    go_ret
    exact ⟨rfl, H9.out⟩
  · rw [leftOf_lt (by omega)]
    go_wp2_with fail
    go_ret
    exact ⟨rfl, H2.out.1⟩
end Go.Proofs.Ytepkigcbjepbpaa
