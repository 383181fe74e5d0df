/- The laws' weighing, copying and comparing of cursors. -/
import Derived.Test.YticfkfjijnfcbaaDoorProg
import Derived.Test.YticfkfjijnfcbaaDoorSh0
import Derived.Test.YticfkfjijnfcbaaDoorSh1
namespace Go.Proofs.YticfkfjijnfcbaaDoor
open Go.RowKit

set_option maxHeartbeats 1000000 in
set_option maxRecDepth 100000 in
theorem szCursor_c (a : Option Addr) (len cap : Nat) (at' n : Int) (w : World) (h0 : 0 ≤ n) (h1 : n ≤ 1048576) (h2 : len ≤ 9223372036854775807) :
    Calls Tryd.prog 28 #[.agg #[.slice a len cap, .int .i64 at'], .int .i64 n] w fun e w' => e = .returned (.int .i64 (leftOf n len)) ∧ Below w.heap.size w w' := by
  obtain ⟨W1, hW1⟩ : ∃ W1, W1 = w.alloc (.cells #[.slice a len cap, .int .i64 at'] 42) := ⟨_, rfl⟩
  have hb1 : Below w.heap.size w W1 := by rw [hW1]; exact (Below.refl _ _).alloc (Nat.le_refl _) _
  have hx1 : W1.heap[w.heap.size]? = some (.cells #[.slice a len cap, .int .i64 at'] 42 (0, 0)) := by rw [hW1, new_blk]
  rw [hW1] at hx1
  obtain ⟨x1, x2, x3, x4⟩ := box2 hx1
  have HB := Lib.hid hb1
  have HW1 := Lib.hid hW1
  clear hx1 hb1 hW1
  go_enter Tryd.func28, Tryd.ntmps28
  go_wp2_with fail
  rw [← HW1.out]
  refine (szIntS_c a len cap n W1 h0 h1 h2).mono ?_
  rintro e w2 ⟨rfl, hw2⟩
  subst hw2
  by_cases hlt : n < (len : Int)
  · have e1 := leftOf_lt hlt
    have HE := Lib.hid e1
    rw [e1]
    clear e1
    go_wp2_with fail
    go_ret
    exact ⟨by rw [HE.out]; rfl, HB.out⟩
  · have e1 := leftOf_ge (n := n) (m := len) (by omega)
    have HE := Lib.hid e1
    rw [e1]
    have hge : ¬ (n - (len : Int) < 0) := by omega
    obtain ⟨L, hL⟩ : ∃ L : Int, L = n - (len : Int) := ⟨_, rfl⟩
    rw [← hL] at hge HE ⊢
    clear e1 hL
    go_wp2_with fail
    go_ret
    exact ⟨by rw [HE.out]; rfl, HB.out⟩

set_option maxHeartbeats 1000000 in
set_option maxRecDepth 100000 in
theorem toCursor_c (ks : List Int) (v : Value) (at' : Int) (w : World) (B : Nat) (hB : B ≤ w.heap.size) (hk : IntsIn w B v ks) (hn : ks.length ≤ 1048576) :
    Calls Tryd.prog 30 #[.agg #[v, .int .i64 at']] w fun e w' => ∃ g, e = .returned (.agg #[.slice (some ⟨g, 0, none⟩) ks.length ks.length, .int .i64 at']) ∧ w.heap.size ≤ g ∧ w'.rowIs g 3 ks.length (fun i => .int .i64 (ks.getD i 0)) ∧ Below w.heap.size w w' := by
  have HK := Lib.hid hk
  obtain ⟨va, vcap, rfl, -⟩ := hk
  go_enter Tryd.func30, Tryd.ntmps30
  go_wp2_with fail
  obtain ⟨W3, hW3⟩ : ∃ W3, W3 = (((w.alloc (.cells #[.slice va ks.length vcap, .int .i64 at'] 42)).alloc (.cells #[.slice none 0 0, .int .i64 0] 28)).alloc (.cells #[.slice none 0 0, .int .i64 0] 28)) := ⟨_, rfl⟩
  rw [← hW3]
  have hb3 : Below w.heap.size w W3 := by rw [hW3]; exact (((Below.refl _ _).alloc (Nat.le_refl _) _).alloc (by simp) _).alloc (by simp; omega) _
  have hs3 : W3.heap.size = w.heap.size + 3 := by rw [hW3]; simp
  have k0 : W3.heap[w.heap.size]? = some (.cells #[.slice va ks.length vcap, .int .i64 at'] 42 (0, 0)) := by rw [hW3, old_blk _ _ _ (by simp; omega), old_blk _ _ _ (by simp), new_blk]
  have k1 : W3.heap[w.heap.size + 1]? = some (.cells #[.slice none 0 0, .int .i64 0] 28 (0, 0)) := by
    rw [hW3, old_blk _ _ _ (by simp), show w.heap.size + 1 = (w.alloc (.cells #[.slice va ks.length vcap, .int .i64 at'] 42)).heap.size by simp, new_blk]
  have k2 : W3.heap[w.heap.size + 1 + 1]? = some (.cells #[.slice none 0 0, .int .i64 0] 28 (0, 0)) := by
    rw [hW3, show w.heap.size + 1 + 1 = ((w.alloc (.cells #[.slice va ks.length vcap, .int .i64 at'] 42)).alloc (.cells #[.slice none 0 0, .int .i64 0] 28)).heap.size by simp, new_blk]
  refine (toIntS_c ks _ W3 B (by omega) (HK.out.later hb3 hB) hn).mono ?_
  rintro e w1 ⟨g, rfl, hg, hrow, hb1⟩
  have j0 := (hb1.block w.heap.size (by omega)).trans k0
  have j1 := (hb1.block (w.heap.size + 1) (by omega)).trans k1
  have j2 := (hb1.block (w.heap.size + 1 + 1) (by omega)).trans k2
  obtain ⟨a1, a2, a3, a4⟩ := box2 j0
  obtain ⟨b1, b2, b3, b4⟩ := box2 j2
  obtain ⟨c1, c2, c3, c4⟩ := box2 j1
  have hz1 := hb1.size
  have HX := Lib.hid (And.intro hs3 (And.intro hg (And.intro hrow (hb3.trans (hb1.mono (by omega))))))
  have HJ := Lib.hid (And.intro j0 (And.intro j1 j2))
  clear hW3 hb3 hs3 k0 k1 k2 hg hrow hb1 j0 j1 j2 hz1
  go_wp2_with fail
  have hs3 := HX.out.1
  have hg := HX.out.2.1
  refine bodyPost_ret (v := .agg #[.slice (some ⟨g, 0, none⟩) ks.length ks.length, .int .i64 at']) (by simp [results, Tryd.results30, go_sem, c1, c2]) rfl ⟨g, rfl, by omega, ?_, ?_⟩
  · exact (((HX.out.2.2.1.setOther (by show g ≠ w.heap.size + 1 + 1; omega) _).setOther (by show g ≠ w.heap.size + 1 + 1; omega) _).setOther (by show g ≠ w.heap.size + 1; omega) _).setOther (by show g ≠ w.heap.size + 1; omega) _
  · exact (((HX.out.2.2.2.setCell (by show w.heap.size ≤ w.heap.size + 1 + 1; omega) _).setCell (by show w.heap.size ≤ w.heap.size + 1 + 1; omega) _).setCell (by show w.heap.size ≤ w.heap.size + 1; omega) _).setCell (by show w.heap.size ≤ w.heap.size + 1; omega) _

set_option maxHeartbeats 1000000 in
set_option maxRecDepth 100000 in
theorem eqCursor_c (ks : List Int) (v v' : Value) (at' : Int) (w : World) (B : Nat) (hB : B ≤ w.heap.size) (hk : IntsIn w B v ks) (hk' : IntsIn w B v' ks) :
    Calls Tryd.prog 19 #[.agg #[v, .int .i64 at'], .agg #[v', .int .i64 at']] w fun e w' => e = .returned (.bool true) ∧ Below w.heap.size w w' := by
  have HK := Lib.hid hk
  have HK' := Lib.hid hk'
  obtain ⟨va, vcap, rfl, -⟩ := hk
  obtain ⟨vb, vcap', rfl, -⟩ := hk'
  obtain ⟨W2, hW2⟩ : ∃ W2, W2 = ((w.alloc (.cells #[.slice va ks.length vcap, .int .i64 at'] 28)).alloc (.cells #[.slice vb ks.length vcap', .int .i64 at'] 28)) := ⟨_, rfl⟩
  have hb2 : Below w.heap.size w W2 := by rw [hW2]; exact ((Below.refl _ _).alloc (Nat.le_refl _) _).alloc (by simp) _
  have hs2 : W2.heap.size = w.heap.size + 2 := by rw [hW2]; simp
  have k0 : W2.heap[w.heap.size]? = some (.cells #[.slice va ks.length vcap, .int .i64 at'] 28 (0, 0)) := by rw [hW2, old_blk _ _ _ (by simp), new_blk]
  have k1 : W2.heap[w.heap.size + 1]? = some (.cells #[.slice vb ks.length vcap', .int .i64 at'] 28 (0, 0)) := by
    rw [hW2, show w.heap.size + 1 = (w.alloc (.cells #[.slice va ks.length vcap, .int .i64 at'] 28)).heap.size by simp, new_blk]
  have k0x := k0
  have k1x := k1
  rw [hW2] at k0x k1x
  obtain ⟨x1, x2, x3, x4⟩ := box2 k0x
  obtain ⟨y1, y2, y3, y4⟩ := box2 k1x
  have HX := Lib.hid (And.intro hb2 (And.intro hs2 (And.intro k0 k1)))
  have HW2 := Lib.hid hW2
  clear hb2 hs2 k0 k1 k0x k1x hW2
  go_enter Tryd.func19, Tryd.ntmps19
  go_wp2_with fail
  rw [← HW2.out]
  refine (eqIntS_c ks _ _ W2 B (by have := HX.out.2.1; omega) (HK.out.later HX.out.1 hB) (HK'.out.later HX.out.1 hB)).mono ?_
  rintro e w3 ⟨rfl, hb3⟩
  have hs2 := HX.out.2.1
  have j0 := (hb3.block w.heap.size (by omega)).trans HX.out.2.2.1
  have j1 := (hb3.block (w.heap.size + 1) (by omega)).trans HX.out.2.2.2
  clear x1 x2 x3 x4 y1 y2 y3 y4
  obtain ⟨x1, x2, x3, x4⟩ := box2 j0
  obtain ⟨y1, y2, y3, y4⟩ := box2 j1
  have hne : (at' != at') = false := by simp
  have H3 := Lib.hid (HX.out.1.trans (hb3.mono (by omega)))
  clear hb3 j0 j1 hs2
  go_wp2_with fail
  go_ret
  exact ⟨rfl, H3.out⟩
end Go.Proofs.YticfkfjijnfcbaaDoor
