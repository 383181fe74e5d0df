/- Whether a number lies between two others; the model's l1In and l1Wide. -/
import Derived.Test.YtdcifdpkfcgmhaaDoorProg
import Derived.Test.YtdcifdpkfcgmhaaDoorCsS1
import Derived.Test.YtdcifdpkfcgmhaaDoorCs0
import Derived.Test.YtdcifdpkfcgmhaaDoorCsS2
import Derived.Test.YtdcifdpkfcgmhaaDoorCs1
import Derived.Test.YtdcifdpkfcgmhaaDoorCsS3

/- The laws' weighing, copying and comparing of cursors. -/
namespace Go.Proofs.YtdcifdpkfcgmhaaDoor
open Go.RowKit

set_option maxHeartbeats 1000000 in
set_option maxRecDepth 100000 in
theorem szCursor_c (a : Option Addr) (len cap : Nat) (at' n : Int) (w : World) (h0 : 0 ≤ n) (h1 : n ≤ 1048576) (h2 : len ≤ 9223372036854775807) :
    Calls Tryd.prog 28 #[.agg #[.slice a len cap, .int .i64 at'], .int .i64 n] w fun e w' => e = .returned (.int .i64 (leftOf n len)) ∧ Below w.heap.size w w' := by
  obtain ⟨W1, hW1⟩ : ∃ W1, W1 = w.alloc (.cells #[.slice a len cap, .int .i64 at'] 42) := ⟨_, rfl⟩
  have hb1 : Below w.heap.size w W1 := by rw [hW1]; exact (Below.refl _ _).alloc (Nat.le_refl _) _
  have hx1 : W1.heap[w.heap.size]? = some (.cells #[.slice a len cap, .int .i64 at'] 42 (0, 0)) := by rw [hW1, new_blk]
  rw [hW1] at hx1
  obtain ⟨x1, x2, x3, x4⟩ := box2 hx1
  have HB := Lib.hid hb1
  have HW1 := Lib.hid hW1
  clear hx1 hb1 hW1
  go_enter Tryd.func28, Tryd.ntmps28
  go_wp2_with fail
  rw [← HW1.out]
  refine (szIntS_c a len cap n W1 h0 h1 h2).mono ?_
  rintro e w2 ⟨rfl, hw2⟩
  subst hw2
  by_cases hlt : n < (len : Int)
  · have e1 := leftOf_lt hlt
    have HE := Lib.hid e1
    rw [e1]
    clear e1
    go_wp2_with fail
    go_ret
    exact ⟨by rw [HE.out]; rfl, HB.out⟩
  · have e1 := leftOf_ge (n := n) (m := len) (by omega)
    have HE := Lib.hid e1
    rw [e1]
    have hge : ¬ (n - (len : Int) < 0) := by omega
    obtain ⟨L, hL⟩ : ∃ L : Int, L = n - (len : Int) := ⟨_, rfl⟩
    rw [← hL] at hge HE ⊢
    clear e1 hL
    go_wp2_with fail
    go_ret
    exact ⟨by rw [HE.out]; rfl, HB.out⟩

set_option maxHeartbeats 1000000 in
set_option maxRecDepth 100000 in
theorem toCursor_c (ks : List Int) (v : Value) (at' : Int) (w : World) (B : Nat) (hB : B ≤ w.heap.size) (hk : IntsIn w B v ks) (hn : ks.length ≤ 1048576) :
    Calls Tryd.prog 30 #[.agg #[v, .int .i64 at']] w fun e w' => ∃ g, e = .returned (.agg #[.slice (some ⟨g, 0, none⟩) ks.length ks.length, .int .i64 at']) ∧ w.heap.size ≤ g ∧ w'.rowIs g 3 ks.length (fun i => .int .i64 (ks.getD i 0)) ∧ Below w.heap.size w w' := by
  have HK := Lib.hid hk
  obtain ⟨va, vcap, rfl, -⟩ := hk
  go_enter Tryd.func30, Tryd.ntmps30
  go_wp2_with fail
  obtain ⟨W3, hW3⟩ : ∃ W3, W3 = (((w.alloc (.cells #[.slice va ks.length vcap, .int .i64 at'] 42)).alloc (.cells #[.slice none 0 0, .int .i64 0] 28)).alloc (.cells #[.slice none 0 0, .int .i64 0] 28)) := ⟨_, rfl⟩
  rw [← hW3]
  have hb3 : Below w.heap.size w W3 := by rw [hW3]; exact (((Below.refl _ _).alloc (Nat.le_refl _) _).alloc (by simp) _).alloc (by simp; omega) _
  have hs3 : W3.heap.size = w.heap.size + 3 := by rw [hW3]; simp
  have k0 : W3.heap[w.heap.size]? = some (.cells #[.slice va ks.length vcap, .int .i64 at'] 42 (0, 0)) := by rw [hW3, old_blk _ _ _ (by simp; omega), old_blk _ _ _ (by simp), new_blk]
  have k1 : W3.heap[w.heap.size + 1]? = some (.cells #[.slice none 0 0, .int .i64 0] 28 (0, 0)) := by
    rw [hW3, old_blk _ _ _ (by simp), show w.heap.size + 1 = (w.alloc (.cells #[.slice va ks.length vcap, .int .i64 at'] 42)).heap.size by simp, new_blk]
  have k2 : W3.heap[w.heap.size + 1 + 1]? = some (.cells #[.slice none 0 0, .int .i64 0] 28 (0, 0)) := by
    rw [hW3, show w.heap.size + 1 + 1 = ((w.alloc (.cells #[.slice va ks.length vcap, .int .i64 at'] 42)).alloc (.cells #[.slice none 0 0, .int .i64 0] 28)).heap.size by simp, new_blk]
  refine (toIntS_c ks _ W3 B (by omega) (HK.out.later hb3 hB) hn).mono ?_
  rintro e w1 ⟨g, rfl, hg, hrow, hb1⟩
  have j0 := (hb1.block w.heap.size (by omega)).trans k0
  have j1 := (hb1.block (w.heap.size + 1) (by omega)).trans k1
  have j2 := (hb1.block (w.heap.size + 1 + 1) (by omega)).trans k2
  obtain ⟨a1, a2, a3, a4⟩ := box2 j0
  obtain ⟨b1, b2, b3, b4⟩ := box2 j2
  obtain ⟨c1, c2, c3, c4⟩ := box2 j1
  have hz1 := hb1.size
  have HX := Lib.hid (And.intro hs3 (And.intro hg (And.intro hrow (hb3.trans (hb1.mono (by omega))))))
  have HJ := Lib.hid (And.intro j0 (And.intro j1 j2))
  clear hW3 hb3 hs3 k0 k1 k2 hg hrow hb1 j0 j1 j2 hz1
  go_wp2_with fail
  have hs3 := HX.out.1
  have hg := HX.out.2.1
  refine bodyPost_ret (v := .agg #[.slice (some ⟨g, 0, none⟩) ks.length ks.length, .int .i64 at']) (by simp [results, Tryd.results30, go_sem, c1, c2]) rfl ⟨g, rfl, by omega, ?_, ?_⟩
  · exact (((HX.out.2.2.1.setOther (by show g ≠ w.heap.size + 1 + 1; omega) _).setOther (by show g ≠ w.heap.size + 1 + 1; omega) _).setOther (by show g ≠ w.heap.size + 1; omega) _).setOther (by show g ≠ w.heap.size + 1; omega) _
  · exact (((HX.out.2.2.2.setCell (by show w.heap.size ≤ w.heap.size + 1 + 1; omega) _).setCell (by show w.heap.size ≤ w.heap.size + 1 + 1; omega) _).setCell (by show w.heap.size ≤ w.heap.size + 1; omega) _).setCell (by show w.heap.size ≤ w.heap.size + 1; omega) _

set_option maxHeartbeats 1000000 in
set_option maxRecDepth 100000 in
theorem eqCursor_c (ks : List Int) (v v' : Value) (at' : Int) (w : World) (B : Nat) (hB : B ≤ w.heap.size) (hk : IntsIn w B v ks) (hk' : IntsIn w B v' ks) :
    Calls Tryd.prog 19 #[.agg #[v, .int .i64 at'], .agg #[v', .int .i64 at']] w fun e w' => e = .returned (.bool true) ∧ Below w.heap.size w w' := by
  have HK := Lib.hid hk
  have HK' := Lib.hid hk'
  obtain ⟨va, vcap, rfl, -⟩ := hk
  obtain ⟨vb, vcap', rfl, -⟩ := hk'
  obtain ⟨W2, hW2⟩ : ∃ W2, W2 = ((w.alloc (.cells #[.slice va ks.length vcap, .int .i64 at'] 28)).alloc (.cells #[.slice vb ks.length vcap', .int .i64 at'] 28)) := ⟨_, rfl⟩
  have hb2 : Below w.heap.size w W2 := by rw [hW2]; exact ((Below.refl _ _).alloc (Nat.le_refl _) _).alloc (by simp) _
  have hs2 : W2.heap.size = w.heap.size + 2 := by rw [hW2]; simp
  have k0 : W2.heap[w.heap.size]? = some (.cells #[.slice va ks.length vcap, .int .i64 at'] 28 (0, 0)) := by rw [hW2, old_blk _ _ _ (by simp), new_blk]
  have k1 : W2.heap[w.heap.size + 1]? = some (.cells #[.slice vb ks.length vcap', .int .i64 at'] 28 (0, 0)) := by
    rw [hW2, show w.heap.size + 1 = (w.alloc (.cells #[.slice va ks.length vcap, .int .i64 at'] 28)).heap.size by simp, new_blk]
  have k0x := k0
  have k1x := k1
  rw [hW2] at k0x k1x
  obtain ⟨x1, x2, x3, x4⟩ := box2 k0x
  obtain ⟨y1, y2, y3, y4⟩ := box2 k1x
  have HX := Lib.hid (And.intro hb2 (And.intro hs2 (And.intro k0 k1)))
  have HW2 := Lib.hid hW2
  clear hb2 hs2 k0 k1 k0x k1x hW2
  go_enter Tryd.func19, Tryd.ntmps19
  go_wp2_with fail
  rw [← HW2.out]
  refine (eqIntS_c ks _ _ W2 B (by have := HX.out.2.1; omega) (HK.out.later HX.out.1 hB) (HK'.out.later HX.out.1 hB)).mono ?_
  rintro e w3 ⟨rfl, hb3⟩
  have hs2 := HX.out.2.1
  have j0 := (hb3.block w.heap.size (by omega)).trans HX.out.2.2.1
  have j1 := (hb3.block (w.heap.size + 1) (by omega)).trans HX.out.2.2.2
  clear x1 x2 x3 x4 y1 y2 y3 y4
  obtain ⟨x1, x2, x3, x4⟩ := box2 j0
  obtain ⟨y1, y2, y3, y4⟩ := box2 j1
  have hne : (at' != at') = false := by simp
  have H3 := Lib.hid (HX.out.1.trans (hb3.mono (by omega)))
  clear hb3 j0 j1 hs2
  go_wp2_with fail
  go_ret
  exact ⟨rfl, H3.out⟩
end Go.Proofs.YtdcifdpkfcgmhaaDoor

/- The laws' marking of cursors, and looking whether the marks held. -/
namespace Go.Proofs.YtdcifdpkfcgmhaaDoor
open Go.RowKit

/-- Marking a slice of ints of the call's own: no block but its own changes. -/
theorem markOnly_c {w : World} {lo : Nat} {v : Value} {ks : List Int} (h : IntsOwn w lo v ks) (hl : lo ≤ w.heap.size) (hn : ks.length ≤ 1048576) (k : Int) (h0 : 0 ≤ k) (h1 : k ≤ 1099511627776) :
    Calls Tryd.prog 63 #[v, .int .i64 k] w fun e w' => e = .returned (.int .i64 (k + ks.length)) ∧ IntsOwn w' lo v (marks k ks.length) ∧ Below lo w w' ∧ ∀ j, j < w.heap.size → some j ≠ v.ownBlock → w'.heap[j]? = w.heap[j]? := by
  obtain ⟨hlen, ⟨hv, hz⟩ | ⟨g, cap, cur, hv, hb, hg, hnc, hm, hs, ht⟩⟩ := h
  · subst hv
    rw [hz]
    refine (markNone_c none 0 k w).mono ?_
    rintro e w' ⟨rfl, rfl⟩
    exact ⟨by simp, World.ownsRow_nil w lo _ _, Below.refl _ _, fun _ _ _ => rfl⟩
  · subst hv
    rw [Nat.mul_one] at hs ht
    refine (markRow_c g ks.length cap k cur w hg (by omega) hn (fun i hi => ⟨ks[i], ?_⟩) h0 h1).mono ?_
    · have : (cur.toList.take ks.length)[i]? = some (.int .i64 ks[i]) := by rw [ht]; simp [hi]
      rw [List.getElem?_take_of_lt hi] at this
      simpa using this
    · rintro e w' ⟨rfl, c', hg', hsz, hd, hgr⟩
      refine ⟨rfl, ⟨by simp [marks], .inr ⟨g, cap, c', by rw [marks_length], hb, hg', by rw [marks_length]; exact hnc, hm, by omega, ?_⟩⟩, (Below.refl lo w).grown hgr hl (fun b e => by cases e; exact hb), fun j hj hne => hgr.block j hj (by simpa [Value.ownBlock] using hne)⟩
      apply List.ext_getElem?
      intro i
      rw [marks_length, Nat.mul_one]
      by_cases hi : i < ks.length
      · rw [List.getElem?_take_of_lt hi]
        have := hd i hi
        simp [marks, hi, this]
      · rw [List.getElem?_eq_none (by simp; omega), List.getElem?_eq_none (by simp [marks]; omega)]

set_option maxHeartbeats 1000000 in
theorem markCursor_c {w : World} {lo : Nat} {v : Value} {ks : List Int} (h : IntsOwn w lo v ks) (hl : lo ≤ w.heap.size) (hn : ks.length ≤ 1048576) (a k : Int) (h0 : 0 ≤ k) (h1 : k ≤ 1099511627776) :
    Calls Tryd.prog 22 #[.agg #[v, .int .i64 a], .int .i64 k] w fun e w' => e = .returned (.int .i64 (k + ks.length)) ∧ IntsOwn w' lo v (marks k ks.length) ∧ Below lo w w' ∧ ∀ j, j < w.heap.size → some j ≠ v.ownBlock → w'.heap[j]? = w.heap[j]? := by
  obtain ⟨va, vc, rfl⟩ := IntsOwn.shown h
  obtain ⟨W1, hW1⟩ : ∃ W1, W1 = w.alloc (.cells #[.slice va ks.length vc, .int .i64 a] 28) := ⟨_, rfl⟩
  have hs1 : W1.heap.size = w.heap.size + 1 := by rw [hW1]; simp
  have hb1 : Below w.heap.size w W1 := by rw [hW1]; exact (Below.refl _ _).alloc (Nat.le_refl _) _
  have k0 : W1.heap[w.heap.size]? = some (.cells #[.slice va ks.length vc, .int .i64 a] 28 (0, 0)) := by rw [hW1, new_blk]
  have HM := Lib.hid (markOnly_c (h.later hb1 (Nat.le_refl _)) (by omega) hn k h0 h1)
  have HB := Lib.hid (And.intro hb1 hs1)
  rw [hW1] at k0
  obtain ⟨x1, x2, x3, x4⟩ := box2 k0
  have HW1 := Lib.hid hW1
  clear h hW1 hs1 hb1 k0
  go_enter Tryd.func22, Tryd.ntmps22
  go_wp2_with fail
  rw [← HW1.out]
  refine HM.out.mono ?_
  rintro e w2 ⟨rfl, hown, hbel, hoth⟩
  have H2 := Lib.hid (And.intro hown (And.intro hbel hoth))
  clear hown hbel hoth
  go_wp2_with fail
  go_ret
  have hs := HB.out.2
  exact ⟨rfl, H2.out.1, (HB.out.1.mono hl).trans H2.out.2.1, fun j hj hne => (H2.out.2.2 j (by omega) hne).trans (HB.out.1.block j hj)⟩

set_option maxHeartbeats 1000000 in
theorem heldCursor_c {w : World} {v : Value} {k : Int} {n : Nat} (h : IntsAt w v (marks k n)) (hsh : ∃ va vc, v = .slice va n vc) (hB : ∀ w', Below w.heap.size w w' → IntsAt w' v (marks k n)) (hn : n ≤ 1048576) (a : Int) (h0 : 0 ≤ k) (h1 : k ≤ 1099511627776) :
    Calls Tryd.prog 23 #[.agg #[v, .int .i64 a], .int .i64 k] w fun e w' => e = .returned (.int .i64 (k + n)) ∧ Below w.heap.size w w' := by
  obtain ⟨va, vc, rfl⟩ := hsh
  obtain ⟨W1, hW1⟩ : ∃ W1, W1 = w.alloc (.cells #[.slice va n vc, .int .i64 a] 28) := ⟨_, rfl⟩
  have hb1 : Below w.heap.size w W1 := by rw [hW1]; exact (Below.refl _ _).alloc (Nat.le_refl _) _
  have k0 : W1.heap[w.heap.size]? = some (.cells #[.slice va n vc, .int .i64 a] 28 (0, 0)) := by rw [hW1, new_blk]
  have HM := Lib.hid (held_c n _ k W1 (hB W1 hb1) hn h0 h1)
  have HB := Lib.hid hb1
  rw [hW1] at k0
  obtain ⟨x1, x2, x3, x4⟩ := box2 k0
  have HW1 := Lib.hid hW1
  have hnn : ¬ (k + (n : Int) < 0) := by omega
  clear h hW1 hb1 k0 hB
  go_enter Tryd.func23, Tryd.ntmps23
  go_wp2_with fail
  rw [← HW1.out]
  refine HM.out.mono ?_
  rintro e w2 ⟨rfl, hw⟩
  subst hw
  go_wp2_with fail
  go_ret
  exact ⟨rfl, HB.out⟩
end Go.Proofs.YtdcifdpkfcgmhaaDoor

/- Whether a number lies between two others; the model's l1In and l1Wide. -/
namespace Go.Proofs.YtdcifdpkfcgmhaaDoor
open Go.RowKit

/-- Whether a number lies between two others. -/
def inB (n lo hi : Int) : Bool := decide (lo ≤ n) && decide (n ≤ hi)
theorem inB_true {n lo hi : Int} (h : lo ≤ n) (h' : n ≤ hi) : inB n lo hi = true := by simp [inB, h, h']
theorem inB_false {n lo hi : Int} (h : ¬ (lo ≤ n ∧ n ≤ hi)) : inB n lo hi = false := by
  simp only [inB, Bool.and_eq_false_iff, decide_eq_false_iff_not]; omega

theorem l1In_c (n lo hi : Int) (w : World) : Calls Tryd.prog 104 #[.int .i64 n, .int .i64 lo, .int .i64 hi] w fun e w' => e = .returned (.bool (inB n lo hi)) ∧ w = w' := by
  by_cases h1 : lo ≤ n
  · by_cases h2 : n ≤ hi
    · go_enter Tryd.func104, Tryd.ntmps104
      go_wp2_with fail
      go_ret
      exact ⟨ret_bool (inB_true h1 h2).symm, rfl⟩
    · go_enter Tryd.func104, Tryd.ntmps104
      go_wp2_with fail
      go_ret
      exact ⟨ret_bool (inB_false (by omega)).symm, rfl⟩
  · go_enter Tryd.func104, Tryd.ntmps104
    go_wp2_with fail
    go_ret
    exact ⟨ret_bool (inB_false (by omega)).symm, rfl⟩

theorem l1Wide_c (n : Int) (w : World) : Calls Tryd.prog 123 #[.int .i64 n] w fun e w' => e = .returned (.bool (inB n 2 6)) ∧ w = w' := by
  go_enter Tryd.func123, Tryd.ntmps123
  go_wp2_with fail
  refine (l1In_c n 2 6 _).mono ?_
  rintro e w1 ⟨rfl, rfl⟩
  go_wp2_with fail
  go_ret
  exact ⟨rfl, rfl⟩
end Go.Proofs.YtdcifdpkfcgmhaaDoor
