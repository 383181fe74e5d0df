/- Whether a number lies between two others; the model's l1In and l1Wide. -/
import Derived.Test.YtdcifdpkfcgmhaaDoorProg
import Derived.Test.YtdcifdpkfcgmhaaDoorCwS1
import Derived.Test.YtdcifdpkfcgmhaaDoorCw0
import Derived.Test.YtdcifdpkfcgmhaaDoorCw1
import Derived.Test.YtdcifdpkfcgmhaaDoorCwS3

/- The laws' marking of cursors, and looking whether the marks held. -/
namespace Go.Proofs.YtdcifdpkfcgmhaaDoor
open Go.RowKit

/-- Marking a slice of ints of the call's own: no block but its own changes. -/
theorem markOnly_c {w : World} {lo : Nat} {v : Value} {ks : List Int} (h : IntsOwn w lo v ks) (hl : lo ≤ w.heap.size) (hn : ks.length ≤ 1048576) (k : Int) (h0 : 0 ≤ k) (h1 : k ≤ 1099511627776) :
    Calls Tryd.prog 63 #[v, .int .i64 k] w fun e w' => e = .returned (.int .i64 (k + ks.length)) ∧ IntsOwn w' lo v (marks k ks.length) ∧ Below lo w w' ∧ ∀ j, j < w.heap.size → some j ≠ v.ownBlock → w'.heap[j]? = w.heap[j]? := by
  obtain ⟨hlen, ⟨hv, hz⟩ | ⟨g, cap, cur, hv, hb, hg, hnc, hm, hs, ht⟩⟩ := h
  · subst hv
    rw [hz]
    refine (markNone_c none 0 k w).mono ?_
    rintro e w' ⟨rfl, rfl⟩
    exact ⟨by simp, World.ownsRow_nil w lo _ _, Below.refl _ _, fun _ _ _ => rfl⟩
  · subst hv
    rw [Nat.mul_one] at hs ht
    refine (markRow_c g ks.length cap k cur w hg (by omega) hn (fun i hi => ⟨ks[i], ?_⟩) h0 h1).mono ?_
    · have : (cur.toList.take ks.length)[i]? = some (.int .i64 ks[i]) := by rw [ht]; simp [hi]
      rw [List.getElem?_take_of_lt hi] at this
      simpa using this
    · rintro e w' ⟨rfl, c', hg', hsz, hd, hgr⟩
      refine ⟨rfl, ⟨by simp [marks], .inr ⟨g, cap, c', by rw [marks_length], hb, hg', by rw [marks_length]; exact hnc, hm, by omega, ?_⟩⟩, (Below.refl lo w).grown hgr hl (fun b e => by cases e; exact hb), fun j hj hne => hgr.block j hj (by simpa [Value.ownBlock] using hne)⟩
      apply List.ext_getElem?
      intro i
      rw [marks_length, Nat.mul_one]
      by_cases hi : i < ks.length
      · rw [List.getElem?_take_of_lt hi]
        have := hd i hi
        simp [marks, hi, this]
      · rw [List.getElem?_eq_none (by simp; omega), List.getElem?_eq_none (by simp [marks]; omega)]

set_option maxHeartbeats 1000000 in
theorem markCursor_c {w : World} {lo : Nat} {v : Value} {ks : List Int} (h : IntsOwn w lo v ks) (hl : lo ≤ w.heap.size) (hn : ks.length ≤ 1048576) (a k : Int) (h0 : 0 ≤ k) (h1 : k ≤ 1099511627776) :
    Calls Tryd.prog 22 #[.agg #[v, .int .i64 a], .int .i64 k] w fun e w' => e = .returned (.int .i64 (k + ks.length)) ∧ IntsOwn w' lo v (marks k ks.length) ∧ Below lo w w' ∧ ∀ j, j < w.heap.size → some j ≠ v.ownBlock → w'.heap[j]? = w.heap[j]? := by
  obtain ⟨va, vc, rfl⟩ := IntsOwn.shown h
  obtain ⟨W1, hW1⟩ : ∃ W1, W1 = w.alloc (.cells #[.slice va ks.length vc, .int .i64 a] 28) := ⟨_, rfl⟩
  have hs1 : W1.heap.size = w.heap.size + 1 := by rw [hW1]; simp
  have hb1 : Below w.heap.size w W1 := by rw [hW1]; exact (Below.refl _ _).alloc (Nat.le_refl _) _
  have k0 : W1.heap[w.heap.size]? = some (.cells #[.slice va ks.length vc, .int .i64 a] 28 (0, 0)) := by rw [hW1, new_blk]
  have HM := Lib.hid (markOnly_c (h.later hb1 (Nat.le_refl _)) (by omega) hn k h0 h1)
  have HB := Lib.hid (And.intro hb1 hs1)
  rw [hW1] at k0
  obtain ⟨x1, x2, x3, x4⟩ := box2 k0
  have HW1 := Lib.hid hW1
  clear h hW1 hs1 hb1 k0
  go_enter Tryd.func22, Tryd.ntmps22
  go_wp2_with fail
  rw [← HW1.out]
  refine HM.out.mono ?_
  rintro e w2 ⟨rfl, hown, hbel, hoth⟩
  have H2 := Lib.hid (And.intro hown (And.intro hbel hoth))
  clear hown hbel hoth
  go_wp2_with fail
  go_ret
  have hs := HB.out.2
  exact ⟨rfl, H2.out.1, (HB.out.1.mono hl).trans H2.out.2.1, fun j hj hne => (H2.out.2.2 j (by omega) hne).trans (HB.out.1.block j hj)⟩

set_option maxHeartbeats 1000000 in
theorem heldCursor_c {w : World} {v : Value} {k : Int} {n : Nat} (h : IntsAt w v (marks k n)) (hsh : ∃ va vc, v = .slice va n vc) (hB : ∀ w', Below w.heap.size w w' → IntsAt w' v (marks k n)) (hn : n ≤ 1048576) (a : Int) (h0 : 0 ≤ k) (h1 : k ≤ 1099511627776) :
    Calls Tryd.prog 23 #[.agg #[v, .int .i64 a], .int .i64 k] w fun e w' => e = .returned (.int .i64 (k + n)) ∧ Below w.heap.size w w' := by
  obtain ⟨va, vc, rfl⟩ := hsh
  obtain ⟨W1, hW1⟩ : ∃ W1, W1 = w.alloc (.cells #[.slice va n vc, .int .i64 a] 28) := ⟨_, rfl⟩
  have hb1 : Below w.heap.size w W1 := by rw [hW1]; exact (Below.refl _ _).alloc (Nat.le_refl _) _
  have k0 : W1.heap[w.heap.size]? = some (.cells #[.slice va n vc, .int .i64 a] 28 (0, 0)) := by rw [hW1, new_blk]
  have HM := Lib.hid (held_c n _ k W1 (hB W1 hb1) hn h0 h1)
  have HB := Lib.hid hb1
  rw [hW1] at k0
  obtain ⟨x1, x2, x3, x4⟩ := box2 k0
  have HW1 := Lib.hid hW1
  have hnn : ¬ (k + (n : Int) < 0) := by omega
  clear h hW1 hb1 k0 hB
  go_enter Tryd.func23, Tryd.ntmps23
  go_wp2_with fail
  rw [← HW1.out]
  refine HM.out.mono ?_
  rintro e w2 ⟨rfl, hw⟩
  subst hw
  go_wp2_with fail
  go_ret
  exact ⟨rfl, HB.out⟩
end Go.Proofs.YtdcifdpkfcgmhaaDoor

/- Marking a tree: the number that comes is no more than the tree weighs; a list that is marked behind the tree. -/
namespace Go.Proofs.YtdcifdpkfcgmhaaDoor
open Go.RowKit

set_option maxHeartbeats 1000000 in
theorem markTree_up {w : World} {lo hi : Nat} {kv cv : Value} {t : Tr} (ht : TreeMem w lo hi kv cv t) (hw : t.weight ≤ 1048576) (hhi : hi ≤ w.heap.size) (k : Int) (h0 : 0 ≤ k) (h1 : k ≤ 1048576) :
    Calls Tryd.prog 21 #[.agg #[kv, cv], .int .i64 k] w fun e w' => ∃ m : Int, e = .returned (.int .i64 m) ∧ k ≤ m ∧ m ≤ k + (t.weight : Int) ∧ Span lo hi w w' := by
  obtain ⟨ks, cs, g, h, f, rfl, rfl, rfl, hg, hgh, hr⟩ := ht.slices
  simp only [Tr.weight] at hw
  obtain ⟨W1, hW1⟩ : ∃ W1, W1 = w.alloc (.cells #[.slice (some ⟨g, 0, none⟩) ks.length ks.length, .slice (some ⟨h, 0, none⟩) cs.length cs.length] 33) := ⟨_, rfl⟩
  have hs1 : W1.heap.size = w.heap.size + 1 := by rw [hW1]; simp
  have hb1 : Below w.heap.size w W1 := by rw [hW1]; exact (Below.refl _ _).alloc (Nat.le_refl _) _
  have kb : W1.heap[w.heap.size]? = some (.cells #[.slice (some ⟨g, 0, none⟩) ks.length ks.length, .slice (some ⟨h, 0, none⟩) cs.length cs.length] 33 (0, 0)) := by rw [hW1, new_blk]
  have ht1 : Touch w W1 := Touch.of_below hb1 (Nat.le_refl _)
  have hr1 : W1.rowIs g 3 ks.length (fun i => .int .i64 (f i)) := hr.of_block (hb1.block g hr.lt)
  have HW1 := Lib.hid hW1
  have HX := Lib.hid (And.intro hs1 (And.intro hb1 (And.intro kb (And.intro ht1 hr1))))
  have HT := Lib.hid ht
  clear hW1 hs1 hb1 kb ht1 hr1 hr ht
  go_enter Tryd.func21, Tryd.ntmps21
  go_wp2_with fail
  rw [← HW1.out]
  have hs1 := HX.out.1
  refine (markKeys_c HX.out.2.2.2.2 hg hgh (by omega) k h0 (by omega)).mono ?_
  rintro e w1 ⟨rfl, ht1, hbb1⟩
  have hblk := (ht1.other w.heap.size _ _ HX.out.2.2.1 (by decide)).trans HX.out.2.2.1
  obtain ⟨x1, x2, x3, x4⟩ := box2 hblk
  have hsz := hbb1.size
  have HY := Lib.hid (And.intro ht1 (And.intro hbb1 hblk))
  clear hs1 ht1 hbb1 hblk
  go_wp2_with fail
  have hs1 := HX.out.1
  refine (markTreeS_c HT.out (by simp only [Tr.weight]; omega) w1 (k + ks.length) (HX.out.2.2.2.1.trans HY.out.1) (by omega) (by simp only [Tr.kidsW]; omega)).mono ?_
  rintro e w2 ⟨m, rfl, q1, q2, ht2, hbb2⟩
  have HZ := Lib.hid hbb2
  clear hbb2 ht2 hs1
  go_wp2_with fail
  go_ret
  exact ⟨m, rfl, by omega, by simp only [Tr.kidsW] at q2; simp only [Tr.weight]; omega, (Span.of_below HX.out.2.1 (Nat.le_refl _)).trans (HY.out.2.1.trans HZ.out)⟩

end Go.Proofs.YtdcifdpkfcgmhaaDoor

/- Whether a number lies between two others; the model's l1In and l1Wide. -/
namespace Go.Proofs.YtdcifdpkfcgmhaaDoor
open Go.RowKit

/-- Whether a number lies between two others. -/
def inB (n lo hi : Int) : Bool := decide (lo ≤ n) && decide (n ≤ hi)
theorem inB_true {n lo hi : Int} (h : lo ≤ n) (h' : n ≤ hi) : inB n lo hi = true := by simp [inB, h, h']
theorem inB_false {n lo hi : Int} (h : ¬ (lo ≤ n ∧ n ≤ hi)) : inB n lo hi = false := by
  simp only [inB, Bool.and_eq_false_iff, decide_eq_false_iff_not]; omega

theorem l1In_c (n lo hi : Int) (w : World) : Calls Tryd.prog 104 #[.int .i64 n, .int .i64 lo, .int .i64 hi] w fun e w' => e = .returned (.bool (inB n lo hi)) ∧ w = w' := by
  by_cases h1 : lo ≤ n
  · by_cases h2 : n ≤ hi
    · go_enter Tryd.func104, Tryd.ntmps104
      go_wp2_with fail
      go_ret
      exact ⟨ret_bool (inB_true h1 h2).symm, rfl⟩
    · go_enter Tryd.func104, Tryd.ntmps104
      go_wp2_with fail
      go_ret
      exact ⟨ret_bool (inB_false (by omega)).symm, rfl⟩
  · go_enter Tryd.func104, Tryd.ntmps104
    go_wp2_with fail
    go_ret
    exact ⟨ret_bool (inB_false (by omega)).symm, rfl⟩

theorem l1Wide_c (n : Int) (w : World) : Calls Tryd.prog 123 #[.int .i64 n] w fun e w' => e = .returned (.bool (inB n 2 6)) ∧ w = w' := by
  go_enter Tryd.func123, Tryd.ntmps123
  go_wp2_with fail
  refine (l1In_c n 2 6 _).mono ?_
  rintro e w1 ⟨rfl, rfl⟩
  go_wp2_with fail
  go_ret
  exact ⟨rfl, rfl⟩
end Go.Proofs.YtdcifdpkfcgmhaaDoor
