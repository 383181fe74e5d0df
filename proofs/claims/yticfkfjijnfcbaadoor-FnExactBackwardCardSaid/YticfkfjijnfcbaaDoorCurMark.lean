/- The laws' marking of cursors, and looking whether the marks held. -/
import Derived.Test.YticfkfjijnfcbaaDoorProg
import Derived.Test.YticfkfjijnfcbaaDoorSh0
import Derived.Test.YticfkfjijnfcbaaDoorSh17
namespace Go.Proofs.YticfkfjijnfcbaaDoor
open Go.RowKit

/-- Marking a slice of ints of the call's own: no block but its own changes. -/
theorem markOnly_c {w : World} {lo : Nat} {v : Value} {ks : List Int} (h : IntsOwn w lo v ks) (hl : lo ≤ w.heap.size) (hn : ks.length ≤ 1048576) (k : Int) (h0 : 0 ≤ k) (h1 : k ≤ 1099511627776) :
    Calls Tryd.prog 63 #[v, .int .i64 k] w fun e w' => e = .returned (.int .i64 (k + ks.length)) ∧ IntsOwn w' lo v (marks k ks.length) ∧ Below lo w w' ∧ ∀ j, j < w.heap.size → some j ≠ v.ownBlock → w'.heap[j]? = w.heap[j]? := by
  obtain ⟨hlen, ⟨hv, hz⟩ | ⟨g, cap, cur, hv, hb, hg, hnc, hm, hs, ht⟩⟩ := h
  · subst hv
    rw [hz]
    refine (markNone_c none 0 k w).mono ?_
    rintro e w' ⟨rfl, rfl⟩
    exact ⟨by simp, World.ownsRow_nil w lo _ _, Below.refl _ _, fun _ _ _ => rfl⟩
  · subst hv
    rw [Nat.mul_one] at hs ht
    refine (markRow_c g ks.length cap k cur w hg (by omega) hn (fun i hi => ⟨ks[i], ?_⟩) h0 h1).mono ?_
    · have : (cur.toList.take ks.length)[i]? = some (.int .i64 ks[i]) := by rw [ht]; simp [hi]
      rw [List.getElem?_take_of_lt hi] at this
      simpa using this
    · rintro e w' ⟨rfl, c', hg', hsz, hd, hgr⟩
      refine ⟨rfl, ⟨by simp [marks], .inr ⟨g, cap, c', by rw [marks_length], hb, hg', by rw [marks_length]; exact hnc, hm, by omega, ?_⟩⟩, (Below.refl lo w).grown hgr hl (fun b e => by cases e; exact hb), fun j hj hne => hgr.block j hj (by simpa [Value.ownBlock] using hne)⟩
      apply List.ext_getElem?
      intro i
      rw [marks_length, Nat.mul_one]
      by_cases hi : i < ks.length
      · rw [List.getElem?_take_of_lt hi]
        have := hd i hi
        simp [marks, hi, this]
      · rw [List.getElem?_eq_none (by simp; omega), List.getElem?_eq_none (by simp [marks]; omega)]

set_option maxHeartbeats 1000000 in
theorem markCursor_c {w : World} {lo : Nat} {v : Value} {ks : List Int} (h : IntsOwn w lo v ks) (hl : lo ≤ w.heap.size) (hn : ks.length ≤ 1048576) (a k : Int) (h0 : 0 ≤ k) (h1 : k ≤ 1099511627776) :
    Calls Tryd.prog 22 #[.agg #[v, .int .i64 a], .int .i64 k] w fun e w' => e = .returned (.int .i64 (k + ks.length)) ∧ IntsOwn w' lo v (marks k ks.length) ∧ Below lo w w' ∧ ∀ j, j < w.heap.size → some j ≠ v.ownBlock → w'.heap[j]? = w.heap[j]? := by
  obtain ⟨va, vc, rfl⟩ := IntsOwn.shown h
  obtain ⟨W1, hW1⟩ : ∃ W1, W1 = w.alloc (.cells #[.slice va ks.length vc, .int .i64 a] 28) := ⟨_, rfl⟩
  have hs1 : W1.heap.size = w.heap.size + 1 := by rw [hW1]; simp
  have hb1 : Below w.heap.size w W1 := by rw [hW1]; exact (Below.refl _ _).alloc (Nat.le_refl _) _
  have k0 : W1.heap[w.heap.size]? = some (.cells #[.slice va ks.length vc, .int .i64 a] 28 (0, 0)) := by rw [hW1, new_blk]
  have HM := Lib.hid (markOnly_c (h.later hb1 (Nat.le_refl _)) (by omega) hn k h0 h1)
  have HB := Lib.hid (And.intro hb1 hs1)
  rw [hW1] at k0
  obtain ⟨x1, x2, x3, x4⟩ := box2 k0
  have HW1 := Lib.hid hW1
  clear h hW1 hs1 hb1 k0
  go_enter Tryd.func22, Tryd.ntmps22
  go_wp2_with fail
  rw [← HW1.out]
  refine HM.out.mono ?_
  rintro e w2 ⟨rfl, hown, hbel, hoth⟩
  have H2 := Lib.hid (And.intro hown (And.intro hbel hoth))
  clear hown hbel hoth
  go_wp2_with fail
  go_ret
  have hs := HB.out.2
  exact ⟨rfl, H2.out.1, (HB.out.1.mono hl).trans H2.out.2.1, fun j hj hne => (H2.out.2.2 j (by omega) hne).trans (HB.out.1.block j hj)⟩

set_option maxHeartbeats 1000000 in
theorem heldCursor_c {w : World} {v : Value} {k : Int} {n : Nat} (h : IntsAt w v (marks k n)) (hsh : ∃ va vc, v = .slice va n vc) (hB : ∀ w', Below w.heap.size w w' → IntsAt w' v (marks k n)) (hn : n ≤ 1048576) (a : Int) (h0 : 0 ≤ k) (h1 : k ≤ 1099511627776) :
    Calls Tryd.prog 23 #[.agg #[v, .int .i64 a], .int .i64 k] w fun e w' => e = .returned (.int .i64 (k + n)) ∧ Below w.heap.size w w' := by
  obtain ⟨va, vc, rfl⟩ := hsh
  obtain ⟨W1, hW1⟩ : ∃ W1, W1 = w.alloc (.cells #[.slice va n vc, .int .i64 a] 28) := ⟨_, rfl⟩
  have hb1 : Below w.heap.size w W1 := by rw [hW1]; exact (Below.refl _ _).alloc (Nat.le_refl _) _
  have k0 : W1.heap[w.heap.size]? = some (.cells #[.slice va n vc, .int .i64 a] 28 (0, 0)) := by rw [hW1, new_blk]
  have HM := Lib.hid (held_c n _ k W1 (hB W1 hb1) hn h0 h1)
  have HB := Lib.hid hb1
  rw [hW1] at k0
  obtain ⟨x1, x2, x3, x4⟩ := box2 k0
  have HW1 := Lib.hid hW1
  have hnn : ¬ (k + (n : Int) < 0) := by omega
  clear h hW1 hb1 k0 hB
  go_enter Tryd.func23, Tryd.ntmps23
  go_wp2_with fail
  rw [← HW1.out]
  refine HM.out.mono ?_
  rintro e w2 ⟨rfl, hw⟩
  subst hw
  go_wp2_with fail
  go_ret
  exact ⟨rfl, HB.out⟩
end Go.Proofs.YticfkfjijnfcbaaDoor
