/- Inserting: how many nodes, how deep, how many splits: plain data. -/
import Derived.Test.YtgbgdanbdbojaaaProg
import Derived.Test.YtgbgdanbdbojaaaSh0
import Derived.Test.YtgbgdanbdbojaaaSh17
import Derived.Test.YtgbgdanbdbojaaaSh18
import Derived.Deep.Cut
import Derived.Test.YtgbgdanbdbojaaaSh15
import Derived.Test.YtgbgdanbdbojaaaSh19

/- The contracts, over trees in memory, of the program's SplitsBy and GrowsBy. -/
namespace Go.Proofs.Ytgbgdanbdbojaaa
open Go.RowKit

set_option maxRecDepth 100000 in
set_option maxHeartbeats 2000000 in
theorem impl_splits_a {w : World} {B : Nat} {kv cv : Value} {t : Tr} (ht : TreeIn w B kv cv t) (hw : t.weight ≤ 1048576) (wide key : Int) (hn1 : -9223372036854775808 ≤ wide) (hn2 : wide ≤ 9223372036854775807) (w' : World) (hbw : Below B w w') (hB : B ≤ w'.heap.size) :
    Calls Try.prog 10 #[.agg #[kv, cv], .int .i64 wide, .int .i64 key] w' fun e w'' => e = .returned (.int .i64 (Tr.splitsB wide key t)) ∧ Below w'.heap.size w' w'' := by
  obtain ⟨a5, n5, m5, a6, n6, m6, rfl, rfl⟩ := ht.slices
  obtain ⟨W1, hW1⟩ : ∃ W1, W1 = w'.alloc (.cells #[.slice a5 n5 m5, .slice a6 n6 m6] 26) := ⟨_, rfl⟩
  have hs1 : W1.heap.size = w'.heap.size + 1 := by rw [hW1]; simp
  have hb1 : Below w'.heap.size w' W1 := by rw [hW1]; exact (Below.refl _ _).alloc (Nat.le_refl _) _
  have k0 : W1.heap[w'.heap.size]? = some (.cells #[.slice a5 n5 m5, .slice a6 n6 m6] 26 (0, 0)) := by rw [hW1, new_blk]
  obtain ⟨x1, x2, x3, x4⟩ := box2 k0
  have HT := Lib.hid ht
  have HBW := Lib.hid hbw
  have HW1 := Lib.hid hW1
  have H1 := Lib.hid hb1
  clear ht hbw hW1 hb1 k0
  go_enter Try.func10, Try.ntmps10
  go_wp2_with fail
  rw [← HW1.out]
  refine (grownBy_c HT.out hw wide key hn1 hn2 W1 (HBW.out.trans (H1.out.mono hB)) (by omega)).mono ?_
  intro e w2 hgo
  rcases hgo with ⟨ha, rfl, hb2⟩ | ⟨ha, gb, b, F, rfl, hgr, hF, hb2⟩
  · have HA := Lib.hid (show Tr.splitsB wide key t = -1 by simp [Tr.splitsB, ha])
    have H2 := Lib.hid (H1.out.trans (hb2.mono (by omega)))
    clear ha hb2 x1 x2 x3 x4
    go_wp2_with fail
    go_ret
    exact ⟨by rw [HA.out]; rfl, H2.out⟩
  · have HA := Lib.hid (show Tr.splitsB wide key t = Tr.insN wide key t by simp [Tr.splitsB, ha])
    have H2 := Lib.hid (H1.out.trans (hb2.mono (by omega)))
    obtain ⟨y1, y2, y3, y4, y5, y6, y7⟩ := hgr.box.cells
    clear ha hb2 x1 x2 x3 x4 hgr hF
    go_wp2_with fail
    go_ret
    exact ⟨by rw [HA.out]; rfl, H2.out⟩

set_option maxRecDepth 100000 in
set_option maxHeartbeats 2000000 in
theorem impl_grows_a {w : World} {B : Nat} {kv cv : Value} {t : Tr} (ht : TreeIn w B kv cv t) (hw : t.weight ≤ 1048576) (wide key : Int) (hn1 : -9223372036854775808 ≤ wide) (hn2 : wide ≤ 9223372036854775807) (w' : World) (hbw : Below B w w') (hB : B ≤ w'.heap.size) :
    Calls Try.prog 12 #[.agg #[kv, cv], .int .i64 wide, .int .i64 key] w' fun e w'' => e = .returned (.bool (Tr.growsB wide key t)) ∧ Below w'.heap.size w' w'' := by
  obtain ⟨a5, n5, m5, a6, n6, m6, rfl, rfl⟩ := ht.slices
  obtain ⟨W1, hW1⟩ : ∃ W1, W1 = w'.alloc (.cells #[.slice a5 n5 m5, .slice a6 n6 m6] 26) := ⟨_, rfl⟩
  have hs1 : W1.heap.size = w'.heap.size + 1 := by rw [hW1]; simp
  have hb1 : Below w'.heap.size w' W1 := by rw [hW1]; exact (Below.refl _ _).alloc (Nat.le_refl _) _
  have k0 : W1.heap[w'.heap.size]? = some (.cells #[.slice a5 n5 m5, .slice a6 n6 m6] 26 (0, 0)) := by rw [hW1, new_blk]
  obtain ⟨x1, x2, x3, x4⟩ := box2 k0
  have HT := Lib.hid ht
  have HBW := Lib.hid hbw
  have HW1 := Lib.hid hW1
  have H1 := Lib.hid hb1
  clear ht hbw hW1 hb1 k0
  go_enter Try.func12, Try.ntmps12
  go_wp2_with fail
  rw [← HW1.out]
  refine (grownBy_c HT.out hw wide key hn1 hn2 W1 (HBW.out.trans (H1.out.mono hB)) (by omega)).mono ?_
  intro e w2 hgo
  rcases hgo with ⟨ha, rfl, hb2⟩ | ⟨ha, gb, b, F, rfl, hgr, hF, hb2⟩
  · have HA := Lib.hid (show Tr.growsB wide key t = false by simp [Tr.growsB, ha])
    have H2 := Lib.hid (H1.out.trans (hb2.mono (by omega)))
    clear ha hb2 x1 x2 x3 x4
    go_wp2_with fail
    go_ret
    exact ⟨by rw [HA.out]; rfl, H2.out⟩
  · have HA := Lib.hid (show Tr.growsB wide key t = Tr.insG wide key t by simp [Tr.growsB, ha])
    have H2 := Lib.hid (H1.out.trans (hb2.mono (by omega)))
    obtain ⟨y1, y2, y3, y4, y5, y6, y7⟩ := hgr.box.cells
    clear ha hb2 x1 x2 x3 x4 hgr hF
    go_wp2_with fail
    go_ret
    exact ⟨by rw [HA.out]; rfl, H2.out⟩
end Go.Proofs.Ytgbgdanbdbojaaa

/- Inserting: how many nodes, how deep, how many splits: plain data. -/
namespace Go.Proofs.Ytgbgdanbdbojaaa
open Go.RowKit
namespace Tr

theorem counts_take_drop (c : List Tr) (i : Nat) : counts (c.take i) + counts (c.drop i) = counts c := by
  rw [← counts_append, List.take_append_drop]
theorem counts_at (c : List Tr) (i : Nat) (h : i < c.length) : counts (c.take i) + c[i].count + counts (c.drop (i + 1)) = counts c := by
  have h1 := counts_take_drop c i
  rw [List.drop_eq_getElem_cons h] at h1
  simp only [counts] at h1
  omega
theorem halves_count (u : Tr) : u.leftOf.count + u.rightOf.count = u.count + 1 := by
  cases u with
  | mk k c =>
    have := counts_take_drop c (k.length / 2 + 1)
    simp only [leftOf, rightOf, count]
    omega

theorem step_count (wide : Int) (k : List Int) (c : List Tr) (i : Nat) (h : i < c.length) (r : Tr × Nat) (m : Nat) (hr : r.1.count = c[i].count + m) (hm : r.2 = m) :
    (growStep wide k c i r).1.count = (Tr.mk k c).count + (growStep wide k c i r).2 := by
  have h1 := counts_at c i h
  have h2 := halves_count r.1
  unfold growStep
  split
  · simp only [splitKid, count, counts_append, counts]
    omega
  · simp only [setKid, count, counts_append, counts]
    omega

theorem full_at (n : Int) (c : List Tr) (i : Nat) (h : i < c.length) : c[i].full n ≤ fulls n c := by
  have h1 : fulls n (c.take i ++ c.drop i) = fulls n c := by rw [List.take_append_drop]
  rw [fulls_append, List.drop_eq_getElem_cons h] at h1
  simp only [fulls] at h1
  omega

/-- How many nodes there are behind an insertion, how many were full. -/
theorem grow_facts {wide : Int} (key : Int) : ∀ (n : Nat) (t : Tr), t.weight ≤ n → ∀ (least d : Int), nodesB wide least d t = true →
    (grow wide key t).1.count = t.count + (grow wide key t).2 ∧ ((grow wide key t).2 : Int) + 1 ≤ d ∧ (wide < ((grow wide key t).1.ks.length : Int) → ((grow wide key t).2 : Int) + 1 = d) ∧
    (grow wide key t).2 + (if wide < ((grow wide key t).1.ks.length : Int) then 1 else 0) ≤ t.full wide := by
  intro n
  induction n with
  | zero =>
    rintro ⟨k, c⟩ hn least d h
    simp only [weight] at hn
    have hc : c.length = 0 := by have := length_le_weights c; omega
    obtain ⟨⟨h1, h2⟩, h3⟩ := nodes_mem h
    have hd : d = 1 := by
      rcases h3 with h3 | h3
      · exact h3.2
      · omega
    have hl := putAt_length (x := key) (place_le key k)
    have hc' : c = [] := List.length_eq_zero_iff.1 hc
    rw [grow_leaf hc]
    subst hc'
    refine ⟨rfl, by omega, fun _ => by omega, ?_⟩
    simp only [ks, hl, full, fulls]
    split
    · rw [if_pos (by omega)]; omega
    · omega
  | succ n ih =>
    rintro ⟨k, c⟩ hn least d h
    simp only [weight] at hn
    obtain ⟨⟨h1, h2⟩, h3⟩ := nodes_mem h
    have hl := putAt_length (x := key) (place_le key k)
    rcases h3 with ⟨h3, hd⟩ | ⟨h4, h5, h6, h7, h8⟩
    · have hc' : c = [] := List.length_eq_zero_iff.1 h3
      rw [grow_leaf h3]
      subst hc'
      refine ⟨rfl, by omega, fun _ => by omega, ?_⟩
      simp only [ks, hl, full, fulls]
      split
      · rw [if_pos (by omega)]; omega
      · omega
    · have hp : place key k < c.length := by have := place_le key k; omega
      have hw := weight_get_le c (place key k) hp
      obtain ⟨i1, i2, i3, i4⟩ := ih c[place key k] (by omega) _ _ (h8 _ (List.getElem_mem hp))
      have hf := full_at wide c (place key k) hp
      rw [grow_inner hp]
      have hsc := step_count wide k c (place key k) hp (grow wide key c[place key k]) _ i1 rfl
      refine ⟨hsc, ?_⟩
      unfold growStep
      by_cases ho : wide < ((grow wide key c[place key k]).1.ks.length : Int)
      · rw [if_pos ho] at i4 ⊢
        have hi3 := i3 ho
        have hlk : (splitKid k c (place key k) (grow wide key c[place key k]).1).ks.length = k.length + 1 := by
          show (putAt k _ _).length = _; exact putAt_length (place_le key k)
        dsimp only
        rw [hlk]
        refine ⟨by push_cast; omega, fun _ => by push_cast; omega, ?_⟩
        simp only [full]
        by_cases hk : wide < ((k.length + 1 : Nat) : Int)
        · rw [if_pos hk, if_pos (by omega)]; omega
        · rw [if_neg hk]; omega
      · rw [if_neg ho] at i4 ⊢
        have hkl : (Tr.mk k (setKid c (place key k) (grow wide key c[place key k]).1)).ks.length = k.length := rfl
        dsimp only
        rw [hkl]
        refine ⟨by omega, fun hk => by omega, ?_⟩
        simp only [full]
        rw [if_neg (by omega)]
        omega

/-- What the law on splits asks. -/
theorem ins_facts {wide : Int} (key : Int) {t : Tr} (h : validB wide t = true) :
    (insT wide key t).count = t.count + insN wide key t + (if insG wide key t then 1 else 0) ∧ ((insT wide key t).depth : Int) = (t.depth : Int) + (if insG wide key t then 1 else 0) ∧
    insN wide key t ≤ t.depth ∧ (insG wide key t = true → insN wide key t = t.depth) ∧ insN wide key t ≤ t.full wide := by
  have hw := valid_wide h
  have h' := h
  simp only [validB, Bool.and_eq_true] at h'
  have hn := h'.2.1
  obtain ⟨g1, g2, g3, g4⟩ := grow_facts key t.weight t (Nat.le_refl _) _ _ hn
  have hi := insT_nodes hw.1 key hn
  have hd := nodes_depth wide _ _ _ _ (Nat.le_refl _) hi
  have hh := halves_count (grow wide key t).1
  refine ⟨?_, by rw [hd]; split <;> simp, ?_, ?_, ?_⟩
  · unfold insT insN insG
    dsimp only
    by_cases ho : wide < ((grow wide key t).1.ks.length : Int)
    · rw [if_pos ho, if_pos ho, decide_eq_true ho]; simp only [count, counts, if_true]; omega
    · rw [if_neg ho, if_neg ho, decide_eq_false ho]; simp only [Bool.false_eq_true, if_false]; omega
  · unfold insN
    dsimp only
    split
    · rename_i ho; have := g3 ho; omega
    · omega
  · intro hg
    have ho : wide < ((grow wide key t).1.ks.length : Int) := of_decide_eq_true hg
    unfold insN
    dsimp only
    rw [if_pos ho]
    have := g3 ho
    omega
  · unfold insN
    dsimp only
    split
    · rename_i ho; rw [if_pos ho] at g4; exact g4
    · rename_i ho; rw [if_neg ho] at g4; omega
end Tr
end Go.Proofs.Ytgbgdanbdbojaaa
