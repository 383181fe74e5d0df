/- A slice of ints that is cut out of a row of the call's own. -/
import Derived.Test.YtggmmfibkcdjbaaProg
import Derived.Test.YtggmmfibkcdjbaaBase
import Derived.Test.YtggmmfibkcdjbaaApp
import Derived.Test.YtggmmfibkcdjbaaTo
import Derived.Test.YtggmmfibkcdjbaaMark
import Derived.Test.YtggmmfibkcdjbaaMarkTree
namespace Go.Proofs.Ytggmmfibkcdjbaa
open Go.RowKit

/-- A slice of ints that lies within a block of the call's own, from block lo on. -/
def IntsCut (w : World) (lo : Nat) (v : Value) (ks : List Int) : Prop :=
  ∃ (a : Option Addr) (cap : Nat), v = .slice a ks.length cap ∧ ks.length ≤ cap ∧ cap ≤ maxLen ∧ (a = none → cap = 0) ∧
    (ks = [] ∨ ∃ (g o : Nat) (cur : Array Value), a = some ⟨g, o, none⟩ ∧ lo ≤ g ∧ w.heap[g]? = some (.cells cur 3 (0, 0)) ∧ ∀ i, i < ks.length → cur[o + i]? = some (.int .i64 (ks.getD i 0)))

theorem IntsCut.shown {w : World} {lo : Nat} {v : Value} {ks : List Int} (h : IntsCut w lo v ks) : ∃ a c, v = .slice a ks.length c := by
  obtain ⟨a, cap, hv, _⟩ := h
  exact ⟨a, cap, hv⟩
theorem IntsCut.in {w : World} {lo : Nat} {v : Value} {ks : List Int} (h : IntsCut w lo v ks) : IntsIn w w.heap.size v ks := by
  obtain ⟨a, cap, hv, h1, h2, h3, h4⟩ := h
  refine ⟨a, cap, hv, h1, h2, h3, ?_⟩
  rcases h4 with h4 | ⟨g, o, cur, ha, hl, hg, hc⟩
  · exact .inl h4
  · exact .inr ⟨g, o, ha, (Array.getElem?_eq_some_iff.1 hg).1, fun i hi => by simp [World.cell?, hg, hc i hi]⟩
theorem IntsCut.inB {w : World} {lo B : Nat} {v : Value} {ks : List Int} (h : IntsCut w lo v ks) (hB : w.heap.size ≤ B) : IntsIn w B v ks := (IntsCut.in h).wider hB
theorem IntsCut.later {w w' : World} {lo C : Nat} {v : Value} {ks : List Int} (h : IntsCut w lo v ks) (hb : Below C w w') (hC : w.heap.size ≤ C) : IntsCut w' lo v ks := by
  obtain ⟨a, cap, hv, h1, h2, h3, h4⟩ := h
  refine ⟨a, cap, hv, h1, h2, h3, ?_⟩
  rcases h4 with h4 | ⟨g, o, cur, ha, hl, hg, hc⟩
  · exact .inl h4
  · exact .inr ⟨g, o, cur, ha, hl, (hb.block g (by have := (Array.getElem?_eq_some_iff.1 hg).1; omega)).trans hg, hc⟩
theorem IntsCut.span {w w' : World} {l lo hi : Nat} {v : Value} {ks : List Int} (h : IntsCut w l v ks) (hb : Span lo hi w w') (hl : hi ≤ l) : IntsCut w' l v ks := by
  obtain ⟨a, cap, hv, h1, h2, h3, h4⟩ := h
  refine ⟨a, cap, hv, h1, h2, h3, ?_⟩
  rcases h4 with h4 | ⟨g, o, cur, ha, hl', hg, hc⟩
  · exact .inl h4
  · exact .inr ⟨g, o, cur, ha, hl', (hb.block g (Array.getElem?_eq_some_iff.1 hg).1 (.inr (by omega))).trans hg, hc⟩
theorem IntsCut.lower {w : World} {lo lo' : Nat} {v : Value} {ks : List Int} (h : IntsCut w lo v ks) (hl : lo' ≤ lo) : IntsCut w lo' v ks := by
  obtain ⟨a, cap, hv, h1, h2, h3, h4⟩ := h
  refine ⟨a, cap, hv, h1, h2, h3, ?_⟩
  rcases h4 with h4 | ⟨g, o, cur, ha, hl', hg, hc⟩
  · exact .inl h4
  · exact .inr ⟨g, o, cur, ha, by omega, hg, hc⟩
theorem IntsCut.none {w : World} {lo : Nat} : IntsCut w lo (.slice none 0 0) [] := ⟨_, 0, rfl, Nat.le_refl _, by unfold maxLen; omega, fun _ => rfl, .inl rfl⟩

/-- A part of a row of the call's own is such a slice. -/
theorem IntsOwn.cut {w : World} {lo n cap f p : Nat} {a : Option Addr} {ks : List Int} (h : IntsOwn w lo (.slice a n cap) ks) (h1 : f ≤ p) (h2 : p ≤ ks.length) (a' : Option Addr) (ha : p - f = 0 ∨ a' = a.map (fun x => x.add f)) (hz : a' = none → p - f = 0) :
    IntsCut w lo (.slice a' (p - f) (p - f)) ((ks.drop f).take (p - f)) := by
  have hlen : ((ks.drop f).take (p - f)).length = p - f := by rw [List.length_take, List.length_drop]; omega
  have hkl : ks.length ≤ maxLen := by
    obtain ⟨_, ⟨h2, h3⟩ | ⟨g, cap', cur, hv, hb, hg, hn, hm, hs, ht⟩⟩ := h
    · rw [h3]; exact Nat.zero_le _
    · omega
  refine ⟨a', p - f, by rw [hlen], by rw [hlen]; exact Nat.le_refl _, by omega, hz, ?_⟩
  by_cases h0 : p - f = 0
  · exact .inl (List.length_eq_zero_iff.1 (by rw [hlen]; exact h0))
  · rcases ha with ha | ha
    · exact absurd ha h0
    · obtain ⟨_, ⟨hv, h3⟩ | ⟨g, cap', cur, hv, hb, hg, hn, hm, hs, ht⟩⟩ := h
      · have h9 : ks.length = 0 := h3
        omega
      · injection hv with e1 e2 e3
        subst e1
        refine .inr ⟨g, f, cur, by rw [ha]; simp [Addr.add] <;> omega, hb, hg, fun i hi => ?_⟩
        rw [hlen] at hi
        have hget : (cur.toList.take (ks.length * 1))[f + i]? = (ks.map (Value.int .i64))[f + i]? := by rw [ht]
        rw [Nat.mul_one, List.getElem?_take_of_lt (by omega)] at hget
        rw [← Array.getElem?_toList, hget, List.getElem?_map, List.getD_eq_getElem?_getD, List.getElem?_take_of_lt (by omega), List.getElem?_drop]
        have hlt : f + i < ks.length := by omega
        simp [hlt]

set_option maxHeartbeats 1000000 in
theorem markRowO_c (g o n cap : Nat) (k : Int) (c : Array Value) (w : World) (hc : w.heap[g]? = some (.cells c 3 (0, 0))) (hcap : n ≤ 1048576) (hi : ∀ i, i < n → ∃ x : Int, c[o + i]? = some (.int .i64 x)) (h0 : 0 ≤ k) (h1 : k ≤ 1099511627776) :
    Calls Try.prog 28 #[.slice (some ⟨g, o, none⟩) n cap, .int .i64 k] w fun e w' => e = .returned (.int .i64 (k + n)) ∧
      ∃ c' : Array Value, w'.heap[g]? = some (.cells c' 3 (0, 0)) ∧ (∀ i, i < n → c'[o + i]? = some (.int .i64 (k + (i : Int)))) ∧ w.grownBy w' (some g) := by
  have HC := Lib.hid hc
  have HI := Lib.hid hi
  clear hc hi
  go_enter Try.func28, Try.ntmps28
  go_wp2_with fail
  go_loopw [1, 5] (fun l i wr => ∃ (j : Nat) (c' : Array Value), j ≤ n ∧ i = .int .i64 j ∧ l = .int .i64 (k + j) ∧ wr.heap[g]? = some (.cells c' 3 (0, 0)) ∧ (∀ i, i < j → c'[o + i]? = some (.int .i64 (k + (i : Int)))) ∧ (∀ i, i < n → ∃ x : Int, c'[o + i]? = some (.int .i64 x)) ∧ w.grownBy wr (some g)) (fun _ i _ => n - (intOf i).toNat)
  case atStart => exact ⟨0, c, Nat.zero_le _, rfl, by simp, HC.out, fun i h => by omega, HI.out, World.grownBy.refl _ _⟩
  case round =>
    obtain ⟨j, c', hj, rfl, rfl, hblk, hdone, hints, hgr⟩ := hrel
    by_cases hlt : j < n
    · obtain ⟨x, hx⟩ := hints j hlt
      have ha : wr.cell? ⟨g, o + j, none⟩ = some (.int .i64 x) := by simp [World.cell?, hblk, hx]
      have hf : wr.frozen? ⟨g, o + j, none⟩ = false := by simp [World.frozen?, hblk]
      have hgl : g < wr.heap.size := (Array.getElem?_eq_some_iff.1 hblk).1
      have hsz : o + j < c'.size := (Array.getElem?_eq_some_iff.1 hx).1
      have HD := Lib.hid (And.intro hblk (And.intro hdone (And.intro hints hgr)))
      clear hblk hdone hints hgr hx
      go_wp2_with fail
      go_roundw
      case rel =>
        obtain ⟨hblk, hdone, hints, hgr⟩ := HD.out
        refine ⟨j + 1, c'.setIfInBounds (o + j) (.int .i64 (k + j)), by omega, by go_num, by go_num, set_blk _ hblk, fun i hi => ?_, fun i hi => ?_, ?_⟩
        · rw [Array.getElem?_setIfInBounds]
          by_cases e : o + j = o + i
          · obtain rfl : j = i := by omega
            rw [if_pos rfl, if_pos hsz]
          · rw [if_neg e]; exact hdone i (by omega)
        · rw [Array.getElem?_setIfInBounds]
          by_cases e : o + j = o + i
          · exact ⟨_, by rw [if_pos e, if_pos hsz]⟩
          · rw [if_neg e]; exact hints i hi
        · refine ⟨hgr.os, hgr.tape, hgr.output, by simpa using hgr.size, fun b hb hne => ?_⟩
          rw [set_other _ _ _ _ _ (fun e => hne (by rw [e]))]
          exact hgr.block b hb hne
      case measure => simp [intOf]; omega
    · obtain rfl : j = n := by omega
      have HD := Lib.hid (And.intro hblk (And.intro hdone hgr))
      clear hblk hdone hints hgr
      go_wp2_with fail
      go_ret
      obtain ⟨hblk, hdone, hgr⟩ := HD.out
      exact ⟨rfl, c', hblk, hdone, hgr⟩

/-- Marking such a slice. -/
theorem markCut_c {w : World} {lo : Nat} {v : Value} {ks : List Int} (h : IntsCut w lo v ks) (hl : lo ≤ w.heap.size) (hn : ks.length ≤ 1048576) (k : Int) (h0 : 0 ≤ k) (h1 : k ≤ 1099511627776) :
    Calls Try.prog 28 #[v, .int .i64 k] w fun e w' => e = .returned (.int .i64 (k + ks.length)) ∧ IntsCut w' lo v (marks k ks.length) ∧ Below lo w w' := by
  obtain ⟨a, cap, hv, h2, h3, h4, h5⟩ := h
  subst hv
  by_cases hz : ks.length = 0
  · rw [hz]
    refine (markNone_c a cap k w).mono ?_
    rintro e w' ⟨rfl, rfl⟩
    exact ⟨by simp, ⟨a, cap, by rw [marks_length], by rw [marks_length]; omega, h3, h4, .inl rfl⟩, Below.refl _ _⟩
  · rcases h5 with h5 | ⟨g, o, cur, rfl, hb, hg, hc⟩
    · exact absurd (by rw [h5]; rfl) hz
    · refine (markRowO_c g o ks.length cap k cur w hg hn (fun i hi => ⟨_, hc i hi⟩) h0 h1).mono ?_
      rintro e w' ⟨rfl, c', hg', hd, hgr⟩
      refine ⟨rfl, ⟨_, cap, by rw [marks_length], by rw [marks_length]; exact h2, h3, by simp, .inr ⟨g, o, c', rfl, hb, hg', fun i hi => ?_⟩⟩, (Below.refl lo w).grown hgr hl (fun b e => by cases e; exact hb)⟩
      rw [marks_length] at hi
      rw [marks_get _ _ _ hi]; exact hd i hi
end Go.Proofs.Ytggmmfibkcdjbaa
