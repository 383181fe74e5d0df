/- The contracts of the functions that mark a result and look whether the marks held. -/
import Derived.Test.YtodcapgmhginoaaProg
import Derived.Test.YtodcapgmhginoaaKyS0
import Derived.Test.YtodcapgmhginoaaKyS1
import Derived.Test.YtodcapgmhginoaaKyS2
namespace Go.Proofs.Ytodcapgmhginoaa
open Go.RowKit

/-- n numbers from k on. -/
def marks (k : Int) (n : Nat) : List Int := (List.range n).map (fun (i : Nat) => k + (i : Int))
theorem marks_length (k : Int) (n : Nat) : (marks k n).length = n := by simp [marks]
theorem marks_get (k : Int) (n i : Nat) (h : i < n) : (marks k n).getD i 0 = k + i := by simp [marks, h]

/-- Marking a row of ints: block g. -/
theorem markRow_c (g n cap : Nat) (k : Int) (c : Array Value) (w : World) (hc : w.heap[g]? = some (.cells c 3 (0, 0))) (hn : n ≤ c.size) (hcap : n ≤ 1048576) (hi : ∀ i, i < n → ∃ x : Int, c[i]? = some (.int .i64 x)) (h0 : 0 ≤ k) (h1 : k ≤ 1099511627776) :
    Calls Try.prog 25 #[.slice (some ⟨g, 0, none⟩) n cap, .int .i64 k] w fun e w' => e = .returned (.int .i64 (k + n)) ∧
      ∃ c' : Array Value, w'.heap[g]? = some (.cells c' 3 (0, 0)) ∧ c'.size = c.size ∧ (∀ i, i < n → c'[i]? = some (.int .i64 (k + (i : Int)))) ∧ w.grownBy w' (some g) := by
  have HC := Lib.hid hc
  have HI := Lib.hid hi
  clear hc hi
  go_enter Try.func25, Try.ntmps25
  go_wp2_with fail
  go_loopw [1, 5] (fun l i wr => ∃ (j : Nat) (c' : Array Value), j ≤ n ∧ i = .int .i64 j ∧ l = .int .i64 (k + j) ∧ wr.heap[g]? = some (.cells c' 3 (0, 0)) ∧ c'.size = c.size ∧ (∀ i, i < j → c'[i]? = some (.int .i64 (k + (i : Int)))) ∧ (∀ i, i < n → ∃ x : Int, c'[i]? = some (.int .i64 x)) ∧ w.grownBy wr (some g)) (fun _ i _ => n - (intOf i).toNat)
  case atStart => exact ⟨0, c, Nat.zero_le _, rfl, by simp, HC.out, rfl, fun i h => by omega, HI.out, World.grownBy.refl _ _⟩
  case round =>
    obtain ⟨j, c', hj, rfl, rfl, hblk, hsz, hdone, hints, hgr⟩ := hrel
    by_cases hlt : j < n
    · obtain ⟨x, hx⟩ := hints j hlt
      have ha : wr.cell? ⟨g, j, none⟩ = some (.int .i64 x) := by simp [World.cell?, hblk, hx]
      have hf : wr.frozen? ⟨g, j, none⟩ = false := by simp [World.frozen?, hblk]
      have hgl : g < wr.heap.size := (Array.getElem?_eq_some_iff.1 hblk).1
      have HD := Lib.hid (And.intro hblk (And.intro hsz (And.intro hdone (And.intro hints hgr))))
      clear hblk hsz hdone hints hgr hx
      go_wp2_with fail
      go_roundw
      case rel =>
        obtain ⟨hblk, hsz, hdone, hints, hgr⟩ := HD.out
        refine ⟨j + 1, c'.setIfInBounds j (.int .i64 (k + j)), by omega, by go_num, by go_num, set_blk _ hblk, by simpa using hsz, fun i hi => ?_, fun i hi => ?_, ?_⟩
        · rw [Array.getElem?_setIfInBounds]
          by_cases e : j = i
          · subst e; rw [if_pos rfl, if_pos (by omega)]
          · rw [if_neg e]; exact hdone i (by omega)
        · rw [Array.getElem?_setIfInBounds]
          by_cases e : j = i
          · subst e; exact ⟨_, by rw [if_pos rfl, if_pos (by omega)]⟩
          · rw [if_neg e]; exact hints i hi
        · refine ⟨hgr.os, hgr.tape, hgr.output, by simpa using hgr.size, fun b hb hne => ?_⟩
          rw [set_other _ _ _ _ _ (fun e => hne (by rw [e]))]
          exact hgr.block b hb hne
      case measure => simp [intOf]; omega
    · obtain rfl : j = n := by omega
      have HD := Lib.hid (And.intro hblk (And.intro hsz (And.intro hdone hgr)))
      clear hblk hsz hdone hints hgr
      go_wp2_with fail
      go_ret
      obtain ⟨hblk, hsz, hdone, hgr⟩ := HD.out
      exact ⟨rfl, c', hblk, hsz, hdone, hgr⟩

theorem markNone_c (a : Option Addr) (cap : Nat) (k : Int) (w : World) :
    Calls Try.prog 25 #[.slice a 0 cap, .int .i64 k] w fun e w' => e = .returned (.int .i64 k) ∧ w = w' := by
  go_enter Try.func25, Try.ntmps25
  go_wp2_with fail
  refine wp_loop_rounds 1 ?_
  rw [rounds_succ]
  go_wp2_with fail
  go_ret
  exact ⟨rfl, rfl⟩

/-- Marking a slice of ints of the call's own. -/
theorem markOwn_c {w : World} {lo : Nat} {v : Value} {ks : List Int} (h : IntsOwn w lo v ks) (hl : lo ≤ w.heap.size) (hn : ks.length ≤ 1048576) (k : Int) (h0 : 0 ≤ k) (h1 : k ≤ 1099511627776) :
    Calls Try.prog 25 #[v, .int .i64 k] w fun e w' => e = .returned (.int .i64 (k + ks.length)) ∧ IntsOwn w' lo v (marks k ks.length) ∧ Below lo w w' := by
  obtain ⟨hlen, ⟨hv, hz⟩ | ⟨g, cap, cur, hv, hb, hg, hnc, hm, hs, ht⟩⟩ := h
  · subst hv
    rw [hz]
    refine (markNone_c none 0 k w).mono ?_
    rintro e w' ⟨rfl, rfl⟩
    exact ⟨by simp, World.ownsRow_nil w lo _ _, Below.refl _ _⟩
  · subst hv
    rw [Nat.mul_one] at hs ht
    refine (markRow_c g ks.length cap k cur w hg (by omega) hn (fun i hi => ⟨ks[i], ?_⟩) h0 h1).mono ?_
    · have : (cur.toList.take ks.length)[i]? = some (.int .i64 ks[i]) := by rw [ht]; simp [hi]
      rw [List.getElem?_take_of_lt hi] at this
      simpa using this
    · rintro e w' ⟨rfl, c', hg', hsz, hd, hgr⟩
      refine ⟨rfl, ⟨by simp [marks], .inr ⟨g, cap, c', by rw [marks_length], hb, hg', by rw [marks_length]; exact hnc, hm, by omega, ?_⟩⟩, (Below.refl lo w).grown hgr hl (fun b e => by cases e; exact hb)⟩
      apply List.ext_getElem?
      intro i
      rw [marks_length, Nat.mul_one]
      by_cases hi : i < ks.length
      · rw [List.getElem?_take_of_lt hi]
        have := hd i hi
        simp [marks, hi, this]
      · rw [List.getElem?_eq_none (by simp; omega), List.getElem?_eq_none (by simp [marks]; omega)]

/-- Looking whether the marks held. -/
theorem held_c (n : Nat) (v : Value) (k : Int) (w : World) (h : IntsAt w v (marks k n)) (hn : n ≤ 1048576) (h0 : 0 ≤ k) (h1 : k ≤ 1099511627776) :
    Calls Try.prog 26 #[v, .int .i64 k] w fun e w' => e = .returned (.int .i64 (k + n)) ∧ w = w' := by
  obtain ⟨a, cap, rfl, _, hat⟩ := h
  rw [marks_length] at hat ⊢
  have HAT := Lib.hid hat
  clear hat
  go_enter Try.func26, Try.ntmps26
  go_wp2_with fail
  go_loop [1, 5] (fun l i => ∃ (j : Nat), j ≤ n ∧ i = .int .i64 j ∧ l = .int .i64 (k + j)) (fun _ i => n - (intOf i).toNat)
  case atStart => exact ⟨0, Nat.zero_le _, rfl, by simp⟩
  case round =>
    obtain ⟨j, hj, rfl, rfl⟩ := hrel
    by_cases hlt : j < n
    · rcases HAT.out with h | ⟨b, o, rfl, hat⟩
      · have := congrArg List.length h; rw [marks_length] at this; simp at this; omega
      have ha := hat j hlt
      rw [marks_get k n j hlt] at ha
      have hne : ((k + (j : Int)) != k + (j : Int)) = false := by simp
      clear hat
      go_wp2_with fail
      go_round
      case rel => exact ⟨j + 1, by omega, by go_num, by go_num⟩
      case measure => simp [intOf]; omega
    · obtain rfl : j = n := by omega
      go_wp2_with fail
      go_ret
      exact ⟨rfl, rfl⟩

end Go.Proofs.Ytodcapgmhginoaa
