/- The contracts of the functions that weigh a coloured tree: szBinS, szBin. -/
import Derived.Test.YtodcapgmhginoaaProg
import Derived.Test.YtodcapgmhginoaaBvS0
import Derived.Test.YtodcapgmhginoaaBvS37
import Derived.Test.YtodcapgmhginoaaBvS2
namespace Go.Proofs.Ytodcapgmhginoaa
open Go.RowKit

set_option maxHeartbeats 400000 in
theorem szBinS_c (cs : List Bt) (a : Option Addr) (cap : Nat) (n : Int) (w : World) (B : Nat) (cvs : Nat → Value) (hB : B ≤ w.heap.size)
    (h0 : 0 ≤ n) (h1 : n ≤ 1048576) (hlen : cs.length ≤ cap) (hcap : cap ≤ 9223372036854775807)
    (hat : BKidsIn w B a cs cvs)
    (hsz : ∀ i (h : i < cs.length) w' (m : Int), Below B w w' → B ≤ w'.heap.size → 0 ≤ m → m ≤ 1048576 →
      Calls Try.prog 35 #[.agg #[.int .i64 cs[i].key, .bool cs[i].red, cvs i], .int .i64 m] w' fun e w'' => e = .returned (.int .i64 (leftOf m cs[i].weight)) ∧ Below w'.heap.size w' w'') :
    Calls Try.prog 76 #[.slice a cs.length cap, .int .i64 n] w fun e w' => e = .returned (.int .i64 (leftOf n (Bt.weights cs))) ∧ Below w.heap.size w w' := by
  have HAT := Lib.hid hat
  have HSZ := Lib.hid hsz
  clear hat hsz
  have hl0 := Bt.length_le_weights cs
  go_enter Try.func76, Try.ntmps76
  go_wp2_with fail
  · go_ret
    exact ⟨ret_int (leftOf_lt (by omega)).symm, Below.refl _ _⟩
  · go_loopw [1, 5] (fun l i wr => ∃ (j : Nat) (m : Int), j ≤ cs.length ∧ i = .int .i64 j ∧ l = .int .i64 m ∧ 0 ≤ m ∧ m + Bt.weights (cs.take j) + (cs.length - j : Nat) = n ∧ Below w.heap.size w wr) (fun _ i _ => cs.length - (intOf i).toNat)
    case atStart => exact ⟨0, _, Nat.zero_le _, rfl, rfl, by omega, by simp [Bt.weights], Below.refl _ _⟩
    case round =>
      obtain ⟨j, m, hj, rfl, rfl, hm, hsum, hbel⟩ := hrel
      by_cases hlt : j < cs.length
      · rcases HAT.out with h | ⟨b, off, rfl, hb, hat⟩
        · omega
        obtain ⟨ha, hr, hc⟩ := hat j hlt
        rw [← below_cell hbel (by omega)] at ha hr hc
        have hw1 := Bt.weights_take_ge cs (j + 1)
        have hw2 := Bt.weights_take_succ cs j hlt
        have hsz := hbel.size
        have hcall := HSZ.out j hlt wr m (hbel.mono hB) (by omega) hm (by omega)
        have HC := Lib.hid hcall
        have HS := Lib.hid hsum
        have HW := Lib.hid hw2
        clear hat hcall hw2 hsum
        go_wp2_with fail
        refine HC.out.mono ?_
        rintro e w1 ⟨rfl, hb1⟩
        by_cases hneg : m < cs[j].weight
        · rw [leftOf_lt hneg]
          go_wp2_with fail
          go_ret
          have := HW.out
          have := HS.out
          exact ⟨ret_int (leftOf_lt (by omega)).symm, hbel.trans (hb1.mono hsz)⟩
        · have hge : (cs[j].weight : Int) ≤ m := by omega
          rw [leftOf_ge hge]
          go_wp2_with fail
          go_roundw
          case rel =>
            have := HW.out
            have := HS.out
            exact ⟨j + 1, _, by omega, by go_num, rfl, by omega, by omega, hbel.trans (hb1.mono hsz)⟩
          case measure => simp [intOf]; omega
      · obtain rfl : j = cs.length := by omega
        have HS := Lib.hid hsum
        clear hsum
        go_wp2_with fail
        go_ret
        have := HS.out
        rw [List.take_length] at this
        exact ⟨ret_int (by rw [leftOf_ge (by omega)]; omega), hbel⟩

set_option maxHeartbeats 400000 in
theorem szBin_c {w : World} {B : Nat} {cv : Value} {t : Bt} (ht : BinIn w B cv t) :
    ∀ w' (n : Int), Below B w w' → B ≤ w'.heap.size → 0 ≤ n → n ≤ 1048576 →
    Calls Try.prog 35 #[.agg #[.int .i64 t.key, .bool t.red, cv], .int .i64 n] w' fun e w'' => e = .returned (.int .i64 (leftOf n t.weight)) ∧ Below w'.heap.size w' w'' := by
  induction ht with
  | mk key red cs a cap cvs hlen hcap hat hkids ih =>
    intro w' n hbw hB h0 h1
    unfold maxLen at hcap
    have HAT := Lib.hid hat
    have IH := Lib.hid ih
    clear hat ih hkids
    show Calls Try.prog 35 #[.agg #[.int .i64 key, .bool red, .slice a cs.length cap], .int .i64 n] w' _
    go_enter Try.func35, Try.ntmps35
    go_wp2_with fail
    have hbox : Below w'.heap.size w' (w'.alloc (.cells #[.int .i64 key, .bool red, .slice a cs.length cap] 43)) := (Below.refl _ _).alloc (Nat.le_refl _) _
    have hbs := hbox.size
    have HB := Lib.hid hbox
    clear hbox
    refine (szBinS_c cs a cap _ _ B cvs (by omega) h0 h1 hlen hcap ((HAT.out.later hbw (Nat.le_refl _)).later HB.out hB) (fun i hi w2 m hb2 hs2 m0 m1 => ?_)).mono ?_
    · exact IH.out i hi w2 m (hbw.trans ((HB.out.mono hB).trans hb2)) hs2 m0 m1
    · rintro e w2 ⟨rfl, hb2⟩
      by_cases hneg2 : n < Bt.weights cs
      · rw [leftOf_lt hneg2]
        go_wp2_with fail
        go_ret
        exact ⟨ret_int (leftOf_lt (by simp only [Bt.weight]; omega)).symm, HB.out.trans (hb2.mono hbs)⟩
      · rw [leftOf_ge (by omega)]
        go_wp2_with fail
        go_ret
        exact ⟨ret_int (by rw [leftOf_ge (by simp only [Bt.weight]; omega)]; simp only [Bt.weight]), HB.out.trans (hb2.mono hbs)⟩
end Go.Proofs.Ytodcapgmhginoaa
