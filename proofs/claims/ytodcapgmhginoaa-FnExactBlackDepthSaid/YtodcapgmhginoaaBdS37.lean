/- The contracts of the functions that weigh an argument: szIntS, szTreeS, szTree. -/
import Derived.Test.YtodcapgmhginoaaProg
import Derived.Test.YtodcapgmhginoaaBdS0
namespace Go.Proofs.Ytodcapgmhginoaa
open Go.RowKit

/-- What szTree and its kin return. -/
def leftOf (n : Int) (m : Nat) : Int := if n < m then -1 else n - m
theorem leftOf_lt {n : Int} {m : Nat} (h : n < m) : leftOf n m = -1 := if_pos h
theorem leftOf_ge {n : Int} {m : Nat} (h : m ≤ n) : leftOf n m = n - m := if_neg (by omega)

theorem szIntS_c (a : Option Addr) (len cap : Nat) (n : Int) (w : World) (h0 : 0 ≤ n) (h1 : n ≤ 1048576) (h2 : len ≤ 9223372036854775807) :
    Calls Try.prog 55 #[.slice a len cap, .int .i64 n] w fun e w' => e = .returned (.int .i64 (leftOf n len)) ∧ w = w' := by
  go_enter Try.func55, Try.ntmps55
  go_wp2
  · go_ret
    exact ⟨ret_int (leftOf_lt (by omega)).symm, rfl⟩
  · go_ret
    exact ⟨ret_int (leftOf_ge (by omega)).symm, rfl⟩

set_option maxHeartbeats 400000 in
theorem szTreeS_c (cs : List Tr) (a : Option Addr) (cap : Nat) (n : Int) (w : World) (B : Nat) (kvs cvs : Nat → Value) (hB : B ≤ w.heap.size)
    (h0 : 0 ≤ n) (h1 : n ≤ 1048576) (hlen : cs.length ≤ cap) (hcap : cap ≤ 9223372036854775807)
    (hat : KidsIn w B a cs.length kvs cvs)
    (hsz : ∀ i (h : i < cs.length) w' (m : Int), Below B w w' → B ≤ w'.heap.size → 0 ≤ m → m ≤ 1048576 →
      Calls Try.prog 16 #[.agg #[kvs i, cvs i], .int .i64 m] w' fun e w'' => e = .returned (.int .i64 (leftOf m cs[i].weight)) ∧ Below w'.heap.size w' w'') :
    Calls Try.prog 56 #[.slice a cs.length cap, .int .i64 n] w fun e w' => e = .returned (.int .i64 (leftOf n (Tr.weights cs))) ∧ Below w.heap.size w w' := by
  have HAT := Lib.hid hat
  have HSZ := Lib.hid hsz
  clear hat hsz
  have hl0 := Tr.length_le_weights cs
  go_enter Try.func56, Try.ntmps56
  go_wp2_with fail
  · go_ret
    exact ⟨ret_int (leftOf_lt (by omega)).symm, Below.refl _ _⟩
  · go_loopw [1, 5] (fun l i wr => ∃ (j : Nat) (m : Int), j ≤ cs.length ∧ i = .int .i64 j ∧ l = .int .i64 m ∧ 0 ≤ m ∧ m + Tr.weights (cs.take j) + (cs.length - j : Nat) = n ∧ Below w.heap.size w wr) (fun _ i _ => cs.length - (intOf i).toNat)
    case atStart => exact ⟨0, _, Nat.zero_le _, rfl, rfl, by omega, by simp [Tr.weights], Below.refl _ _⟩
    case round =>
      obtain ⟨j, m, hj, rfl, rfl, hm, hsum, hbel⟩ := hrel
      by_cases hlt : j < cs.length
      · rcases HAT.out with h | ⟨b, off, rfl, hb, hat⟩
        · omega
        obtain ⟨ha, hc⟩ := hat j hlt
        have ha' : wr.cell? ⟨b, off + j * 2, none⟩ = some (kvs j) := by rw [below_cell hbel (by omega)]; exact ha
        have hc' : wr.cell? ⟨b, off + j * 2 + 1, none⟩ = some (cvs j) := by rw [below_cell hbel (by omega)]; exact hc
        have hw1 := Tr.weights_take_ge cs (j + 1)
        have hw2 := Tr.weights_take_succ cs j hlt
        have hsz := hbel.size
        have hcall := HSZ.out j hlt wr m (hbel.mono hB) (by omega) hm (by omega)
        have HC := Lib.hid hcall
        have HS := Lib.hid hsum
        have HW := Lib.hid hw2
        clear ha hc hat hcall hw2 hsum
        go_wp2_with fail
        refine HC.out.mono ?_
        rintro e w1 ⟨rfl, hb1⟩
        by_cases hneg : m < cs[j].weight
        · rw [leftOf_lt hneg]
          go_wp2_with fail
          go_ret
          have := HW.out
          have := HS.out
          exact ⟨ret_int (leftOf_lt (by omega)).symm, hbel.trans (hb1.mono hsz)⟩
        · have hge : (cs[j].weight : Int) ≤ m := by omega
          rw [leftOf_ge hge]
          go_wp2_with fail
          go_roundw
          case rel =>
            have := HW.out
            have := HS.out
            exact ⟨j + 1, _, by omega, by go_num, rfl, by omega, by omega, hbel.trans (hb1.mono hsz)⟩
          case measure => simp [intOf]; omega
      · obtain rfl : j = cs.length := by omega
        have HS := Lib.hid hsum
        clear hsum
        go_wp2_with fail
        go_ret
        have := HS.out
        rw [List.take_length] at this
        exact ⟨ret_int (by rw [leftOf_ge (by omega)]; omega), hbel⟩

set_option maxHeartbeats 400000 in
theorem szTree_c {w : World} {B : Nat} {kv cv : Value} {t : Tr} (ht : TreeIn w B kv cv t) :
    ∀ w' (n : Int), Below B w w' → B ≤ w'.heap.size → 0 ≤ n → n ≤ 1048576 →
    Calls Try.prog 16 #[.agg #[kv, cv], .int .i64 n] w' fun e w'' => e = .returned (.int .i64 (leftOf n t.weight)) ∧ Below w'.heap.size w' w'' := by
  induction ht with
  | mk ks cs kv a cap kvs cvs hk hlen hcap hat hkids ih =>
    intro w' n hbw hB h0 h1
    obtain ⟨ka, kcap, rfl, k1, k2, _, k3⟩ := hk
    unfold maxLen at hcap k2
    have hlk : ks.length ≤ 9223372036854775807 := by omega
    clear k3 hkids
    have HAT := Lib.hid hat
    have IH := Lib.hid ih
    clear hat ih
    go_enter Try.func16, Try.ntmps16
    go_wp2_with fail
    refine (szIntS_c ka ks.length kcap n _ h0 h1 hlk).mono ?_
    rintro e w1 ⟨rfl, rfl⟩
    by_cases hneg : n < ks.length
    · rw [leftOf_lt hneg]
      go_wp2_with fail
      go_ret
      exact ⟨ret_int (leftOf_lt (by simp only [Tr.weight]; omega)).symm, (Below.refl _ _).alloc (Nat.le_refl _) _⟩
    · rw [leftOf_ge (by omega)]
      go_wp2_with fail
      have hbox : Below w'.heap.size w' (w'.alloc (.cells #[.slice ka ks.length kcap, .slice a cs.length cap] 25)) := (Below.refl _ _).alloc (Nat.le_refl _) _
      have hbs := hbox.size
      have HB := Lib.hid hbox
      clear hbox
      refine (szTreeS_c cs a cap _ _ B kvs cvs (by omega) (by omega) (by omega) hlen hcap ((HAT.out.later hbw (Nat.le_refl _)).later HB.out hB) (fun i hi w2 m hb2 hs2 m0 m1 => ?_)).mono ?_
      · exact IH.out i hi w2 m (hbw.trans ((HB.out.mono hB).trans hb2)) hs2 m0 m1
      · rintro e w2 ⟨rfl, hb2⟩
        by_cases hneg2 : n - ks.length < Tr.weights cs
        · rw [leftOf_lt hneg2]
          go_wp2_with fail
          go_ret
          exact ⟨ret_int (leftOf_lt (by simp only [Tr.weight]; omega)).symm, HB.out.trans (hb2.mono hbs)⟩
        · rw [leftOf_ge (by omega)]
          go_wp2_with fail
          go_ret
          exact ⟨ret_int (by rw [leftOf_ge (by simp only [Tr.weight]; omega)]; simp only [Tr.weight]; omega), HB.out.trans (hb2.mono hbs)⟩

end Go.Proofs.Ytodcapgmhginoaa
