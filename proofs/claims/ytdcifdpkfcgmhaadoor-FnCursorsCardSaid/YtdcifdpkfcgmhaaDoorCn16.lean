/- The contracts of the functions that compare: eqIntS, eqTreeS, eqTree: at two readings of one datum they answer true. -/
import Derived.Test.YtdcifdpkfcgmhaaDoorProg
import Derived.Test.YtdcifdpkfcgmhaaDoorCn0
import Derived.Deep.QuietTactic
import Derived.BigQuiet
import Derived.StillTailTactics
import Derived.WalkSmall

/- The contracts of the functions that weigh an argument: szIntS, szTreeS, szTree. -/
namespace Go.Proofs.YtdcifdpkfcgmhaaDoor
open Go.RowKit

/-- What szTree and its kin return. -/
def leftOf (n : Int) (m : Nat) : Int := if n < m then -1 else n - m
theorem leftOf_lt {n : Int} {m : Nat} (h : n < m) : leftOf n m = -1 := if_pos h
theorem leftOf_ge {n : Int} {m : Nat} (h : m ≤ n) : leftOf n m = n - m := if_neg (by omega)

theorem szIntS_c (a : Option Addr) (len cap : Nat) (n : Int) (w : World) (h0 : 0 ≤ n) (h1 : n ≤ 1048576) (h2 : len ≤ 9223372036854775807) :
    Calls Tryd.prog 55 #[.slice a len cap, .int .i64 n] w fun e w' => e = .returned (.int .i64 (leftOf n len)) ∧ w = w' := by
  go_enter Tryd.func55, Tryd.ntmps55
  go_wp2
  · go_ret
    exact ⟨ret_int (leftOf_lt (by omega)).symm, rfl⟩
  · go_ret
    exact ⟨ret_int (leftOf_ge (by omega)).symm, rfl⟩

set_option maxHeartbeats 400000 in
theorem szTreeS_c (cs : List Tr) (a : Option Addr) (cap : Nat) (n : Int) (w : World) (B : Nat) (kvs cvs : Nat → Value) (hB : B ≤ w.heap.size)
    (h0 : 0 ≤ n) (h1 : n ≤ 1048576) (hlen : cs.length ≤ cap) (hcap : cap ≤ 9223372036854775807)
    (hat : KidsIn w B a cs.length kvs cvs)
    (hsz : ∀ i (h : i < cs.length) w' (m : Int), Below B w w' → B ≤ w'.heap.size → 0 ≤ m → m ≤ 1048576 →
      Calls Tryd.prog 15 #[.agg #[kvs i, cvs i], .int .i64 m] w' fun e w'' => e = .returned (.int .i64 (leftOf m cs[i].weight)) ∧ Below w'.heap.size w' w'') :
    Calls Tryd.prog 56 #[.slice a cs.length cap, .int .i64 n] w fun e w' => e = .returned (.int .i64 (leftOf n (Tr.weights cs))) ∧ Below w.heap.size w w' := by
  have HAT := Lib.hid hat
  have HSZ := Lib.hid hsz
  clear hat hsz
  have hl0 := Tr.length_le_weights cs
  go_enter Tryd.func56, Tryd.ntmps56
  go_wp2_with fail
  · go_ret
    exact ⟨ret_int (leftOf_lt (by omega)).symm, Below.refl _ _⟩
  · go_loopw [1, 5] (fun l i wr => ∃ (j : Nat) (m : Int), j ≤ cs.length ∧ i = .int .i64 j ∧ l = .int .i64 m ∧ 0 ≤ m ∧ m + Tr.weights (cs.take j) + (cs.length - j : Nat) = n ∧ Below w.heap.size w wr) (fun _ i _ => cs.length - (intOf i).toNat)
    case atStart => exact ⟨0, _, Nat.zero_le _, rfl, rfl, by omega, by simp [Tr.weights], Below.refl _ _⟩
    case round =>
      obtain ⟨j, m, hj, rfl, rfl, hm, hsum, hbel⟩ := hrel
      by_cases hlt : j < cs.length
      · rcases HAT.out with h | ⟨b, off, rfl, hb, hat⟩
        · omega
        obtain ⟨ha, hc⟩ := hat j hlt
        have ha' : wr.cell? ⟨b, off + j * 2, none⟩ = some (kvs j) := by rw [below_cell hbel (by omega)]; exact ha
        have hc' : wr.cell? ⟨b, off + j * 2 + 1, none⟩ = some (cvs j) := by rw [below_cell hbel (by omega)]; exact hc
        have hw1 := Tr.weights_take_ge cs (j + 1)
        have hw2 := Tr.weights_take_succ cs j hlt
        have hsz := hbel.size
        have hcall := HSZ.out j hlt wr m (hbel.mono hB) (by omega) hm (by omega)
        have HC := Lib.hid hcall
        have HS := Lib.hid hsum
        have HW := Lib.hid hw2
        clear ha hc hat hcall hw2 hsum
        go_wp2_with fail
        refine HC.out.mono ?_
        rintro e w1 ⟨rfl, hb1⟩
        by_cases hneg : m < cs[j].weight
        · rw [leftOf_lt hneg]
          go_wp2_with fail
          go_ret
          have := HW.out
          have := HS.out
          exact ⟨ret_int (leftOf_lt (by omega)).symm, hbel.trans (hb1.mono hsz)⟩
        · have hge : (cs[j].weight : Int) ≤ m := by omega
          rw [leftOf_ge hge]
          go_wp2_with fail
          go_roundw
          case rel =>
            have := HW.out
            have := HS.out
            exact ⟨j + 1, _, by omega, by go_num, rfl, by omega, by omega, hbel.trans (hb1.mono hsz)⟩
          case measure => simp [intOf]; omega
      · obtain rfl : j = cs.length := by omega
        have HS := Lib.hid hsum
        clear hsum
        go_wp2_with fail
        go_ret
        have := HS.out
        rw [List.take_length] at this
        exact ⟨ret_int (by rw [leftOf_ge (by omega)]; omega), hbel⟩

set_option maxHeartbeats 400000 in
theorem szTree_c {w : World} {B : Nat} {kv cv : Value} {t : Tr} (ht : TreeIn w B kv cv t) :
    ∀ w' (n : Int), Below B w w' → B ≤ w'.heap.size → 0 ≤ n → n ≤ 1048576 →
    Calls Tryd.prog 15 #[.agg #[kv, cv], .int .i64 n] w' fun e w'' => e = .returned (.int .i64 (leftOf n t.weight)) ∧ Below w'.heap.size w' w'' := by
  induction ht with
  | mk ks cs kv a cap kvs cvs hk hlen hcap hat hkids ih =>
    intro w' n hbw hB h0 h1
    obtain ⟨ka, kcap, rfl, k1, k2, _, k3⟩ := hk
    unfold maxLen at hcap k2
    have hlk : ks.length ≤ 9223372036854775807 := by omega
    clear k3 hkids
    have HAT := Lib.hid hat
    have IH := Lib.hid ih
    clear hat ih
    go_enter Tryd.func15, Tryd.ntmps15
    go_wp2_with fail
    refine (szIntS_c ka ks.length kcap n _ h0 h1 hlk).mono ?_
    rintro e w1 ⟨rfl, rfl⟩
    by_cases hneg : n < ks.length
    · rw [leftOf_lt hneg]
      go_wp2_with fail
      go_ret
      exact ⟨ret_int (leftOf_lt (by simp only [Tr.weight]; omega)).symm, (Below.refl _ _).alloc (Nat.le_refl _) _⟩
    · rw [leftOf_ge (by omega)]
      go_wp2_with fail
      have hbox : Below w'.heap.size w' (w'.alloc (.cells #[.slice ka ks.length kcap, .slice a cs.length cap] 25)) := (Below.refl _ _).alloc (Nat.le_refl _) _
      have hbs := hbox.size
      have HB := Lib.hid hbox
      clear hbox
      refine (szTreeS_c cs a cap _ _ B kvs cvs (by omega) (by omega) (by omega) hlen hcap ((HAT.out.later hbw (Nat.le_refl _)).later HB.out hB) (fun i hi w2 m hb2 hs2 m0 m1 => ?_)).mono ?_
      · exact IH.out i hi w2 m (hbw.trans ((HB.out.mono hB).trans hb2)) hs2 m0 m1
      · rintro e w2 ⟨rfl, hb2⟩
        by_cases hneg2 : n - ks.length < Tr.weights cs
        · rw [leftOf_lt hneg2]
          go_wp2_with fail
          go_ret
          exact ⟨ret_int (leftOf_lt (by simp only [Tr.weight]; omega)).symm, HB.out.trans (hb2.mono hbs)⟩
        · rw [leftOf_ge (by omega)]
          go_wp2_with fail
          go_ret
          exact ⟨ret_int (by rw [leftOf_ge (by simp only [Tr.weight]; omega)]; simp only [Tr.weight]; omega), HB.out.trans (hb2.mono hbs)⟩

end Go.Proofs.YtdcifdpkfcgmhaaDoor

/- The contracts of the functions that compare: eqIntS, eqTreeS, eqTree: at two readings of one datum they answer true. -/
namespace Go.Proofs.YtdcifdpkfcgmhaaDoor
open Go.RowKit

set_option maxHeartbeats 400000 in
theorem eqIntS_c (ks : List Int) (v v' : Value) (w : World) (B : Nat) (hB : B ≤ w.heap.size) (hk : IntsIn w B v ks) (hk' : IntsIn w B v' ks) :
    Calls Tryd.prog 61 #[v, v'] w fun e w' => e = .returned (.bool true) ∧ Below w.heap.size w w' := by
  obtain ⟨a, cap, rfl, h1, h2, _, h3⟩ := hk
  obtain ⟨a', cap', rfl, h1', h2', _, h3'⟩ := hk'
  unfold maxLen at h2 h2'
  have HK := Lib.hid h3
  have HK' := Lib.hid h3'
  clear h3 h3'
  have hne : ((ks.length : Int) != ks.length) = false := by simp
  go_enter Tryd.func61, Tryd.ntmps61
  go_wp2_with fail
  go_loopw [5] (fun i wr => ∃ (j : Nat), j ≤ ks.length ∧ i = .int .i64 j ∧ Below w.heap.size w wr) (fun i _ => ks.length - (intOf i).toNat)
  case atStart => exact ⟨0, Nat.zero_le _, rfl, Below.refl _ _⟩
  case round =>
    obtain ⟨j, hj, rfl, hbel⟩ := hrel
    by_cases hlt : j < ks.length
    · rcases HK.out with h | ⟨b, off, rfl, hb, hat⟩
      · simp [h] at hlt
      rcases HK'.out with h | ⟨b', off', rfl, hb', hat'⟩
      · simp [h] at hlt
      have ha1 : wr.cell? ⟨b, off + j, none⟩ = some (.int .i64 (ks.getD j 0)) := by rw [below_cell hbel (by omega)]; exact hat j hlt
      have ha2 : wr.cell? ⟨b', off' + j, none⟩ = some (.int .i64 (ks.getD j 0)) := by rw [below_cell hbel (by omega)]; exact hat' j hlt
      have hne2 : ((ks.getD j 0 : Int) != ks.getD j 0) = false := by simp
      clear hat hat'
      generalize ks.getD j 0 = x at ha1 ha2 hne2
      go_wp2_with fail
      go_quiet (fail)
      go_wp2_with fail
      go_roundw
      case rel => exact ⟨j + 1, by omega, by go_num, below_drewN hbel _⟩
      case measure => simp [intOf]; omega
    · obtain rfl : j = ks.length := by omega
      go_wp2_with fail
      go_ret
      exact ⟨rfl, hbel⟩

set_option maxHeartbeats 1000000 in
set_option maxRecDepth 100000 in
theorem eqTreeS_c (cs : List Tr) (a a' : Option Addr) (cap cap' : Nat) (w : World) (B : Nat) (kvs cvs kvs' cvs' : Nat → Value) (hB : B ≤ w.heap.size)
    (hlen : cs.length ≤ cap) (hcap : cap ≤ maxLen) (hlen' : cs.length ≤ cap') (hcap' : cap' ≤ maxLen) (hat : KidsIn w B a cs.length kvs cvs) (hat' : KidsIn w B a' cs.length kvs' cvs')
    (hto : ∀ i (h : i < cs.length) w', Below B w w' → B ≤ w'.heap.size →
      Calls Tryd.prog 20 #[.agg #[kvs i, cvs i], .agg #[kvs' i, cvs' i]] w' fun e w'' => e = .returned (.bool true) ∧ Below w'.heap.size w' w'') :
    Calls Tryd.prog 62 #[.slice a cs.length cap, .slice a' cs.length cap'] w fun e w' => e = .returned (.bool true) ∧ Below w.heap.size w w' := by
  have HAT := Lib.hid hat
  have HAT' := Lib.hid hat'
  have HTO := Lib.hid hto
  clear hat hat' hto
  unfold maxLen at hcap hcap'
  have hne : ((cs.length : Int) != cs.length) = false := by simp
  go_enter Tryd.func62, Tryd.ntmps62
  go_wp2_with fail
  go_loopw [5] (fun i wr => ∃ (j : Nat), j ≤ cs.length ∧ i = .int .i64 j ∧ Below w.heap.size w wr) (fun i _ => cs.length - (intOf i).toNat)
  case atStart => exact ⟨0, Nat.zero_le _, rfl, Below.refl _ _⟩
  case round =>
    obtain ⟨j, hj, rfl, hbel⟩ := hrel
    by_cases hlt : j < cs.length
    · rcases HAT.out with h | ⟨b, off, rfl, hb, hat⟩
      · omega
      rcases HAT'.out with h | ⟨b', off', rfl, hb', hat'⟩
      · omega
      obtain ⟨ha, hc⟩ := hat j hlt
      obtain ⟨ha', hc'⟩ := hat' j hlt
      rw [← below_cell hbel (by omega)] at ha hc ha' hc'
      have hsz := hbel.size
      have HC := Lib.hid (fun w1 h1 h2 => HTO.out j hlt w1 h1 h2)
      clear hat hat'
      go_wp2_with fail
      go_still_tail 8, (by kernel_rfl)
      go_wp2_with fail
      refine (HC.out _ ((below_drewN hbel 1).mono hB) (by simp [World.drewN]; omega)).mono ?_
      rintro e w1 ⟨rfl, hb1⟩
      have hb1' : Below w.heap.size w w1 := (below_drewN hbel 1).trans (hb1.mono hsz)
      clear hb1
      go_wp2_with fail
      go_roundw
      case rel => exact ⟨j + 1, by omega, by go_num, hb1'⟩
      case measure => simp [intOf]; omega
    · obtain rfl : j = cs.length := by omega
      go_wp2_with fail
      go_ret
      exact ⟨rfl, hbel⟩

set_option maxHeartbeats 1000000 in
theorem eqTree_c {w : World} {B : Nat} {kv cv : Value} {t : Tr} (ht : TreeIn w B kv cv t) :
    ∀ kv' cv', TreeIn w B kv' cv' t → ∀ w', Below B w w' → B ≤ w'.heap.size →
    Calls Tryd.prog 20 #[.agg #[kv, cv], .agg #[kv', cv']] w' fun e w'' => e = .returned (.bool true) ∧ Below w'.heap.size w' w'' := by
  induction ht with
  | mk ks cs kv a cap kvs cvs hk hlen hcap hat hkids ih =>
    intro kv' cv' ht' w' hbw hB
    obtain ⟨a', cap', kvs', cvs', rfl, hk', hlen', hcap', hat', hkids'⟩ := ht'.parts
    have HK := Lib.hid (And.intro hk hk')
    have HAT := Lib.hid (And.intro hat hat')
    have IH := Lib.hid ih
    have HKI := Lib.hid hkids'
    clear hk hat ih hkids ht' hk' hat' hkids'
    go_enter Tryd.func20, Tryd.ntmps20
    go_wp2_with fail
    obtain ⟨W3, hW3⟩ : ∃ W3, W3 = ((w'.alloc (.cells #[kv, .slice a cs.length cap] 33)).alloc (.cells #[kv', .slice a' cs.length cap'] 33)) := ⟨_, rfl⟩
    rw [← hW3]
    have hb3 : Below w'.heap.size w' W3 := by rw [hW3]; exact ((Below.refl _ _).alloc (Nat.le_refl _) _).alloc (by simp) _
    have hs3 : W3.heap.size = w'.heap.size + 2 := by rw [hW3]; simp
    have k0 : W3.heap[w'.heap.size]? = some (.cells #[kv, .slice a cs.length cap] 33 (0, 0)) := by rw [hW3, old_blk _ _ _ (by simp), new_blk]
    have k1 : W3.heap[w'.heap.size + 1]? = some (.cells #[kv', .slice a' cs.length cap'] 33 (0, 0)) := by
      rw [hW3, show w'.heap.size + 1 = (w'.alloc (.cells #[kv, .slice a cs.length cap] 33)).heap.size by simp, new_blk]
    clear hW3
    refine (eqIntS_c ks kv kv' _ B (by omega) ((HK.out.1.later hbw (Nat.le_refl _)).later hb3 hB) ((HK.out.2.later hbw (Nat.le_refl _)).later hb3 hB)).mono ?_
    rintro e w1 ⟨rfl, hb1⟩
    have j0 := (hb1.block w'.heap.size (by omega)).trans k0
    have j1 := (hb1.block (w'.heap.size + 1) (by omega)).trans k1
    have hz1 := hb1.size
    have hb1' : Below w'.heap.size w' w1 := hb3.trans (hb1.mono (by omega))
    obtain ⟨a1, a2, a3, a4⟩ := box2 j0
    obtain ⟨b1, b2, b3, b4⟩ := box2 j1
    have HX := Lib.hid (And.intro hs3 hz1)
    clear j0 j1 hb1 hs3 k0 k1 hb3 hz1
    go_wp2_with fail
    have hs3 := HX.out.1
    have hz1 := HX.out.2
    refine (eqTreeS_c cs a a' cap cap' _ B kvs cvs kvs' cvs' (by omega) hlen hcap hlen' hcap' ((HAT.out.1.later hbw (Nat.le_refl _)).later hb1' hB) ((HAT.out.2.later hbw (Nat.le_refl _)).later hb1' hB) (fun i hi w2 hb2 hs2 => ?_)).mono ?_
    · exact IH.out i hi _ _ (HKI.out i hi) w2 (hbw.trans ((hb1'.mono hB).trans hb2)) hs2
    rintro e w2 ⟨rfl, hb2⟩
    have hb2' := hb1'.trans (hb2.mono (by omega))
    clear hb2 hs3 hz1
    go_wp2_with fail
    go_ret
    exact ⟨rfl, hb2'⟩

end Go.Proofs.YtdcifdpkfcgmhaaDoor
