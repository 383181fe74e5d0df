/- The contracts of the functions that compare coloured trees: eqBinS, eqBin: at two readings of one datum they answer true. -/
import Derived.Test.YtodcapgmhginoaaProg
import Derived.Test.YtodcapgmhginoaaBdS0
import Derived.Test.YtodcapgmhginoaaBdS2
import Derived.Deep.QuietTactic
import Derived.BigQuiet
import Derived.StillTailTactics
import Derived.WalkSmall
namespace Go.Proofs.Ytodcapgmhginoaa
open Go.RowKit

set_option maxHeartbeats 1000000 in
set_option maxRecDepth 100000 in
theorem eqBinS_c (cs : List Bt) (a a' : Option Addr) (cap cap' : Nat) (w : World) (B : Nat) (cvs cvs' : Nat → Value) (hB : B ≤ w.heap.size)
    (hlen : cs.length ≤ cap) (hcap : cap ≤ maxLen) (hlen' : cs.length ≤ cap') (hcap' : cap' ≤ maxLen) (hat : BKidsIn w B a cs cvs) (hat' : BKidsIn w B a' cs cvs')
    (hto : ∀ i (h : i < cs.length) w', Below B w w' → B ≤ w'.heap.size →
      Calls Try.prog 39 #[.agg #[.int .i64 cs[i].key, .bool cs[i].red, cvs i], .agg #[.int .i64 cs[i].key, .bool cs[i].red, cvs' i]] w' fun e w'' => e = .returned (.bool true) ∧ Below w'.heap.size w' w'') :
    Calls Try.prog 80 #[.slice a cs.length cap, .slice a' cs.length cap'] w fun e w' => e = .returned (.bool true) ∧ Below w.heap.size w w' := by
  have HAT := Lib.hid hat
  have HAT' := Lib.hid hat'
  have HTO := Lib.hid hto
  clear hat hat' hto
  unfold maxLen at hcap hcap'
  have hne : ((cs.length : Int) != cs.length) = false := by simp
  go_enter Try.func80, Try.ntmps80
  go_wp2_with fail
  go_loopw [5] (fun i wr => ∃ (j : Nat), j ≤ cs.length ∧ i = .int .i64 j ∧ Below w.heap.size w wr) (fun i _ => cs.length - (intOf i).toNat)
  case atStart => exact ⟨0, Nat.zero_le _, rfl, Below.refl _ _⟩
  case round =>
    obtain ⟨j, hj, rfl, hbel⟩ := hrel
    by_cases hlt : j < cs.length
    · rcases HAT.out with h | ⟨b, off, rfl, hb, hat⟩
      · omega
      rcases HAT'.out with h | ⟨b', off', rfl, hb', hat'⟩
      · omega
      obtain ⟨ha, hr, hc⟩ := hat j hlt
      obtain ⟨ha', hr', hc'⟩ := hat' j hlt
      rw [← below_cell hbel (by omega)] at ha hr hc ha' hr' hc'
      have hsz := hbel.size
      have HC := Lib.hid (fun w1 h1 h2 => HTO.out j hlt w1 h1 h2)
      clear hat hat'
      go_wp2_with fail
      go_still_tail 8, (by kernel_rfl)
      go_wp2_with fail
      refine (HC.out _ ((below_drewN hbel 1).mono hB) (by simp [World.drewN]; omega)).mono ?_
      rintro e w1 ⟨rfl, hb1⟩
      have hb1' : Below w.heap.size w w1 := (below_drewN hbel 1).trans (hb1.mono hsz)
      clear hb1
      go_wp2_with fail
      go_roundw
      case rel => exact ⟨j + 1, by omega, by go_num, hb1'⟩
      case measure => simp [intOf]; omega
    · obtain rfl : j = cs.length := by omega
      go_wp2_with fail
      go_ret
      exact ⟨rfl, hbel⟩

set_option maxHeartbeats 1000000 in
theorem eqBin_c {w : World} {B : Nat} {cv : Value} {t : Bt} (ht : BinIn w B cv t) :
    ∀ cv', BinIn w B cv' t → ∀ w', Below B w w' → B ≤ w'.heap.size →
    Calls Try.prog 39 #[.agg #[.int .i64 t.key, .bool t.red, cv], .agg #[.int .i64 t.key, .bool t.red, cv']] w' fun e w'' => e = .returned (.bool true) ∧ Below w'.heap.size w' w'' := by
  induction ht with
  | mk key red cs a cap cvs hlen hcap hat hkids ih =>
    intro cv' ht' w' hbw hB
    obtain ⟨a', cap', cvs', rfl, hlen', hcap', hat', hkids'⟩ := ht'.parts
    have hlen' : cs.length ≤ cap' := hlen'
    have hat' : BKidsIn w B a' cs cvs' := hat'
    have hkids' : ∀ i (h : i < cs.length), BinIn w B (cvs' i) cs[i] := hkids'
    have HAT := Lib.hid (And.intro hat hat')
    have IH := Lib.hid ih
    have HKI := Lib.hid hkids'
    have hk1 : (key != key) = false := by simp
    have hk2 : (red != red) = false := by simp
    clear hat ih hkids ht' hat' hkids'
    show Calls Try.prog 39 #[.agg #[.int .i64 key, .bool red, .slice a cs.length cap], .agg #[.int .i64 key, .bool red, .slice a' cs.length cap']] w' _
    go_enter Try.func39, Try.ntmps39
    go_wp2_with fail
    obtain ⟨W3, hW3⟩ : ∃ W3, W3 = ((w'.alloc (.cells #[.int .i64 key, .bool red, .slice a cs.length cap] 48)).alloc (.cells #[.int .i64 key, .bool red, .slice a' cs.length cap'] 48)) := ⟨_, rfl⟩
    rw [← hW3]
    have hb3 : Below w'.heap.size w' W3 := by rw [hW3]; exact ((Below.refl _ _).alloc (Nat.le_refl _) _).alloc (by simp) _
    have hs3 := hb3.size
    clear hW3
    refine (eqBinS_c cs a a' cap cap' W3 B cvs cvs' (by omega) hlen hcap hlen' hcap' ((HAT.out.1.later hbw (Nat.le_refl _)).later hb3 hB) ((HAT.out.2.later hbw (Nat.le_refl _)).later hb3 hB) (fun i hi w2 hb2 hs2 => ?_)).mono ?_
    · exact IH.out i hi _ (HKI.out i hi) w2 (hbw.trans ((hb3.mono hB).trans hb2)) hs2
    rintro e w2 ⟨rfl, hb2⟩
    have hb2' := hb3.trans (hb2.mono hs3)
    clear hb2
    go_wp2_with fail
    go_ret
    exact ⟨rfl, hb2'⟩
end Go.Proofs.Ytodcapgmhginoaa
