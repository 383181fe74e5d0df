/- The contracts of the functions that compare: eqIntS, eqTreeS, eqTree: at two readings of one datum they answer true. -/
import Derived.Test.YtodcapgmhginoaaProg
import Derived.Test.YtodcapgmhginoaaCnS0
import Derived.Deep.QuietTactic
import Derived.BigQuiet
import Derived.StillTailTactics
import Derived.WalkSmall
namespace Go.Proofs.Ytodcapgmhginoaa
open Go.RowKit

set_option maxHeartbeats 400000 in
theorem eqIntS_c (ks : List Int) (v v' : Value) (w : World) (B : Nat) (hB : B ≤ w.heap.size) (hk : IntsIn w B v ks) (hk' : IntsIn w B v' ks) :
    Calls Try.prog 23 #[v, v'] w fun e w' => e = .returned (.bool true) ∧ Below w.heap.size w w' := by
  obtain ⟨a, cap, rfl, h1, h2, _, h3⟩ := hk
  obtain ⟨a', cap', rfl, h1', h2', _, h3'⟩ := hk'
  unfold maxLen at h2 h2'
  have HK := Lib.hid h3
  have HK' := Lib.hid h3'
  clear h3 h3'
  have hne : ((ks.length : Int) != ks.length) = false := by simp
  go_enter Try.func23, Try.ntmps23
  go_wp2_with fail
  go_loopw [5] (fun i wr => ∃ (j : Nat), j ≤ ks.length ∧ i = .int .i64 j ∧ Below w.heap.size w wr) (fun i _ => ks.length - (intOf i).toNat)
  case atStart => exact ⟨0, Nat.zero_le _, rfl, Below.refl _ _⟩
  case round =>
    obtain ⟨j, hj, rfl, hbel⟩ := hrel
    by_cases hlt : j < ks.length
    · rcases HK.out with h | ⟨b, off, rfl, hb, hat⟩
      · simp [h] at hlt
      rcases HK'.out with h | ⟨b', off', rfl, hb', hat'⟩
      · simp [h] at hlt
      have ha1 : wr.cell? ⟨b, off + j, none⟩ = some (.int .i64 (ks.getD j 0)) := by rw [below_cell hbel (by omega)]; exact hat j hlt
      have ha2 : wr.cell? ⟨b', off' + j, none⟩ = some (.int .i64 (ks.getD j 0)) := by rw [below_cell hbel (by omega)]; exact hat' j hlt
      have hne2 : ((ks.getD j 0 : Int) != ks.getD j 0) = false := by simp
      clear hat hat'
      generalize ks.getD j 0 = x at ha1 ha2 hne2
      go_wp2_with fail
      go_quiet (fail)
      go_wp2_with fail
      go_roundw
      case rel => exact ⟨j + 1, by omega, by go_num, below_drewN hbel _⟩
      case measure => simp [intOf]; omega
    · obtain rfl : j = ks.length := by omega
      go_wp2_with fail
      go_ret
      exact ⟨rfl, hbel⟩

set_option maxHeartbeats 1000000 in
set_option maxRecDepth 100000 in
theorem eqTreeS_c (cs : List Tr) (a a' : Option Addr) (cap cap' : Nat) (w : World) (B : Nat) (kvs cvs kvs' cvs' : Nat → Value) (hB : B ≤ w.heap.size)
    (hlen : cs.length ≤ cap) (hcap : cap ≤ maxLen) (hlen' : cs.length ≤ cap') (hcap' : cap' ≤ maxLen) (hat : KidsIn w B a cs.length kvs cvs) (hat' : KidsIn w B a' cs.length kvs' cvs')
    (hto : ∀ i (h : i < cs.length) w', Below B w w' → B ≤ w'.heap.size →
      Calls Try.prog 20 #[.agg #[kvs i, cvs i], .agg #[kvs' i, cvs' i]] w' fun e w'' => e = .returned (.bool true) ∧ Below w'.heap.size w' w'') :
    Calls Try.prog 69 #[.slice a cs.length cap, .slice a' cs.length cap'] w fun e w' => e = .returned (.bool true) ∧ Below w.heap.size w w' := by
  have HAT := Lib.hid hat
  have HAT' := Lib.hid hat'
  have HTO := Lib.hid hto
  clear hat hat' hto
  unfold maxLen at hcap hcap'
  have hne : ((cs.length : Int) != cs.length) = false := by simp
  go_enter Try.func69, Try.ntmps69
  go_wp2_with fail
  go_loopw [5] (fun i wr => ∃ (j : Nat), j ≤ cs.length ∧ i = .int .i64 j ∧ Below w.heap.size w wr) (fun i _ => cs.length - (intOf i).toNat)
  case atStart => exact ⟨0, Nat.zero_le _, rfl, Below.refl _ _⟩
  case round =>
    obtain ⟨j, hj, rfl, hbel⟩ := hrel
    by_cases hlt : j < cs.length
    · rcases HAT.out with h | ⟨b, off, rfl, hb, hat⟩
      · omega
      rcases HAT'.out with h | ⟨b', off', rfl, hb', hat'⟩
      · omega
      obtain ⟨ha, hc⟩ := hat j hlt
      obtain ⟨ha', hc'⟩ := hat' j hlt
      rw [← below_cell hbel (by omega)] at ha hc ha' hc'
      have hsz := hbel.size
      have HC := Lib.hid (fun w1 h1 h2 => HTO.out j hlt w1 h1 h2)
      clear hat hat'
      go_wp2_with fail
      go_still_tail 8, (by kernel_rfl)
      go_wp2_with fail
      refine (HC.out _ ((below_drewN hbel 1).mono hB) (by simp [World.drewN]; omega)).mono ?_
      rintro e w1 ⟨rfl, hb1⟩
      have hb1' : Below w.heap.size w w1 := (below_drewN hbel 1).trans (hb1.mono hsz)
      clear hb1
      go_wp2_with fail
      go_roundw
      case rel => exact ⟨j + 1, by omega, by go_num, hb1'⟩
      case measure => simp [intOf]; omega
    · obtain rfl : j = cs.length := by omega
      go_wp2_with fail
      go_ret
      exact ⟨rfl, hbel⟩

set_option maxHeartbeats 1000000 in
theorem eqTree_c {w : World} {B : Nat} {kv cv : Value} {t : Tr} (ht : TreeIn w B kv cv t) :
    ∀ kv' cv', TreeIn w B kv' cv' t → ∀ w', Below B w w' → B ≤ w'.heap.size →
    Calls Try.prog 20 #[.agg #[kv, cv], .agg #[kv', cv']] w' fun e w'' => e = .returned (.bool true) ∧ Below w'.heap.size w' w'' := by
  induction ht with
  | mk ks cs kv a cap kvs cvs hk hlen hcap hat hkids ih =>
    intro kv' cv' ht' w' hbw hB
    obtain ⟨a', cap', kvs', cvs', rfl, hk', hlen', hcap', hat', hkids'⟩ := ht'.parts
    have HK := Lib.hid (And.intro hk hk')
    have HAT := Lib.hid (And.intro hat hat')
    have IH := Lib.hid ih
    have HKI := Lib.hid hkids'
    clear hk hat ih hkids ht' hk' hat' hkids'
    go_enter Try.func20, Try.ntmps20
    go_wp2_with fail
    obtain ⟨W3, hW3⟩ : ∃ W3, W3 = ((w'.alloc (.cells #[kv, .slice a cs.length cap] 30)).alloc (.cells #[kv', .slice a' cs.length cap'] 30)) := ⟨_, rfl⟩
    rw [← hW3]
    have hb3 : Below w'.heap.size w' W3 := by rw [hW3]; exact ((Below.refl _ _).alloc (Nat.le_refl _) _).alloc (by simp) _
    have hs3 : W3.heap.size = w'.heap.size + 2 := by rw [hW3]; simp
    have k0 : W3.heap[w'.heap.size]? = some (.cells #[kv, .slice a cs.length cap] 30 (0, 0)) := by rw [hW3, old_blk _ _ _ (by simp), new_blk]
    have k1 : W3.heap[w'.heap.size + 1]? = some (.cells #[kv', .slice a' cs.length cap'] 30 (0, 0)) := by
      rw [hW3, show w'.heap.size + 1 = (w'.alloc (.cells #[kv, .slice a cs.length cap] 30)).heap.size by simp, new_blk]
    clear hW3
    refine (eqIntS_c ks kv kv' _ B (by omega) ((HK.out.1.later hbw (Nat.le_refl _)).later hb3 hB) ((HK.out.2.later hbw (Nat.le_refl _)).later hb3 hB)).mono ?_
    rintro e w1 ⟨rfl, hb1⟩
    have j0 := (hb1.block w'.heap.size (by omega)).trans k0
    have j1 := (hb1.block (w'.heap.size + 1) (by omega)).trans k1
    have hz1 := hb1.size
    have hb1' : Below w'.heap.size w' w1 := hb3.trans (hb1.mono (by omega))
    obtain ⟨a1, a2, a3, a4⟩ := box2 j0
    obtain ⟨b1, b2, b3, b4⟩ := box2 j1
    have HX := Lib.hid (And.intro hs3 hz1)
    clear j0 j1 hb1 hs3 k0 k1 hb3 hz1
    go_wp2_with fail
    have hs3 := HX.out.1
    have hz1 := HX.out.2
    refine (eqTreeS_c cs a a' cap cap' _ B kvs cvs kvs' cvs' (by omega) hlen hcap hlen' hcap' ((HAT.out.1.later hbw (Nat.le_refl _)).later hb1' hB) ((HAT.out.2.later hbw (Nat.le_refl _)).later hb1' hB) (fun i hi w2 hb2 hs2 => ?_)).mono ?_
    · exact IH.out i hi _ _ (HKI.out i hi) w2 (hbw.trans ((hb1'.mono hB).trans hb2)) hs2
    rintro e w2 ⟨rfl, hb2⟩
    have hb2' := hb1'.trans (hb2.mono (by omega))
    clear hb2 hs3 hz1
    go_wp2_with fail
    go_ret
    exact ⟨rfl, hb2'⟩

end Go.Proofs.Ytodcapgmhginoaa
