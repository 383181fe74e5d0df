/- The contract of the model's SameTree. -/
import Derived.Test.YtodcapgmhginoaaProg
import Derived.Test.YtodcapgmhginoaaSaS0
import Derived.Test.YtodcapgmhginoaaSaS12
import Derived.Deep.QuietTactic
import Derived.BigQuiet
import Derived.StillTailTactics
import Derived.WalkSmall
namespace Go.Proofs.Ytodcapgmhginoaa
open Go.RowKit

set_option maxHeartbeats 1000000 in
set_option maxRecDepth 100000 in
theorem specSame_c {w : World} {B : Nat} {kv cv : Value} {t : Tr} (ht : TreeIn w B kv cv t) :
    ∀ kv' cv' t', TreeIn w B kv' cv' t' → ∀ w', Below B w w' → B ≤ w'.heap.size →
    Calls Try.prog 33 #[.agg #[kv, cv], .agg #[kv', cv']] w' fun e w'' => e = .returned (.bool (t.sameB t')) ∧ Below w'.heap.size w' w'' := by
  induction ht with
  | mk ks cs kv a cap kvs cvs hk hlen hcap hat hkids ih =>
    intro kv' cv' t' ht' w' hbw hB
    obtain ⟨ks', cs'⟩ := t'
    obtain ⟨a', cap', kvs', cvs', rfl, hk', hlen', hcap', hat', hkids'⟩ := ht'.parts
    unfold maxLen at hcap hcap'
    have HK := Lib.hid (And.intro hk hk')
    have HAT := Lib.hid (And.intro hat hat')
    have IH := Lib.hid ih
    have HKI := Lib.hid hkids'
    have HBW := Lib.hid hbw
    clear hk hat ih hkids ht' hk' hat' hkids' hbw
    go_enter Try.func33, Try.ntmps33
    go_wp2_with fail
    obtain ⟨W3, hW3⟩ : ∃ W3, W3 = ((w'.alloc (.cells #[kv, .slice a cs.length cap] 30)).alloc (.cells #[kv', .slice a' cs'.length cap'] 30)) := ⟨_, rfl⟩
    rw [← hW3]
    have hb3 : Below w'.heap.size w' W3 := by rw [hW3]; exact ((Below.refl _ _).alloc (Nat.le_refl _) _).alloc (by simp) _
    have hs3 : W3.heap.size = w'.heap.size + 2 := by rw [hW3]; simp
    have k0 : W3.heap[w'.heap.size]? = some (.cells #[kv, .slice a cs.length cap] 30 (0, 0)) := by rw [hW3, old_blk _ _ _ (by simp), new_blk]
    have k1 : W3.heap[w'.heap.size + 1]? = some (.cells #[kv', .slice a' cs'.length cap'] 30 (0, 0)) := by
      rw [hW3, show w'.heap.size + 1 = (w'.alloc (.cells #[kv, .slice a cs.length cap] 30)).heap.size by simp, new_blk]
    clear hW3
    refine (l1Ints_c ks ks' kv kv' _ B (by omega) ((HK.out.1.later HBW.out (Nat.le_refl _)).later hb3 hB) ((HK.out.2.later HBW.out (Nat.le_refl _)).later hb3 hB)).mono ?_
    rintro e w1 ⟨rfl, hb1⟩
    have j0 := (hb1.block w'.heap.size (by omega)).trans k0
    have j1 := (hb1.block (w'.heap.size + 1) (by omega)).trans k1
    have hz1 := hb1.size
    have hb1' : Below w'.heap.size w' w1 := hb3.trans (hb1.mono (by omega))
    obtain ⟨a1, a2, a3, a4⟩ := box2 j0
    obtain ⟨b1, b2, b3, b4⟩ := box2 j1
    have hs1 : w'.heap.size + 2 ≤ w1.heap.size := by omega
    have HX := Lib.hid (And.intro hs1 (And.intro j0 (And.intro j1 hb1')))
    clear j0 j1 hb1 hs3 k0 k1 hb3 hz1 hb1' hs1
    by_cases hks : ks = ks'
    · by_cases hls : cs.length = cs'.length
      · rw [decide_eq_true hks]
        have hne : ((cs.length : Int) != (cs'.length : Int)) = false := by simp [hls]
        have HQ := Lib.hid (And.intro hks hls)
        clear hks hls
        go_wp2_with fail
        clear a1 a2 a3 a4 b1 b2 b3 b4
        go_loopw [24] (fun i wr => ∃ (j : Nat), j ≤ cs.length ∧ i = .int .i64 j ∧ Hid (∀ i (h : i < cs.length) (h' : i < cs'.length), i < j → cs[i].sameB cs'[i] = true) ∧ Below (w'.heap.size + 2) w1 wr) (fun i _ => cs.length - (intOf i).toNat)
        case atStart => exact ⟨0, Nat.zero_le _, rfl, Lib.hid (fun i _ _ h => by omega), Below.refl _ _⟩
        case round =>
          obtain ⟨j, hj, rfl, HE, hbel⟩ := hrel
          have hs1 := HX.out.1
          by_cases hlt : j < cs.length
          · have hlt' : j < cs'.length := by rw [← HQ.out.2]; exact hlt
            rcases HAT.out.1 with h | ⟨b, off, rfl, hb, hat⟩
            · omega
            rcases HAT.out.2 with h | ⟨b', off', rfl, hb', hat'⟩
            · omega
            obtain ⟨ha, hc⟩ := hat j hlt
            obtain ⟨ha', hc'⟩ := hat' j hlt'
            have hbelw : Below w'.heap.size w' wr := HX.out.2.2.2.trans (hbel.mono (by omega))
            rw [← below_cell HBW.out (by omega), ← below_cell hbelw (by omega)] at ha hc ha' hc'
            obtain ⟨a1, a2, a3, a4⟩ := box2 ((hbel.block w'.heap.size (by omega)).trans HX.out.2.1)
            obtain ⟨b1, b2, b3, b4⟩ := box2 ((hbel.block (w'.heap.size + 1) (by omega)).trans HX.out.2.2.1)
            have hsz := hbel.mono (show w'.heap.size ≤ _ by omega)
            have hsz2 := hbelw.size
            have hszr := (hbel.size)
            have HC := Lib.hid (fun w1 h1 h2 => IH.out j hlt _ _ _ (HKI.out j hlt') w1 h1 h2)
            have HBEL := Lib.hid (And.intro hbel hbelw)
            clear hat hat' hsz hbel hbelw
            go_wp2_with fail
            go_still_tail 10, (by kernel_rfl)
            go_wp2_with fail
            refine (HC.out _ ((HBW.out.trans (HBEL.out.2.mono hB)).trans ((below_drewN (Below.refl _ _) 1).mono (show B ≤ wr.heap.size by omega))) (by simp [World.drewN]; omega)).mono ?_
            rintro e w2 ⟨rfl, hb2⟩
            have hb2' : Below (w'.heap.size + 2) w1 w2 := HBEL.out.1.trans ((below_drewN (Below.refl _ _) 1).trans (hb2.mono (by simp [World.drewN]; omega)))
            clear hb2
            by_cases hq : cs[j].sameB cs'[j] = true
            · rw [hq]
              have HQJ := Lib.hid hq
              clear hq
              go_wp2_with fail
              go_roundw
              case rel =>
                refine ⟨j + 1, by omega, by go_num, Lib.hid (fun i h h' hi => ?_), hb2'⟩
                by_cases hij : i = j
                · subst hij; exact HQJ.out
                · exact HE.out i h h' (by omega)
              case measure => simp [intOf]; omega
            · have hq' : cs[j].sameB cs'[j] = false := by simpa using hq
              rw [hq']
              have HQJ := Lib.hid hq'
              clear hq hq'
              go_wp2_with fail
              go_ret
              refine ⟨ret_bool ?_, HX.out.2.2.2.trans (hb2'.mono (by omega))⟩
              have hf : Tr.samesB cs cs' = false := by
                rw [Bool.eq_false_iff]
                intro h
                have := (Tr.samesB_iff cs cs' HQ.out.2).1 h j hlt hlt'
                rw [HQJ.out] at this; cases this
              simp [Tr.sameB, hf]
          · obtain rfl : j = cs.length := by omega
            obtain ⟨a1, a2, a3, a4⟩ := box2 ((hbel.block w'.heap.size (by omega)).trans HX.out.2.1)
            obtain ⟨b1, b2, b3, b4⟩ := box2 ((hbel.block (w'.heap.size + 1) (by omega)).trans HX.out.2.2.1)
            have HBEL := Lib.hid hbel
            clear hbel
            go_wp2_with fail
            go_ret
            refine ⟨ret_bool ?_, HX.out.2.2.2.trans (HBEL.out.mono (by omega))⟩
            have hf : Tr.samesB cs cs' = true := (Tr.samesB_iff cs cs' HQ.out.2).2 (fun i h h' => HE.out i h h' h)
            simp [Tr.sameB, hf, HQ.out.1, HQ.out.2]
      · rw [decide_eq_true hks]
        have hne : ((cs.length : Int) != (cs'.length : Int)) = true := by simp; omega
        have HQ := Lib.hid hls
        clear hks hls
        go_wp2_with fail
        go_ret
        refine ⟨ret_bool ?_, HX.out.2.2.2⟩
        simp [Tr.sameB, HQ.out]
    · rw [decide_eq_false hks]
      have HQ := Lib.hid hks
      clear hks
      go_wp2_with fail
      go_ret
      refine ⟨ret_bool ?_, HX.out.2.2.2⟩
      simp [Tr.sameB, HQ.out]
end Go.Proofs.Ytodcapgmhginoaa
