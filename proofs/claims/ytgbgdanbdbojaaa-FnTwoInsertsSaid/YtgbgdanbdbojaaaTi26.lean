/- How heavy a tree becomes by a key. -/
import Derived.Test.YtgbgdanbdbojaaaProg
import Derived.Test.YtgbgdanbdbojaaaTi0
import Derived.Test.YtgbgdanbdbojaaaTi15
import Derived.Test.YtgbgdanbdbojaaaTi22
import Derived.Test.YtgbgdanbdbojaaaTi23
import Derived.Test.YtgbgdanbdbojaaaTi25
import Derived.Test.YtgbgdanbdbojaaaInsSpec
import Derived.Deep.Cut

/- The model's SplitsBy and GrowsBy. -/
namespace Go.Proofs.Ytgbgdanbdbojaaa
open Go.RowKit

/-- What SplitsBy and GrowsBy tell. -/
def Tr.splitsB (wide key : Int) (t : Tr) : Int := if Tr.askedB wide key t then (Tr.insN wide key t : Int) else -1
def Tr.growsB (wide key : Int) (t : Tr) : Bool := Tr.askedB wide key t && Tr.insG wide key t

theorem run_splits (w : World) (x0 x1 x2 x3 x4 x5 : Value) (n : Int) : Sem.run Try.prog (Instr.field 58 (.agg #[x0, x1, x2, x3, x4, x5, .int .i64 n]) 4) w = .ok (.int .i64 n) w := by
  first
    | kernel_rfl
    | rfl
    | (simp [Instr.field, Try.underlying58]; trace_state; done)
theorem run_splits2 (w : World) (x0 x1 x2 x3 x4 : Value) (g : Bool) (n : Value) : Sem.run Try.prog (Instr.field 58 (.agg #[x0, x1, x2, x3, x4, .bool g, n]) 3) w = .ok (.bool g) w := by
  first
    | kernel_rfl
    | rfl
    | (simp [Instr.field, Try.underlying58]; trace_state; done)
attribute [local go_sem] run_splits run_splits2

set_option maxRecDepth 100000 in
set_option maxHeartbeats 2000000 in
theorem specAsked_c {w : World} {B : Nat} {kv cv : Value} {t : Tr} (ht : TreeIn w B kv cv t) (hw : t.weight ≤ 1048576) (wide key : Int) (w' : World) (hbw : Below B w w') (hB : B ≤ w'.heap.size) :
    Calls Try.prog 42 #[.agg #[kv, cv], .int .i64 wide, .int .i64 key] w' fun e w'' => e = .returned (.bool (Tr.askedB wide key t)) ∧ Below w'.heap.size w' w'' := by
  obtain ⟨a5, n5, m5, a6, n6, m6, rfl, rfl⟩ := ht.slices
  obtain ⟨W1, hW1⟩ : ∃ W1, W1 = w'.alloc (.cells #[.slice a5 n5 m5, .slice a6 n6 m6] 26) := ⟨_, rfl⟩
  have hs1 : W1.heap.size = w'.heap.size + 1 := by rw [hW1]; simp
  have hb1 : Below w'.heap.size w' W1 := by rw [hW1]; exact (Below.refl _ _).alloc (Nat.le_refl _) _
  have k0 : W1.heap[w'.heap.size]? = some (.cells #[.slice a5 n5 m5, .slice a6 n6 m6] 26 (0, 0)) := by rw [hW1, new_blk]
  obtain ⟨x1, x2, x3, x4⟩ := box2 k0
  have HT := Lib.hid ht
  have HBW := Lib.hid hbw
  have HW1 := Lib.hid hW1
  have H1 := Lib.hid (And.intro hb1 k0)
  clear ht hbw hW1 hb1 k0
  go_enter Try.func42, Try.ntmps42
  go_wp2_with fail
  rw [← HW1.out]
  refine (specTreeValid_c HT.out hw wide W1 (HBW.out.trans (H1.out.1.mono hB)) (by omega)).mono ?_
  rintro e w2 ⟨rfl, hb2⟩
  have hs2 := hb2.size
  clear x1 x2 x3 x4
  have j0 := (hb2.block _ (by omega)).trans H1.out.2
  obtain ⟨x1, x2, x3, x4⟩ := box2 j0
  have hb2' := H1.out.1.trans (hb2.mono (by omega))
  have H2 := Lib.hid (And.intro hb2' j0)
  clear hb2 hb2' j0
  cases hv : Tr.validB wide t with
  | false =>
    have HA := Lib.hid (show Tr.askedB wide key t = false by simp [Tr.askedB, hv])
    clear hv
    go_wp2_with fail
    go_ret
    exact ⟨by rw [HA.out]; rfl, H2.out.1⟩
  | true =>
  have HV := Lib.hid hv
  clear hv
  go_wp2_with fail
  refine (l1In_c key 0 99 w2).mono ?_
  rintro e w3 ⟨rfl, rfl⟩
  cases hk : inB key 0 99 with
  | false =>
    have HA := Lib.hid (show Tr.askedB wide key t = false by simp [Tr.askedB, hk])
    clear hk
    go_wp2_with fail
    go_ret
    exact ⟨by rw [HA.out]; rfl, H2.out.1⟩
  | true =>
  have HK := Lib.hid hk
  clear hk
  go_wp2_with fail
  refine (specHasKey_c HT.out hw key _ (HBW.out.trans (H2.out.1.mono hB)) (by omega)).mono ?_
  rintro e w4 ⟨rfl, hb4⟩
  have HA := Lib.hid (show Tr.askedB wide key t = !(t.pathB key).2 by simp [Tr.askedB, HV.out, HK.out])
  have H4 := Lib.hid (H2.out.1.trans (hb4.mono (by omega)))
  clear hb4
  go_wp2_with fail
  go_ret
  exact ⟨by rw [HA.out]; rfl, H4.out⟩

theorem cut_tells {w w' : World} {P : Nat → Prop} {wide key : Int} {t : Tr} {e : Ending} (h : Cut w P wide (Tr.grow wide key t) e w') : ∃ (a1 a2 a3 a4 : Option Addr) (n1 c1 n2 c2 n3 c3 n4 c4 : Nat) (mid : Int),
    e = .returned (.agg #[.slice a1 n1 c1, .slice a2 n2 c2, .int .i64 mid, .slice a3 n3 c3, .slice a4 n4 c4, .bool (Tr.insG wide key t), .int .i64 (Tr.insN wide key t : Int)]) ∧ Below w.heap.size w w' := by
  obtain ⟨v, rfl, ⟨lk, lc, rk, rc, mid, cnt, hv, ⟨a1, n1, c1, a2, n2, c2, rfl, rfl⟩, ⟨a3, n3, c3, a4, n4, c4, rfl, rfl⟩, hyes, hno⟩, hb⟩ := h
  refine ⟨a1, a2, a3, a4, n1, c1, n2, c2, n3, c3, n4, c4, mid, ?_, hb⟩
  have hc : cnt = Tr.insN wide key t := by
    unfold Tr.insN
    by_cases hg : wide < ((Tr.grow wide key t).1.ks.length : Int)
    · rw [(hyes hg).2.2.2]; simp [hg]
    · rw [(hno hg).2]; simp [hg]
  rw [hv, hc]
  rfl

set_option maxRecDepth 100000 in
set_option maxHeartbeats 2000000 in
theorem specSplitsBy_c {w : World} {B : Nat} {kv cv : Value} {t : Tr} (ht : TreeIn w B kv cv t) (hw : t.weight ≤ 1048576) (wide key : Int) (w' : World) (hbw : Below B w w') (hB : B ≤ w'.heap.size) :
    Calls Try.prog 13 #[.agg #[kv, cv], .int .i64 wide, .int .i64 key] w' fun e w'' => e = .returned (.int .i64 (Tr.splitsB wide key t)) ∧ Below w'.heap.size w' w'' := by
  obtain ⟨a5, n5, m5, a6, n6, m6, rfl, rfl⟩ := ht.slices
  obtain ⟨W1, hW1⟩ : ∃ W1, W1 = w'.alloc (.cells #[.slice a5 n5 m5, .slice a6 n6 m6] 26) := ⟨_, rfl⟩
  have hs1 : W1.heap.size = w'.heap.size + 1 := by rw [hW1]; simp
  have hb1 : Below w'.heap.size w' W1 := by rw [hW1]; exact (Below.refl _ _).alloc (Nat.le_refl _) _
  have k0 : W1.heap[w'.heap.size]? = some (.cells #[.slice a5 n5 m5, .slice a6 n6 m6] 26 (0, 0)) := by rw [hW1, new_blk]
  obtain ⟨x1, x2, x3, x4⟩ := box2 k0
  have HT := Lib.hid ht
  have HBW := Lib.hid hbw
  have HW1 := Lib.hid hW1
  have H1 := Lib.hid (And.intro hb1 k0)
  clear ht hbw hW1 hb1 k0
  go_enter Try.func13, Try.ntmps13
  go_wp2_with fail
  rw [← HW1.out]
  refine (specAsked_c HT.out hw wide key W1 (HBW.out.trans (H1.out.1.mono hB)) (by omega)).mono ?_
  rintro e w2 ⟨rfl, hb2⟩
  have hs2 := hb2.size
  clear x1 x2 x3 x4
  have j0 := (hb2.block _ (by omega)).trans H1.out.2
  obtain ⟨x1, x2, x3, x4⟩ := box2 j0
  have hb2' := H1.out.1.trans (hb2.mono (by omega))
  have H2 := Lib.hid hb2'
  clear hb2 hb2' j0
  cases ha : Tr.askedB wide key t with
  | false =>
    have HA := Lib.hid (show Tr.splitsB wide key t = -1 by simp [Tr.splitsB, ha])
    clear ha
    go_wp2_with fail
    go_ret
    exact ⟨by rw [HA.out]; rfl, H2.out⟩
  | true =>
    have HA := Lib.hid (show Tr.splitsB wide key t = Tr.insN wide key t by simp [Tr.splitsB, ha])
    have hv := (Tr.asked_path ha).1
    have hsm := Tr.valid_small hv
    have hcall := l3Insert_c wide key (Tr.valid_wide hv) 200 t hsm (by omega) (Tr.valid_well hv) w2 (· < B) _ _ (fun q h => by omega) (HT.out.later (HBW.out.trans (H2.out.mono hB)) (Nat.le_refl _)).p
    have HC := Lib.hid hcall
    clear ha hv hsm hcall
    go_wp2_with fail
    refine HC.out.mono ?_
    intro e w3 hcut
    obtain ⟨b1, b2, b3, b4, d1, d2, d3, d4, d5, d6, d7, d8, mid, rfl, hb3⟩ := cut_tells hcut
    have H3 := Lib.hid (H2.out.trans (hb3.mono (by omega)))
    clear hcut hb3
    go_wp2_with fail
    go_ret
    exact ⟨by rw [HA.out]; rfl, H3.out⟩

set_option maxRecDepth 100000 in
set_option maxHeartbeats 2000000 in
theorem specGrowsBy_c {w : World} {B : Nat} {kv cv : Value} {t : Tr} (ht : TreeIn w B kv cv t) (hw : t.weight ≤ 1048576) (wide key : Int) (w' : World) (hbw : Below B w w') (hB : B ≤ w'.heap.size) :
    Calls Try.prog 14 #[.agg #[kv, cv], .int .i64 wide, .int .i64 key] w' fun e w'' => e = .returned (.bool (Tr.growsB wide key t)) ∧ Below w'.heap.size w' w'' := by
  obtain ⟨a5, n5, m5, a6, n6, m6, rfl, rfl⟩ := ht.slices
  obtain ⟨W1, hW1⟩ : ∃ W1, W1 = w'.alloc (.cells #[.slice a5 n5 m5, .slice a6 n6 m6] 26) := ⟨_, rfl⟩
  have hs1 : W1.heap.size = w'.heap.size + 1 := by rw [hW1]; simp
  have hb1 : Below w'.heap.size w' W1 := by rw [hW1]; exact (Below.refl _ _).alloc (Nat.le_refl _) _
  have k0 : W1.heap[w'.heap.size]? = some (.cells #[.slice a5 n5 m5, .slice a6 n6 m6] 26 (0, 0)) := by rw [hW1, new_blk]
  obtain ⟨x1, x2, x3, x4⟩ := box2 k0
  have HT := Lib.hid ht
  have HBW := Lib.hid hbw
  have HW1 := Lib.hid hW1
  have H1 := Lib.hid (And.intro hb1 k0)
  clear ht hbw hW1 hb1 k0
  go_enter Try.func14, Try.ntmps14
  go_wp2_with fail
  rw [← HW1.out]
  refine (specAsked_c HT.out hw wide key W1 (HBW.out.trans (H1.out.1.mono hB)) (by omega)).mono ?_
  rintro e w2 ⟨rfl, hb2⟩
  have hs2 := hb2.size
  clear x1 x2 x3 x4
  have j0 := (hb2.block _ (by omega)).trans H1.out.2
  obtain ⟨x1, x2, x3, x4⟩ := box2 j0
  have hb2' := H1.out.1.trans (hb2.mono (by omega))
  have H2 := Lib.hid hb2'
  clear hb2 hb2' j0
  cases ha : Tr.askedB wide key t with
  | false =>
    have HA := Lib.hid (show Tr.growsB wide key t = false by simp [Tr.growsB, ha])
    clear ha
    go_wp2_with fail
    go_ret
    exact ⟨by rw [HA.out]; rfl, H2.out⟩
  | true =>
    have HA := Lib.hid (show Tr.growsB wide key t = Tr.insG wide key t by simp [Tr.growsB, ha])
    have hv := (Tr.asked_path ha).1
    have hsm := Tr.valid_small hv
    have hcall := l3Insert_c wide key (Tr.valid_wide hv) 200 t hsm (by omega) (Tr.valid_well hv) w2 (· < B) _ _ (fun q h => by omega) (HT.out.later (HBW.out.trans (H2.out.mono hB)) (Nat.le_refl _)).p
    have HC := Lib.hid hcall
    clear ha hv hsm hcall
    go_wp2_with fail
    refine HC.out.mono ?_
    intro e w3 hcut
    obtain ⟨b1, b2, b3, b4, d1, d2, d3, d4, d5, d6, d7, d8, mid, rfl, hb3⟩ := cut_tells hcut
    have H3 := Lib.hid (H2.out.trans (hb3.mono (by omega)))
    clear hcut hb3
    go_wp2_with fail
    go_ret
    exact ⟨by rw [HA.out]; rfl, H3.out⟩

end Go.Proofs.Ytgbgdanbdbojaaa

/- How heavy a tree becomes by a key. -/
namespace Go.Proofs.Ytgbgdanbdbojaaa
open Go.RowKit

namespace Tr
theorem part_weight (u : Tr) : u.leftOf.weight + u.rightOf.weight ≤ u.weight := by
  obtain ⟨k, c⟩ := u
  have h := weights_append (c.take (k.length / 2 + 1)) (c.drop (k.length / 2 + 1))
  rw [List.take_append_drop] at h
  simp only [leftOf, rightOf, weight, List.length_take, List.length_drop]
  omega

mutual
theorem grow_weight (wide key : Int) : ∀ t : Tr, (grow wide key t).1.weight ≤ t.weight + 1 + 2 * (grow wide key t).2
  | .mk k c => by
    have hp := place_le key k
    rw [grow]
    split
    · simp only [weight, putAt_length hp, weights]
      omega
    · rename_i hc
      by_cases hi : place key k < c.length
      · have h := grows_weight wide key c (place key k) hi
        have hs : weights c = weights (c.take (place key k)) + (1 + c[place key k].weight + weights (c.drop (place key k + 1))) := by
          have e := weights_append (c.take (place key k)) (c.drop (place key k))
          rw [List.take_append_drop, ← List.getElem_cons_drop hi] at e
          simpa [weights] using e
        unfold growStep
        split
        · have hpw := part_weight ((grows wide key c).getD (place key k) (.mk [] [], 0)).1
          simp only [splitKid, weight, putAt_length hp, weights_append, weights]
          omega
        · simp only [weight, setKid, weights_append, weights]
          omega
      · have hn : (grows wide key c).getD (place key k) (.mk [] [], 0) = (.mk [] [], 0) := by
          have : (grows wide key c).length = c.length := by
            clear hc hi hp
            induction c with
            | nil => rfl
            | cons t r ih => simp [grows, ih]
          rw [List.getD_eq_getElem?_getD, List.getElem?_eq_none (by omega)]
          rfl
        rw [hn]
        have hd : c.take (place key k) = c := List.take_of_length_le (by omega)
        have hd2 : c.drop (place key k + 1) = [] := List.drop_of_length_le (by omega)
        unfold growStep
        split
        · simp only [splitKid, weight, putAt_length hp, weights_append, weights, hd, hd2, leftOf, rightOf, List.take_nil, List.drop_nil, List.length_nil]
          omega
        · simp only [weight, setKid, weights_append, weights, hd, hd2, List.length_nil]
          omega
theorem grows_weight (wide key : Int) : ∀ (c : List Tr) (i : Nat) (h : i < c.length), ((grows wide key c).getD i (.mk [] [], 0)).1.weight ≤ c[i].weight + 1 + 2 * ((grows wide key c).getD i (.mk [] [], 0)).2
  | [], i, h => by simp at h
  | t :: r, i, h => by
    have h1 := grow_weight wide key t
    cases i with
    | zero => simpa [grows] using h1
    | succ i =>
      have h2 := grows_weight wide key r i (by simpa using h)
      simpa [grows] using h2
end

theorem insT_weight (wide key : Int) (t : Tr) : (insT wide key t).weight ≤ 3 * t.weight + 5 := by
  have h1 := grow_weight wide key t
  have h2 := grow_count wide key t
  have h3 := part_weight (grow wide key t).1
  unfold insT
  simp only
  split
  · simp only [weight, weights, List.length_cons, List.length_nil]
    omega
  · omega
end Tr
end Go.Proofs.Ytgbgdanbdbojaaa
