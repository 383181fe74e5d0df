/- For every tree in memory and any two ints, the law on InsertKey returns true and leaves its arguments as they were; no conditions. -/
import Derived.Test.YteelnkhajlmnfaaProg
import Derived.Test.YteelnkhajlmnfaaBase
import Derived.Test.YteelnkhajlmnfaaSorted
import Derived.Test.YteelnkhajlmnfaaHasSpec
import Derived.Test.YteelnkhajlmnfaaSmallTree
import Derived.Test.YteelnkhajlmnfaaGrownBy
import Derived.Test.YteelnkhajlmnfaaInsSpec
import Derived.Deep.Cut
import Derived.Test.YteelnkhajlmnfaaGrowData
import Derived.Test.YteelnkhajlmnfaaIkTree
import Derived.Test.YteelnkhajlmnfaaTo
import Derived.Test.YteelnkhajlmnfaaMarkTree
import Derived.Test.YteelnkhajlmnfaaSz
import Derived.Test.YteelnkhajlmnfaaEq
import Derived.Deep.RegionHeld3
import Derived.Test.YteelnkhajlmnfaaRows
import Derived.Test.YteelnkhajlmnfaaFacts
import Derived.Test.YteelnkhajlmnfaaFrame
import Derived.WalkKit
import Derived.ProofKit
import Derived.OpenShut
import Derived.ChangeOld
import Derived.Below

/- The model's SplitsBy and GrowsBy. -/
namespace Go.Proofs.Yteelnkhajlmnfaa
open Go.RowKit

/-- What SplitsBy and GrowsBy tell. -/
def Tr.splitsB (wide key : Int) (t : Tr) : Int := if Tr.askedB wide key t then (Tr.insN wide key t : Int) else -1
def Tr.growsB (wide key : Int) (t : Tr) : Bool := Tr.askedB wide key t && Tr.insG wide key t

theorem run_splits (w : World) (x0 x1 x2 x3 x4 x5 : Value) (n : Int) : Sem.run Try.prog (Instr.field 78 (.agg #[x0, x1, x2, x3, x4, x5, .int .i64 n]) 4) w = .ok (.int .i64 n) w := by
  first
    | kernel_rfl
    | rfl
    | (simp [Instr.field, Try.underlying78]; trace_state; done)
theorem run_splits2 (w : World) (x0 x1 x2 x3 x4 : Value) (g : Bool) (n : Value) : Sem.run Try.prog (Instr.field 78 (.agg #[x0, x1, x2, x3, x4, .bool g, n]) 3) w = .ok (.bool g) w := by
  first
    | kernel_rfl
    | rfl
    | (simp [Instr.field, Try.underlying78]; trace_state; done)
attribute [local go_sem] run_splits run_splits2

set_option maxRecDepth 100000 in
set_option maxHeartbeats 2000000 in
theorem specAsked_c {w : World} {B : Nat} {kv cv : Value} {t : Tr} (ht : TreeIn w B kv cv t) (hw : t.weight ≤ 1048576) (wide key : Int) (w' : World) (hbw : Below B w w') (hB : B ≤ w'.heap.size) :
    Calls Try.prog 59 #[.agg #[kv, cv], .int .i64 wide, .int .i64 key] w' fun e w'' => e = .returned (.bool (Tr.askedB wide key t)) ∧ Below w'.heap.size w' w'' := by
  obtain ⟨a5, n5, m5, a6, n6, m6, rfl, rfl⟩ := ht.slices
  obtain ⟨W1, hW1⟩ : ∃ W1, W1 = w'.alloc (.cells #[.slice a5 n5 m5, .slice a6 n6 m6] 30) := ⟨_, rfl⟩
  have hs1 : W1.heap.size = w'.heap.size + 1 := by rw [hW1]; simp
  have hb1 : Below w'.heap.size w' W1 := by rw [hW1]; exact (Below.refl _ _).alloc (Nat.le_refl _) _
  have k0 : W1.heap[w'.heap.size]? = some (.cells #[.slice a5 n5 m5, .slice a6 n6 m6] 30 (0, 0)) := by rw [hW1, new_blk]
  obtain ⟨x1, x2, x3, x4⟩ := box2 k0
  have HT := Lib.hid ht
  have HBW := Lib.hid hbw
  have HW1 := Lib.hid hW1
  have H1 := Lib.hid (And.intro hb1 k0)
  clear ht hbw hW1 hb1 k0
  go_enter Try.func59, Try.ntmps59
  go_wp2_with fail
  rw [← HW1.out]
  refine (specTreeValid_c HT.out hw wide W1 (HBW.out.trans (H1.out.1.mono hB)) (by omega)).mono ?_
  rintro e w2 ⟨rfl, hb2⟩
  have hs2 := hb2.size
  clear x1 x2 x3 x4
  have j0 := (hb2.block _ (by omega)).trans H1.out.2
  obtain ⟨x1, x2, x3, x4⟩ := box2 j0
  have hb2' := H1.out.1.trans (hb2.mono (by omega))
  have H2 := Lib.hid (And.intro hb2' j0)
  clear hb2 hb2' j0
  cases hv : Tr.validB wide t with
  | false =>
    have HA := Lib.hid (show Tr.askedB wide key t = false by simp [Tr.askedB, hv])
    clear hv
    go_wp2_with fail
    go_ret
    exact ⟨by rw [HA.out]; rfl, H2.out.1⟩
  | true =>
  have HV := Lib.hid hv
  clear hv
  go_wp2_with fail
  refine (l1In_c key 0 99 w2).mono ?_
  rintro e w3 ⟨rfl, rfl⟩
  cases hk : inB key 0 99 with
  | false =>
    have HA := Lib.hid (show Tr.askedB wide key t = false by simp [Tr.askedB, hk])
    clear hk
    go_wp2_with fail
    go_ret
    exact ⟨by rw [HA.out]; rfl, H2.out.1⟩
  | true =>
  have HK := Lib.hid hk
  clear hk
  go_wp2_with fail
  refine (specHasKey_c HT.out hw key _ (HBW.out.trans (H2.out.1.mono hB)) (by omega)).mono ?_
  rintro e w4 ⟨rfl, hb4⟩
  have HA := Lib.hid (show Tr.askedB wide key t = !(t.pathB key).2 by simp [Tr.askedB, HV.out, HK.out])
  have H4 := Lib.hid (H2.out.1.trans (hb4.mono (by omega)))
  clear hb4
  go_wp2_with fail
  go_ret
  exact ⟨by rw [HA.out]; rfl, H4.out⟩

theorem cut_tells {w w' : World} {P : Nat → Prop} {wide key : Int} {t : Tr} {e : Ending} (h : Cut w P wide (Tr.grow wide key t) e w') : ∃ (a1 a2 a3 a4 : Option Addr) (n1 c1 n2 c2 n3 c3 n4 c4 : Nat) (mid : Int),
    e = .returned (.agg #[.slice a1 n1 c1, .slice a2 n2 c2, .int .i64 mid, .slice a3 n3 c3, .slice a4 n4 c4, .bool (Tr.insG wide key t), .int .i64 (Tr.insN wide key t : Int)]) ∧ Below w.heap.size w w' := by
  obtain ⟨v, rfl, ⟨lk, lc, rk, rc, mid, cnt, hv, ⟨a1, n1, c1, a2, n2, c2, rfl, rfl⟩, ⟨a3, n3, c3, a4, n4, c4, rfl, rfl⟩, hyes, hno⟩, hb⟩ := h
  refine ⟨a1, a2, a3, a4, n1, c1, n2, c2, n3, c3, n4, c4, mid, ?_, hb⟩
  have hc : cnt = Tr.insN wide key t := by
    unfold Tr.insN
    by_cases hg : wide < ((Tr.grow wide key t).1.ks.length : Int)
    · rw [(hyes hg).2.2.2]; simp [hg]
    · rw [(hno hg).2]; simp [hg]
  rw [hv, hc]
  rfl

set_option maxRecDepth 100000 in
set_option maxHeartbeats 2000000 in
theorem specSplitsBy_c {w : World} {B : Nat} {kv cv : Value} {t : Tr} (ht : TreeIn w B kv cv t) (hw : t.weight ≤ 1048576) (wide key : Int) (w' : World) (hbw : Below B w w') (hB : B ≤ w'.heap.size) :
    Calls Try.prog 32 #[.agg #[kv, cv], .int .i64 wide, .int .i64 key] w' fun e w'' => e = .returned (.int .i64 (Tr.splitsB wide key t)) ∧ Below w'.heap.size w' w'' := by
  obtain ⟨a5, n5, m5, a6, n6, m6, rfl, rfl⟩ := ht.slices
  obtain ⟨W1, hW1⟩ : ∃ W1, W1 = w'.alloc (.cells #[.slice a5 n5 m5, .slice a6 n6 m6] 30) := ⟨_, rfl⟩
  have hs1 : W1.heap.size = w'.heap.size + 1 := by rw [hW1]; simp
  have hb1 : Below w'.heap.size w' W1 := by rw [hW1]; exact (Below.refl _ _).alloc (Nat.le_refl _) _
  have k0 : W1.heap[w'.heap.size]? = some (.cells #[.slice a5 n5 m5, .slice a6 n6 m6] 30 (0, 0)) := by rw [hW1, new_blk]
  obtain ⟨x1, x2, x3, x4⟩ := box2 k0
  have HT := Lib.hid ht
  have HBW := Lib.hid hbw
  have HW1 := Lib.hid hW1
  have H1 := Lib.hid (And.intro hb1 k0)
  clear ht hbw hW1 hb1 k0
  go_enter Try.func32, Try.ntmps32
  go_wp2_with fail
  rw [← HW1.out]
  refine (specAsked_c HT.out hw wide key W1 (HBW.out.trans (H1.out.1.mono hB)) (by omega)).mono ?_
  rintro e w2 ⟨rfl, hb2⟩
  have hs2 := hb2.size
  clear x1 x2 x3 x4
  have j0 := (hb2.block _ (by omega)).trans H1.out.2
  obtain ⟨x1, x2, x3, x4⟩ := box2 j0
  have hb2' := H1.out.1.trans (hb2.mono (by omega))
  have H2 := Lib.hid hb2'
  clear hb2 hb2' j0
  cases ha : Tr.askedB wide key t with
  | false =>
    have HA := Lib.hid (show Tr.splitsB wide key t = -1 by simp [Tr.splitsB, ha])
    clear ha
    go_wp2_with fail
    go_ret
    exact ⟨by rw [HA.out]; rfl, H2.out⟩
  | true =>
    have HA := Lib.hid (show Tr.splitsB wide key t = Tr.insN wide key t by simp [Tr.splitsB, ha])
    have hv := (Tr.asked_path ha).1
    have hsm := Tr.valid_small hv
    have hcall := l3Insert_c wide key (Tr.valid_wide hv) 200 t hsm (by omega) (Tr.valid_well hv) w2 (· < B) _ _ (fun q h => by omega) (HT.out.later (HBW.out.trans (H2.out.mono hB)) (Nat.le_refl _)).p
    have HC := Lib.hid hcall
    clear ha hv hsm hcall
    go_wp2_with fail
    refine HC.out.mono ?_
    intro e w3 hcut
    obtain ⟨b1, b2, b3, b4, d1, d2, d3, d4, d5, d6, d7, d8, mid, rfl, hb3⟩ := cut_tells hcut
    have H3 := Lib.hid (H2.out.trans (hb3.mono (by omega)))
    clear hcut hb3
    go_wp2_with fail
    go_ret
    exact ⟨by rw [HA.out]; rfl, H3.out⟩

set_option maxRecDepth 100000 in
set_option maxHeartbeats 2000000 in
theorem specGrowsBy_c {w : World} {B : Nat} {kv cv : Value} {t : Tr} (ht : TreeIn w B kv cv t) (hw : t.weight ≤ 1048576) (wide key : Int) (w' : World) (hbw : Below B w w') (hB : B ≤ w'.heap.size) :
    Calls Try.prog 34 #[.agg #[kv, cv], .int .i64 wide, .int .i64 key] w' fun e w'' => e = .returned (.bool (Tr.growsB wide key t)) ∧ Below w'.heap.size w' w'' := by
  obtain ⟨a5, n5, m5, a6, n6, m6, rfl, rfl⟩ := ht.slices
  obtain ⟨W1, hW1⟩ : ∃ W1, W1 = w'.alloc (.cells #[.slice a5 n5 m5, .slice a6 n6 m6] 30) := ⟨_, rfl⟩
  have hs1 : W1.heap.size = w'.heap.size + 1 := by rw [hW1]; simp
  have hb1 : Below w'.heap.size w' W1 := by rw [hW1]; exact (Below.refl _ _).alloc (Nat.le_refl _) _
  have k0 : W1.heap[w'.heap.size]? = some (.cells #[.slice a5 n5 m5, .slice a6 n6 m6] 30 (0, 0)) := by rw [hW1, new_blk]
  obtain ⟨x1, x2, x3, x4⟩ := box2 k0
  have HT := Lib.hid ht
  have HBW := Lib.hid hbw
  have HW1 := Lib.hid hW1
  have H1 := Lib.hid (And.intro hb1 k0)
  clear ht hbw hW1 hb1 k0
  go_enter Try.func34, Try.ntmps34
  go_wp2_with fail
  rw [← HW1.out]
  refine (specAsked_c HT.out hw wide key W1 (HBW.out.trans (H1.out.1.mono hB)) (by omega)).mono ?_
  rintro e w2 ⟨rfl, hb2⟩
  have hs2 := hb2.size
  clear x1 x2 x3 x4
  have j0 := (hb2.block _ (by omega)).trans H1.out.2
  obtain ⟨x1, x2, x3, x4⟩ := box2 j0
  have hb2' := H1.out.1.trans (hb2.mono (by omega))
  have H2 := Lib.hid hb2'
  clear hb2 hb2' j0
  cases ha : Tr.askedB wide key t with
  | false =>
    have HA := Lib.hid (show Tr.growsB wide key t = false by simp [Tr.growsB, ha])
    clear ha
    go_wp2_with fail
    go_ret
    exact ⟨by rw [HA.out]; rfl, H2.out⟩
  | true =>
    have HA := Lib.hid (show Tr.growsB wide key t = Tr.insG wide key t by simp [Tr.growsB, ha])
    have hv := (Tr.asked_path ha).1
    have hsm := Tr.valid_small hv
    have hcall := l3Insert_c wide key (Tr.valid_wide hv) 200 t hsm (by omega) (Tr.valid_well hv) w2 (· < B) _ _ (fun q h => by omega) (HT.out.later (HBW.out.trans (H2.out.mono hB)) (Nat.le_refl _)).p
    have HC := Lib.hid hcall
    clear ha hv hsm hcall
    go_wp2_with fail
    refine HC.out.mono ?_
    intro e w3 hcut
    obtain ⟨b1, b2, b3, b4, d1, d2, d3, d4, d5, d6, d7, d8, mid, rfl, hb3⟩ := cut_tells hcut
    have H3 := Lib.hid (H2.out.trans (hb3.mono (by omega)))
    clear hcut hb3
    go_wp2_with fail
    go_ret
    exact ⟨by rw [HA.out]; rfl, H3.out⟩
end Go.Proofs.Yteelnkhajlmnfaa

/- How heavy a tree becomes by a key. -/
namespace Go.Proofs.Yteelnkhajlmnfaa
open Go.RowKit

namespace Tr
theorem part_weight (u : Tr) : u.leftOf.weight + u.rightOf.weight ≤ u.weight := by
  obtain ⟨k, c⟩ := u
  have h := weights_append (c.take (k.length / 2 + 1)) (c.drop (k.length / 2 + 1))
  rw [List.take_append_drop] at h
  simp only [leftOf, rightOf, weight, List.length_take, List.length_drop]
  omega

mutual
theorem grow_weight (wide key : Int) : ∀ t : Tr, (grow wide key t).1.weight ≤ t.weight + 1 + 2 * (grow wide key t).2
  | .mk k c => by
    have hp := place_le key k
    rw [grow]
    split
    · simp only [weight, putAt_length hp, weights]
      omega
    · rename_i hc
      by_cases hi : place key k < c.length
      · have h := grows_weight wide key c (place key k) hi
        have hs : weights c = weights (c.take (place key k)) + (1 + c[place key k].weight + weights (c.drop (place key k + 1))) := by
          have e := weights_append (c.take (place key k)) (c.drop (place key k))
          rw [List.take_append_drop, ← List.getElem_cons_drop hi] at e
          simpa [weights] using e
        unfold growStep
        split
        · have hpw := part_weight ((grows wide key c).getD (place key k) (.mk [] [], 0)).1
          simp only [splitKid, weight, putAt_length hp, weights_append, weights]
          omega
        · simp only [weight, setKid, weights_append, weights]
          omega
      · have hn : (grows wide key c).getD (place key k) (.mk [] [], 0) = (.mk [] [], 0) := by
          have : (grows wide key c).length = c.length := by
            clear hc hi hp
            induction c with
            | nil => rfl
            | cons t r ih => simp [grows, ih]
          rw [List.getD_eq_getElem?_getD, List.getElem?_eq_none (by omega)]
          rfl
        rw [hn]
        have hd : c.take (place key k) = c := List.take_of_length_le (by omega)
        have hd2 : c.drop (place key k + 1) = [] := List.drop_of_length_le (by omega)
        unfold growStep
        split
        · simp only [splitKid, weight, putAt_length hp, weights_append, weights, hd, hd2, leftOf, rightOf, List.take_nil, List.drop_nil, List.length_nil]
          omega
        · simp only [weight, setKid, weights_append, weights, hd, hd2, List.length_nil]
          omega
theorem grows_weight (wide key : Int) : ∀ (c : List Tr) (i : Nat) (h : i < c.length), ((grows wide key c).getD i (.mk [] [], 0)).1.weight ≤ c[i].weight + 1 + 2 * ((grows wide key c).getD i (.mk [] [], 0)).2
  | [], i, h => by simp at h
  | t :: r, i, h => by
    have h1 := grow_weight wide key t
    cases i with
    | zero => simpa [grows] using h1
    | succ i =>
      have h2 := grows_weight wide key r i (by simpa using h)
      simpa [grows] using h2
end

theorem insT_weight (wide key : Int) (t : Tr) : (insT wide key t).weight ≤ 3 * t.weight + 5 := by
  have h1 := grow_weight wide key t
  have h2 := grow_count wide key t
  have h3 := part_weight (grow wide key t).1
  unfold insT
  simp only
  split
  · simp only [weight, weights, List.length_cons, List.length_nil]
    omega
  · omega
end Tr
end Go.Proofs.Yteelnkhajlmnfaa

/- The model's InsertKey. -/
namespace Go.Proofs.Yteelnkhajlmnfaa
open Go.RowKit

/-- The tree that InsertKey tells. -/
def Tr.insKeyT (wide key : Int) (t : Tr) : Tr := if Tr.askedB wide key t then Tr.insT wide key t else .mk [] []
theorem Tr.insKey_weight (wide key : Int) (t : Tr) : (Tr.insKeyT wide key t).weight ≤ 1048576 := by
  unfold Tr.insKeyT
  split
  · rename_i h
    have := Tr.insT_weight wide key t
    have := Tr.valid_small (Tr.asked_path h).1
    omega
  · simp [weight, weights]

theorem box7' {w : World} {b : Nat} {a0 a1 a2 a3 a4 a5 a6 : Value} {t : TypeId} (h : w.heap[b]? = some (.cells #[a0, a1, a2, a3, a4, a5, a6] t (0, 0))) :
    w.cell? ⟨b, 0, none⟩ = some a0 ∧ w.cell? ⟨b, 1, none⟩ = some a1 ∧ w.cell? ⟨b, 2, none⟩ = some a2 ∧ w.cell? ⟨b, 3, none⟩ = some a3 ∧ w.cell? ⟨b, 4, none⟩ = some a4 ∧ w.cell? ⟨b, 5, none⟩ = some a5 ∧ w.cell? ⟨b, 6, none⟩ = some a6 := by
  refine ⟨?_, ?_, ?_, ?_, ?_, ?_, ?_⟩ <;> simp [World.cell?, h]

/-- The tree that a split is. -/
def Tr.rootT (wide : Int) (u : Tr) : Tr := if wide < (u.ks.length : Int) then .mk [u.midOf] [u.leftOf, u.rightOf] else u

set_option maxRecDepth 100000 in
set_option maxHeartbeats 2000000 in
theorem l3Root_c {w : World} {Q : Nat → Prop} {v : Value} {wide : Int} {u : Tr} {n : Nat} (h : SplitIn w Q v wide u n) (hq : ∀ q, Q q → q < w.heap.size) :
    Calls Try.prog 69 #[v] w fun e w' => ∃ kv cv, e = .returned (.agg #[kv, cv]) ∧ TreeIn w' w'.heap.size kv cv (Tr.rootT wide u) ∧ Below w.heap.size w w' := by
  obtain ⟨lk, lc, rk, rc, mid, cnt, rfl, ⟨a1, n1, c1, a2, n2, c2, rfl, rfl⟩, ⟨a3, n3, c3, a4, n4, c4, rfl, rfl⟩, hyes, hno⟩ := h
  unfold splitV
  obtain ⟨B, hBd⟩ : ∃ B, B = decide (wide < (u.ks.length : Int)) := ⟨_, rfl⟩
  rw [← hBd]
  obtain ⟨W1, hW1⟩ : ∃ W1, W1 = (w.alloc (.cells #[.slice a1 n1 c1, .slice a2 n2 c2, .int .i64 mid, .slice a3 n3 c3, .slice a4 n4 c4, .bool B, .int .i64 cnt] 78)).alloc (.cells #[.slice none 0 0, .slice none 0 0] 30) := ⟨_, rfl⟩
  have hs1 : W1.heap.size = w.heap.size + 2 := by rw [hW1]; simp
  have hb1 : Below w.heap.size w W1 := by rw [hW1]; exact ((Below.refl _ _).alloc (Nat.le_refl _) _).alloc (by simp) _
  have kt : W1.heap[w.heap.size]? = some (.cells #[.slice a1 n1 c1, .slice a2 n2 c2, .int .i64 mid, .slice a3 n3 c3, .slice a4 n4 c4, .bool B, .int .i64 cnt] 78 (0, 0)) := by rw [hW1, old_blk _ _ _ (by simp), new_blk]
  have kb : W1.heap[w.heap.size + 1]? = some (.cells #[.slice none 0 0, .slice none 0 0] 30 (0, 0)) := by
    rw [hW1, show w.heap.size + 1 = (w.alloc (.cells #[.slice a1 n1 c1, .slice a2 n2 c2, .int .i64 mid, .slice a3 n3 c3, .slice a4 n4 c4, .bool B, .int .i64 cnt] 78)).heap.size by simp, new_blk]
  have ktx := kt
  rw [hW1] at ktx
  obtain ⟨x0, x1, x2, x3, x4, x5, x6⟩ := box7' ktx
  have HW1 := Lib.hid hW1
  have HB1 := Lib.hid (And.intro hb1 (And.intro kb kt))
  have HY := Lib.hid (And.intro hyes (And.intro hno hq))
  have HBD := Lib.hid hBd
  clear ktx hW1 hb1 kb kt hyes hno hq hBd
  go_enter Try.func69, Try.ntmps69
  cases B with
  | false =>
    go_wp2_with fail
    have hnb : ¬ wide < (u.ks.length : Int) := of_decide_eq_false HBD.out.symm
    obtain ⟨W2, hW2⟩ : ∃ W2, W2 = (w.alloc (.cells #[.slice a1 n1 c1, .slice a2 n2 c2, .int .i64 mid, .slice a3 n3 c3, .slice a4 n4 c4, .bool false, .int .i64 cnt] 78)).alloc (.cells #[.slice a1 n1 c1, .slice a2 n2 c2] 30) := ⟨_, rfl⟩
    rw [← hW2]
    have hb2 : Below w.heap.size w W2 := by rw [hW2]; exact ((Below.refl _ _).alloc (Nat.le_refl _) _).alloc (by simp) _
    have kb : W2.heap[w.heap.size + 1]? = some (.cells #[.slice a1 n1 c1, .slice a2 n2 c2] 30 (0, 0)) := by
      rw [hW2, show w.heap.size + 1 = (w.alloc (.cells #[.slice a1 n1 c1, .slice a2 n2 c2, .int .i64 mid, .slice a3 n3 c3, .slice a4 n4 c4, .bool false, .int .i64 cnt] 78)).heap.size by simp, new_blk]
    obtain ⟨d1, d2, d3, d4⟩ := box2 kb
    clear hW2
    refine bodyPost_ret (v := .agg #[.slice a1 n1 c1, .slice a2 n2 c2]) (by simp [results, Try.results69, go_sem, d1, d2]) rfl ⟨_, _, rfl, ?_, hb2⟩
    unfold Tr.rootT
    rw [if_neg hnb]
    exact ((HY.out.2.1 (by omega)).1.tree HY.out.2.2).later hb2 (Nat.le_refl _) |>.wider hb2.size
  | true =>
    go_wp2_with fail
    have hyb : wide < (u.ks.length : Int) := of_decide_eq_true HBD.out.symm
    clear x0 x1 x2 x3 x4 x5 x6
    obtain ⟨WB, hWB⟩ : ∃ WB, WB = (w.alloc (.cells #[.slice a1 n1 c1, .slice a2 n2 c2, .int .i64 mid, .slice a3 n3 c3, .slice a4 n4 c4, .bool true, .int .i64 cnt] 78)).alloc (.cells #[.slice (some ⟨w.heap.size + 1 + 1, 0, none⟩) 1 1, .slice (some ⟨w.heap.size + 1 + 1 + 1, 0, none⟩) 2 2] 30) := ⟨_, rfl⟩
    rw [← hWB]
    have hsB : WB.heap.size = w.heap.size + 1 + 1 := by rw [hWB]; simp
    have hbB : Below w.heap.size w WB := by rw [hWB]; exact ((Below.refl _ _).alloc (Nat.le_refl _) _).alloc (by simp) _
    have kb : WB.heap[w.heap.size + 1]? = some (.cells #[.slice (some ⟨w.heap.size + 1 + 1, 0, none⟩) 1 1, .slice (some ⟨w.heap.size + 1 + 1 + 1, 0, none⟩) 2 2] 30 (0, 0)) := by
      rw [hWB, show w.heap.size + 1 = (w.alloc (.cells #[.slice a1 n1 c1, .slice a2 n2 c2, .int .i64 mid, .slice a3 n3 c3, .slice a4 n4 c4, .bool true, .int .i64 cnt] 78)).heap.size by simp, new_blk]
    clear hWB
    obtain ⟨WC, hWC⟩ : ∃ WC, WC = WB.alloc (.cells #[.int .i64 mid] 3) := ⟨_, rfl⟩
    rw [← hWC]
    have hsC : WC.heap.size = w.heap.size + 1 + 1 + 1 := by rw [hWC]; simp [hsB]
    have hbC : Below WB.heap.size WB WC := by rw [hWC]; exact (Below.refl _ _).alloc (Nat.le_refl _) _
    have kc : WC.heap[w.heap.size + 1 + 1]? = some (.cells #[.int .i64 mid] 3 (0, 0)) := by rw [hWC, ← hsB, new_blk]
    clear hWC
    obtain ⟨WD, hWD⟩ : ∃ WD, WD = WC.alloc (.cells #[.slice a1 n1 c1, .slice a2 n2 c2, .slice a3 n3 c3, .slice a4 n4 c4] 30) := ⟨_, rfl⟩
    rw [← hWD]
    have hsD : WD.heap.size = w.heap.size + 1 + 1 + 1 + 1 := by rw [hWD]; simp [hsC]
    have hbD : Below WC.heap.size WC WD := by rw [hWD]; exact (Below.refl _ _).alloc (Nat.le_refl _) _
    have kd : WD.heap[w.heap.size + 1 + 1 + 1]? = some (.cells #[.slice a1 n1 c1, .slice a2 n2 c2, .slice a3 n3 c3, .slice a4 n4 c4] 30 (0, 0)) := by rw [hWD, ← hsC, new_blk]
    clear hWD
    have hbT : Below w.heap.size w WD := hbB.trans ((hbC.mono (by omega)).trans (hbD.mono (by omega)))
    have kb' := (hbD.block _ (by omega)).trans ((hbC.block _ (by omega)).trans kb)
    have kc' := (hbD.block _ (by omega)).trans kc
    obtain ⟨d1, d2, d3, d4⟩ := box2 kb'
    obtain ⟨e1, -⟩ := box1 kc'
    refine bodyPost_ret (v := .agg #[.slice (some ⟨w.heap.size + 1 + 1, 0, none⟩) 1 1, .slice (some ⟨w.heap.size + 1 + 1 + 1, 0, none⟩) 2 2]) (by simp [results, Try.results69, go_sem, d1, d2]) rfl ⟨_, _, rfl, ?_, hbT⟩
    unfold Tr.rootT
    rw [if_pos hyb]
    obtain ⟨hl, hr, rfl, -⟩ := HY.out.1 hyb
    refine .mk [u.midOf] [u.leftOf, u.rightOf] _ (some ⟨w.heap.size + 1 + 1 + 1, 0, none⟩) 2 (fun i => if i = 0 then .slice a1 n1 c1 else .slice a3 n3 c3) (fun i => if i = 0 then .slice a2 n2 c2 else .slice a4 n4 c4)
      ⟨_, 1, rfl, Nat.le_refl _, by unfold maxLen; omega, by simp, .inr ⟨w.heap.size + 1 + 1, 0, rfl, by omega, fun i hi => ?_⟩⟩ (by simp) (by unfold maxLen; omega) (.inr ⟨w.heap.size + 1 + 1 + 1, 0, rfl, by omega, fun i hi => ?_⟩) (fun i hi => ?_)
    · have : i = 0 := by simpa using hi
      subst this
      exact e1
    · have hi' : i < 2 := by simpa using hi
      have hc : ∀ j v, (#[Value.slice a1 n1 c1, .slice a2 n2 c2, .slice a3 n3 c3, .slice a4 n4 c4] : Array Value)[j]? = some v → WD.cell? ⟨w.heap.size + 1 + 1 + 1, j, none⟩ = some v := fun j v h => by simpa [World.cell?, kd] using h
      rcases (by omega : i = 0 ∨ i = 1) with rfl | rfl
      · exact ⟨hc 0 _ rfl, hc 1 _ rfl⟩
      · exact ⟨hc 2 _ rfl, hc 3 _ rfl⟩
    · have hi' : i < 2 := by simpa using hi
      rcases (by omega : i = 0 ∨ i = 1) with rfl | rfl
      · exact ((hl.tree HY.out.2.2).later hbT (Nat.le_refl _)).wider hbT.size
      · exact ((hr.tree HY.out.2.2).later hbT (Nat.le_refl _)).wider hbT.size
end Go.Proofs.Yteelnkhajlmnfaa

/- The contract of the program's InsertKey. -/
namespace Go.Proofs.Yteelnkhajlmnfaa
open Go.RowKit

set_option maxRecDepth 100000 in
set_option maxHeartbeats 2000000 in
theorem impl_insert {w : World} {B : Nat} {kv cv : Value} {t : Tr} (ht : TreeIn w B kv cv t) (hw : t.weight ≤ 1048576) (wide key : Int) (hn1 : -9223372036854775808 ≤ wide) (hn2 : wide ≤ 9223372036854775807) (w' : World) (hbw : Below B w w') (hB : B ≤ w'.heap.size) :
    Calls Try.prog 27 #[.agg #[kv, cv], .int .i64 wide, .int .i64 key] w' fun e w'' => ∃ kv' cv' P, e = .returned (.tuple #[.agg #[kv', cv'], .bool (Tr.askedB wide key t)]) ∧ TreeO w'' w'.heap.size P kv' cv' (Tr.insKeyT wide key t) ∧ Below w'.heap.size w' w'' := by
  obtain ⟨a5, n5, m5, a6, n6, m6, rfl, rfl⟩ := ht.slices
  obtain ⟨W1, hW1⟩ : ∃ W1, W1 = (w'.alloc (.cells #[.slice a5 n5 m5, .slice a6 n6 m6] 30)).alloc (.cells #[.slice none 0 0, .slice none 0 0] 30) := ⟨_, rfl⟩
  have hs1 : W1.heap.size = w'.heap.size + 2 := by rw [hW1]; simp
  have hb1 : Below w'.heap.size w' W1 := by rw [hW1]; exact ((Below.refl _ _).alloc (Nat.le_refl _) _).alloc (by simp) _
  have k0 : W1.heap[w'.heap.size]? = some (.cells #[.slice a5 n5 m5, .slice a6 n6 m6] 30 (0, 0)) := by rw [hW1, old_blk _ _ _ (by simp), new_blk]
  have kb : W1.heap[w'.heap.size + 1]? = some (.cells #[.slice none 0 0, .slice none 0 0] 30 (0, 0)) := by
    rw [hW1, show w'.heap.size + 1 = (w'.alloc (.cells #[.slice a5 n5 m5, .slice a6 n6 m6] 30)).heap.size by simp, new_blk]
  have k0x := k0
  rw [hW1] at k0x
  obtain ⟨x1, x2, x3, x4⟩ := box2 k0x
  have HT := Lib.hid ht
  have HBW := Lib.hid hbw
  have HW1 := Lib.hid hW1
  have H1 := Lib.hid (And.intro hb1 kb)
  clear ht hbw hW1 hb1 k0 kb k0x
  go_enter Try.func27, Try.ntmps27
  go_wp2_with fail
  rw [← HW1.out]
  refine (grownBy_c HT.out hw wide key hn1 hn2 W1 (HBW.out.trans (H1.out.1.mono hB)) (by omega)).mono ?_
  intro e w2 hgo
  rcases hgo with ⟨ha, rfl, hb2⟩ | ⟨ha, gb, b, F, rfl, hgr, hF, hb2⟩
  · have HA := Lib.hid (show Tr.insKeyT wide key t = .mk [] [] by simp [Tr.insKeyT, ha])
    have HAB := Lib.hid ha
    have hs2 := hb2.size
    have hrb := (hb2.block (w'.heap.size + 1) (by omega)).trans H1.out.2
    obtain ⟨r1, r2, r3, r4⟩ := box2 hrb
    have H2 := Lib.hid (And.intro (H1.out.1.trans (hb2.mono (by omega))) hrb)
    clear ha hb2 hrb x1 x2 x3 x4
    go_wp2_with fail
    obtain ⟨wf, hwf⟩ : ∃ wf, wf = (w2.setCell ⟨w'.heap.size + 1, 0, none⟩ (.slice none 0 0)).setCell ⟨w'.heap.size + 1, 1, none⟩ (.slice none 0 0) := ⟨_, rfl⟩
    have hfb : wf.heap[w'.heap.size + 1]? = some (.cells #[.slice none 0 0, .slice none 0 0] 30 (0, 0)) := by
      rw [hwf]; exact set_blk (o := 1) _ (set_blk (o := 0) _ H2.out.2)
    obtain ⟨d1, d2, d3, d4⟩ := box2 hfb
    rw [← hwf]
    refine bodyPost_ret (v := .tuple #[.agg #[.slice none 0 0, .slice none 0 0], .bool false]) (by simp [results, Try.results27, go_sem, d1, d2]) rfl ⟨_, _, _, by rw [HAB.out], by rw [HA.out]; exact TreeO.nil _ _, ?_⟩
    rw [hwf]; exact (H2.out.1.setCell (by show w'.heap.size ≤ w'.heap.size + 1; omega) _).setCell (by show w'.heap.size ≤ w'.heap.size + 1; omega) _
  · have HA := Lib.hid (show Tr.insKeyT wide key t = Tr.insT wide key t by simp [Tr.insKeyT, ha])
    have HAB := Lib.hid ha
    have hs2 := hb2.size
    have hiw := Tr.insT_weight wide key t
    have hsm := Tr.valid_small (Tr.asked_path ha).1
    have htc := tree_c hgr.node (by omega) w2 (Below.refl _ _)
    have HTC := Lib.hid htc
    have HB2 := Lib.hid hb2
    obtain ⟨y1, y2, y3, y4, y5, y6, y7⟩ := hgr.box.cells
    clear ha hb2 x1 x2 x3 x4 hgr hF htc hiw
    go_wp2_with fail
    refine HTC.out.mono ?_
    rintro e w4 ⟨k4, c4, P, rfl, ht4, hb4⟩
    obtain ⟨q1, q2, q3, q4, q5, q6, rfl, rfl⟩ := ht4.tree.slices
    have hs4 := hb4.size
    have hbr : Below W1.heap.size W1 w4 := HB2.out.trans (hb4.mono (by omega))
    have hrb := (hbr.block (w'.heap.size + 1) (by omega)).trans H1.out.2
    obtain ⟨r1, r2, r3, r4⟩ := box2 hrb
    have HZ := Lib.hid (And.intro ht4 (And.intro hbr hrb))
    clear ht4 hb4 hrb hbr y1 y2 y3 y4 y5 y6 y7
    go_wp2_with fail
    obtain ⟨wf, hwf⟩ : ∃ wf, wf = (w4.setCell ⟨w'.heap.size + 1, 0, none⟩ (.slice q1 q2 q3)).setCell ⟨w'.heap.size + 1, 1, none⟩ (.slice q4 q5 q6) := ⟨_, rfl⟩
    have hfb : wf.heap[w'.heap.size + 1]? = some (.cells #[.slice q1 q2 q3, .slice q4 q5 q6] 30 (0, 0)) := by
      rw [hwf]; exact set_blk (o := 1) _ (set_blk (o := 0) _ HZ.out.2.2)
    obtain ⟨d1, d2, d3, d4⟩ := box2 hfb
    rw [← hwf]
    refine bodyPost_ret (v := .tuple #[.agg #[.slice q1 q2 q3, .slice q4 q5 q6], .bool true]) (by simp [results, Try.results27, go_sem, d1, d2]) rfl ⟨_, _, P, by rw [HAB.out], ?_, ?_⟩
    · rw [HA.out]
      exact (HZ.out.1.same (w' := wf) (by rw [hwf]; simp) (fun q e => by have := (HZ.out.1.lt q e).1; rw [hwf, set_other _ _ _ _ _ (by omega), set_other _ _ _ _ _ (by omega)])).lower (by omega)
    · rw [hwf]; exact ((H1.out.1.trans (HZ.out.2.1.mono (by omega))).setCell (by show w'.heap.size ≤ w'.heap.size + 1; omega) _).setCell (by show w'.heap.size ≤ w'.heap.size + 1; omega) _
end Go.Proofs.Yteelnkhajlmnfaa

/- What a law on a function that returns a tree keeps from call to call. -/
namespace Go.Proofs.Yteelnkhajlmnfaa
open Go.RowKit

/-- The law's boxes, the model's answer, the program's answer. -/
structure ExS (w0 : World) (b3 b8 b10 b11 B8 lo : Nat) (kv cv k4 c4 k5 c5 k7 c7 : Value) (P : Blocks) (r u : Tr) (w : World) : Prop where
  bel : Below w0.heap.size w0 w
  x3 : w.heap[b3]? = some (.cells #[kv, cv] 25 (0, 0))
  x8 : w.heap[b8]? = some (.cells #[k4, c4] 30 (0, 0))
  x10 : w.heap[b10]? = some (.cells #[k5, c5] 30 (0, 0))
  x11 : w.heap[b11]? = some (.cells #[k7, c7] 30 (0, 0))
  tr4 : TreeIn w B8 k4 c4 r
  tr7 : TreeO w lo P k7 c7 u
  l3 : b3 < B8
  l8 : B8 ≤ b8 ∧ b8 < lo
  l10 : b10 < lo
  l0 : w0.heap.size ≤ b3
  n11 : lo ≤ b11 ∧ ¬ P b11
  lw : B8 ≤ w.heap.size

variable {w0 w w' : World} {b3 b8 b10 b11 B8 lo : Nat} {kv cv k4 c4 k5 c5 k7 c7 : Value} {P : Blocks} {r u : Tr}

theorem heap_lt {w : World} {b : Nat} {c : Array Value} {t : TypeId} {f : Nat × Nat} (h : w.heap[b]? = some (.cells c t f)) : b < w.heap.size := (Array.getElem?_eq_some_iff.1 h).1

theorem ExS.below (h : ExS w0 b3 b8 b10 b11 B8 lo kv cv k4 c4 k5 c5 k7 c7 P r u w) (hb : Below w.heap.size w w') : ExS w0 b3 b8 b10 b11 B8 lo kv cv k4 c4 k5 c5 k7 c7 P r u w' :=
  ⟨h.bel.trans (hb.mono (by have := h.l0; have := heap_lt h.x3; omega)), (hb.block _ (heap_lt h.x3)).trans h.x3, (hb.block _ (heap_lt h.x8)).trans h.x8, (hb.block _ (heap_lt h.x10)).trans h.x10, (hb.block _ (heap_lt h.x11)).trans h.x11,
    h.tr4.later hb h.lw, h.tr7.later hb (Nat.le_refl _), h.l3, h.l8, h.l10, h.l0, h.n11, Nat.le_trans h.lw hb.size⟩

theorem ExS.drew (h : ExS w0 b3 b8 b10 b11 B8 lo kv cv k4 c4 k5 c5 k7 c7 P r u w) : ExS w0 b3 b8 b10 b11 B8 lo kv cv k4 c4 k5 c5 k7 c7 P r u w.drew := h.below (Below.refl _ _).drew

/-- The argument is marked. -/
theorem ExS.span {l h' : Nat} (h : ExS w0 b3 b8 b10 b11 B8 lo kv cv k4 c4 k5 c5 k7 c7 P r u w) (hs : Span l h' w w') (h1 : b8 < l) (h2 : h' ≤ b10) (h3 : h' ≤ lo) : ExS w0 b3 b8 b10 b11 B8 lo kv cv k4 c4 k5 c5 k7 c7 P r u w' := by
  have e3 := heap_lt h.x3
  have e8 := heap_lt h.x8
  have l3 := h.l3
  have l8 := h.l8
  have hb : Below B8 w w' := ⟨hs.os, hs.tape, hs.output, hs.size, fun k hk => hs.block k (by have := h.lw; omega) (.inl (by omega))⟩
  refine ⟨h.bel.trans (hb.mono (by have := h.l0; omega)), (hs.block _ e3 (.inl (by omega))).trans h.x3, (hs.block _ e8 (.inl (by omega))).trans h.x8, (hs.block _ (heap_lt h.x10) (.inr h2)).trans h.x10,
    (hs.block _ (heap_lt h.x11) (.inr (by have := h.n11.1; omega))).trans h.x11, h.tr4.later hb (Nat.le_refl _), h.tr7.same hs.size (fun b e => hs.block b (h.tr7.lt b e).2 (.inr (by have := (h.tr7.lt b e).1; omega))), h.l3, h.l8, h.l10, h.l0, h.n11, Nat.le_trans h.lw hs.size⟩

/-- The answer is marked. -/
theorem ExS.mark {u' : Tr} (h : ExS w0 b3 b8 b10 b11 B8 lo kv cv k4 c4 k5 c5 k7 c7 P r u w) (ht : TreeO w' lo P k7 c7 u') (hk : KeptB P w w') : ExS w0 b3 b8 b10 b11 B8 lo kv cv k4 c4 k5 c5 k7 c7 P r u' w' := by
  have l3 := h.l3
  have l8 := h.l8
  have hP : ∀ b, P b → lo ≤ b := fun b e => (h.tr7.lt b e).1
  have hb : Below lo w w' := ⟨hk.os, hk.tape, hk.output, hk.size, fun k h1 => by
    by_cases h2 : k < w.heap.size
    · exact hk.block k h2 (fun e => by have := hP k e; omega)
    · have := h.n11.1; have := heap_lt h.x11; omega⟩
  exact ⟨h.bel.trans (hb.mono (by have := h.l0; omega)), (hb.block _ (by omega)).trans h.x3, (hb.block _ (by omega)).trans h.x8, (hb.block _ h.l10).trans h.x10,
    (hk.block _ (heap_lt h.x11) h.n11.2).trans h.x11, h.tr4.later hb (by omega), ht, h.l3, h.l8, h.l10, h.l0, h.n11, Nat.le_trans h.lw hk.size⟩
end Go.Proofs.Yteelnkhajlmnfaa

/- The model's InsertKey, its contract. -/
namespace Go.Proofs.Yteelnkhajlmnfaa
open Go.RowKit

set_option maxRecDepth 100000 in
set_option maxHeartbeats 2000000 in
theorem l3Key_c {w : World} {B : Nat} {kv cv : Value} {t : Tr} (ht : TreeIn w B kv cv t) (wide key : Int) (hv : Tr.validB wide t = true) (w' : World) (hbw : Below B w w') (hB : B ≤ w'.heap.size) :
    Calls Try.prog 60 #[.agg #[kv, cv], .int .i64 wide, .int .i64 key] w' fun e w'' => ∃ kv' cv' P, e = .returned (.agg #[kv', cv']) ∧ TreeO w'' w'.heap.size P kv' cv' (Tr.insT wide key t) ∧ Below w'.heap.size w' w'' := by
  obtain ⟨a5, n5, m5, a6, n6, m6, rfl, rfl⟩ := ht.slices
  obtain ⟨W1, hW1⟩ : ∃ W1, W1 = (w'.alloc (.cells #[.slice a5 n5 m5, .slice a6 n6 m6] 30)).alloc (.cells #[.slice none 0 0, .slice none 0 0] 30) := ⟨_, rfl⟩
  have hs1 : W1.heap.size = w'.heap.size + 2 := by rw [hW1]; simp
  have hb1 : Below w'.heap.size w' W1 := by rw [hW1]; exact ((Below.refl _ _).alloc (Nat.le_refl _) _).alloc (by simp) _
  have k0 : W1.heap[w'.heap.size]? = some (.cells #[.slice a5 n5 m5, .slice a6 n6 m6] 30 (0, 0)) := by rw [hW1, old_blk _ _ _ (by simp), new_blk]
  have kb : W1.heap[w'.heap.size + 1]? = some (.cells #[.slice none 0 0, .slice none 0 0] 30 (0, 0)) := by
    rw [hW1, show w'.heap.size + 1 = (w'.alloc (.cells #[.slice a5 n5 m5, .slice a6 n6 m6] 30)).heap.size by simp, new_blk]
  have k0x := k0
  rw [hW1] at k0x
  obtain ⟨x1, x2, x3, x4⟩ := box2 k0x
  have hsm := Tr.valid_small hv
  have hcall := l3Insert_c wide key (Tr.valid_wide hv) 200 t hsm (by omega) (Tr.valid_well hv) W1 (· < B) _ _ (fun q h => by omega) (ht.later (hbw.trans (hb1.mono hB)) (Nat.le_refl _)).p
  have hiw := Tr.insT_weight wide key t
  have HC := Lib.hid hcall
  have HT := Lib.hid ht
  have HBW := Lib.hid hbw
  have HW1 := Lib.hid hW1
  have H1 := Lib.hid (And.intro hb1 kb)
  clear ht hbw hW1 hb1 k0 kb k0x hcall
  go_enter Try.func60, Try.ntmps60
  go_wp2_with fail
  rw [← HW1.out]
  refine HC.out.mono ?_
  rintro e w2 ⟨v2, rfl, hsp, hb2⟩
  have hs2 := hb2.size
  have HB2 := Lib.hid hb2
  have hroot := l3Root_c hsp (fun q h => by
    rcases h with h | h
    · have : q < B := h
      omega
    · exact h.2)
  have HR := Lib.hid hroot
  clear hsp hb2 hroot x1 x2 x3 x4
  go_wp2_with fail
  refine HR.out.mono ?_
  rintro e w3 ⟨k3, c3, rfl, ht3, hb3⟩
  obtain ⟨p1, p2, p3, p4, p5, p6, rfl, rfl⟩ := ht3.slices
  have hs3 := hb3.size
  have ht3' : TreeIn w3 w3.heap.size (.slice p1 p2 p3) (.slice p4 p5 p6) (Tr.insT wide key t) := ht3
  have HB3 := Lib.hid hb3
  have HCP := Lib.hid (copy_c ht3' (by omega) w3 (Below.refl _ _) (Nat.le_refl _))
  clear ht3 ht3' hb3
  go_wp2_with fail
  refine HCP.out.mono ?_
  rintro e w4 ⟨k4, c4, P, rfl, ht4, hb4⟩
  obtain ⟨q1, q2, q3, q4, q5, q6, rfl, rfl⟩ := ht4.tree.slices
  have hs4 := hb4.size
  have hbr : Below W1.heap.size W1 w4 := HB2.out.trans ((HB3.out.mono hs2).trans (hb4.mono (by omega)))
  have hrb := (hbr.block (w'.heap.size + 1) (by omega)).trans H1.out.2
  obtain ⟨r1, r2, r3, r4⟩ := box2 hrb
  have HZ := Lib.hid (And.intro ht4 (And.intro hbr hrb))
  clear ht4 hb4 hbr hrb
  go_wp2_with fail
  obtain ⟨wf, hwf⟩ : ∃ wf, wf = (w4.setCell ⟨w'.heap.size + 1, 0, none⟩ (.slice q1 q2 q3)).setCell ⟨w'.heap.size + 1, 1, none⟩ (.slice q4 q5 q6) := ⟨_, rfl⟩
  have hfb : wf.heap[w'.heap.size + 1]? = some (.cells #[.slice q1 q2 q3, .slice q4 q5 q6] 30 (0, 0)) := by
    rw [hwf]; exact set_blk (o := 1) _ (set_blk (o := 0) _ HZ.out.2.2)
  obtain ⟨d1, d2, d3, d4⟩ := box2 hfb
  rw [← hwf]
  refine bodyPost_ret (v := .agg #[.slice q1 q2 q3, .slice q4 q5 q6]) (by simp [results, Try.results60, go_sem, d1, d2]) rfl ⟨_, _, P, rfl, ?_, ?_⟩
  · exact (HZ.out.1.same (w' := wf) (by rw [hwf]; simp) (fun q e => by have := (HZ.out.1.lt q e).1; rw [hwf, set_other _ _ _ _ _ (by omega), set_other _ _ _ _ _ (by omega)])).lower (by omega)
  · rw [hwf]; exact ((H1.out.1.trans (HZ.out.2.1.mono (by omega))).setCell (by show w'.heap.size ≤ w'.heap.size + 1; omega) _).setCell (by show w'.heap.size ≤ w'.heap.size + 1; omega) _

set_option maxRecDepth 100000 in
set_option maxHeartbeats 2000000 in
theorem specInsertKey_c {w : World} {B : Nat} {kv cv : Value} {t : Tr} (ht : TreeIn w B kv cv t) (hw : t.weight ≤ 1048576) (wide key : Int) (w' : World) (hbw : Below B w w') (hB : B ≤ w'.heap.size) :
    Calls Try.prog 26 #[.agg #[kv, cv], .int .i64 wide, .int .i64 key] w' fun e w'' => ∃ kv' cv' P, e = .returned (.tuple #[.agg #[kv', cv'], .bool (Tr.askedB wide key t)]) ∧ TreeO w'' w'.heap.size P kv' cv' (Tr.insKeyT wide key t) ∧ Below w'.heap.size w' w'' := by
  obtain ⟨a5, n5, m5, a6, n6, m6, rfl, rfl⟩ := ht.slices
  obtain ⟨W1, hW1⟩ : ∃ W1, W1 = (w'.alloc (.cells #[.slice a5 n5 m5, .slice a6 n6 m6] 30)).alloc (.cells #[.slice none 0 0, .slice none 0 0] 30) := ⟨_, rfl⟩
  have hs1 : W1.heap.size = w'.heap.size + 2 := by rw [hW1]; simp
  have hb1 : Below w'.heap.size w' W1 := by rw [hW1]; exact ((Below.refl _ _).alloc (Nat.le_refl _) _).alloc (by simp) _
  have k0 : W1.heap[w'.heap.size]? = some (.cells #[.slice a5 n5 m5, .slice a6 n6 m6] 30 (0, 0)) := by rw [hW1, old_blk _ _ _ (by simp), new_blk]
  have kb : W1.heap[w'.heap.size + 1]? = some (.cells #[.slice none 0 0, .slice none 0 0] 30 (0, 0)) := by
    rw [hW1, show w'.heap.size + 1 = (w'.alloc (.cells #[.slice a5 n5 m5, .slice a6 n6 m6] 30)).heap.size by simp, new_blk]
  have k0x := k0
  rw [hW1] at k0x
  obtain ⟨x1, x2, x3, x4⟩ := box2 k0x
  have HT := Lib.hid ht
  have HBW := Lib.hid hbw
  have HW1 := Lib.hid hW1
  have H1 := Lib.hid (And.intro hb1 (And.intro kb k0))
  clear ht hbw hW1 hb1 k0 kb k0x
  go_enter Try.func26, Try.ntmps26
  go_wp2_with fail
  rw [← HW1.out]
  refine (specAsked_c HT.out hw wide key W1 (HBW.out.trans (H1.out.1.mono hB)) (by omega)).mono ?_
  rintro e w2 ⟨rfl, hb2⟩
  have hs2 := hb2.size
  clear x1 x2 x3 x4
  have j0 := (hb2.block _ (by omega)).trans H1.out.2.2
  have hrb := (hb2.block (w'.heap.size + 1) (by omega)).trans H1.out.2.1
  obtain ⟨x1, x2, x3, x4⟩ := box2 j0
  obtain ⟨r1, r2, r3, r4⟩ := box2 hrb
  have H2 := Lib.hid (And.intro (H1.out.1.trans (hb2.mono (by omega))) hrb)
  clear hb2 j0 hrb
  cases ha : Tr.askedB wide key t with
  | false =>
    have HA := Lib.hid (show Tr.insKeyT wide key t = .mk [] [] by simp [Tr.insKeyT, ha])
    have HAB := Lib.hid ha
    clear ha
    go_wp2_with fail
    obtain ⟨wf, hwf⟩ : ∃ wf, wf = (w2.setCell ⟨w'.heap.size + 1, 0, none⟩ (.slice none 0 0)).setCell ⟨w'.heap.size + 1, 1, none⟩ (.slice none 0 0) := ⟨_, rfl⟩
    have hfb : wf.heap[w'.heap.size + 1]? = some (.cells #[.slice none 0 0, .slice none 0 0] 30 (0, 0)) := by
      rw [hwf]; exact set_blk (o := 1) _ (set_blk (o := 0) _ H2.out.2)
    obtain ⟨d1, d2, d3, d4⟩ := box2 hfb
    rw [← hwf]
    refine bodyPost_ret (v := .tuple #[.agg #[.slice none 0 0, .slice none 0 0], .bool false]) (by simp [results, Try.results26, go_sem, d1, d2]) rfl ⟨_, _, _, by rw [HAB.out], by rw [HA.out]; exact TreeO.nil _ _, ?_⟩
    rw [hwf]; exact (H2.out.1.setCell (by show w'.heap.size ≤ w'.heap.size + 1; omega) _).setCell (by show w'.heap.size ≤ w'.heap.size + 1; omega) _
  | true =>
    have HA := Lib.hid (show Tr.insKeyT wide key t = Tr.insT wide key t by simp [Tr.insKeyT, ha])
    have HAB := Lib.hid ha
    have hkey := l3Key_c HT.out wide key (Tr.asked_path ha).1 w2 (HBW.out.trans (H2.out.1.mono hB)) (by omega)
    have HK := Lib.hid hkey
    clear ha hkey
    go_wp2_with fail
    refine HK.out.mono ?_
    rintro e w4 ⟨k4, c4, P, rfl, ht4, hb4⟩
    obtain ⟨q1, q2, q3, q4, q5, q6, rfl, rfl⟩ := ht4.tree.slices
    have hs4 := hb4.size
    have hrb := (hb4.block (w'.heap.size + 1) (by omega)).trans H2.out.2
    clear r1 r2 r3 r4 x1 x2 x3 x4
    obtain ⟨r1, r2, r3, r4⟩ := box2 hrb
    have HZ := Lib.hid (And.intro ht4 (And.intro hb4 hrb))
    clear ht4 hb4 hrb
    go_wp2_with fail
    obtain ⟨wf, hwf⟩ : ∃ wf, wf = (w4.setCell ⟨w'.heap.size + 1, 0, none⟩ (.slice q1 q2 q3)).setCell ⟨w'.heap.size + 1, 1, none⟩ (.slice q4 q5 q6) := ⟨_, rfl⟩
    have hfb : wf.heap[w'.heap.size + 1]? = some (.cells #[.slice q1 q2 q3, .slice q4 q5 q6] 30 (0, 0)) := by
      rw [hwf]; exact set_blk (o := 1) _ (set_blk (o := 0) _ HZ.out.2.2)
    obtain ⟨d1, d2, d3, d4⟩ := box2 hfb
    rw [← hwf]
    refine bodyPost_ret (v := .tuple #[.agg #[.slice q1 q2 q3, .slice q4 q5 q6], .bool true]) (by simp [results, Try.results26, go_sem, d1, d2]) rfl ⟨_, _, P, by rw [HAB.out], ?_, ?_⟩
    · rw [HA.out]
      exact (HZ.out.1.same (w' := wf) (by rw [hwf]; simp) (fun q e => by have := (HZ.out.1.lt q e).1; rw [hwf, set_other _ _ _ _ _ (by omega), set_other _ _ _ _ _ (by omega)])).lower (by omega)
    · rw [hwf]; exact ((H2.out.1.trans (HZ.out.2.1.mono (by omega))).setCell (by show w'.heap.size ≤ w'.heap.size + 1; omega) _).setCell (by show w'.heap.size ≤ w'.heap.size + 1; omega) _
end Go.Proofs.Yteelnkhajlmnfaa

/- The law on InsertKey: the walk over the contracts. -/
namespace Go.Proofs.Yteelnkhajlmnfaa
open Go.RowKit

/-- What the program's InsertKey is to do. -/
def ImplInsertKey : Prop := ∀ (w0 : World) (B : Nat) (kv cv : Value) (t : Tr) (wide : Int) (key : Int), TreeIn w0 B kv cv t → t.weight ≤ 1048576 → -9223372036854775808 ≤ wide → wide ≤ 9223372036854775807 → -9223372036854775808 ≤ key → key ≤ 9223372036854775807 → ∀ w', Below B w0 w' → B ≤ w'.heap.size →
  Calls Try.prog 27 #[.agg #[kv, cv], .int .i64 wide, .int .i64 key] w' fun e w'' => ∃ kv' cv' P, e = .returned (.tuple #[.agg #[kv', cv'], .bool (Tr.askedB wide key t)]) ∧ TreeO w'' w'.heap.size P kv' cv' (Tr.insKeyT wide key t) ∧ Below w'.heap.size w' w''

set_option maxHeartbeats 4000000 in
set_option maxRecDepth 100000 in
theorem exInsertKey_c {kv cv : Value} {t : Tr} (w : World) (ht : TreeIn w w.heap.size kv cv t) (wide key : Int) (hwide1 : -9223372036854775808 ≤ wide) (hwide2 : wide ≤ 9223372036854775807) (hkey1 : -9223372036854775808 ≤ key) (hkey2 : key ≤ 9223372036854775807) (hI : ImplInsertKey) :
    Calls Try.prog 5 #[.agg #[kv, cv], .int .i64 wide, .int .i64 key] w fun e w' => e = .returned (.bool true) ∧ Below w.heap.size w w' := by
  obtain ⟨W1, hW1⟩ : ∃ W1, W1 = w.alloc (.cells #[kv, cv] 25) := ⟨_, rfl⟩
  have hs1 : W1.heap.size = w.heap.size + 1 := by rw [hW1]; simp
  have hb1 : Below w.heap.size w W1 := by rw [hW1]; exact (Below.refl _ _).alloc (Nat.le_refl _) _
  have kb : W1.heap[w.heap.size]? = some (.cells #[kv, cv] 25 (0, 0)) := by rw [hW1, new_blk]
  obtain ⟨x1, x2, x3, x4⟩ := box2 kb
  have HW1 := Lib.hid hW1
  have HT := Lib.hid ht
  have H1 := Lib.hid (And.intro hb1 kb)
  clear hW1 hb1 kb ht
  go_enter Try.func5, Try.ntmps5
  go_wp2_with fail
  rw [← HW1.out]
  refine (szTree_c HT.out W1 1048576 H1.out.1 (by omega) (by omega) (by omega)).mono ?_
  rintro e w2 ⟨rfl, hb2⟩
  have hs2 := hb2.size
  have kb2 := (hb2.block w.heap.size (by omega)).trans H1.out.2
  have hb2' := H1.out.1.trans (hb2.mono (by omega))
  clear x1 x2 x3 x4
  obtain ⟨x1, x2, x3, x4⟩ := box2 kb2
  have H2 := Lib.hid (And.intro hb2' kb2)
  clear hb2 hb2' kb2
  by_cases hwt : t.weight ≤ 1048576
  · rw [leftOf_ge (by omega)]
    have hnn : ¬ ((1048576 : Int) - (t.weight : Int) < 0) := by omega
    go_wp2_with fail
    -- the first copy, for the model
    refine (toTree_c HT.out hwt w2 H2.out.1 (by omega)).mono ?_
    rintro e w3 ⟨k3, c3, rfl, hn3, hb3⟩
    have hs3 := hb3.size
    have kb3 := (hb3.block w.heap.size (by omega)).trans H2.out.2
    have hb3' := H2.out.1.trans (hb3.mono (by omega))
    clear x1 x2 x3 x4
    obtain ⟨x1, x2, x3, x4⟩ := box2 kb3
    have H3 := Lib.hid (And.intro hb3' kb3)
    have HN3 := Lib.hid (hn3.tree hwt)
    clear hb3 hb3' kb3 hn3
    go_wp2_with fail
    refine (specInsertKey_c HN3.out hwt wide key w3 (Below.refl _ _) (Nat.le_refl _)).mono ?_
    rintro e w4 ⟨k4, c4, P4, rfl, ho4, hb4⟩
    obtain ⟨p1, p2, p3, p4, p5, p6, rfl, rfl⟩ := ho4.tree.slices
    have hs4 := hb4.size
    have kb4 := (hb4.block w.heap.size (by omega)).trans H3.out.2
    have hb4' := H3.out.1.trans (hb4.mono (by omega))
    have HRL := Lib.hid (Tr.insKey_weight wide key t)
    have HT4 := Lib.hid ho4.tree
    clear x1 x2 x3 x4 ho4
    generalize hres : (Tr.insKeyT wide key t) = res at HT4 HRL
    generalize hqb : (Tr.askedB wide key t) = qb
    have HQB := Lib.hid hqb
    have hneb : (qb != qb) = false := by simp
    have HRES := Lib.hid hres
    obtain ⟨W5, hW5⟩ : ∃ W5, W5 = w4.alloc (.cells #[.slice p1 p2 p3, .slice p4 p5 p6] 30) := ⟨_, rfl⟩
    have hs5 : W5.heap.size = w4.heap.size + 1 := by rw [hW5]; simp
    have hb5 : Below w4.heap.size w4 W5 := by rw [hW5]; exact (Below.refl _ _).alloc (Nat.le_refl _) _
    have kb5 := (hb5.block w.heap.size (by omega)).trans kb4
    have k85 : W5.heap[w4.heap.size]? = some (.cells #[.slice p1 p2 p3, .slice p4 p5 p6] 30 (0, 0)) := by rw [hW5, new_blk]
    have kb5x := kb5
    rw [hW5] at kb5x
    obtain ⟨x1, x2, x3, x4⟩ := box2 kb5x
    obtain ⟨y1, y2, y3, y4⟩ := box2 kb4
    have H5 := Lib.hid (And.intro (hb4'.trans (hb5.mono (by omega))) (And.intro kb5 (And.intro k85 hb5)))
    have HW5 := Lib.hid hW5
    clear hb4 hb4' kb4 hb5 kb5 kb5x k85 hW5 hres hqb
    go_wp2_with fail
    rw [← HW5.out]
    -- the second copy, for the program
    refine (toTree_c HT.out hwt W5 H5.out.1 (by omega)).mono ?_
    rintro e w6 ⟨k6, c6, rfl, hn6, hb6⟩
    obtain ⟨g6, h6, n6, m6, rfl, rfl⟩ := hn6.slices
    have hs6 := hb6.size
    obtain ⟨W7, hW7⟩ : ∃ W7, W7 = w6.alloc (.cells #[.slice (some ⟨g6, 0, none⟩) n6 n6, .slice (some ⟨h6, 0, none⟩) m6 m6] 30) := ⟨_, rfl⟩
    have hs7 : W7.heap.size = w6.heap.size + 1 := by rw [hW7]; simp
    have hb7 : Below w6.heap.size w6 W7 := by rw [hW7]; exact (Below.refl _ _).alloc (Nat.le_refl _) _
    have hb57 : Below W5.heap.size W5 W7 := hb6.trans (hb7.mono (by omega))
    have k10 : W7.heap[w6.heap.size]? = some (.cells #[.slice (some ⟨g6, 0, none⟩) n6 n6, .slice (some ⟨h6, 0, none⟩) m6 m6] 30 (0, 0)) := by rw [hW7, new_blk]
    have H7 := Lib.hid (And.intro hb57 (And.intro k10 hb7))
    have HM6 := Lib.hid hn6.mem
    have HN6 := Lib.hid (hn6.tree hwt)
    have HW7 := Lib.hid hW7
    clear x1 x2 x3 x4 y1 y2 y3 y4 hb6 hn6 hW7 hb7 hb57 k10
    go_wp2_with fail
    rw [← HW7.out]
    refine (hI _ _ _ _ _ _ _ HN6.out hwt hwide1 hwide2 hkey1 hkey2 W7 H7.out.2.2 (by omega)).mono ?_
    rintro e w8 ⟨k8, c8, P, rfl, ho8, hb8⟩
    rw [HRES.out] at ho8
    rw [HQB.out]
    obtain ⟨s1, s2, s3, s4, s5, s6, rfl, rfl⟩ := ho8.tree.slices
    have hs8 := hb8.size
    obtain ⟨W9, hW9⟩ : ∃ W9, W9 = w8.alloc (.cells #[.slice s1 s2 s3, .slice s4 s5 s6] 30) := ⟨_, rfl⟩
    have hs9 : W9.heap.size = w8.heap.size + 1 := by rw [hW9]; simp
    have hb9 : Below w8.heap.size w8 W9 := by rw [hW9]; exact (Below.refl _ _).alloc (Nat.le_refl _) _
    have k11 : W9.heap[w8.heap.size]? = some (.cells #[.slice s1 s2 s3, .slice s4 s5 s6] 30 (0, 0)) := by rw [hW9, new_blk]
    have hb79 : Below W7.heap.size W7 W9 := hb8.trans (hb9.mono (by omega))
    have hb59 : Below W5.heap.size W5 W9 := H7.out.1.trans (hb79.mono (by omega))
    have hb49 : Below w4.heap.size w4 W9 := H5.out.2.2.2.trans (hb59.mono (by omega))
    have S9 : ExS w w.heap.size w4.heap.size w6.heap.size w8.heap.size w4.heap.size W7.heap.size kv cv (.slice p1 p2 p3) (.slice p4 p5 p6) (.slice (some ⟨g6, 0, none⟩) n6 n6) (.slice (some ⟨h6, 0, none⟩) m6 m6) (.slice s1 s2 s3) (.slice s4 s5 s6) P res res W9 :=
      ⟨H5.out.1.trans (hb59.mono (by omega)), (hb59.block _ (by omega)).trans H5.out.2.1, (hb59.block _ (by omega)).trans H5.out.2.2.1, (hb79.block _ (by omega)).trans H7.out.2.1, k11,
        HT4.out.later hb49 (Nat.le_refl _), ho8.later hb9 (Nat.le_refl _), by omega, ⟨Nat.le_refl _, by omega⟩, by omega, Nat.le_refl _, ⟨by omega, fun e => by have := (ho8.lt _ e).2; omega⟩, by omega⟩
    have S9x := S9
    rw [hW9] at S9x
    obtain ⟨x1, x2, x3, x4⟩ := box2 S9x.x8
    obtain ⟨y1, y2, y3, y4⟩ := box2 S9x.x11
    have HS9 := Lib.hid (And.intro S9 (show Below w6.heap.size w6 W9 from H7.out.2.2.trans (hb79.mono (by omega))))
    have HW9 := Lib.hid hW9
    clear ho8 hb8 hW9 hb9 k11 hb79 hb59 hb49 S9 S9x
    go_wp2_with fail
    rw [← HW9.out]
    refine (eqTree_c (B := W9.heap.size) HS9.out.1.tr7.tree _ _ (HS9.out.1.tr4.wider HS9.out.1.lw) W9 (Below.refl _ _) (Nat.le_refl _)).mono ?_
    rintro e w10 ⟨rfl, hb10⟩
    have hs10 := hb10.size
    have HS10 := Lib.hid (And.intro (HS9.out.1.below hb10) (HS9.out.2.trans (hb10.mono (by omega))))
    clear hb10 x1 x2 x3 x4 y1 y2 y3 y4
    obtain ⟨x1, x2, x3, x4⟩ := box2 HS10.out.1.x3
    obtain ⟨y1, y2, y3, y4⟩ := box2 HS10.out.1.x10
    go_wp2_with fail
    go_region_held3 (fun x => x.cell? ⟨w.heap.size, 0, none⟩ = some kv ∧ x.cell? ⟨w.heap.size, 1, none⟩ = some cv ∧ x.cell? ⟨w6.heap.size, 0, none⟩ = some (.slice (some ⟨g6, 0, none⟩) n6 n6) ∧ x.cell? ⟨w6.heap.size, 1, none⟩ = some (.slice (some ⟨h6, 0, none⟩) m6 m6))
      (first | exact ⟨x1, x2, y1, y2⟩ | exact ⟨z1, z2, u1, u2⟩ | exact ⟨q1, q2, r1, r2⟩ | go_keep)
      (first
        | (go_at_call 17; refine (toTree_c HT.out hwt _ (HS10.out.1.drew.bel) (by simp; omega)).mono ?_; rintro e w11 ⟨k11, c11, rfl, hn11, hb11⟩; obtain ⟨g11, h11, n11, m11, rfl, rfl⟩ := hn11.slices; have hs11 : w10.heap.size ≤ w11.heap.size := hb11.size; have HN11 := Lib.hid (hn11.tree hwt); have hS11 := HS10.out.1.drew.below hb11; obtain ⟨z1, z2, z3, z4⟩ := box2 hS11.x3; obtain ⟨u1, u2, u3, u4⟩ := box2 hS11.x10; have HS11 := Lib.hid (And.intro hS11 (HS10.out.2.drew.trans (hb11.mono (by simp; omega)))); clear hb11 hn11 hS11)
        | (go_at_call 19; refine (eqTree_c (TreeIn.wider (TreeIn.later HN6.out HS11.out.2 (Nat.le_refl _)) (by omega)) _ _ HN11.out _ (Below.refl _ _) (Nat.le_refl _)).mono ?_; rintro e w12 ⟨rfl, hb12⟩; have hs12 : w11.heap.size ≤ w12.heap.size := hb12.size; have hS12 := HS11.out.1.below hb12; obtain ⟨q1, q2, q3, q4⟩ := box2 hS12.x3; obtain ⟨r1, r2, r3, r4⟩ := box2 hS12.x10; have HS12 := Lib.hid (And.intro hS12 (HS11.out.2.trans (hb12.mono (by omega)))); clear hb12 hS12))
    go_wp2_with fail
    -- the program's argument is marked
    refine (markTree_c (HM6.out.touch (Touch.of_below HS12.out.2 (Nat.le_refl _))) hwt (by omega) 1 (by omega) (by omega)).mono ?_
    rintro e w13 ⟨m13, rfl, hm13, hsp⟩
    have hs13 := hsp.size
    have HS13 := Lib.hid (HS12.out.1.span hsp (by omega) (by omega) (by omega))
    have hm' : ¬ (m13 < 0) := by omega
    clear hsp
    clear x1 x2 x3 x4 y1 y2 y3 y4 z1 z2 z3 z4 u1 u2 u3 u4 q1 q2 q3 q4 r1 r2 r3 r4
    obtain ⟨x1, x2, x3, x4⟩ := box2 HS13.out.x8
    obtain ⟨y1, y2, y3, y4⟩ := box2 HS13.out.x11
    go_wp2_with fail
    refine (eqTree_c (B := w13.heap.size) HS13.out.tr7.tree _ _ (HS13.out.tr4.wider HS13.out.lw) w13 (Below.refl _ _) (Nat.le_refl _)).mono ?_
    rintro e w14 ⟨rfl, hb14⟩
    have hs14 := hb14.size
    have HS14 := Lib.hid (HS13.out.below hb14)
    clear hb14 x1 x2 x3 x4 y1 y2 y3 y4
    obtain ⟨y1, y2, y3, y4⟩ := box2 HS14.out.x11
    have hrl := HRL.out
    have hnk := Tr.nkeys_le res
    go_wp2_with fail
    -- the program's answer is marked
    refine (markTree_o HS14.out.tr7 hrl (by omega) 1 (by omega) (by omega)).mono ?_
    rintro e w15 ⟨rfl, ho15, hk15⟩
    have hs15 := hk15.size
    have HS15 := Lib.hid (HS14.out.mark ho15 hk15)
    have hne : (((1 : Int) + (Tr.nkeys res : Int)) != 1 + (Tr.nkeys res : Int)) = false := by simp
    have hn15 : ¬ ((1 : Int) + (Tr.nkeys res : Int) < 0) := by omega
    clear ho15 hk15 y1 y2 y3 y4
    obtain ⟨y1, y2, y3, y4⟩ := box2 HS15.out.x11
    go_wp2_with fail
    refine (heldTree_o 1 HS15.out.tr7.tree (Nat.le_refl _) hrl (by omega) (by omega)).mono ?_
    rintro e w16 ⟨rfl, hb16⟩
    have hs16 := hb16.size
    have HS16 := Lib.hid (HS15.out.below hb16)
    clear hb16 y1 y2 y3 y4
    obtain ⟨x1, x2, x3, x4⟩ := box2 HS16.out.x3
    go_wp2_with fail
    -- once more
    refine (toTree_c HT.out hwt w16 HS16.out.bel (by omega)).mono ?_
    rintro e w17 ⟨k17, c17, rfl, hn17, hb17⟩
    have hs17 := hb17.size
    have HS17 := Lib.hid (And.intro (HS16.out.below hb17) (hn17.tree hwt))
    clear hb17 hn17 x1 x2 x3 x4
    go_wp2_with fail
    refine (hI _ _ _ _ _ _ _ HS17.out.2 hwt hwide1 hwide2 hkey1 hkey2 w17 (Below.refl _ _) (Nat.le_refl _)).mono ?_
    rintro e w18 ⟨k18, c18, P18, rfl, ho18, hb18⟩
    rw [HRES.out] at ho18
    rw [HQB.out]
    obtain ⟨t1, t2, t3, t4, t5, t6, rfl, rfl⟩ := ho18.tree.slices
    have hs18 := hb18.size
    obtain ⟨W19, hW19⟩ : ∃ W19, W19 = w18.alloc (.cells #[.slice t1 t2 t3, .slice t4 t5 t6] 30) := ⟨_, rfl⟩
    have hs19 : W19.heap.size = w18.heap.size + 1 := by rw [hW19]; simp
    have hb19 : Below w18.heap.size w18 W19 := by rw [hW19]; exact (Below.refl _ _).alloc (Nat.le_refl _) _
    have k16 : W19.heap[w18.heap.size]? = some (.cells #[.slice t1 t2 t3, .slice t4 t5 t6] 30 (0, 0)) := by rw [hW19, new_blk]
    have S19 := (HS17.out.1.below hb18).below hb19
    have S19x := S19
    have k16x := k16
    rw [hW19] at S19x k16x
    obtain ⟨x1, x2, x3, x4⟩ := box2 S19x.x8
    obtain ⟨y1, y2, y3, y4⟩ := box2 k16x
    have HS19 := Lib.hid (And.intro S19 (ho18.later hb19 (Nat.le_refl _)))
    have HW19 := Lib.hid hW19
    clear ho18 hb18 hW19 hb19 k16 k16x S19 S19x
    go_wp2_with fail
    rw [← HW19.out]
    refine (eqTree_c (B := W19.heap.size) HS19.out.2.tree _ _ (HS19.out.1.tr4.wider HS19.out.1.lw) W19 (Below.refl _ _) (Nat.le_refl _)).mono ?_
    rintro e w20 ⟨rfl, hb20⟩
    have hs20 := hb20.size
    have HS20 := Lib.hid (HS19.out.1.below hb20)
    clear hb20 x1 x2 x3 x4 y1 y2 y3 y4
    obtain ⟨y1, y2, y3, y4⟩ := box2 HS20.out.x11
    go_wp2_with fail
    refine (heldTree_o 1 HS20.out.tr7.tree (Nat.le_refl _) hrl (by omega) (by omega)).mono ?_
    rintro e w21 ⟨rfl, hb21⟩
    have HS21 := Lib.hid (HS20.out.below hb21)
    clear hb21 y1 y2 y3 y4
    go_wp2_with fail
    go_ret
    exact ⟨rfl, HS21.out.bel⟩
  · rw [leftOf_lt (by omega)]
    go_wp2_with fail
    go_ret
    exact ⟨rfl, H2.out.1⟩
end Go.Proofs.Yteelnkhajlmnfaa

/- The statement on InsertKey, from the walk of its law. -/
namespace Go.Proofs.Yteelnkhajlmnfaa.exInsertKey
open Go.ChangeShapes Go.WideShapes Go.ChangeAt Go.RowKit
set_option linter.unusedVariables false

theorem own : ownKnob Try.prog.godebug = none := by kernel_rfl
theorem laidOut : laidOutB Try.prog = true := by kernel_rfl

theorem walk (hI : ImplInsertKey) (kv cv : Value) (t : Tr) (w : World) (ht : TreeIn w w.heap.size kv cv t) (n m : Int) (hn1 : -9223372036854775808 ≤ n) (hn2 : n ≤ 9223372036854775807) (hm1 : -9223372036854775808 ≤ m) (hm2 : m ≤ 9223372036854775807) :
    Calls Try.prog 5 #[.agg #[kv, cv], .int .i64 n, .int .i64 m] w fun e w' => e = .returned (.bool true) ∧ Below w.heap.size w w' := exInsertKey_c w ht n m hn1 hn2 hm1 hm2 hI

set_option maxRecDepth 100000 in
set_option maxHeartbeats 1000000 in
theorem lifted (hI : ImplInsertKey) (os : Os) (started : os.Started) (H : Type) (enc : TypeId × Value → H) :
    ReturnsInHanded {} Try.checked os 5 .any (Rows.fnExactInsertKeySpec.pre6 enc Try.prog Try.f5 Rows.fnExactInsertKeyRow.domain false) (Rows.fnExactInsertKeySpec.post enc Try.prog Try.f5 false true false false) := by
  refine returnsInHanded_of_change (C := Try.checked) own started (by kernel_rfl) Try.func5
    (ChangeSpec.witness6 (enc := enc) (C := Try.checked) false ⟨#[], #[.agg #[.slice none 0 0, .slice none 0 0], .int .i64 0, .int .i64 0], []⟩ 8 (by kernel_rfl) (by kernel_rfl) (by kernel_rfl) (by kernel_rfl)) ?_
  intro W base args ds gs before hval0 hW hcnd _
  have hval : ∀ (j : Nat) t v, Try.f5.params[j]? = some t → args[j]? = some v → Value.okWide Try.prog W .any base t v := hval0
  have hW' := hW
  obtain ⟨p, q, hA0, hV, rfl, hfz, hnd⟩ := hW
  have hA : DataW.TrodAll enc Try.prog W 0 (fun _ => true) true Try.f5.params.toList args.toList ds p := hA0
  rw [Try.params5] at hA hval
  obtain ⟨v0, vs0, d0, ds0, p0, q0, hargs, rfl, rfl, h0, r0⟩ := trodAll_cons hA
  obtain ⟨v1, vs1, d1, ds1, p1, q1, rfl, rfl, rfl, h1, r1⟩ := trodAll_cons r0
  obtain ⟨v2, vs2, d2, ds2, p2, q2, rfl, rfl, rfl, h2, r2⟩ := trodAll_cons r1
  obtain ⟨rfl, rfl, rfl⟩ := trodAll_nil r2
  obtain rfl : args = #[v0, v1, v2] := by cases args; simp_all
  obtain ⟨rfl, rfl⟩ := trodVars_none hV
  obtain ⟨cs, rfl, hcs⟩ := okWide_struct Try.underlying25 (hval 0 25 v0 rfl rfl)
  have k0 := h0
  have lt0 : ∀ x ∈ p0, x.block < W.heap.size := by obtain ⟨m, hm⟩ := k0; exact DataW.trod_lt m _ _ _ hm
  obtain ⟨kv, cv, t, hkc, ht, hf⟩ : ∃ kv cv t, cs = #[kv, cv] ∧ TreeIn W W.heap.size kv cv t ∧ Tr.Fit t := by
    obtain ⟨fuel, hf⟩ := h0
    obtain ⟨kv, cv, t, hcl, ht, hft⟩ := tree_of_trod fuel hf
    exact ⟨kv, cv, t, by cases cs; simp_all [Value.cells], ht, hft⟩
  subst hkc
  obtain ⟨n1, rfl, rfl, rfl, wn1⟩ := open_int Try.underlying3 (hval 1 3 v1 rfl rfl) h1
  have hfit1 : -9223372036854775808 ≤ n1 ∧ n1 ≤ 9223372036854775807 := by simpa [Lit.wf, IntKind.min, IntKind.max, IntKind.signed, IntKind.bits] using wn1
  obtain ⟨n2, rfl, rfl, rfl, wn2⟩ := open_int Try.underlying3 (hval 2 3 v2 rfl rfl) h2
  have hfit2 : -9223372036854775808 ≤ n2 ∧ n2 ≤ 9223372036854775807 := by simpa [Lit.wf, IntKind.min, IntKind.max, IntKind.signed, IntKind.bits] using wn2
  clear hA0 hval0
  refine (walk hI kv cv t W ht n1 n2 hfit1.1 hfit1.2 hfit2.1 hfit2.2).mono fun e W' ⟨he, bel⟩ => ?_
  subst he
  exact ⟨_, rfl, _, _, _, [], _, [], hW', trodAll_mk1 (shut_bool Try.underlying4 _), (trodAll_cons_mk (Below.trod laidOut (by kernel_rfl) (of_decide_eq_true (by kernel_rfl)) k0 bel lt0) (trodAll_cons_mk (shut_int Try.underlying3 wn1) (trodAll_cons_mk (shut_int Try.underlying3 wn2) trodAll_mk0))), rfl, bel.frame _, fun h => by cases h⟩

theorem closed : joinedFacts Try.prog 5 Try.f5 Rows.fnExactInsertKeySpec Rows.fnExactInsertKeyRow = true := by
  unfold joinedFacts
  exact band (band (band (band (band (band (band (by kernel_rfl) fact_enter) fact_lifts) fact_make) (by kernel_rfl)) (by kernel_rfl)) (by kernel_rfl)) (by kernel_rfl)

theorem over (hI : ImplInsertKey) : Rows.fnExactInsertKeyRow.holds Try.pinned (OpenSpec.ofChange Rows.fnExactInsertKeySpec) :=
  OpenClaim.holds_of_wide 5 Try.f5 rfl rfl rfl rfl rfl rfl rfl ⟨rfl, rfl, rfl, rfl, rfl⟩ rfl rfl rfl rfl rfl (by kernel_rfl) Try.func5 closed
    (of_decide_eq_true (by kernel_rfl)) (by unfold Func.isWrapper; first | (rw [if_pos (by decide +kernel)]; kernel_rfl) | (rw [if_neg (by decide +kernel)]; exact ⟨rfl, rfl⟩))
    (fun os started H enc _ => lifted hI os started H enc)

theorem proved (hI : ImplInsertKey) : Rows.FnExactInsertKeySaid := over hI
end Go.Proofs.Yteelnkhajlmnfaa.exInsertKey

/- For every tree in memory and any two ints, the law on InsertKey returns true and leaves its arguments as they were; no conditions. -/
namespace Go.Proofs.Yteelnkhajlmnfaa

theorem insert_key_said : Rows.FnExactInsertKeySaid := exInsertKey.proved (fun _ _ _ _ _ n m ht hw h1 h2 _ _ w' hb hB => impl_insert ht hw n m h1 h2 w' hb hB)
end Go.Proofs.Yteelnkhajlmnfaa
