/- Merged by merge.py: SplitsSpec ExSplits ExGrows ImSplits RowSplits FinSplits -/
import Derived.Test.YtadbhjmpcnlbjaaProg
import Derived.Test.YtadbhjmpcnlbjaaBase
import Derived.Test.YtadbhjmpcnlbjaaSorted
import Derived.Test.YtadbhjmpcnlbjaaHasSpec
import Derived.Test.YtadbhjmpcnlbjaaSmallTree
import Derived.Test.YtadbhjmpcnlbjaaGrownBy
import Derived.Test.YtadbhjmpcnlbjaaInsSpec
import Derived.Deep.Cut
import Derived.Test.YtadbhjmpcnlbjaaSz
import Derived.Test.YtadbhjmpcnlbjaaTo
import Derived.Test.YtadbhjmpcnlbjaaEq
import Derived.Deep.RegionHeld3
import Derived.Test.YtadbhjmpcnlbjaaRows
import Derived.Test.YtadbhjmpcnlbjaaFacts
import Derived.Test.YtadbhjmpcnlbjaaFrame
import Derived.WalkKit
import Derived.ProofKit
import Derived.OpenShut
import Derived.ChangeOld
import Derived.Below

/- The model's SplitsBy and GrowsBy. -/
namespace Go.Proofs.Ytadbhjmpcnlbjaa
open Go.RowKit

/-- What SplitsBy and GrowsBy tell. -/
def Tr.splitsB (wide key : Int) (t : Tr) : Int := if Tr.askedB wide key t then (Tr.insN wide key t : Int) else -1
def Tr.growsB (wide key : Int) (t : Tr) : Bool := Tr.askedB wide key t && Tr.insG wide key t

theorem run_splits (w : World) (x0 x1 x2 x3 x4 x5 : Value) (n : Int) : Sem.run Try.prog (Instr.field 89 (.agg #[x0, x1, x2, x3, x4, x5, .int .i64 n]) 4) w = .ok (.int .i64 n) w := by
  first
    | kernel_rfl
    | rfl
    | (simp [Instr.field, Try.underlying89]; trace_state; done)
theorem run_splits2 (w : World) (x0 x1 x2 x3 x4 : Value) (g : Bool) (n : Value) : Sem.run Try.prog (Instr.field 89 (.agg #[x0, x1, x2, x3, x4, .bool g, n]) 3) w = .ok (.bool g) w := by
  first
    | kernel_rfl
    | rfl
    | (simp [Instr.field, Try.underlying89]; trace_state; done)
attribute [local go_sem] run_splits run_splits2

set_option maxRecDepth 100000 in
set_option maxHeartbeats 2000000 in
theorem specAsked_c {w : World} {B : Nat} {kv cv : Value} {t : Tr} (ht : TreeIn w B kv cv t) (hw : t.weight ≤ 1048576) (wide key : Int) (w' : World) (hbw : Below B w w') (hB : B ≤ w'.heap.size) :
    Calls Try.prog 69 #[.agg #[kv, cv], .int .i64 wide, .int .i64 key] w' fun e w'' => e = .returned (.bool (Tr.askedB wide key t)) ∧ Below w'.heap.size w' w'' := by
  obtain ⟨a5, n5, m5, a6, n6, m6, rfl, rfl⟩ := ht.slices
  obtain ⟨W1, hW1⟩ : ∃ W1, W1 = w'.alloc (.cells #[.slice a5 n5 m5, .slice a6 n6 m6] 30) := ⟨_, rfl⟩
  have hs1 : W1.heap.size = w'.heap.size + 1 := by rw [hW1]; simp
  have hb1 : Below w'.heap.size w' W1 := by rw [hW1]; exact (Below.refl _ _).alloc (Nat.le_refl _) _
  have k0 : W1.heap[w'.heap.size]? = some (.cells #[.slice a5 n5 m5, .slice a6 n6 m6] 30 (0, 0)) := by rw [hW1, new_blk]
  obtain ⟨x1, x2, x3, x4⟩ := box2 k0
  have HT := Lib.hid ht
  have HBW := Lib.hid hbw
  have HW1 := Lib.hid hW1
  have H1 := Lib.hid (And.intro hb1 k0)
  clear ht hbw hW1 hb1 k0
  go_enter Try.func69, Try.ntmps69
  go_wp2_with fail
  rw [← HW1.out]
  refine (specTreeValid_c HT.out hw wide W1 (HBW.out.trans (H1.out.1.mono hB)) (by omega)).mono ?_
  rintro e w2 ⟨rfl, hb2⟩
  have hs2 := hb2.size
  clear x1 x2 x3 x4
  have j0 := (hb2.block _ (by omega)).trans H1.out.2
  obtain ⟨x1, x2, x3, x4⟩ := box2 j0
  have hb2' := H1.out.1.trans (hb2.mono (by omega))
  have H2 := Lib.hid (And.intro hb2' j0)
  clear hb2 hb2' j0
  cases hv : Tr.validB wide t with
  | false =>
    have HA := Lib.hid (show Tr.askedB wide key t = false by simp [Tr.askedB, hv])
    clear hv
    go_wp2_with fail
    go_ret
    exact ⟨by rw [HA.out]; rfl, H2.out.1⟩
  | true =>
  have HV := Lib.hid hv
  clear hv
  go_wp2_with fail
  refine (l1In_c key 0 99 w2).mono ?_
  rintro e w3 ⟨rfl, rfl⟩
  cases hk : inB key 0 99 with
  | false =>
    have HA := Lib.hid (show Tr.askedB wide key t = false by simp [Tr.askedB, hk])
    clear hk
    go_wp2_with fail
    go_ret
    exact ⟨by rw [HA.out]; rfl, H2.out.1⟩
  | true =>
  have HK := Lib.hid hk
  clear hk
  go_wp2_with fail
  refine (specHasKey_c HT.out hw key _ (HBW.out.trans (H2.out.1.mono hB)) (by omega)).mono ?_
  rintro e w4 ⟨rfl, hb4⟩
  have HA := Lib.hid (show Tr.askedB wide key t = !(t.pathB key).2 by simp [Tr.askedB, HV.out, HK.out])
  have H4 := Lib.hid (H2.out.1.trans (hb4.mono (by omega)))
  clear hb4
  go_wp2_with fail
  go_ret
  exact ⟨by rw [HA.out]; rfl, H4.out⟩

theorem cut_tells {w w' : World} {P : Nat → Prop} {wide key : Int} {t : Tr} {e : Ending} (h : Cut w P wide (Tr.grow wide key t) e w') : ∃ (a1 a2 a3 a4 : Option Addr) (n1 c1 n2 c2 n3 c3 n4 c4 : Nat) (mid : Int),
    e = .returned (.agg #[.slice a1 n1 c1, .slice a2 n2 c2, .int .i64 mid, .slice a3 n3 c3, .slice a4 n4 c4, .bool (Tr.insG wide key t), .int .i64 (Tr.insN wide key t : Int)]) ∧ Below w.heap.size w w' := by
  obtain ⟨v, rfl, ⟨lk, lc, rk, rc, mid, cnt, hv, ⟨a1, n1, c1, a2, n2, c2, rfl, rfl⟩, ⟨a3, n3, c3, a4, n4, c4, rfl, rfl⟩, hyes, hno⟩, hb⟩ := h
  refine ⟨a1, a2, a3, a4, n1, c1, n2, c2, n3, c3, n4, c4, mid, ?_, hb⟩
  have hc : cnt = Tr.insN wide key t := by
    unfold Tr.insN
    by_cases hg : wide < ((Tr.grow wide key t).1.ks.length : Int)
    · rw [(hyes hg).2.2.2]; simp [hg]
    · rw [(hno hg).2]; simp [hg]
  rw [hv, hc]
  rfl

set_option maxRecDepth 100000 in
set_option maxHeartbeats 2000000 in
theorem specSplitsBy_c {w : World} {B : Nat} {kv cv : Value} {t : Tr} (ht : TreeIn w B kv cv t) (hw : t.weight ≤ 1048576) (wide key : Int) (w' : World) (hbw : Below B w w') (hB : B ≤ w'.heap.size) :
    Calls Try.prog 40 #[.agg #[kv, cv], .int .i64 wide, .int .i64 key] w' fun e w'' => e = .returned (.int .i64 (Tr.splitsB wide key t)) ∧ Below w'.heap.size w' w'' := by
  obtain ⟨a5, n5, m5, a6, n6, m6, rfl, rfl⟩ := ht.slices
  obtain ⟨W1, hW1⟩ : ∃ W1, W1 = w'.alloc (.cells #[.slice a5 n5 m5, .slice a6 n6 m6] 30) := ⟨_, rfl⟩
  have hs1 : W1.heap.size = w'.heap.size + 1 := by rw [hW1]; simp
  have hb1 : Below w'.heap.size w' W1 := by rw [hW1]; exact (Below.refl _ _).alloc (Nat.le_refl _) _
  have k0 : W1.heap[w'.heap.size]? = some (.cells #[.slice a5 n5 m5, .slice a6 n6 m6] 30 (0, 0)) := by rw [hW1, new_blk]
  obtain ⟨x1, x2, x3, x4⟩ := box2 k0
  have HT := Lib.hid ht
  have HBW := Lib.hid hbw
  have HW1 := Lib.hid hW1
  have H1 := Lib.hid (And.intro hb1 k0)
  clear ht hbw hW1 hb1 k0
  go_enter Try.func40, Try.ntmps40
  go_wp2_with fail
  rw [← HW1.out]
  refine (specAsked_c HT.out hw wide key W1 (HBW.out.trans (H1.out.1.mono hB)) (by omega)).mono ?_
  rintro e w2 ⟨rfl, hb2⟩
  have hs2 := hb2.size
  clear x1 x2 x3 x4
  have j0 := (hb2.block _ (by omega)).trans H1.out.2
  obtain ⟨x1, x2, x3, x4⟩ := box2 j0
  have hb2' := H1.out.1.trans (hb2.mono (by omega))
  have H2 := Lib.hid hb2'
  clear hb2 hb2' j0
  cases ha : Tr.askedB wide key t with
  | false =>
    have HA := Lib.hid (show Tr.splitsB wide key t = -1 by simp [Tr.splitsB, ha])
    clear ha
    go_wp2_with fail
    go_ret
    exact ⟨by rw [HA.out]; rfl, H2.out⟩
  | true =>
    have HA := Lib.hid (show Tr.splitsB wide key t = Tr.insN wide key t by simp [Tr.splitsB, ha])
    have hv := (Tr.asked_path ha).1
    have hsm := Tr.valid_small hv
    have hcall := l3Insert_c wide key (Tr.valid_wide hv) 200 t hsm (by omega) (Tr.valid_well hv) w2 (· < B) _ _ (fun q h => by omega) (HT.out.later (HBW.out.trans (H2.out.mono hB)) (Nat.le_refl _)).p
    have HC := Lib.hid hcall
    clear ha hv hsm hcall
    go_wp2_with fail
    refine HC.out.mono ?_
    intro e w3 hcut
    obtain ⟨b1, b2, b3, b4, d1, d2, d3, d4, d5, d6, d7, d8, mid, rfl, hb3⟩ := cut_tells hcut
    have H3 := Lib.hid (H2.out.trans (hb3.mono (by omega)))
    clear hcut hb3
    go_wp2_with fail
    go_ret
    exact ⟨by rw [HA.out]; rfl, H3.out⟩

set_option maxRecDepth 100000 in
set_option maxHeartbeats 2000000 in
theorem specGrowsBy_c {w : World} {B : Nat} {kv cv : Value} {t : Tr} (ht : TreeIn w B kv cv t) (hw : t.weight ≤ 1048576) (wide key : Int) (w' : World) (hbw : Below B w w') (hB : B ≤ w'.heap.size) :
    Calls Try.prog 42 #[.agg #[kv, cv], .int .i64 wide, .int .i64 key] w' fun e w'' => e = .returned (.bool (Tr.growsB wide key t)) ∧ Below w'.heap.size w' w'' := by
  obtain ⟨a5, n5, m5, a6, n6, m6, rfl, rfl⟩ := ht.slices
  obtain ⟨W1, hW1⟩ : ∃ W1, W1 = w'.alloc (.cells #[.slice a5 n5 m5, .slice a6 n6 m6] 30) := ⟨_, rfl⟩
  have hs1 : W1.heap.size = w'.heap.size + 1 := by rw [hW1]; simp
  have hb1 : Below w'.heap.size w' W1 := by rw [hW1]; exact (Below.refl _ _).alloc (Nat.le_refl _) _
  have k0 : W1.heap[w'.heap.size]? = some (.cells #[.slice a5 n5 m5, .slice a6 n6 m6] 30 (0, 0)) := by rw [hW1, new_blk]
  obtain ⟨x1, x2, x3, x4⟩ := box2 k0
  have HT := Lib.hid ht
  have HBW := Lib.hid hbw
  have HW1 := Lib.hid hW1
  have H1 := Lib.hid (And.intro hb1 k0)
  clear ht hbw hW1 hb1 k0
  go_enter Try.func42, Try.ntmps42
  go_wp2_with fail
  rw [← HW1.out]
  refine (specAsked_c HT.out hw wide key W1 (HBW.out.trans (H1.out.1.mono hB)) (by omega)).mono ?_
  rintro e w2 ⟨rfl, hb2⟩
  have hs2 := hb2.size
  clear x1 x2 x3 x4
  have j0 := (hb2.block _ (by omega)).trans H1.out.2
  obtain ⟨x1, x2, x3, x4⟩ := box2 j0
  have hb2' := H1.out.1.trans (hb2.mono (by omega))
  have H2 := Lib.hid hb2'
  clear hb2 hb2' j0
  cases ha : Tr.askedB wide key t with
  | false =>
    have HA := Lib.hid (show Tr.growsB wide key t = false by simp [Tr.growsB, ha])
    clear ha
    go_wp2_with fail
    go_ret
    exact ⟨by rw [HA.out]; rfl, H2.out⟩
  | true =>
    have HA := Lib.hid (show Tr.growsB wide key t = Tr.insG wide key t by simp [Tr.growsB, ha])
    have hv := (Tr.asked_path ha).1
    have hsm := Tr.valid_small hv
    have hcall := l3Insert_c wide key (Tr.valid_wide hv) 200 t hsm (by omega) (Tr.valid_well hv) w2 (· < B) _ _ (fun q h => by omega) (HT.out.later (HBW.out.trans (H2.out.mono hB)) (Nat.le_refl _)).p
    have HC := Lib.hid hcall
    clear ha hv hsm hcall
    go_wp2_with fail
    refine HC.out.mono ?_
    intro e w3 hcut
    obtain ⟨b1, b2, b3, b4, d1, d2, d3, d4, d5, d6, d7, d8, mid, rfl, hb3⟩ := cut_tells hcut
    have H3 := Lib.hid (H2.out.trans (hb3.mono (by omega)))
    clear hcut hb3
    go_wp2_with fail
    go_ret
    exact ⟨by rw [HA.out]; rfl, H3.out⟩
end Go.Proofs.Ytadbhjmpcnlbjaa

/- The law on SplitsBy: the walk over the contracts. -/
namespace Go.Proofs.Ytadbhjmpcnlbjaa
open Go.RowKit

/-- What the program's SplitsBy is to do. -/
def ImplSplitsBy : Prop := ∀ (w0 : World) (B : Nat) (kv cv : Value) (t : Tr) (n m : Int), TreeIn w0 B kv cv t → t.weight ≤ 1048576 → -9223372036854775808 ≤ n → n ≤ 9223372036854775807 → -9223372036854775808 ≤ m → m ≤ 9223372036854775807 → ∀ w', Below B w0 w' → B ≤ w'.heap.size →
  Calls Try.prog 41 #[.agg #[kv, cv], .int .i64 n, .int .i64 m] w' fun e w'' => e = .returned (.int .i64 (Tr.splitsB n m t)) ∧ Below w'.heap.size w' w''

set_option maxHeartbeats 2000000 in
set_option maxRecDepth 100000 in
theorem exSplitsBy_c {kv cv : Value} {t : Tr} (w : World) (ht : TreeIn w w.heap.size kv cv t) (n m : Int) (hd1 : -9223372036854775808 ≤ n) (hd2 : n ≤ 9223372036854775807) (hd3 : -9223372036854775808 ≤ m) (hd4 : m ≤ 9223372036854775807)
    (hI : ImplSplitsBy) :
    Calls Try.prog 11 #[.agg #[kv, cv], .int .i64 n, .int .i64 m] w fun e w' => e = .returned (.bool true) ∧ Below w.heap.size w w' := by
  obtain ⟨W1, hW1⟩ : ∃ W1, W1 = w.alloc (.cells #[kv, cv] 25) := ⟨_, rfl⟩
  have hs1 : W1.heap.size = w.heap.size + 1 := by rw [hW1]; simp
  have hb1 : Below w.heap.size w W1 := by rw [hW1]; exact (Below.refl _ _).alloc (Nat.le_refl _) _
  have kb : W1.heap[w.heap.size]? = some (.cells #[kv, cv] 25 (0, 0)) := by rw [hW1, new_blk]
  obtain ⟨x1, x2, x3, x4⟩ := box2 kb
  have HW1 := Lib.hid hW1
  have HT := Lib.hid ht
  have H1 := Lib.hid (And.intro hb1 kb)
  clear hW1 hb1 kb ht
  go_enter Try.func11, Try.ntmps11
  go_wp2_with fail
  rw [← HW1.out]
  refine (szTree_c HT.out W1 1048576 H1.out.1 (by omega) (by omega) (by omega)).mono ?_
  rintro e w2 ⟨rfl, hb2⟩
  have hs2 := hb2.size
  have kb2 := (hb2.block w.heap.size (by omega)).trans H1.out.2
  have hb2' := H1.out.1.trans (hb2.mono (by omega))
  clear x1 x2 x3 x4
  obtain ⟨x1, x2, x3, x4⟩ := box2 kb2
  have H2 := Lib.hid (And.intro hb2' kb2)
  clear hb2 hb2' kb2
  by_cases hwt : t.weight ≤ 1048576
  · rw [leftOf_ge (by omega)]
    have hnn : ¬ ((1048576 : Int) - (t.weight : Int) < 0) := by omega
    go_wp2_with fail
    -- the first copy, for the model
    refine (toTree_c HT.out hwt w2 H2.out.1 (by omega)).mono ?_
    rintro e w3 ⟨k3, c3, rfl, hn3, hb3⟩
    have hs3 := hb3.size
    have kb3 := (hb3.block w.heap.size (by omega)).trans H2.out.2
    have hb3' := H2.out.1.trans (hb3.mono (by omega))
    clear x1 x2 x3 x4
    obtain ⟨x1, x2, x3, x4⟩ := box2 kb3
    have H3 := Lib.hid (And.intro hb3' kb3)
    have HN3 := Lib.hid (hn3.tree hwt)
    clear hb3 hb3' kb3 hn3
    go_wp2_with fail
    refine (specSplitsBy_c HN3.out hwt n m w3 (Below.refl _ _) (Nat.le_refl _)).mono ?_
    rintro e w4 ⟨rfl, hb4⟩
    have hs4 := hb4.size
    have kb4 := (hb4.block w.heap.size (by omega)).trans H3.out.2
    have hb4' := H3.out.1.trans (hb4.mono (by omega))
    clear x1 x2 x3 x4
    obtain ⟨x1, x2, x3, x4⟩ := box2 kb4
    have H4 := Lib.hid (And.intro hb4' kb4)
    clear hb4 hb4' kb4
    go_wp2_with fail
    -- the second copy, for the program
    refine (toTree_c HT.out hwt w4 H4.out.1 (by omega)).mono ?_
    rintro e w5 ⟨k5, c5, rfl, hn5, hb5⟩
    obtain ⟨g5, h5, n5, m5, rfl, rfl⟩ := hn5.slices
    have hs5 := hb5.size
    have kb5 := (hb5.block w.heap.size (by omega)).trans H4.out.2
    have hb5' := H4.out.1.trans (hb5.mono (by omega))
    clear x1 x2 x3 x4
    obtain ⟨x1, x2, x3, x4⟩ := box2 kb5
    have H5 := Lib.hid (And.intro hb5' kb5)
    have HN5 := Lib.hid (hn5.tree hwt)
    clear hb5 hb5' kb5 hn5
    go_wp2_with fail
    obtain ⟨W6, hW6⟩ : ∃ W6, W6 = w5.alloc (.cells #[.slice (some ⟨g5, 0, none⟩) n5 n5, .slice (some ⟨h5, 0, none⟩) m5 m5] 30) := ⟨_, rfl⟩
    rw [← hW6]
    have hs6 : W6.heap.size = w5.heap.size + 1 := by rw [hW6]; simp
    have hb6 : Below w5.heap.size w5 W6 := by rw [hW6]; exact (Below.refl _ _).alloc (Nat.le_refl _) _
    have kx6 : W6.heap[w5.heap.size]? = some (.cells #[.slice (some ⟨g5, 0, none⟩) n5 n5, .slice (some ⟨h5, 0, none⟩) m5 m5] 30 (0, 0)) := by rw [hW6, new_blk]
    have kb6 := (hb6.block w.heap.size (by omega)).trans H5.out.2
    have hb6' := H5.out.1.trans (hb6.mono (by omega))
    clear x1 x2 x3 x4 hW6
    refine (hI _ _ _ _ _ n m HN5.out hwt hd1 hd2 hd3 hd4 W6 hb6 (by omega)).mono ?_
    rintro e w7 ⟨rfl, hb7⟩
    have hs7 := hb7.size
    have kb7 := (hb7.block w.heap.size (by omega)).trans kb6
    have kx7 := (hb7.block w5.heap.size (by omega)).trans kx6
    have hb7' := hb6'.trans (hb7.mono (by omega))
    have hb57 : Below w5.heap.size w5 w7 := hb6.trans (hb7.mono (by omega))
    obtain ⟨x1, x2, x3, x4⟩ := box2 kb7
    obtain ⟨y1, y2, y3, y4⟩ := box2 kx7
    have H7 := Lib.hid (And.intro hb7' (And.intro kb7 (And.intro kx7 hb57)))
    have hne : (Tr.splitsB n m t != Tr.splitsB n m t) = false := by simp
    clear hb7 hb7' kb7 kx7 kb6 kx6 hb6 hb6' hb57
    go_wp2_with fail
    go_region_held3 (fun x => x.cell? ⟨w.heap.size, 0, none⟩ = some kv ∧ x.cell? ⟨w.heap.size, 1, none⟩ = some cv ∧ x.cell? ⟨w5.heap.size, 0, none⟩ = some (.slice (some ⟨g5, 0, none⟩) n5 n5) ∧ x.cell? ⟨w5.heap.size, 1, none⟩ = some (.slice (some ⟨h5, 0, none⟩) m5 m5))
      (first | exact ⟨x1, x2, y1, y2⟩ | exact ⟨z1, z2, u1, u2⟩ | exact ⟨q1, q2, r1, r2⟩ | go_keep)
      (first
        | (go_at_call 17; refine (toTree_c HT.out hwt _ (H7.out.1.drew) (by simp; omega)).mono ?_; rintro e w8 ⟨k8, c8, rfl, hn8, hb8⟩; obtain ⟨g8, h8, n8, m8, rfl, rfl⟩ := hn8.slices; have hs8 := hb8.size; have HN8 := Lib.hid (hn8.tree hwt); have kb8 := (hb8.block w.heap.size (by simp; omega)).trans H7.out.2.1; have kx8 := (hb8.block w5.heap.size (by simp; omega)).trans H7.out.2.2.1; obtain ⟨z1, z2, z3, z4⟩ := box2 kb8; obtain ⟨u1, u2, u3, u4⟩ := box2 kx8; have H8 := Lib.hid (And.intro (H7.out.1.drew.trans (hb8.mono (by simp; omega))) (And.intro (H7.out.2.2.2.drew.trans (hb8.mono (by simp; omega))) (And.intro kb8 kx8))); clear hb8 hn8 kb8 kx8)
        | (go_at_call 19; refine (eqTree_c (TreeIn.wider (TreeIn.later HN5.out H8.out.2.1 (Nat.le_refl _)) (by simp at hs8; omega)) _ _ HN8.out _ (Below.refl _ _) (Nat.le_refl _)).mono ?_; rintro e w9 ⟨rfl, hb9⟩; have hs9 := hb9.size; obtain ⟨q1, q2, q3, q4⟩ := box2 ((hb9.block w.heap.size (by simp at hs8; omega)).trans H8.out.2.2.1); obtain ⟨r1, r2, r3, r4⟩ := box2 ((hb9.block w5.heap.size (by simp at hs8; omega)).trans H8.out.2.2.2); have H9 := Lib.hid (H8.out.1.trans (hb9.mono (by simp at hs8; omega))); clear hb9))
    go_wp2_with fail
    go_ret
    exact ⟨rfl, H9.out⟩
  · rw [leftOf_lt (by omega)]
    go_wp2_with fail
    go_ret
    exact ⟨rfl, H2.out.1⟩
end Go.Proofs.Ytadbhjmpcnlbjaa

/- The law on GrowsBy: the walk over the contracts. -/
namespace Go.Proofs.Ytadbhjmpcnlbjaa
open Go.RowKit

/-- What the program's GrowsBy is to do. -/
def ImplGrowsBy : Prop := ∀ (w0 : World) (B : Nat) (kv cv : Value) (t : Tr) (n m : Int), TreeIn w0 B kv cv t → t.weight ≤ 1048576 → -9223372036854775808 ≤ n → n ≤ 9223372036854775807 → -9223372036854775808 ≤ m → m ≤ 9223372036854775807 → ∀ w', Below B w0 w' → B ≤ w'.heap.size →
  Calls Try.prog 43 #[.agg #[kv, cv], .int .i64 n, .int .i64 m] w' fun e w'' => e = .returned (.bool (Tr.growsB n m t)) ∧ Below w'.heap.size w' w''

set_option maxHeartbeats 2000000 in
set_option maxRecDepth 100000 in
theorem exGrowsBy_c {kv cv : Value} {t : Tr} (w : World) (ht : TreeIn w w.heap.size kv cv t) (n m : Int) (hd1 : -9223372036854775808 ≤ n) (hd2 : n ≤ 9223372036854775807) (hd3 : -9223372036854775808 ≤ m) (hd4 : m ≤ 9223372036854775807)
    (hI : ImplGrowsBy) :
    Calls Try.prog 12 #[.agg #[kv, cv], .int .i64 n, .int .i64 m] w fun e w' => e = .returned (.bool true) ∧ Below w.heap.size w w' := by
  obtain ⟨W1, hW1⟩ : ∃ W1, W1 = w.alloc (.cells #[kv, cv] 25) := ⟨_, rfl⟩
  have hs1 : W1.heap.size = w.heap.size + 1 := by rw [hW1]; simp
  have hb1 : Below w.heap.size w W1 := by rw [hW1]; exact (Below.refl _ _).alloc (Nat.le_refl _) _
  have kb : W1.heap[w.heap.size]? = some (.cells #[kv, cv] 25 (0, 0)) := by rw [hW1, new_blk]
  obtain ⟨x1, x2, x3, x4⟩ := box2 kb
  have HW1 := Lib.hid hW1
  have HT := Lib.hid ht
  have H1 := Lib.hid (And.intro hb1 kb)
  clear hW1 hb1 kb ht
  go_enter Try.func12, Try.ntmps12
  go_wp2_with fail
  rw [← HW1.out]
  refine (szTree_c HT.out W1 1048576 H1.out.1 (by omega) (by omega) (by omega)).mono ?_
  rintro e w2 ⟨rfl, hb2⟩
  have hs2 := hb2.size
  have kb2 := (hb2.block w.heap.size (by omega)).trans H1.out.2
  have hb2' := H1.out.1.trans (hb2.mono (by omega))
  clear x1 x2 x3 x4
  obtain ⟨x1, x2, x3, x4⟩ := box2 kb2
  have H2 := Lib.hid (And.intro hb2' kb2)
  clear hb2 hb2' kb2
  by_cases hwt : t.weight ≤ 1048576
  · rw [leftOf_ge (by omega)]
    have hnn : ¬ ((1048576 : Int) - (t.weight : Int) < 0) := by omega
    go_wp2_with fail
    -- the first copy, for the model
    refine (toTree_c HT.out hwt w2 H2.out.1 (by omega)).mono ?_
    rintro e w3 ⟨k3, c3, rfl, hn3, hb3⟩
    have hs3 := hb3.size
    have kb3 := (hb3.block w.heap.size (by omega)).trans H2.out.2
    have hb3' := H2.out.1.trans (hb3.mono (by omega))
    clear x1 x2 x3 x4
    obtain ⟨x1, x2, x3, x4⟩ := box2 kb3
    have H3 := Lib.hid (And.intro hb3' kb3)
    have HN3 := Lib.hid (hn3.tree hwt)
    clear hb3 hb3' kb3 hn3
    go_wp2_with fail
    refine (specGrowsBy_c HN3.out hwt n m w3 (Below.refl _ _) (Nat.le_refl _)).mono ?_
    rintro e w4 ⟨rfl, hb4⟩
    have hs4 := hb4.size
    have kb4 := (hb4.block w.heap.size (by omega)).trans H3.out.2
    have hb4' := H3.out.1.trans (hb4.mono (by omega))
    clear x1 x2 x3 x4
    obtain ⟨x1, x2, x3, x4⟩ := box2 kb4
    have H4 := Lib.hid (And.intro hb4' kb4)
    clear hb4 hb4' kb4
    go_wp2_with fail
    -- the second copy, for the program
    refine (toTree_c HT.out hwt w4 H4.out.1 (by omega)).mono ?_
    rintro e w5 ⟨k5, c5, rfl, hn5, hb5⟩
    obtain ⟨g5, h5, n5, m5, rfl, rfl⟩ := hn5.slices
    have hs5 := hb5.size
    have kb5 := (hb5.block w.heap.size (by omega)).trans H4.out.2
    have hb5' := H4.out.1.trans (hb5.mono (by omega))
    clear x1 x2 x3 x4
    obtain ⟨x1, x2, x3, x4⟩ := box2 kb5
    have H5 := Lib.hid (And.intro hb5' kb5)
    have HN5 := Lib.hid (hn5.tree hwt)
    clear hb5 hb5' kb5 hn5
    go_wp2_with fail
    obtain ⟨W6, hW6⟩ : ∃ W6, W6 = w5.alloc (.cells #[.slice (some ⟨g5, 0, none⟩) n5 n5, .slice (some ⟨h5, 0, none⟩) m5 m5] 30) := ⟨_, rfl⟩
    rw [← hW6]
    have hs6 : W6.heap.size = w5.heap.size + 1 := by rw [hW6]; simp
    have hb6 : Below w5.heap.size w5 W6 := by rw [hW6]; exact (Below.refl _ _).alloc (Nat.le_refl _) _
    have kx6 : W6.heap[w5.heap.size]? = some (.cells #[.slice (some ⟨g5, 0, none⟩) n5 n5, .slice (some ⟨h5, 0, none⟩) m5 m5] 30 (0, 0)) := by rw [hW6, new_blk]
    have kb6 := (hb6.block w.heap.size (by omega)).trans H5.out.2
    have hb6' := H5.out.1.trans (hb6.mono (by omega))
    clear x1 x2 x3 x4 hW6
    refine (hI _ _ _ _ _ n m HN5.out hwt hd1 hd2 hd3 hd4 W6 hb6 (by omega)).mono ?_
    rintro e w7 ⟨rfl, hb7⟩
    have hs7 := hb7.size
    have kb7 := (hb7.block w.heap.size (by omega)).trans kb6
    have kx7 := (hb7.block w5.heap.size (by omega)).trans kx6
    have hb7' := hb6'.trans (hb7.mono (by omega))
    have hb57 : Below w5.heap.size w5 w7 := hb6.trans (hb7.mono (by omega))
    obtain ⟨x1, x2, x3, x4⟩ := box2 kb7
    obtain ⟨y1, y2, y3, y4⟩ := box2 kx7
    have H7 := Lib.hid (And.intro hb7' (And.intro kb7 (And.intro kx7 hb57)))
    have hne : (Tr.growsB n m t != Tr.growsB n m t) = false := by simp
    clear hb7 hb7' kb7 kx7 kb6 kx6 hb6 hb6' hb57
    go_wp2_with fail
    go_region_held3 (fun x => x.cell? ⟨w.heap.size, 0, none⟩ = some kv ∧ x.cell? ⟨w.heap.size, 1, none⟩ = some cv ∧ x.cell? ⟨w5.heap.size, 0, none⟩ = some (.slice (some ⟨g5, 0, none⟩) n5 n5) ∧ x.cell? ⟨w5.heap.size, 1, none⟩ = some (.slice (some ⟨h5, 0, none⟩) m5 m5))
      (first | exact ⟨x1, x2, y1, y2⟩ | exact ⟨z1, z2, u1, u2⟩ | exact ⟨q1, q2, r1, r2⟩ | go_keep)
      (first
        | (go_at_call 17; refine (toTree_c HT.out hwt _ (H7.out.1.drew) (by simp; omega)).mono ?_; rintro e w8 ⟨k8, c8, rfl, hn8, hb8⟩; obtain ⟨g8, h8, n8, m8, rfl, rfl⟩ := hn8.slices; have hs8 := hb8.size; have HN8 := Lib.hid (hn8.tree hwt); have kb8 := (hb8.block w.heap.size (by simp; omega)).trans H7.out.2.1; have kx8 := (hb8.block w5.heap.size (by simp; omega)).trans H7.out.2.2.1; obtain ⟨z1, z2, z3, z4⟩ := box2 kb8; obtain ⟨u1, u2, u3, u4⟩ := box2 kx8; have H8 := Lib.hid (And.intro (H7.out.1.drew.trans (hb8.mono (by simp; omega))) (And.intro (H7.out.2.2.2.drew.trans (hb8.mono (by simp; omega))) (And.intro kb8 kx8))); clear hb8 hn8 kb8 kx8)
        | (go_at_call 19; refine (eqTree_c (TreeIn.wider (TreeIn.later HN5.out H8.out.2.1 (Nat.le_refl _)) (by simp at hs8; omega)) _ _ HN8.out _ (Below.refl _ _) (Nat.le_refl _)).mono ?_; rintro e w9 ⟨rfl, hb9⟩; have hs9 := hb9.size; obtain ⟨q1, q2, q3, q4⟩ := box2 ((hb9.block w.heap.size (by simp at hs8; omega)).trans H8.out.2.2.1); obtain ⟨r1, r2, r3, r4⟩ := box2 ((hb9.block w5.heap.size (by simp at hs8; omega)).trans H8.out.2.2.2); have H9 := Lib.hid (H8.out.1.trans (hb9.mono (by simp at hs8; omega))); clear hb9))
    go_wp2_with fail
    go_ret
    exact ⟨rfl, H9.out⟩
  · rw [leftOf_lt (by omega)]
    go_wp2_with fail
    go_ret
    exact ⟨rfl, H2.out.1⟩
end Go.Proofs.Ytadbhjmpcnlbjaa

/- The contracts of the program's SplitsBy and GrowsBy. -/
namespace Go.Proofs.Ytadbhjmpcnlbjaa
open Go.RowKit

set_option maxRecDepth 100000 in
set_option maxHeartbeats 2000000 in
theorem impl_splits : ImplSplitsBy := by
  intro w B kv cv t wide key ht hw hn1 hn2 _ _ w' hbw hB
  obtain ⟨a5, n5, m5, a6, n6, m6, rfl, rfl⟩ := ht.slices
  obtain ⟨W1, hW1⟩ : ∃ W1, W1 = w'.alloc (.cells #[.slice a5 n5 m5, .slice a6 n6 m6] 30) := ⟨_, rfl⟩
  have hs1 : W1.heap.size = w'.heap.size + 1 := by rw [hW1]; simp
  have hb1 : Below w'.heap.size w' W1 := by rw [hW1]; exact (Below.refl _ _).alloc (Nat.le_refl _) _
  have k0 : W1.heap[w'.heap.size]? = some (.cells #[.slice a5 n5 m5, .slice a6 n6 m6] 30 (0, 0)) := by rw [hW1, new_blk]
  obtain ⟨x1, x2, x3, x4⟩ := box2 k0
  have HT := Lib.hid ht
  have HBW := Lib.hid hbw
  have HW1 := Lib.hid hW1
  have H1 := Lib.hid hb1
  clear ht hbw hW1 hb1 k0
  go_enter Try.func41, Try.ntmps41
  go_wp2_with fail
  rw [← HW1.out]
  refine (grownBy_c HT.out hw wide key hn1 hn2 W1 (HBW.out.trans (H1.out.mono hB)) (by omega)).mono ?_
  intro e w2 hgo
  rcases hgo with ⟨ha, rfl, hb2⟩ | ⟨ha, gb, b, F, rfl, hgr, hF, hb2⟩
  · have HA := Lib.hid (show Tr.splitsB wide key t = -1 by simp [Tr.splitsB, ha])
    have H2 := Lib.hid (H1.out.trans (hb2.mono (by omega)))
    clear ha hb2 x1 x2 x3 x4
    go_wp2_with fail
    go_ret
    exact ⟨by rw [HA.out]; rfl, H2.out⟩
  · have HA := Lib.hid (show Tr.splitsB wide key t = Tr.insN wide key t by simp [Tr.splitsB, ha])
    have H2 := Lib.hid (H1.out.trans (hb2.mono (by omega)))
    obtain ⟨y1, y2, y3, y4, y5, y6, y7⟩ := hgr.box.cells
    clear ha hb2 x1 x2 x3 x4 hgr hF
    go_wp2_with fail
    go_ret
    exact ⟨by rw [HA.out]; rfl, H2.out⟩

set_option maxRecDepth 100000 in
set_option maxHeartbeats 2000000 in
theorem impl_grows : ImplGrowsBy := by
  intro w B kv cv t wide key ht hw hn1 hn2 _ _ w' hbw hB
  obtain ⟨a5, n5, m5, a6, n6, m6, rfl, rfl⟩ := ht.slices
  obtain ⟨W1, hW1⟩ : ∃ W1, W1 = w'.alloc (.cells #[.slice a5 n5 m5, .slice a6 n6 m6] 30) := ⟨_, rfl⟩
  have hs1 : W1.heap.size = w'.heap.size + 1 := by rw [hW1]; simp
  have hb1 : Below w'.heap.size w' W1 := by rw [hW1]; exact (Below.refl _ _).alloc (Nat.le_refl _) _
  have k0 : W1.heap[w'.heap.size]? = some (.cells #[.slice a5 n5 m5, .slice a6 n6 m6] 30 (0, 0)) := by rw [hW1, new_blk]
  obtain ⟨x1, x2, x3, x4⟩ := box2 k0
  have HT := Lib.hid ht
  have HBW := Lib.hid hbw
  have HW1 := Lib.hid hW1
  have H1 := Lib.hid hb1
  clear ht hbw hW1 hb1 k0
  go_enter Try.func43, Try.ntmps43
  go_wp2_with fail
  rw [← HW1.out]
  refine (grownBy_c HT.out hw wide key hn1 hn2 W1 (HBW.out.trans (H1.out.mono hB)) (by omega)).mono ?_
  intro e w2 hgo
  rcases hgo with ⟨ha, rfl, hb2⟩ | ⟨ha, gb, b, F, rfl, hgr, hF, hb2⟩
  · have HA := Lib.hid (show Tr.growsB wide key t = false by simp [Tr.growsB, ha])
    have H2 := Lib.hid (H1.out.trans (hb2.mono (by omega)))
    clear ha hb2 x1 x2 x3 x4
    go_wp2_with fail
    go_ret
    exact ⟨by rw [HA.out]; rfl, H2.out⟩
  · have HA := Lib.hid (show Tr.growsB wide key t = Tr.insG wide key t by simp [Tr.growsB, ha])
    have H2 := Lib.hid (H1.out.trans (hb2.mono (by omega)))
    obtain ⟨y1, y2, y3, y4, y5, y6, y7⟩ := hgr.box.cells
    clear ha hb2 x1 x2 x3 x4 hgr hF
    go_wp2_with fail
    go_ret
    exact ⟨by rw [HA.out]; rfl, H2.out⟩
end Go.Proofs.Ytadbhjmpcnlbjaa

/- The statement on SplitsBy, from the walk of its law. -/
namespace Go.Proofs.Ytadbhjmpcnlbjaa.exSplitsBy
open Go.ChangeShapes Go.WideShapes Go.ChangeAt Go.RowKit
set_option linter.unusedVariables false

theorem own : ownKnob Try.prog.godebug = none := by kernel_rfl
theorem laidOut : laidOutB Try.prog = true := by kernel_rfl

theorem walk (hI : ImplSplitsBy) (kv cv : Value) (t : Tr) (w : World) (ht : TreeIn w w.heap.size kv cv t) (n m : Int) (hn1 : -9223372036854775808 ≤ n) (hn2 : n ≤ 9223372036854775807) (hm1 : -9223372036854775808 ≤ m) (hm2 : m ≤ 9223372036854775807) :
    Calls Try.prog 11 #[.agg #[kv, cv], .int .i64 n, .int .i64 m] w fun e w' => e = .returned (.bool true) ∧ Below w.heap.size w w' := exSplitsBy_c w ht n m hn1 hn2 hm1 hm2 hI

set_option maxRecDepth 100000 in
set_option maxHeartbeats 1000000 in
theorem lifted (hI : ImplSplitsBy) (os : Os) (started : os.Started) (H : Type) (enc : TypeId × Value → H) :
    ReturnsInHanded {} Try.checked os 11 .any (Rows.fnExactSplitsBySpec.pre6 enc Try.prog Try.f11 Rows.fnExactSplitsByRow.domain false) (Rows.fnExactSplitsBySpec.post enc Try.prog Try.f11 false true false false) := by
  refine returnsInHanded_of_change (C := Try.checked) own started (by kernel_rfl) Try.func11
    (ChangeSpec.witness6 (enc := enc) (C := Try.checked) false ⟨#[], #[.agg #[.slice none 0 0, .slice none 0 0], .int .i64 0, .int .i64 0], []⟩ 8 (by kernel_rfl) (by kernel_rfl) (by kernel_rfl) (by kernel_rfl)) ?_
  intro W base args ds gs before hval0 hW hcnd _
  have hval : ∀ (j : Nat) t v, Try.f11.params[j]? = some t → args[j]? = some v → Value.okWide Try.prog W .any base t v := hval0
  have hW' := hW
  obtain ⟨p, q, hA0, hV, rfl, hfz, hnd⟩ := hW
  have hA : DataW.TrodAll enc Try.prog W 0 (fun _ => true) true Try.f11.params.toList args.toList ds p := hA0
  rw [Try.params11] at hA hval
  obtain ⟨v0, vs0, d0, ds0, p0, q0, hargs, rfl, rfl, h0, r0⟩ := trodAll_cons hA
  obtain ⟨v1, vs1, d1, ds1, p1, q1, rfl, rfl, rfl, h1, r1⟩ := trodAll_cons r0
  obtain ⟨v2, vs2, d2, ds2, p2, q2, rfl, rfl, rfl, h2, r2⟩ := trodAll_cons r1
  obtain ⟨rfl, rfl, rfl⟩ := trodAll_nil r2
  obtain rfl : args = #[v0, v1, v2] := by cases args; simp_all
  obtain ⟨rfl, rfl⟩ := trodVars_none hV
  obtain ⟨cs, rfl, hcs⟩ := okWide_struct Try.underlying25 (hval 0 25 v0 rfl rfl)
  have k0 := h0
  have lt0 : ∀ x ∈ p0, x.block < W.heap.size := by obtain ⟨m, hm⟩ := k0; exact DataW.trod_lt m _ _ _ hm
  obtain ⟨kv, cv, t, hkc, ht, hf⟩ : ∃ kv cv t, cs = #[kv, cv] ∧ TreeIn W W.heap.size kv cv t ∧ Tr.Fit t := by
    obtain ⟨fuel, hf⟩ := h0
    obtain ⟨kv, cv, t, hcl, ht, hft⟩ := tree_of_trod fuel hf
    exact ⟨kv, cv, t, by cases cs; simp_all [Value.cells], ht, hft⟩
  subst hkc
  obtain ⟨n1, rfl, rfl, rfl, wn1⟩ := open_int Try.underlying3 (hval 1 3 v1 rfl rfl) h1
  have hfit1 : -9223372036854775808 ≤ n1 ∧ n1 ≤ 9223372036854775807 := by simpa [Lit.wf, IntKind.min, IntKind.max, IntKind.signed, IntKind.bits] using wn1
  obtain ⟨n2, rfl, rfl, rfl, wn2⟩ := open_int Try.underlying3 (hval 2 3 v2 rfl rfl) h2
  have hfit2 : -9223372036854775808 ≤ n2 ∧ n2 ≤ 9223372036854775807 := by simpa [Lit.wf, IntKind.min, IntKind.max, IntKind.signed, IntKind.bits] using wn2
  clear hA0 hval0
  refine (walk hI kv cv t W ht n1 n2 hfit1.1 hfit1.2 hfit2.1 hfit2.2).mono fun e W' ⟨he, bel⟩ => ?_
  subst he
  exact ⟨_, rfl, _, _, _, [], _, [], hW', trodAll_mk1 (shut_bool Try.underlying4 _), (trodAll_cons_mk (Below.trod laidOut (by kernel_rfl) (of_decide_eq_true (by kernel_rfl)) k0 bel lt0) (trodAll_cons_mk (shut_int Try.underlying3 wn1) (trodAll_cons_mk (shut_int Try.underlying3 wn2) trodAll_mk0))), rfl, bel.frame _, fun h => by cases h⟩

theorem closed : joinedFacts Try.prog 11 Try.f11 Rows.fnExactSplitsBySpec Rows.fnExactSplitsByRow = true := by
  unfold joinedFacts
  exact band (band (band (band (band (band (band (by kernel_rfl) fact_enter) fact_lifts) fact_make) (by kernel_rfl)) (by kernel_rfl)) (by kernel_rfl)) (by kernel_rfl)

theorem over (hI : ImplSplitsBy) : Rows.fnExactSplitsByRow.holds Try.pinned (OpenSpec.ofChange Rows.fnExactSplitsBySpec) :=
  OpenClaim.holds_of_wide 11 Try.f11 rfl rfl rfl rfl rfl rfl rfl ⟨rfl, rfl, rfl, rfl, rfl⟩ rfl rfl rfl rfl rfl (by kernel_rfl) Try.func11 closed
    (of_decide_eq_true (by kernel_rfl)) (by unfold Func.isWrapper; first | (rw [if_pos (by decide +kernel)]; kernel_rfl) | (rw [if_neg (by decide +kernel)]; exact ⟨rfl, rfl⟩))
    (fun os started H enc _ => lifted hI os started H enc)

theorem proved (hI : ImplSplitsBy) : Rows.FnExactSplitsBySaid := over hI
end Go.Proofs.Ytadbhjmpcnlbjaa.exSplitsBy

/- For every tree in memory and any two ints, the law on SplitsBy returns true and leaves its arguments as they were; no conditions. -/
namespace Go.Proofs.Ytadbhjmpcnlbjaa

theorem splits_by_said : Rows.FnExactSplitsBySaid := exSplitsBy.proved impl_splits
end Go.Proofs.Ytadbhjmpcnlbjaa
