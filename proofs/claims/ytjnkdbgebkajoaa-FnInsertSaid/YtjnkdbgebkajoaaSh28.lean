/- The model's InsertKey, its contract. -/
import Derived.Test.YtjnkdbgebkajoaaProg
import Derived.Test.YtjnkdbgebkajoaaSh0
import Derived.Test.YtjnkdbgebkajoaaSh27
import Derived.Test.YtjnkdbgebkajoaaCopyC
import Derived.Deep.Cut

/- The model's InsertKey. -/
namespace Go.Proofs.Ytjnkdbgebkajoaa
open Go.RowKit

/-- The tree that InsertKey tells. -/
def Tr.insKeyT (wide key : Int) (t : Tr) : Tr := if Tr.askedB wide key t then Tr.insT wide key t else .mk [] []
theorem Tr.insKey_weight (wide key : Int) (t : Tr) : (Tr.insKeyT wide key t).weight ≤ 1048576 := by
  unfold Tr.insKeyT
  split
  · rename_i h
    have := Tr.insT_weight wide key t
    have := Tr.valid_small (Tr.asked_path h).1
    omega
  · simp [weight, weights]

theorem box7' {w : World} {b : Nat} {a0 a1 a2 a3 a4 a5 a6 : Value} {t : TypeId} (h : w.heap[b]? = some (.cells #[a0, a1, a2, a3, a4, a5, a6] t (0, 0))) :
    w.cell? ⟨b, 0, none⟩ = some a0 ∧ w.cell? ⟨b, 1, none⟩ = some a1 ∧ w.cell? ⟨b, 2, none⟩ = some a2 ∧ w.cell? ⟨b, 3, none⟩ = some a3 ∧ w.cell? ⟨b, 4, none⟩ = some a4 ∧ w.cell? ⟨b, 5, none⟩ = some a5 ∧ w.cell? ⟨b, 6, none⟩ = some a6 := by
  refine ⟨?_, ?_, ?_, ?_, ?_, ?_, ?_⟩ <;> simp [World.cell?, h]

/-- The tree that a split is. -/
def Tr.rootT (wide : Int) (u : Tr) : Tr := if wide < (u.ks.length : Int) then .mk [u.midOf] [u.leftOf, u.rightOf] else u

set_option maxRecDepth 100000 in
set_option maxHeartbeats 2000000 in
theorem l3Root_p {w : World} {Q : Nat → Prop} {v : Value} {wide : Int} {u : Tr} {n : Nat} (h : SplitIn w Q v wide u n) (hq : ∀ q, Q q → q < w.heap.size) :
    Calls Try.prog 127 #[v] w fun e w' => ∃ kv cv, e = .returned (.agg #[kv, cv]) ∧ TreeP w' (fun q => Q q ∨ (w.heap.size ≤ q ∧ q < w'.heap.size)) kv cv (Tr.rootT wide u) ∧ Below w.heap.size w w' := by
  obtain ⟨lk, lc, rk, rc, mid, cnt, rfl, ⟨a1, n1, c1, a2, n2, c2, rfl, rfl⟩, ⟨a3, n3, c3, a4, n4, c4, rfl, rfl⟩, hyes, hno⟩ := h
  unfold splitV
  obtain ⟨B, hBd⟩ : ∃ B, B = decide (wide < (u.ks.length : Int)) := ⟨_, rfl⟩
  rw [← hBd]
  obtain ⟨W1, hW1⟩ : ∃ W1, W1 = (w.alloc (.cells #[.slice a1 n1 c1, .slice a2 n2 c2, .int .i64 mid, .slice a3 n3 c3, .slice a4 n4 c4, .bool B, .int .i64 cnt] 65)).alloc (.cells #[.slice none 0 0, .slice none 0 0] 26) := ⟨_, rfl⟩
  have hs1 : W1.heap.size = w.heap.size + 2 := by rw [hW1]; simp
  have hb1 : Below w.heap.size w W1 := by rw [hW1]; exact ((Below.refl _ _).alloc (Nat.le_refl _) _).alloc (by simp) _
  have kt : W1.heap[w.heap.size]? = some (.cells #[.slice a1 n1 c1, .slice a2 n2 c2, .int .i64 mid, .slice a3 n3 c3, .slice a4 n4 c4, .bool B, .int .i64 cnt] 65 (0, 0)) := by rw [hW1, old_blk _ _ _ (by simp), new_blk]
  have kb : W1.heap[w.heap.size + 1]? = some (.cells #[.slice none 0 0, .slice none 0 0] 26 (0, 0)) := by
    rw [hW1, show w.heap.size + 1 = (w.alloc (.cells #[.slice a1 n1 c1, .slice a2 n2 c2, .int .i64 mid, .slice a3 n3 c3, .slice a4 n4 c4, .bool B, .int .i64 cnt] 65)).heap.size by simp, new_blk]
  have ktx := kt
  rw [hW1] at ktx
  obtain ⟨x0, x1, x2, x3, x4, x5, x6⟩ := box7' ktx
  have HW1 := Lib.hid hW1
  have HB1 := Lib.hid (And.intro hb1 (And.intro kb kt))
  have HY := Lib.hid (And.intro hyes (And.intro hno hq))
  have HBD := Lib.hid hBd
  clear ktx hW1 hb1 kb kt hyes hno hq hBd
  go_enter Try.func127, Try.ntmps127
  cases B with
  | false =>
    go_wp2_with fail
    have hnb : ¬ wide < (u.ks.length : Int) := of_decide_eq_false HBD.out.symm
    obtain ⟨W2, hW2⟩ : ∃ W2, W2 = (w.alloc (.cells #[.slice a1 n1 c1, .slice a2 n2 c2, .int .i64 mid, .slice a3 n3 c3, .slice a4 n4 c4, .bool false, .int .i64 cnt] 65)).alloc (.cells #[.slice a1 n1 c1, .slice a2 n2 c2] 26) := ⟨_, rfl⟩
    rw [← hW2]
    have hb2 : Below w.heap.size w W2 := by rw [hW2]; exact ((Below.refl _ _).alloc (Nat.le_refl _) _).alloc (by simp) _
    have kb : W2.heap[w.heap.size + 1]? = some (.cells #[.slice a1 n1 c1, .slice a2 n2 c2] 26 (0, 0)) := by
      rw [hW2, show w.heap.size + 1 = (w.alloc (.cells #[.slice a1 n1 c1, .slice a2 n2 c2, .int .i64 mid, .slice a3 n3 c3, .slice a4 n4 c4, .bool false, .int .i64 cnt] 65)).heap.size by simp, new_blk]
    obtain ⟨d1, d2, d3, d4⟩ := box2 kb
    clear hW2
    refine bodyPost_ret (v := .agg #[.slice a1 n1 c1, .slice a2 n2 c2]) (by simp [results, Try.results127, go_sem, d1, d2]) rfl ⟨_, _, rfl, ?_, hb2⟩
    unfold Tr.rootT
    rw [if_neg hnb]
    exact (HY.out.2.1 (by omega)).1.same (fun k e => hb2.block k (HY.out.2.2 k e)) (fun k e => .inl e)
  | true =>
    go_wp2_with fail
    have hyb : wide < (u.ks.length : Int) := of_decide_eq_true HBD.out.symm
    clear x0 x1 x2 x3 x4 x5 x6
    obtain ⟨WB, hWB⟩ : ∃ WB, WB = (w.alloc (.cells #[.slice a1 n1 c1, .slice a2 n2 c2, .int .i64 mid, .slice a3 n3 c3, .slice a4 n4 c4, .bool true, .int .i64 cnt] 65)).alloc (.cells #[.slice (some ⟨w.heap.size + 1 + 1, 0, none⟩) 1 1, .slice (some ⟨w.heap.size + 1 + 1 + 1, 0, none⟩) 2 2] 26) := ⟨_, rfl⟩
    rw [← hWB]
    have hsB : WB.heap.size = w.heap.size + 1 + 1 := by rw [hWB]; simp
    have hbB : Below w.heap.size w WB := by rw [hWB]; exact ((Below.refl _ _).alloc (Nat.le_refl _) _).alloc (by simp) _
    have kb : WB.heap[w.heap.size + 1]? = some (.cells #[.slice (some ⟨w.heap.size + 1 + 1, 0, none⟩) 1 1, .slice (some ⟨w.heap.size + 1 + 1 + 1, 0, none⟩) 2 2] 26 (0, 0)) := by
      rw [hWB, show w.heap.size + 1 = (w.alloc (.cells #[.slice a1 n1 c1, .slice a2 n2 c2, .int .i64 mid, .slice a3 n3 c3, .slice a4 n4 c4, .bool true, .int .i64 cnt] 65)).heap.size by simp, new_blk]
    clear hWB
    obtain ⟨WC, hWC⟩ : ∃ WC, WC = WB.alloc (.cells #[.int .i64 mid] 3) := ⟨_, rfl⟩
    rw [← hWC]
    have hsC : WC.heap.size = w.heap.size + 1 + 1 + 1 := by rw [hWC]; simp [hsB]
    have hbC : Below WB.heap.size WB WC := by rw [hWC]; exact (Below.refl _ _).alloc (Nat.le_refl _) _
    have kc : WC.heap[w.heap.size + 1 + 1]? = some (.cells #[.int .i64 mid] 3 (0, 0)) := by rw [hWC, ← hsB, new_blk]
    clear hWC
    obtain ⟨WD, hWD⟩ : ∃ WD, WD = WC.alloc (.cells #[.slice a1 n1 c1, .slice a2 n2 c2, .slice a3 n3 c3, .slice a4 n4 c4] 26) := ⟨_, rfl⟩
    rw [← hWD]
    have hsD : WD.heap.size = w.heap.size + 1 + 1 + 1 + 1 := by rw [hWD]; simp [hsC]
    have hbD : Below WC.heap.size WC WD := by rw [hWD]; exact (Below.refl _ _).alloc (Nat.le_refl _) _
    have kd : WD.heap[w.heap.size + 1 + 1 + 1]? = some (.cells #[.slice a1 n1 c1, .slice a2 n2 c2, .slice a3 n3 c3, .slice a4 n4 c4] 26 (0, 0)) := by rw [hWD, ← hsC, new_blk]
    clear hWD
    have hbT : Below w.heap.size w WD := hbB.trans ((hbC.mono (by omega)).trans (hbD.mono (by omega)))
    have kb' := (hbD.block _ (by omega)).trans ((hbC.block _ (by omega)).trans kb)
    have kc' := (hbD.block _ (by omega)).trans kc
    obtain ⟨d1, d2, d3, d4⟩ := box2 kb'
    obtain ⟨e1, -⟩ := box1 kc'
    refine bodyPost_ret (v := .agg #[.slice (some ⟨w.heap.size + 1 + 1, 0, none⟩) 1 1, .slice (some ⟨w.heap.size + 1 + 1 + 1, 0, none⟩) 2 2]) (by simp [results, Try.results127, go_sem, d1, d2]) rfl ⟨_, _, rfl, ?_, hbT⟩
    unfold Tr.rootT
    rw [if_pos hyb]
    obtain ⟨hl, hr, rfl, -⟩ := HY.out.1 hyb
    refine .mk [u.midOf] [u.leftOf, u.rightOf] _ (some ⟨w.heap.size + 1 + 1 + 1, 0, none⟩) 2 (fun i => if i = 0 then .slice a1 n1 c1 else .slice a3 n3 c3) (fun i => if i = 0 then .slice a2 n2 c2 else .slice a4 n4 c4)
      ⟨_, 1, rfl, Nat.le_refl _, by unfold maxLen; omega, by simp, .inr ⟨w.heap.size + 1 + 1, 0, rfl, .inr ⟨by omega, by omega⟩, fun i hi => ?_⟩⟩ (by simp) (by unfold maxLen; omega) (.inr ⟨w.heap.size + 1 + 1 + 1, 0, rfl, .inr ⟨by omega, by omega⟩, fun i hi => ?_⟩) (fun i hi => ?_)
    · have : i = 0 := by simpa using hi
      subst this
      exact e1
    · have hi' : i < 2 := by simpa using hi
      have hc : ∀ j v, (#[Value.slice a1 n1 c1, .slice a2 n2 c2, .slice a3 n3 c3, .slice a4 n4 c4] : Array Value)[j]? = some v → WD.cell? ⟨w.heap.size + 1 + 1 + 1, j, none⟩ = some v := fun j v h => by simpa [World.cell?, kd] using h
      rcases (by omega : i = 0 ∨ i = 1) with rfl | rfl
      · exact ⟨hc 0 _ rfl, hc 1 _ rfl⟩
      · exact ⟨hc 2 _ rfl, hc 3 _ rfl⟩
    · have hi' : i < 2 := by simpa using hi
      rcases (by omega : i = 0 ∨ i = 1) with rfl | rfl
      · exact hl.same (fun k e => hbT.block k (HY.out.2.2 k e)) (fun k e => .inl e)
      · exact hr.same (fun k e => hbT.block k (HY.out.2.2 k e)) (fun k e => .inl e)

theorem l3Root_c {w : World} {Q : Nat → Prop} {v : Value} {wide : Int} {u : Tr} {n : Nat} (h : SplitIn w Q v wide u n) (hq : ∀ q, Q q → q < w.heap.size) :
    Calls Try.prog 127 #[v] w fun e w' => ∃ kv cv, e = .returned (.agg #[kv, cv]) ∧ TreeIn w' w'.heap.size kv cv (Tr.rootT wide u) ∧ Below w.heap.size w w' := by
  refine (l3Root_p h hq).mono ?_
  rintro e w' ⟨kv, cv, rfl, ht, hb⟩
  exact ⟨kv, cv, rfl, ht.tree (fun q e => e.elim (fun e => Nat.lt_of_lt_of_le (hq q e) hb.size) (fun e => e.2)), hb⟩
end Go.Proofs.Ytjnkdbgebkajoaa

/- The model's InsertKey, its contract. -/
namespace Go.Proofs.Ytjnkdbgebkajoaa
open Go.RowKit

set_option maxRecDepth 100000 in
set_option maxHeartbeats 2000000 in
theorem l3Key_c {w : World} {B : Nat} {kv cv : Value} {t : Tr} (ht : TreeIn w B kv cv t) (wide key : Int) (hv : Tr.validB wide t = true) (w' : World) (hbw : Below B w w') (hB : B ≤ w'.heap.size) :
    Calls Try.prog 89 #[.agg #[kv, cv], .int .i64 wide, .int .i64 key] w' fun e w'' => ∃ kv' cv' P, e = .returned (.agg #[kv', cv']) ∧ TreeO w'' w'.heap.size P kv' cv' (Tr.insT wide key t) ∧ Below w'.heap.size w' w'' := by
  obtain ⟨a5, n5, m5, a6, n6, m6, rfl, rfl⟩ := ht.slices
  obtain ⟨W1, hW1⟩ : ∃ W1, W1 = (w'.alloc (.cells #[.slice a5 n5 m5, .slice a6 n6 m6] 26)).alloc (.cells #[.slice none 0 0, .slice none 0 0] 26) := ⟨_, rfl⟩
  have hs1 : W1.heap.size = w'.heap.size + 2 := by rw [hW1]; simp
  have hb1 : Below w'.heap.size w' W1 := by rw [hW1]; exact ((Below.refl _ _).alloc (Nat.le_refl _) _).alloc (by simp) _
  have k0 : W1.heap[w'.heap.size]? = some (.cells #[.slice a5 n5 m5, .slice a6 n6 m6] 26 (0, 0)) := by rw [hW1, old_blk _ _ _ (by simp), new_blk]
  have kb : W1.heap[w'.heap.size + 1]? = some (.cells #[.slice none 0 0, .slice none 0 0] 26 (0, 0)) := by
    rw [hW1, show w'.heap.size + 1 = (w'.alloc (.cells #[.slice a5 n5 m5, .slice a6 n6 m6] 26)).heap.size by simp, new_blk]
  have k0x := k0
  rw [hW1] at k0x
  obtain ⟨x1, x2, x3, x4⟩ := box2 k0x
  have hsm := Tr.valid_small hv
  have hcall := l3Insert_c wide key (Tr.valid_wide hv) 200 t hsm (by omega) (Tr.valid_well hv) W1 (· < B) _ _ (fun q h => by omega) (ht.later (hbw.trans (hb1.mono hB)) (Nat.le_refl _)).p
  have hiw := Tr.insT_weight wide key t
  have HC := Lib.hid hcall
  have HT := Lib.hid ht
  have HBW := Lib.hid hbw
  have HW1 := Lib.hid hW1
  have H1 := Lib.hid (And.intro hb1 kb)
  clear ht hbw hW1 hb1 k0 kb k0x hcall
  go_enter Try.func89, Try.ntmps89
  go_wp2_with fail
  rw [← HW1.out]
  refine HC.out.mono ?_
  rintro e w2 ⟨v2, rfl, hsp, hb2⟩
  have hs2 := hb2.size
  have HB2 := Lib.hid hb2
  have hroot := l3Root_c hsp (fun q h => by
    rcases h with h | h
    · have : q < B := h
      omega
    · exact h.2)
  have HR := Lib.hid hroot
  clear hsp hb2 hroot x1 x2 x3 x4
  go_wp2_with fail
  refine HR.out.mono ?_
  rintro e w3 ⟨k3, c3, rfl, ht3, hb3⟩
  obtain ⟨p1, p2, p3, p4, p5, p6, rfl, rfl⟩ := ht3.slices
  have hs3 := hb3.size
  have ht3' : TreeIn w3 w3.heap.size (.slice p1 p2 p3) (.slice p4 p5 p6) (Tr.insT wide key t) := ht3
  have HB3 := Lib.hid hb3
  have HCP := Lib.hid (copy_c ht3' (by omega) w3 (Below.refl _ _) (Nat.le_refl _))
  clear ht3 ht3' hb3
  go_wp2_with fail
  refine HCP.out.mono ?_
  rintro e w4 ⟨k4, c4, P, rfl, ht4, hb4⟩
  obtain ⟨q1, q2, q3, q4, q5, q6, rfl, rfl⟩ := ht4.tree.slices
  have hs4 := hb4.size
  have hbr : Below W1.heap.size W1 w4 := HB2.out.trans ((HB3.out.mono hs2).trans (hb4.mono (by omega)))
  have hrb := (hbr.block (w'.heap.size + 1) (by omega)).trans H1.out.2
  obtain ⟨r1, r2, r3, r4⟩ := box2 hrb
  have HZ := Lib.hid (And.intro ht4 (And.intro hbr hrb))
  clear ht4 hb4 hbr hrb
  go_wp2_with fail
  obtain ⟨wf, hwf⟩ : ∃ wf, wf = (w4.setCell ⟨w'.heap.size + 1, 0, none⟩ (.slice q1 q2 q3)).setCell ⟨w'.heap.size + 1, 1, none⟩ (.slice q4 q5 q6) := ⟨_, rfl⟩
  have hfb : wf.heap[w'.heap.size + 1]? = some (.cells #[.slice q1 q2 q3, .slice q4 q5 q6] 26 (0, 0)) := by
    rw [hwf]; exact set_blk (o := 1) _ (set_blk (o := 0) _ HZ.out.2.2)
  obtain ⟨d1, d2, d3, d4⟩ := box2 hfb
  rw [← hwf]
  refine bodyPost_ret (v := .agg #[.slice q1 q2 q3, .slice q4 q5 q6]) (by simp [results, Try.results89, go_sem, d1, d2]) rfl ⟨_, _, P, rfl, ?_, ?_⟩
  · exact (HZ.out.1.same (w' := wf) (by rw [hwf]; simp) (fun q e => by have := (HZ.out.1.lt q e).1; rw [hwf, set_other _ _ _ _ _ (by omega), set_other _ _ _ _ _ (by omega)])).lower (by omega)
  · rw [hwf]; exact ((H1.out.1.trans (HZ.out.2.1.mono (by omega))).setCell (by show w'.heap.size ≤ w'.heap.size + 1; omega) _).setCell (by show w'.heap.size ≤ w'.heap.size + 1; omega) _

set_option maxRecDepth 100000 in
set_option maxHeartbeats 2000000 in
theorem specInsertKey_c {w : World} {B : Nat} {kv cv : Value} {t : Tr} (ht : TreeIn w B kv cv t) (hw : t.weight ≤ 1048576) (wide key : Int) (w' : World) (hbw : Below B w w') (hB : B ≤ w'.heap.size) :
    Calls Try.prog 34 #[.agg #[kv, cv], .int .i64 wide, .int .i64 key] w' fun e w'' => ∃ kv' cv' P, e = .returned (.tuple #[.agg #[kv', cv'], .bool (Tr.askedB wide key t)]) ∧ TreeO w'' w'.heap.size P kv' cv' (Tr.insKeyT wide key t) ∧ Below w'.heap.size w' w'' := by
  obtain ⟨a5, n5, m5, a6, n6, m6, rfl, rfl⟩ := ht.slices
  obtain ⟨W1, hW1⟩ : ∃ W1, W1 = (w'.alloc (.cells #[.slice a5 n5 m5, .slice a6 n6 m6] 26)).alloc (.cells #[.slice none 0 0, .slice none 0 0] 26) := ⟨_, rfl⟩
  have hs1 : W1.heap.size = w'.heap.size + 2 := by rw [hW1]; simp
  have hb1 : Below w'.heap.size w' W1 := by rw [hW1]; exact ((Below.refl _ _).alloc (Nat.le_refl _) _).alloc (by simp) _
  have k0 : W1.heap[w'.heap.size]? = some (.cells #[.slice a5 n5 m5, .slice a6 n6 m6] 26 (0, 0)) := by rw [hW1, old_blk _ _ _ (by simp), new_blk]
  have kb : W1.heap[w'.heap.size + 1]? = some (.cells #[.slice none 0 0, .slice none 0 0] 26 (0, 0)) := by
    rw [hW1, show w'.heap.size + 1 = (w'.alloc (.cells #[.slice a5 n5 m5, .slice a6 n6 m6] 26)).heap.size by simp, new_blk]
  have k0x := k0
  rw [hW1] at k0x
  obtain ⟨x1, x2, x3, x4⟩ := box2 k0x
  have HT := Lib.hid ht
  have HBW := Lib.hid hbw
  have HW1 := Lib.hid hW1
  have H1 := Lib.hid (And.intro hb1 (And.intro kb k0))
  clear ht hbw hW1 hb1 k0 kb k0x
  go_enter Try.func34, Try.ntmps34
  go_wp2_with fail
  rw [← HW1.out]
  refine (specAsked_c HT.out hw wide key W1 (HBW.out.trans (H1.out.1.mono hB)) (by omega)).mono ?_
  rintro e w2 ⟨rfl, hb2⟩
  have hs2 := hb2.size
  clear x1 x2 x3 x4
  have j0 := (hb2.block _ (by omega)).trans H1.out.2.2
  have hrb := (hb2.block (w'.heap.size + 1) (by omega)).trans H1.out.2.1
  obtain ⟨x1, x2, x3, x4⟩ := box2 j0
  obtain ⟨r1, r2, r3, r4⟩ := box2 hrb
  have H2 := Lib.hid (And.intro (H1.out.1.trans (hb2.mono (by omega))) hrb)
  clear hb2 j0 hrb
  cases ha : Tr.askedB wide key t with
  | false =>
    have HA := Lib.hid (show Tr.insKeyT wide key t = .mk [] [] by simp [Tr.insKeyT, ha])
    have HAB := Lib.hid ha
    clear ha
    go_wp2_with fail
    obtain ⟨wf, hwf⟩ : ∃ wf, wf = (w2.setCell ⟨w'.heap.size + 1, 0, none⟩ (.slice none 0 0)).setCell ⟨w'.heap.size + 1, 1, none⟩ (.slice none 0 0) := ⟨_, rfl⟩
    have hfb : wf.heap[w'.heap.size + 1]? = some (.cells #[.slice none 0 0, .slice none 0 0] 26 (0, 0)) := by
      rw [hwf]; exact set_blk (o := 1) _ (set_blk (o := 0) _ H2.out.2)
    obtain ⟨d1, d2, d3, d4⟩ := box2 hfb
    rw [← hwf]
    refine bodyPost_ret (v := .tuple #[.agg #[.slice none 0 0, .slice none 0 0], .bool false]) (by simp [results, Try.results34, go_sem, d1, d2]) rfl ⟨_, _, _, by rw [HAB.out], by rw [HA.out]; exact TreeO.nil _ _, ?_⟩
    rw [hwf]; exact (H2.out.1.setCell (by show w'.heap.size ≤ w'.heap.size + 1; omega) _).setCell (by show w'.heap.size ≤ w'.heap.size + 1; omega) _
  | true =>
    have HA := Lib.hid (show Tr.insKeyT wide key t = Tr.insT wide key t by simp [Tr.insKeyT, ha])
    have HAB := Lib.hid ha
    have hkey := l3Key_c HT.out wide key (Tr.asked_path ha).1 w2 (HBW.out.trans (H2.out.1.mono hB)) (by omega)
    have HK := Lib.hid hkey
    clear ha hkey
    go_wp2_with fail
    refine HK.out.mono ?_
    rintro e w4 ⟨k4, c4, P, rfl, ht4, hb4⟩
    obtain ⟨q1, q2, q3, q4, q5, q6, rfl, rfl⟩ := ht4.tree.slices
    have hs4 := hb4.size
    have hrb := (hb4.block (w'.heap.size + 1) (by omega)).trans H2.out.2
    clear r1 r2 r3 r4 x1 x2 x3 x4
    obtain ⟨r1, r2, r3, r4⟩ := box2 hrb
    have HZ := Lib.hid (And.intro ht4 (And.intro hb4 hrb))
    clear ht4 hb4 hrb
    go_wp2_with fail
    obtain ⟨wf, hwf⟩ : ∃ wf, wf = (w4.setCell ⟨w'.heap.size + 1, 0, none⟩ (.slice q1 q2 q3)).setCell ⟨w'.heap.size + 1, 1, none⟩ (.slice q4 q5 q6) := ⟨_, rfl⟩
    have hfb : wf.heap[w'.heap.size + 1]? = some (.cells #[.slice q1 q2 q3, .slice q4 q5 q6] 26 (0, 0)) := by
      rw [hwf]; exact set_blk (o := 1) _ (set_blk (o := 0) _ HZ.out.2.2)
    obtain ⟨d1, d2, d3, d4⟩ := box2 hfb
    rw [← hwf]
    refine bodyPost_ret (v := .tuple #[.agg #[.slice q1 q2 q3, .slice q4 q5 q6], .bool true]) (by simp [results, Try.results34, go_sem, d1, d2]) rfl ⟨_, _, P, by rw [HAB.out], ?_, ?_⟩
    · rw [HA.out]
      exact (HZ.out.1.same (w' := wf) (by rw [hwf]; simp) (fun q e => by have := (HZ.out.1.lt q e).1; rw [hwf, set_other _ _ _ _ _ (by omega), set_other _ _ _ _ _ (by omega)])).lower (by omega)
    · rw [hwf]; exact ((H2.out.1.trans (HZ.out.2.1.mono (by omega))).setCell (by show w'.heap.size ≤ w'.heap.size + 1; omega) _).setCell (by show w'.heap.size ≤ w'.heap.size + 1; omega) _
end Go.Proofs.Ytjnkdbgebkajoaa
