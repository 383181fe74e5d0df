/- The contract of the model's l1Leaf. -/
import Derived.Test.YtananonjomfpkaaProg
import Derived.Test.YtananonjomfpkaaPe0
import Derived.Test.YtananonjomfpkaaTo
import Derived.Test.YtananonjomfpkaaPe21
import Derived.Test.YtananonjomfpkaaPe6

/- markTree over trees that a call owns, and heldTree: the marks are there. -/
namespace Go.Proofs.Ytananonjomfpkaa
open Go.RowKit

/-- Nothing outside the blocks P has turned. -/
structure KeptB (P : Blocks) (w w' : World) : Prop where
  os : w'.os = w.os
  tape : w'.tape = w.tape
  output : w'.output = w.output
  size : w.heap.size ≤ w'.heap.size
  block : ∀ k, k < w.heap.size → ¬ P k → w'.heap[k]? = w.heap[k]?

theorem KeptB.refl (P : Blocks) (w : World) : KeptB P w w := ⟨rfl, rfl, rfl, Nat.le_refl _, fun _ _ _ => rfl⟩
theorem KeptB.mono {P Q : Blocks} {w w' : World} (h : KeptB P w w') (hs : ∀ k, P k → Q k) : KeptB Q w w' := ⟨h.os, h.tape, h.output, h.size, fun k h1 h2 => h.block k h1 (fun g => h2 (hs k g))⟩
theorem KeptB.trans {P : Blocks} {a b c : World} (h : KeptB P a b) (k : KeptB P b c) : KeptB P a c :=
  ⟨k.os.trans h.os, k.tape.trans h.tape, k.output.trans h.output, Nat.le_trans h.size k.size, fun i h1 h2 => (k.block i (Nat.lt_of_lt_of_le h1 h.size) h2).trans (h.block i h1 h2)⟩
theorem KeptB.of_below {P : Blocks} {C : Nat} {w w' : World} (h : Below C w w') (hC : w.heap.size ≤ C) : KeptB P w w' := ⟨h.os, h.tape, h.output, h.size, fun k h1 _ => h.block k (by omega)⟩
theorem KeptB.below {P : Blocks} {B : Nat} {w w' : World} (h : KeptB P w w') (hB : B ≤ w.heap.size) (hP : ∀ k, P k → B ≤ k) : Below B w w' :=
  ⟨h.os, h.tape, h.output, h.size, fun k hk => h.block k (by omega) (fun g => by have := hP k g; omega)⟩

theorem TreeO.kept {w w' : World} {lo : Nat} {P Q : Blocks} {kv cv : Value} {t : Tr} (h : TreeO w lo P kv cv t) (hk : KeptB Q w w') (hd : ∀ b, P b → ¬ Q b) : TreeO w' lo P kv cv t :=
  h.same hk.size (fun b e => hk.block b (h.lt b e).2 (hd b e))

/-- Marking a row of ints turns this row alone. -/
theorem markOwnB_c {w : World} {lo : Nat} {v : Value} {ks : List Int} (h : IntsOwn w lo v ks) (hl : lo ≤ w.heap.size) (hn : ks.length ≤ 1048576) (k : Int) (h0 : 0 ≤ k) (h1 : k ≤ 1099511627776) :
    Calls Try.prog 36 #[v, .int .i64 k] w fun e w' => e = .returned (.int .i64 (k + ks.length)) ∧ IntsOwn w' lo v (marks k ks.length) ∧ KeptB (ownB v) w w' := by
  obtain ⟨hlen, ⟨hv, hz⟩ | ⟨g, cap, cur, hv, hb, hg, hnc, hm, hs, ht⟩⟩ := h
  · subst hv
    rw [hz]
    refine (markNone_c none 0 k w).mono ?_
    rintro e w' ⟨rfl, rfl⟩
    exact ⟨by simp, World.ownsRow_nil w lo _ _, KeptB.refl _ _⟩
  · subst hv
    rw [Nat.mul_one] at hs ht
    refine (markRow_c g ks.length cap k cur w hg (by omega) hn (fun i hi => ⟨ks[i], ?_⟩) h0 h1).mono ?_
    · have : (cur.toList.take ks.length)[i]? = some (.int .i64 ks[i]) := by rw [ht]; simp [hi]
      rw [List.getElem?_take_of_lt hi] at this
      simpa using this
    · rintro e w' ⟨rfl, c', hg', hsz, hd, hgr⟩
      refine ⟨rfl, ⟨by simp [marks], .inr ⟨g, cap, c', by rw [marks_length], hb, hg', by rw [marks_length]; exact hnc, hm, by omega, ?_⟩⟩, ⟨hgr.os, hgr.tape, hgr.output, hgr.size, fun q h1 h2 => hgr.block q h1 (fun e => h2 e.symm)⟩⟩
      apply List.ext_getElem?
      intro i
      rw [marks_length, Nat.mul_one]
      by_cases hi : i < ks.length
      · rw [List.getElem?_take_of_lt hi]
        have := hd i hi
        simp [marks, hi, this]
      · rw [List.getElem?_eq_none (by simp; omega), List.getElem?_eq_none (by simp [marks]; omega)]

set_option maxRecDepth 100000 in
set_option maxHeartbeats 2000000 in
theorem markTreeS_o (lo : Nat) : ∀ (N : Nat) (t : Tr), t.weight ≤ N → N ≤ 1048576 → ∀ (w : World) (P : Blocks) (kv cv : Value), TreeO w lo P kv cv t → lo ≤ w.heap.size → ∀ (k : Int), 0 ≤ k → k + (Tr.weights t.cs : Int) ≤ 1099511627776 →
    Calls Try.prog 80 #[cv, .int .i64 k] w fun e w' => e = .returned (.int .i64 (k + (Tr.nkeysL t.cs : Int))) ∧ TreeO w' lo P kv cv (.mk t.ks (Tr.remarks k t.cs)) ∧ KeptB P w w' := by
  intro N
  induction N using Nat.strongRecOn with
  | _ N ih =>
    intro t hw hN w P kv cv ht hlo k h0 h1
    obtain ⟨ks, cs⟩ := t
    simp only [Tr.weight] at hw
    simp only [Tr.cs] at h1
    obtain ⟨_, _, ca, ccap, -, hcv⟩ := ht.shown
    subst hcv
    have hcl := Tr.length_le_weights cs
    have HT := Lib.hid ht
    have IH := Lib.hid ih
    clear ht ih
    simp only [Tr.cs, Tr.ks]
    go_enter Try.func80, Try.ntmps80
    go_wp2_with fail
    go_loopw [1, 5] (fun l i wr => ∃ (j : Nat) (m : Int), j ≤ cs.length ∧ i = .int .i64 j ∧ l = .int .i64 m ∧ m = k + (Tr.nkeysL (cs.take j) : Int) ∧ TreeO wr lo P kv (.slice ca cs.length ccap) (.mk ks (Tr.upTo k j cs)) ∧ KeptB P w wr) (fun _ i _ => cs.length - (intOf i).toNat)
    case atStart => exact ⟨0, k, Nat.zero_le _, rfl, rfl, by simp [Tr.nkeysL], by rw [Tr.upTo_zero]; exact HT.out, KeptB.refl _ _⟩
    case round =>
      obtain ⟨j, m, hj, rfl, rfl, hm, htr, hkw⟩ := hrel
      have hsz := hkw.size
      by_cases hlt : j < cs.length
      · obtain ⟨b, cap, xk, xc, Q, hcv, hPb, hnQ, c1, c2, hx, hQP, hput⟩ := htr.open j (by rw [Tr.upTo_length]; exact hlt)
        rw [Tr.upTo_length] at hcv
        rw [Tr.upTo_get _ _ _ hlt] at hx
        have hsucc := Tr.upTo_succ k j cs hlt
        have hnk := Tr.nkeysL_take_succ cs j hlt
        have hwt := Tr.weight_get_le cs j hlt
        have hnl := Tr.nkeysL_take_le cs j
        have hnw := Tr.nkeysL_le cs
        have hwj := Tr.nkeysL_take_succ cs j hlt
        have hsum : Tr.nkeysL (cs.take j) + cs[j].weight ≤ Tr.weights cs := by
          have a1 := Tr.weights_take_succ cs j hlt
          have a2 := Tr.weights_take_ge cs (j + 1)
          have a3 := Tr.nkeysL_le (cs.take j)
          omega
        rw [← hm] at hsucc
        generalize cs[j] = u at hx hsucc hnk hwt hwj hsum
        obtain ⟨uk, uc⟩ := u
        obtain ⟨xa, xcap, ya, ycap, rfl, rfl⟩ := hx.shown
        obtain ⟨kids, hce, hxk, -, -, sk, -⟩ := hx.parts
        clear hce
        simp only [Tr.weight, Tr.nkeys, Tr.remark] at hwt hnk hsucc hsum
        have hq := hkw
        injection hcv with hca _ hcap
        subst hca hcap
        have HX := Lib.hid (And.intro hx (And.intro hQP (And.intro hput (And.intro hkw (And.intro sk hnQ)))))
        have HXK := Lib.hid hxk
        have HLT := Lib.hid htr.lt
        have HS := Lib.hid (And.intro hsucc (And.intro hm hnk))
        have hmb : 0 ≤ m ∧ m + (uk.length : Int) + (Tr.weights uc : Int) ≤ 1099511627776 := by omega
        clear hx hQP hput hkw hq htr sk hxk hsucc hm hnk hwj
        have hukl : uk.length ≤ 1048576 := by omega
        have hmm := hmb.1
        have hmb2 : m ≤ 1099511627776 := by omega
        go_wp2_with fail
        refine (markOwnB_c HXK.out (by omega) hukl m hmm hmb2).mono ?_
        rintro e w1 ⟨rfl, hk1, hkb1⟩
        have hx1 := HX.out.1.keys hkb1.size (fun q g1 g2 => hkb1.block q (HX.out.1.lt q g1).2 g2) hk1
        have c2' := (cell_of_blk (hkb1.block b (World.block_lt_of_cell? wr _ c1) (fun g => HX.out.2.2.2.2.2 (HX.out.2.2.2.2.1 b g)))).trans c2
        have hI := IH.out ((marks m uk.length).length + Tr.weights uc) (by rw [marks_length]; omega) (.mk (marks m uk.length) uc) (by simp [Tr.weight]) (by rw [marks_length]; omega) w1 Q _ _ hx1 (by have := hkb1.size; omega) (m + (uk.length : Int)) (by omega) (by simp only [Tr.cs]; omega)
        simp only [Tr.cs, Tr.ks] at hI
        have HI := Lib.hid hI
        have HK1 := Lib.hid (hkb1.mono (fun q g => HX.out.2.2.2.2.1 q g))
        have hs1 := hkb1.size
        clear hI hx1 hk1 hkb1 c1 c2
        go_wp2_with fail
        refine HI.out.mono ?_
        rintro e w2 ⟨rfl, hx2, hk2⟩
        have hk12 := HK1.out.trans hk2
        have hnew := HX.out.2.2.1 w2 _ hk12.size (fun q g1 g2 => hk12.block q (HLT.out q g1).2 g2) hx2
        have HN := Lib.hid (And.intro hnew hk12)
        clear hnew hk12 hx2 hk2
        go_wp2_with fail
        go_roundw
        case rel =>
          refine ⟨j + 1, _, by omega, by go_num, rfl, ?_, ?_, HX.out.2.2.2.1.trans (HN.out.2.mono (fun q g => HX.out.2.1 q g))⟩
          · have := HS.out.2.1; have := HS.out.2.2; omega
          · rw [← HS.out.1]; exact HN.out.1
        case measure => simp [intOf]; omega
      · obtain rfl : j = cs.length := by omega
        rw [List.take_length] at hm
        rw [Tr.upTo_all] at htr
        have HX := Lib.hid (And.intro htr hkw)
        have HM := Lib.hid hm
        clear htr hkw hm
        go_wp2_with fail
        go_ret
        exact ⟨by rw [HM.out]; rfl, HX.out.1, HX.out.2⟩

set_option maxRecDepth 100000 in
set_option maxHeartbeats 1000000 in
theorem markTree_o {w : World} {lo : Nat} {P : Blocks} {kv cv : Value} {t : Tr} (ht : TreeO w lo P kv cv t) (hw : t.weight ≤ 1048576) (hlo : lo ≤ w.heap.size) (k : Int) (h0 : 0 ≤ k) (h1 : k ≤ 1048576) :
    Calls Try.prog 30 #[.agg #[kv, cv], .int .i64 k] w fun e w' => e = .returned (.int .i64 (k + (Tr.nkeys t : Int))) ∧ TreeO w' lo P kv cv (Tr.remark k t) ∧ KeptB P w w' := by
  obtain ⟨ks, cs⟩ := t
  obtain ⟨a, c, a', c', rfl, rfl⟩ := ht.shown
  obtain ⟨kids, hce, hxk, -, -, sk, -⟩ := ht.parts
  clear hce
  simp only [Tr.weight] at hw
  obtain ⟨W1, hW1⟩ : ∃ W1, W1 = w.alloc (.cells #[.slice a ks.length c, .slice a' cs.length c'] 26) := ⟨_, rfl⟩
  have hs1 : W1.heap.size = w.heap.size + 1 := by rw [hW1]; simp
  have hb1 : Below w.heap.size w W1 := by rw [hW1]; exact (Below.refl _ _).alloc (Nat.le_refl _) _
  have kb : W1.heap[w.heap.size]? = some (.cells #[.slice a ks.length c, .slice a' cs.length c'] 26 (0, 0)) := by rw [hW1, new_blk]
  have hmk := markOwnB_c (IntsOwn.later hxk hb1 (Nat.le_refl _)) (by omega) (by omega) k h0 (by omega)
  have HMK := Lib.hid hmk
  have HW1 := Lib.hid hW1
  have HX := Lib.hid (And.intro hs1 (And.intro hb1 (And.intro kb (And.intro (ht.later hb1 (Nat.le_refl _)) sk))))
  have HLT := Lib.hid ht.lt
  clear hW1 hs1 hb1 kb ht hxk sk hmk
  go_enter Try.func30, Try.ntmps30
  go_wp2_with fail
  rw [← HW1.out]
  refine HMK.out.mono ?_
  rintro e w1 ⟨rfl, hk1, hkb1⟩
  have hs1 := HX.out.1
  have hblk := (hkb1.block w.heap.size (by omega) (fun g => by have := (HLT.out _ (HX.out.2.2.2.2 _ g)).2; omega)).trans HX.out.2.2.1
  obtain ⟨x1, x2, x3, x4⟩ := box2 hblk
  have hx1 := HX.out.2.2.2.1.keys hkb1.size (fun q g1 g2 => hkb1.block q (HX.out.2.2.2.1.lt q g1).2 g2) hk1
  have hsz := hkb1.size
  have hI := markTreeS_o lo 1048576 _ (by simp only [Tr.weight, marks_length]; omega) (Nat.le_refl _) w1 P _ _ hx1 (by omega) (k + (ks.length : Int)) (by omega) (by simp only [Tr.cs]; omega)
  simp only [Tr.cs, Tr.ks] at hI
  have HI := Lib.hid hI
  have HK1 := Lib.hid (hkb1.mono (fun q g => HX.out.2.2.2.2 q g))
  clear hs1 hkb1 hblk hx1 hk1 hI
  go_wp2_with fail
  refine HI.out.mono ?_
  rintro e w2 ⟨rfl, hx2, hk2⟩
  have HZ := Lib.hid (And.intro hx2 hk2)
  clear hx2 hk2
  go_wp2_with fail
  go_ret
  exact ⟨by simp only [Tr.nkeys]; rw [show k + (ks.length : Int) + (Tr.nkeysL cs : Int) = k + ((ks.length + Tr.nkeysL cs : Nat) : Int) by omega]; rfl, HZ.out.1, (KeptB.of_below HX.out.2.1 (Nat.le_refl _)).trans (HK1.out.trans HZ.out.2)⟩

set_option maxRecDepth 100000 in
set_option maxHeartbeats 1000000 in
theorem heldTreeS_o : ∀ (N : Nat) (t : Tr), t.weight ≤ N → N ≤ 1048576 → ∀ (w : World) (B : Nat) (kv cv : Value) (ks : List Int) (k : Int), TreeIn w B kv cv (.mk ks (Tr.remarks k t.cs)) → 0 ≤ k → k + (Tr.weights t.cs : Int) ≤ 1099511627776 →
    Calls Try.prog 81 #[cv, .int .i64 k] w fun e w' => e = .returned (.int .i64 (k + (Tr.nkeysL t.cs : Int))) ∧ w = w' := by
  intro N
  induction N using Nat.strongRecOn with
  | _ N ih =>
    intro t hw hN w B kv cv ks k ht h0 h1
    obtain ⟨ks0, cs⟩ := t
    simp only [Tr.weight] at hw
    simp only [Tr.cs] at ht h1 ⊢
    obtain ⟨a, cap, kvs, cvs, rfl, hk, hlen, hcap, hat, hkids⟩ := ht.parts
    rw [Tr.remarks_length] at hlen hat ⊢
    have hcl := Tr.length_le_weights cs
    have HAT := Lib.hid hat
    have HKI := Lib.hid hkids
    have IH := Lib.hid ih
    clear ht hk hat hkids ih
    unfold maxLen at hcap
    go_enter Try.func81, Try.ntmps81
    go_wp2_with fail
    go_loop [1, 5] (fun l i => ∃ (j : Nat), j ≤ cs.length ∧ i = .int .i64 j ∧ l = .int .i64 (k + (Tr.nkeysL (cs.take j) : Int))) (fun _ i => cs.length - (intOf i).toNat)
    case atStart => exact ⟨0, Nat.zero_le _, rfl, by simp [Tr.nkeysL]⟩
    case round =>
      obtain ⟨j, hj, rfl, rfl⟩ := hrel
      by_cases hlt : j < cs.length
      · rcases HAT.out with h | ⟨b, o, rfl, hb, hc⟩
        · omega
        obtain ⟨c1, c2⟩ := hc j hlt
        have hkid := HKI.out j (by rw [Tr.remarks_length]; exact hlt)
        rw [Tr.remarks_get _ _ _ hlt] at hkid
        have hnk := Tr.nkeysL_take_succ cs j hlt
        have hwt := Tr.weight_get_le cs j hlt
        have hsum : Tr.nkeysL (cs.take j) + cs[j].weight ≤ Tr.weights cs := by
          have a1 := Tr.weights_take_succ cs j hlt
          have a2 := Tr.weights_take_ge cs (j + 1)
          have a3 := Tr.nkeysL_le (cs.take j)
          omega
        generalize cs[j] = u at hkid hnk hwt hsum
        obtain ⟨uk, uc⟩ := u
        obtain ⟨a1, n1, q1, a2, n2, q2, ek, ec⟩ := hkid.slices
        rw [ek] at hkid c1
        rw [ec] at hkid c2
        simp only [Tr.weight, Tr.nkeys, Tr.remark] at hwt hnk hsum hkid
        obtain ⟨_, _, _, _, -, hkk, -⟩ := hkid.parts
        obtain ⟨m, hm⟩ : ∃ m, m = k + (Tr.nkeysL (cs.take j) : Int) := ⟨_, rfl⟩
        rw [← hm] at hkid hkk ⊢
        have hm0 : 0 ≤ m := by omega
        have hm1 : m ≤ 1099511627776 := by omega
        have hmn : ¬ (m + (uk.length : Int) < 0) := by omega
        have hI := IH.out (Tr.weight (.mk uk uc)) (by simp only [Tr.weight]; omega) (.mk uk uc) (Nat.le_refl _) (by simp only [Tr.weight]; omega) w B _ _ _ (m + (uk.length : Int)) hkid (by omega) (by simp only [Tr.cs]; omega)
        have hhe := held_c uk.length _ m w hkk.at (by omega) hm0 hm1
        simp only [Tr.cs] at hI
        have hmn2 : ¬ (m + (uk.length : Int) + (Tr.nkeysL uc : Int) < 0) := by omega
        have HI := Lib.hid hI
        have HH := Lib.hid hhe
        have HM := Lib.hid (And.intro hm hnk)
        clear hI hhe hm hnk hkid hkk hc ek ec
        go_wp2_with fail
        refine HH.out.mono ?_
        rintro e w1 ⟨rfl, rfl⟩
        go_wp2_with fail
        refine HI.out.mono ?_
        rintro e w1 ⟨rfl, rfl⟩
        go_wp2_with fail
        go_round
        case rel => exact ⟨j + 1, by omega, by go_num, by rw [HM.out.2, HM.out.1]; congr 1; omega⟩
        case measure => simp [intOf]; omega
      · obtain rfl : j = cs.length := by omega
        rw [List.take_length]
        go_wp2_with fail
        go_ret
        exact ⟨rfl, rfl⟩

set_option maxRecDepth 100000 in
set_option maxHeartbeats 1000000 in
theorem heldTree_o {w : World} {B : Nat} {kv cv : Value} {t : Tr} (k : Int) (ht : TreeIn w B kv cv (Tr.remark k t)) (hB : B ≤ w.heap.size) (hw : t.weight ≤ 1048576) (h0 : 0 ≤ k) (h1 : k ≤ 1048576) :
    Calls Try.prog 31 #[.agg #[kv, cv], .int .i64 k] w fun e w' => e = .returned (.int .i64 (k + (Tr.nkeys t : Int))) ∧ Below w.heap.size w w' := by
  obtain ⟨ks, cs⟩ := t
  obtain ⟨a1, n1, q1, a2, n2, q2, rfl, rfl⟩ := ht.slices
  simp only [Tr.weight] at hw
  have hnk := Tr.nkeysL_le cs
  simp only [Tr.remark] at ht
  obtain ⟨W1, hW1⟩ : ∃ W1, W1 = w.alloc (.cells #[.slice a1 n1 q1, .slice a2 n2 q2] 26) := ⟨_, rfl⟩
  have hs1 : W1.heap.size = w.heap.size + 1 := by rw [hW1]; simp
  have hb1 : Below w.heap.size w W1 := by rw [hW1]; exact (Below.refl _ _).alloc (Nat.le_refl _) _
  have kb : W1.heap[w.heap.size]? = some (.cells #[.slice a1 n1 q1, .slice a2 n2 q2] 26 (0, 0)) := by rw [hW1, new_blk]
  have ht1 := ht.later hb1 hB
  obtain ⟨_, _, _, _, -, hkk, -⟩ := ht1.parts
  obtain ⟨x1, x2, x3, x4⟩ := box2 kb
  have hhe := held_c ks.length _ k W1 hkk.at (by omega) h0 (by omega)
  have hI := heldTreeS_o 1048576 (.mk ks cs) (by simpa [Tr.weight] using hw) (Nat.le_refl _) W1 B _ _ _ (k + (ks.length : Int)) ht1 (by omega) (by simp only [Tr.cs]; omega)
  simp only [Tr.cs] at hI
  have hmn : ¬ (k + (ks.length : Int) < 0) := by omega
  have hmn2 : ¬ (k + (ks.length : Int) + (Tr.nkeysL cs : Int) < 0) := by omega
  have HI := Lib.hid hI
  have HH := Lib.hid hhe
  have HW1 := Lib.hid hW1
  have HB1 := Lib.hid hb1
  clear hW1 hb1 kb ht ht1 hkk hhe hI
  go_enter Try.func31, Try.ntmps31
  go_wp2_with fail
  rw [← HW1.out]
  refine HH.out.mono ?_
  rintro e w1 ⟨rfl, rfl⟩
  go_wp2_with fail
  refine HI.out.mono ?_
  rintro e w1 ⟨rfl, rfl⟩
  go_wp2_with fail
  go_ret
  exact ⟨by simp only [Tr.nkeys]; rw [show k + (ks.length : Int) + (Tr.nkeysL cs : Int) = k + ((ks.length + Tr.nkeysL cs : Nat) : Int) by omega]; rfl, HB1.out⟩
end Go.Proofs.Ytananonjomfpkaa

/- Trees in memory by the blocks that they lie in: a footprint. -/
namespace Go.Proofs.Ytananonjomfpkaa
open Go.RowKit

/-- A slice of ints, its block in P. -/
def IntsP (w : World) (P : Nat → Prop) (v : Value) (ks : List Int) : Prop :=
  ∃ (a : Option Addr) (cap : Nat), v = .slice a ks.length cap ∧ ks.length ≤ cap ∧ cap ≤ maxLen ∧ (a = none → cap = 0) ∧
    (ks = [] ∨ ∃ b o, a = some ⟨b, o, none⟩ ∧ P b ∧ ∀ i, i < ks.length → w.cell? ⟨b, o + i, none⟩ = some (.int .i64 (ks.getD i 0)))

/-- A slice of trees, its block in P. -/
def KidsP (w : World) (P : Nat → Prop) (a : Option Addr) (n : Nat) (kvs cvs : Nat → Value) : Prop :=
  n = 0 ∨ ∃ b o, a = some ⟨b, o, none⟩ ∧ P b ∧ ∀ i, i < n →
    w.cell? ⟨b, o + i * 2, none⟩ = some (kvs i) ∧ w.cell? ⟨b, o + i * 2 + 1, none⟩ = some (cvs i)

/-- A tree, its blocks in P. -/
inductive TreeP (w : World) (P : Nat → Prop) : Value → Value → Tr → Prop where
  | mk (ks : List Int) (cs : List Tr) (kv : Value) (a : Option Addr) (cap : Nat) (kvs cvs : Nat → Value)
      (hk : IntsP w P kv ks) (hlen : cs.length ≤ cap) (hcap : cap ≤ maxLen) (hat : KidsP w P a cs.length kvs cvs)
      (hkids : ∀ i (h : i < cs.length), TreeP w P (kvs i) (cvs i) cs[i]) :
      TreeP w P kv (.slice a cs.length cap) (.mk ks cs)

theorem cellP {w w' : World} {b o : Nat} (h : w'.heap[b]? = w.heap[b]?) : w'.cell? ⟨b, o, none⟩ = w.cell? ⟨b, o, none⟩ := World.cell?_of_block (w := w) (a := ⟨b, o, none⟩) h

theorem IntsP.same {w w' : World} {P Q : Nat → Prop} {v : Value} {ks : List Int} (h : IntsP w P v ks) (hb : ∀ k, P k → w'.heap[k]? = w.heap[k]?) (hq : ∀ k, P k → Q k) : IntsP w' Q v ks := by
  obtain ⟨a, cap, hv, h1, h2, hnl, h3⟩ := h
  refine ⟨a, cap, hv, h1, h2, hnl, ?_⟩
  rcases h3 with h3 | ⟨b, o, h3, h4, h5⟩
  · exact .inl h3
  · exact .inr ⟨b, o, h3, hq b h4, fun i hi => by rw [cellP (hb b h4)]; exact h5 i hi⟩

theorem KidsP.same {w w' : World} {P Q : Nat → Prop} {a : Option Addr} {n : Nat} {kvs cvs : Nat → Value} (h : KidsP w P a n kvs cvs) (hb : ∀ k, P k → w'.heap[k]? = w.heap[k]?) (hq : ∀ k, P k → Q k) : KidsP w' Q a n kvs cvs := by
  rcases h with h3 | ⟨b, o, h3, h4, h5⟩
  · exact .inl h3
  · exact .inr ⟨b, o, h3, hq b h4, fun i hi => ⟨by rw [cellP (hb b h4)]; exact (h5 i hi).1, by rw [cellP (hb b h4)]; exact (h5 i hi).2⟩⟩

theorem TreeP.same {w w' : World} {P Q : Nat → Prop} {kv cv : Value} {t : Tr} (h : TreeP w P kv cv t) (hb : ∀ k, P k → w'.heap[k]? = w.heap[k]?) (hq : ∀ k, P k → Q k) : TreeP w' Q kv cv t := by
  induction h with
  | mk ks cs kv a cap kvs cvs hk hlen hcap hat hkids ih => exact TreeP.mk ks cs kv a cap kvs cvs (hk.same hb hq) hlen hcap (hat.same hb hq) ih

theorem TreeP.tree {w : World} {B : Nat} {P : Nat → Prop} {kv cv : Value} {t : Tr} (h : TreeP w P kv cv t) (hq : ∀ k, P k → k < B) : TreeIn w B kv cv t := by
  induction h with
  | mk ks cs kv a cap kvs cvs hk hlen hcap hat hkids ih =>
    refine TreeIn.mk ks cs kv a cap kvs cvs ?_ hlen hcap ?_ ih
    · obtain ⟨a, cap, hv, h1, h2, hnl, h3⟩ := hk
      refine ⟨a, cap, hv, h1, h2, hnl, ?_⟩
      rcases h3 with h3 | ⟨b, o, h3, h4, h5⟩
      · exact .inl h3
      · exact .inr ⟨b, o, h3, hq b h4, h5⟩
    · rcases hat with h3 | ⟨b, o, h3, h4, h5⟩
      · exact .inl h3
      · exact .inr ⟨b, o, h3, hq b h4, h5⟩

theorem IntsIn.p {w : World} {B : Nat} {v : Value} {ks : List Int} (h : IntsIn w B v ks) : IntsP w (· < B) v ks := h
theorem TreeIn.p {w : World} {B : Nat} {kv cv : Value} {t : Tr} (h : TreeIn w B kv cv t) : TreeP w (· < B) kv cv t := by
  induction h with
  | mk ks cs kv a cap kvs cvs hk hlen hcap hat hkids ih => exact TreeP.mk ks cs kv a cap kvs cvs hk hlen hcap hat ih

theorem TreeP.slices {w : World} {P : Nat → Prop} {kv cv : Value} {t : Tr} (h : TreeP w P kv cv t) : ∃ a n c a' n' c', kv = .slice a n c ∧ cv = .slice a' n' c' := by
  cases h with
  | mk ks cs kv a cap kvs cvs hk hlen hcap hat hkids =>
    obtain ⟨ka, kcap, rfl, _⟩ := hk
    exact ⟨_, _, _, _, _, _, rfl, rfl⟩

theorem IntsOwn.p {w : World} {lo : Nat} {v : Value} {ks : List Int} (h : IntsOwn w lo v ks) : IntsP w (fun k => lo ≤ k ∧ k < w.heap.size) v ks := by
  obtain ⟨a, cap, hv, h1, h2, h3, h4⟩ := IntsOwn.in h
  refine ⟨a, cap, hv, h1, h2, h3, ?_⟩
  rcases h4 with h4 | ⟨b, o, h5, h6, h7⟩
  · exact .inl h4
  · refine .inr ⟨b, o, h5, ⟨?_, h6⟩, h7⟩
    obtain ⟨_, ⟨e1, _⟩ | ⟨g, c, cur, e1, e2, _⟩⟩ := h
    · rw [e1, h5] at hv; cases hv
    · rw [e1] at hv
      simp only [Value.slice.injEq] at hv
      rw [h5] at hv
      simp only [Option.some.injEq, Addr.mk.injEq, and_true] at hv
      obtain ⟨⟨rfl, _⟩, _⟩ := hv
      exact e2

theorem IntsOwn.keep {w w' : World} {lo : Nat} {v : Value} {ks : List Int} (h : IntsOwn w lo v ks) (hb : ∀ k, lo ≤ k → k < w.heap.size → w'.heap[k]? = w.heap[k]?) : IntsOwn w' lo v ks := by
  obtain ⟨h1, h2 | ⟨g, cap, cur, hv, hbb, hg, hr⟩⟩ := h
  · exact ⟨h1, .inl h2⟩
  · exact ⟨h1, .inr ⟨g, cap, cur, hv, hbb, (hb g hbb (Array.getElem?_eq_some_iff.1 hg).1).trans hg, hr⟩⟩

/-- A block of cells of which none is frozen. -/
def Plain (w : World) (k : Nat) : Prop := ∃ (c : Array Value) (t : TypeId), w.heap[k]? = some (.cells c t (0, 0))
theorem Plain.kept {w w' : World} {k : Nat} (h : Plain w k) (hb : w'.heap[k]? = w.heap[k]?) : Plain w' k := by
  obtain ⟨c, t, h⟩ := h
  exact ⟨c, t, hb.trans h⟩

/-- A slice of trees, its block in P, and plain. -/
def KidsQ (w : World) (P : Nat → Prop) (a : Option Addr) (n : Nat) (kvs cvs : Nat → Value) : Prop :=
  n = 0 ∨ ∃ b o, a = some ⟨b, o, none⟩ ∧ (P b ∧ Plain w b) ∧ ∀ i, i < n →
    w.cell? ⟨b, o + i * 2, none⟩ = some (kvs i) ∧ w.cell? ⟨b, o + i * 2 + 1, none⟩ = some (cvs i)

/-- A tree, its blocks in P, the kids in plain blocks. -/
inductive TreeQ (w : World) (P : Nat → Prop) : Value → Value → Tr → Prop where
  | mk (ks : List Int) (cs : List Tr) (kv : Value) (a : Option Addr) (cap : Nat) (kvs cvs : Nat → Value)
      (hk : IntsP w P kv ks) (hlen : cs.length ≤ cap) (hcap : cap ≤ maxLen) (hat : KidsQ w P a cs.length kvs cvs)
      (hkids : ∀ i (h : i < cs.length), TreeQ w P (kvs i) (cvs i) cs[i]) :
      TreeQ w P kv (.slice a cs.length cap) (.mk ks cs)

theorem KidsQ.same {w w' : World} {P Q : Nat → Prop} {a : Option Addr} {n : Nat} {kvs cvs : Nat → Value} (h : KidsQ w P a n kvs cvs) (hb : ∀ k, P k → w'.heap[k]? = w.heap[k]?) (hq : ∀ k, P k → Q k) : KidsQ w' Q a n kvs cvs := by
  rcases h with h3 | ⟨b, o, h3, h4, h5⟩
  · exact .inl h3
  · exact .inr ⟨b, o, h3, ⟨hq b h4.1, h4.2.kept (hb b h4.1)⟩, fun i hi => ⟨by rw [cellP (hb b h4.1)]; exact (h5 i hi).1, by rw [cellP (hb b h4.1)]; exact (h5 i hi).2⟩⟩

theorem TreeQ.same {w w' : World} {P Q : Nat → Prop} {kv cv : Value} {t : Tr} (h : TreeQ w P kv cv t) (hb : ∀ k, P k → w'.heap[k]? = w.heap[k]?) (hq : ∀ k, P k → Q k) : TreeQ w' Q kv cv t := by
  induction h with
  | mk ks cs kv a cap kvs cvs hk hlen hcap hat hkids ih => exact TreeQ.mk ks cs kv a cap kvs cvs (hk.same hb hq) hlen hcap (hat.same hb hq) ih

theorem TreeQ.p {w : World} {P : Nat → Prop} {kv cv : Value} {t : Tr} (h : TreeQ w P kv cv t) : TreeP w P kv cv t := by
  induction h with
  | mk ks cs kv a cap kvs cvs hk hlen hcap hat hkids ih =>
    refine TreeP.mk ks cs kv a cap kvs cvs hk hlen hcap ?_ ih
    rcases hat with h3 | ⟨b, o, h3, h4, h5⟩
    · exact .inl h3
    · exact .inr ⟨b, o, h3, h4.1, h5⟩

theorem TreeQ.tree {w : World} {B : Nat} {P : Nat → Prop} {kv cv : Value} {t : Tr} (h : TreeQ w P kv cv t) (hq : ∀ k, P k → k < B) : TreeIn w B kv cv t := h.p.tree hq

theorem TreeQ.slices {w : World} {P : Nat → Prop} {kv cv : Value} {t : Tr} (h : TreeQ w P kv cv t) : ∃ a n c a' n' c', kv = .slice a n c ∧ cv = .slice a' n' c' := h.p.slices
end Go.Proofs.Ytananonjomfpkaa

/- The contract of the model's l1Leaf. -/
namespace Go.Proofs.Ytananonjomfpkaa
open Go.RowKit

/-- What l1Leaf leaves: a row of keys, and an empty row of kids behind it. -/
def Leafed (w : World) (ks : List Int) (e : Ending) (w' : World) : Prop :=
  ∃ (kv : Value) (g : Nat), e = .returned (.agg #[kv, .slice (some ⟨g, 0, none⟩) 0 0]) ∧ IntsOwn w' (w.heap.size + 1) kv ks ∧ (∀ k, kv.ownBlock = some k → k < g) ∧
    w.heap.size < g ∧ w'.heap[g]? = some (.cells #[] 26 (0, 0)) ∧ Below w.heap.size w w'

set_option maxHeartbeats 1000000 in
theorem leaf_c (w : World) (v : Value) (ks : List Int) (hk : ∀ w', Below w.heap.size w w' → IntsAt w' v ks) (hl : ks.length ≤ 1048576) :
    Calls Try.prog 108 #[v] w (Leafed w ks) := by
  obtain ⟨W1, hW1⟩ : ∃ W1, W1 = w.alloc (.cells #[.slice none 0 0, .slice none 0 0] 26) := ⟨_, rfl⟩
  have hs1 : W1.heap.size = w.heap.size + 1 := by rw [hW1]; simp
  have hb1 : Below w.heap.size w W1 := by rw [hW1]; exact (Below.refl _ _).alloc (Nat.le_refl _) _
  have h00 : IntsOwn (W1.alloc (.cells #[] 3)) (w.heap.size + 1) (.slice (some ⟨w.heap.size + 1, 0, none⟩) 0 0) [] := by
    rw [← hs1]; exact World.ownsRow_made W1 #[] 0 (Nat.le_refl _) (by unfold maxLen; omega) rfl
  have hsrc : IntsAt (W1.alloc (.cells #[] 3)) v ks := hk _ (hb1.alloc (by omega) _)
  have hlo : w.heap.size + 1 ≤ (W1.alloc (.cells #[] 3)).heap.size := by simp; omega
  have hln : ([] : List Int).length + ks.length ≤ 17592186044416 := by simp; omega
  have kb0 : (W1.alloc (.cells #[] 3)).heap[w.heap.size]? = some (.cells #[.slice none 0 0, .slice none 0 0] 26 (0, 0)) := by rw [old_blk _ _ _ (by omega), hW1, new_blk]
  have hb2 : Below w.heap.size w (W1.alloc (.cells #[] 3)) := hb1.alloc (by omega) _
  have hs2 : (W1.alloc (.cells #[] 3)).heap.size = w.heap.size + 2 := by simp; omega
  have H00 := Lib.hid h00
  have HSRC := Lib.hid hsrc
  have HLN := Lib.hid hln
  have HB2 := Lib.hid (And.intro kb0 (And.intro hb2 hs2))
  rw [hW1] at H00 HSRC hlo HB2
  clear h00 hsrc hln hb1 hk hW1 hs1 kb0 hb2 hs2 W1
  go_enter Try.func108, Try.ntmps108
  go_wp2_with (at_builtin; refine wpList_append_ints rfl _ _ rfl (w.heap.size + 1) _ _ [] ks rfl H00.out rfl HSRC.out HLN.out hlo ?_; intro v2 w2 hown2 hbel2 _ hsh2; obtain ⟨a2, c2, rfl⟩ := hsh2; have hsz2 := hbel2.size; have hsz0 := HB2.out.2.2; have hlt2 : w.heap.size < w2.heap.size := (by omega); have kb2 := (hbel2.block w.heap.size (by omega)).trans HB2.out.1; obtain ⟨c1, c2', c3, c4⟩ := box2 kb2; have HOX := Lib.hid (And.intro hown2 (And.intro hbel2 (And.intro kb2 hsz2))); clear hown2 hbel2 kb2 hsz2 hsz0)
  obtain ⟨F, hF⟩ : ∃ F, F = (((w2.setCell ⟨w.heap.size, 0, none⟩ (.slice a2 ks.length c2)).setCell ⟨w.heap.size, 1, none⟩ (.slice (some ⟨w2.heap.size, 0, none⟩) 0 0)).alloc (.cells #[] 26)) := ⟨_, rfl⟩
  have hsF : ((w2.setCell ⟨w.heap.size, 0, none⟩ (.slice a2 ks.length c2)).setCell ⟨w.heap.size, 1, none⟩ (.slice (some ⟨w2.heap.size, 0, none⟩) 0 0)).heap.size = w2.heap.size := by simp
  have kF : F.heap[w.heap.size]? = some (.cells #[.slice a2 ks.length c2, .slice (some ⟨w2.heap.size, 0, none⟩) 0 0] 26 (0, 0)) := by
    rw [hF, old_blk _ _ _ (by rw [hsF]; exact hlt2)]
    exact set_blk (o := 1) _ (set_blk (o := 0) _ HOX.out.2.2.1)
  have kG : F.heap[w2.heap.size]? = some (.cells #[] 26 (0, 0)) := by
    have h := new_blk ((w2.setCell ⟨w.heap.size, 0, none⟩ (.slice a2 ks.length c2)).setCell ⟨w.heap.size, 1, none⟩ (.slice (some ⟨w2.heap.size, 0, none⟩) 0 0)) (.cells #[] 26)
    rw [hsF] at h; rw [hF]; exact h
  have kE : ∀ k, k ≠ w.heap.size → k < w2.heap.size → F.heap[k]? = w2.heap[k]? := fun k h1 h2 => by
    rw [hF, old_blk _ _ _ (by rw [hsF]; exact h2), set_other _ _ _ _ _ h1, set_other _ _ _ _ _ h1]
  have hzF : F.heap.size = w2.heap.size + 1 := by rw [hF]; simp
  rw [← hF]
  have hoF : F.os = w2.os ∧ F.tape = w2.tape ∧ F.output = w2.output := by rw [hF]; exact ⟨rfl, rfl, rfl⟩
  clear hF c1 c2' c3 c4
  obtain ⟨d1, d2, d3, d4⟩ := box2 kF
  have hb2 := HB2.out.2.1
  have hbe := HOX.out.2.1
  refine bodyPost_ret (v := .agg #[.slice a2 ks.length c2, .slice (some ⟨w2.heap.size, 0, none⟩) 0 0]) (by simp [results, Try.results108, go_sem, d1, d2]) rfl ⟨_, w2.heap.size, rfl, ?_, ?_, hlt2, kG, ?_⟩
  · have h := HOX.out.1
    rw [List.nil_append] at h
    exact h.keep (fun k h1 h2 => kE k (by omega) h2)
  · intro k hk
    have h := HOX.out.1
    rw [List.nil_append] at h
    exact (h.lt k hk).2
  · refine ⟨hoF.1.trans (hbe.os.trans hb2.os), hoF.2.1.trans (hbe.tape.trans hb2.tape), hoF.2.2.trans (hbe.output.trans hb2.output), by omega, fun k hk => ?_⟩
    rw [kE k (by omega) (by omega), hbe.block k (by omega), hb2.block k hk]
end Go.Proofs.Ytananonjomfpkaa
