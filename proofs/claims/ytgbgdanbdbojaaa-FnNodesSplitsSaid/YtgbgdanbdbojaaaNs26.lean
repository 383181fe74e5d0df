/- Inserting a list of keys: nodes are splits and levels: plain data. -/
import Derived.Test.YtgbgdanbdbojaaaProg
import Derived.Test.YtgbgdanbdbojaaaNs0
import Derived.Test.YtgbgdanbdbojaaaInsert
import Derived.Test.YtgbgdanbdbojaaaNs22
import Derived.Test.YtgbgdanbdbojaaaNs21
import Derived.Deep.Cut
import Derived.Test.YtgbgdanbdbojaaaNs25
import Derived.Test.YtgbgdanbdbojaaaTreeC
import Derived.Test.YtgbgdanbdbojaaaNs17
import Derived.Test.YtgbgdanbdbojaaaNs18
import Derived.Test.YtgbgdanbdbojaaaNs20

/- The program's grownFrom: a list of keys inserted one behind the other. -/
namespace Go.Proofs.Ytgbgdanbdbojaaa
open Go.RowKit

theorem nd_nil {w : World} {b : Nat} (h : w.heap[b]? = some (.cells #[.slice none 0 0, .slice none 0 0] 85 (0, 0))) : Nd w (boxOf b) b (.mk [] []) := by
  have hlt := (Array.getElem?_eq_some_iff.1 h).1
  exact .mk [] [] (boxOf b) (fun _ _ => False) (fun _ _ => False) b _ _ h (RowF.nil w) (RowF.nil w) (fun x hx => by cases hx) (fun o => rfl) (fun x o hh => hh.elim) (fun x o hh => hh.elim) (fun y hy => by cases hy)
    (by simp [Apart]) (fun x o hh => by have : x = b := hh; omega)

theorem seedling_c (wide : Int) (w : World) : Calls Try.prog 87 #[.int .i64 wide] w fun e w' => ∃ gb b F, e = .returned (.pointer (some ⟨gb, 0, none⟩)) ∧ Grow w' gb wide 0 false F b (.mk [] []) ∧ (∀ x o, F x o → w.heap.size ≤ x) ∧ w.heap.size ≤ gb ∧ Below w.heap.size w w' := by
  obtain ⟨W1, hW1⟩ : ∃ W1, W1 = w.alloc (.cells #[.slice none 0 0, .slice none 0 0] 85) := ⟨_, rfl⟩
  have hs1 : W1.heap.size = w.heap.size + 1 := by rw [hW1]; simp
  have hb1 : Below w.heap.size w W1 := by rw [hW1]; exact (Below.refl _ _).alloc (Nat.le_refl _) _
  have k1 : W1.heap[w.heap.size]? = some (.cells #[.slice none 0 0, .slice none 0 0] 85 (0, 0)) := by rw [hW1, new_blk]
  obtain ⟨W2, hW2⟩ : ∃ W2, W2 = W1.alloc (.cells #[.pointer (some ⟨w.heap.size, 0, none⟩), .int .i64 wide, .int .i64 0, .bool false] 55) := ⟨_, rfl⟩
  have hb2 : Below W1.heap.size W1 W2 := by rw [hW2]; exact (Below.refl _ _).alloc (Nat.le_refl _) _
  have hg2 : GBox W2 W1.heap.size (.pointer (some ⟨w.heap.size, 0, none⟩)) wide 0 (.bool false) := by unfold GBox; rw [hW2, new_blk]; rfl
  have hn2 : Nd W2 (boxOf w.heap.size) w.heap.size (.mk [] []) := nd_nil ((hb2.block _ (by omega)).trans k1)
  have H2 := Lib.hid (And.intro (show Grow W2 W1.heap.size wide 0 false (boxOf w.heap.size) w.heap.size (.mk [] []) from ⟨hg2, hn2, fun o h => by have : W1.heap.size = w.heap.size := h; omega⟩) (hb1.trans (hb2.mono (by omega))))
  have HW := Lib.hid (And.intro hW1 hW2)
  clear hW1 hb1 k1 hW2 hb2 hg2 hn2
  go_enter Try.func87, Try.ntmps87
  go_wp2_with fail
  rw [← HW.out.1, ← hs1, ← HW.out.2]
  refine bodyPost_ret (v := .pointer (some ⟨W1.heap.size, 0, none⟩)) (by simp [results, Try.results87, go_sem]) rfl ⟨_, _, _, rfl, H2.out.1, fun x o h => by have : x = w.heap.size := h; omega, by omega, H2.out.2⟩

/-- What grownFrom leaves. -/
def GrownAllOf (w : World) (wide : Int) (ks : List Int) (e : Ending) (w' : World) : Prop :=
  (Tr.allOk wide ks = false ∧ e = .returned (.tuple #[.pointer none, .bool false]) ∧ Below w.heap.size w w') ∨
  (Tr.allOk wide ks = true ∧ ∃ (gb b : Nat) (F : Cells) (gr : Bool), e = .returned (.tuple #[.pointer (some ⟨gb, 0, none⟩), .bool true]) ∧ Grow w' gb wide (Tr.allIn wide ks).2 gr F b (Tr.allIn wide ks).1 ∧
    (∀ x o, F x o → w.heap.size ≤ x) ∧ Below w.heap.size w w')

set_option maxRecDepth 100000 in
set_option maxHeartbeats 4000000 in
theorem grownFrom_c {v : Value} {ks : List Int} (w : World) (B : Nat) (hB : B ≤ w.heap.size) (hk : IntsIn w B v ks) (wide : Int) :
    Calls Try.prog 50 #[.int .i64 wide, v] w (GrownAllOf w wide ks) := by
  have HK := Lib.hid hk
  obtain ⟨a, cap, rfl, -, hcap, -, h3⟩ := hk
  unfold maxLen at hcap
  have H3 := Lib.hid h3
  clear h3
  go_enter Try.func50, Try.ntmps50
  go_wp2_with fail
  refine (isWide_c wide _).mono ?_
  rintro e w2 ⟨rfl, rfl⟩
  cases hw : inB wide 2 6 with
  | false =>
    have HNO := Lib.hid (show Tr.allOk wide ks = false by simp [Tr.allOk, hw])
    clear hw
    go_wp2_with fail
    exact bodyPost_ret (v := .tuple #[.pointer none, .bool false]) (by simp [results, Try.results50, go_sem]) rfl (.inl ⟨HNO.out, rfl, Below.refl _ _⟩)
  | true =>
  go_wp2_with fail
  refine (areKeys_c _ B HK.out).mono ?_
  rintro e w2 ⟨rfl, rfl⟩
  cases hko : keysOk ks with
  | false =>
    have HNO := Lib.hid (show Tr.allOk wide ks = false by simp [Tr.allOk, hko])
    clear hw hko
    go_wp2_with fail
    exact bodyPost_ret (v := .tuple #[.pointer none, .bool false]) (by simp [results, Try.results50, go_sem]) rfl (.inl ⟨HNO.out, rfl, Below.refl _ _⟩)
  | true =>
  have hwd : 2 ≤ wide ∧ wide ≤ 6 := by simpa [inB] using hw
  obtain ⟨hin, h200⟩ := keysOk_at hko
  have HOK := Lib.hid (show Tr.allOk wide ks = true by simp [Tr.allOk, hw, hko])
  have HV := Lib.hid (fun j hj => Tr.allIn_valid hwd.1 hwd.2 hin j hj)
  have HWD := Lib.hid hwd
  clear hw hko hin hwd
  go_wp2_with fail
  refine (seedling_c wide _).mono ?_
  rintro e w3 ⟨gb, b0, F0, rfl, hg3, hF3, hgb, hb3⟩
  have H3G := Lib.hid (And.intro hg3 (And.intro hF3 hb3))
  clear hg3 hF3 hb3
  go_wp2_with fail
  go_loopw [8, 21] (fun s8 i wr => ∃ (j : Nat) (b : Nat) (F : Cells) (gr : Bool), j ≤ ks.length ∧ i = .int .i64 j ∧ Grow wr gb wide (Tr.allIn wide (ks.take j)).2 gr F b (Tr.allIn wide (ks.take j)).1 ∧ Hid (∀ x o, F x o → w2.heap.size ≤ x) ∧ Below w2.heap.size w2 wr) (fun _ i _ => ks.length - (intOf i).toNat)
  case atStart => exact ⟨0, b0, F0, false, Nat.zero_le _, rfl, H3G.out.1, Lib.hid H3G.out.2.1, H3G.out.2.2⟩
  case round =>
    obtain ⟨j, b, F, gr, hj, rfl, hgrow, HFl, hbel⟩ := hrel
    have HG := Lib.hid (And.intro hgrow hbel)
    by_cases hlt : j < ks.length
    · rcases H3.out with h | ⟨bb, off, rfl, hb, hat⟩
      · simp [h] at hlt
      have ha' : wr.cell? ⟨bb, off + j, none⟩ = some (.int .i64 (ks.getD j 0)) := by rw [below_cell hbel (by omega)]; exact hat j hlt
      have hv := HV.out j hj
      have hsmall := Tr.valid_small hv.1
      have HC := Lib.hid (insert_c wide (ks.getD j 0) HWD.out wr gb _ gr F b _ hgrow (Tr.valid_well hv.1) (by omega) (by omega))
      obtain ⟨x, hx⟩ : ∃ x, x = ks.getD j 0 := ⟨_, rfl⟩
      have hjl : (j : Int) < (ks.length : Int) := by omega
      rw [← hx] at ha' HC
      have HX := Lib.hid hx
      clear hgrow hbel hat hx hv
      go_wp2_with fail
      refine HC.out.mono ?_
      rintro e w5 ⟨F5, b5, rfl, hg5, hF5, hk5⟩
      have hpk : (if ((Tr.allIn wide (ks.take j)).1.path x).2 then (Tr.allIn wide (ks.take j)).2 else (Tr.allIn wide (ks.take j)).2 + Tr.insN wide x (Tr.allIn wide (ks.take j)).1) = (Tr.allIn wide (ks.take (j + 1))).2 ∧
          (if ((Tr.allIn wide (ks.take j)).1.path x).2 then (Tr.allIn wide (ks.take j)).1 else Tr.insT wide x (Tr.allIn wide (ks.take j)).1) = (Tr.allIn wide (ks.take (j + 1))).1 := by
        rw [Tr.allIn_snoc wide hlt, ← HX.out]
        unfold Tr.putKey
        split <;> exact ⟨rfl, rfl⟩
      rw [hpk.1, hpk.2] at hg5
      have H5 := Lib.hid (And.intro hg5 (And.intro hF5 hk5))
      clear hg5 hF5 hk5 hpk
      go_wp2_with fail
      go_roundw
      case rel =>
        have hs := HG.out.2.size
        refine ⟨j + 1, b5, F5, _, by omega, by go_num, H5.out.1, Lib.hid (fun x o h => ?_), ?_⟩
        · rcases H5.out.2.1 x o h with h | h
          · exact HFl.out x o h
          · omega
        · exact HG.out.2.trans (H5.out.2.2.below hs (fun x o h => by
            rcases h with h | h
            · exact HFl.out x o h
            · omega))
      case measure => simp [intOf]; omega
    · have hjn : j = ks.length := by omega
      have hjl : ¬ (j : Int) < (ks.length : Int) := by omega
      have HJN := Lib.hid hjn
      clear hjn hgrow hbel
      go_wp2_with fail
      have hg := HG.out.1
      rw [HJN.out, List.take_length] at hg
      exact bodyPost_ret (v := .tuple #[.pointer (some ⟨gb, 0, none⟩), .bool true]) (by simp [results, Try.results50, go_sem]) rfl (.inr ⟨HOK.out, gb, b, F, gr, rfl, hg, HFl.out, HG.out.2⟩)
end Go.Proofs.Ytgbgdanbdbojaaa

/- The program's InsertAll and SplitsOf. -/
namespace Go.Proofs.Ytgbgdanbdbojaaa
open Go.RowKit

set_option maxRecDepth 100000 in
set_option maxHeartbeats 2000000 in
theorem impl_insertAll {v : Value} {ks : List Int} (w : World) (B : Nat) (hB : B ≤ w.heap.size) (hk : IntsIn w B v ks) (wide : Int) :
    Calls Try.prog 25 #[.int .i64 wide, v] w (AllGrown w wide ks) := by
  obtain ⟨W1, hW1⟩ : ∃ W1, W1 = w.alloc (.cells #[.slice none 0 0, .slice none 0 0] 26) := ⟨_, rfl⟩
  have hs1 : W1.heap.size = w.heap.size + 1 := by rw [hW1]; simp
  have hb1 : Below w.heap.size w W1 := by rw [hW1]; exact (Below.refl _ _).alloc (Nat.le_refl _) _
  have k1 : W1.heap[w.heap.size]? = some (.cells #[.slice none 0 0, .slice none 0 0] 26 (0, 0)) := by rw [hW1, new_blk]
  have HG := Lib.hid (grownFrom_c W1 B (by omega) (hk.later hb1 hB) wide)
  have HW1 := Lib.hid hW1
  have H1 := Lib.hid (And.intro hb1 k1)
  clear hk hW1 hb1 k1
  go_enter Try.func25, Try.ntmps25
  go_wp2_with fail
  rw [← HW1.out]
  refine HG.out.mono ?_
  intro e w2 hgo
  rcases hgo with ⟨ha, rfl, hb2⟩ | ⟨ha, gb, b, F, gr, rfl, hgr, hF, hb2⟩
  · have hs2 := hb2.size
    have hrb := (hb2.block w.heap.size (by omega)).trans H1.out.2
    obtain ⟨r1, r2, r3, r4⟩ := box2 hrb
    have H2 := Lib.hid (And.intro ha (And.intro (H1.out.1.trans (hb2.mono (by omega))) hrb))
    clear ha hb2 hrb
    go_wp2_with fail
    obtain ⟨wf, hwf⟩ : ∃ wf, wf = (w2.setCell ⟨w.heap.size, 0, none⟩ (.slice none 0 0)).setCell ⟨w.heap.size, 1, none⟩ (.slice none 0 0) := ⟨_, rfl⟩
    have hfb : wf.heap[w.heap.size]? = some (.cells #[.slice none 0 0, .slice none 0 0] 26 (0, 0)) := by
      rw [hwf]; exact set_blk (o := 1) _ (set_blk (o := 0) _ H2.out.2.2)
    obtain ⟨d1, d2, d3, d4⟩ := box2 hfb
    rw [← hwf]
    refine bodyPost_ret (v := .tuple #[.agg #[.slice none 0 0, .slice none 0 0], .bool false]) (by simp [results, Try.results25, go_sem, d1, d2]) rfl ⟨_, _, _, by rw [H2.out.1], by rw [show Tr.insAllT wide ks = .mk [] [] by simp [Tr.insAllT, H2.out.1]]; exact TreeO.nil _ _, ?_⟩
    rw [hwf]; exact (H2.out.2.1.setCell (by show w.heap.size ≤ w.heap.size; omega) _).setCell (by show w.heap.size ≤ w.heap.size; omega) _
  · have hs2 := hb2.size
    have hsm : (Tr.allIn wide ks).1.weight ≤ 1048576 := by
      have := Tr.insAll_weight wide ks
      simpa [Tr.insAllT, ha] using this
    have HTC := Lib.hid (tree_c hgr.node hsm w2 (Below.refl _ _))
    have HB2 := Lib.hid (And.intro ha hb2)
    obtain ⟨y1, y2, y3, y4, y5, y6, y7⟩ := hgr.box.cells
    clear ha hb2 hgr hF
    go_wp2_with fail
    refine HTC.out.mono ?_
    rintro e w4 ⟨k4, c4, P, rfl, ht4, hb4⟩
    obtain ⟨q1, q2, q3, q4, q5, q6, rfl, rfl⟩ := ht4.tree.slices
    have hs4 := hb4.size
    have hbr : Below W1.heap.size W1 w4 := HB2.out.2.trans (hb4.mono (by omega))
    have hrb := (hbr.block w.heap.size (by omega)).trans H1.out.2
    obtain ⟨r1, r2, r3, r4⟩ := box2 hrb
    have HZ := Lib.hid (And.intro ht4 (And.intro hbr hrb))
    clear ht4 hb4 hrb hbr y1 y2 y3 y4 y5 y6 y7
    go_wp2_with fail
    obtain ⟨wf, hwf⟩ : ∃ wf, wf = (w4.setCell ⟨w.heap.size, 0, none⟩ (.slice q1 q2 q3)).setCell ⟨w.heap.size, 1, none⟩ (.slice q4 q5 q6) := ⟨_, rfl⟩
    have hfb : wf.heap[w.heap.size]? = some (.cells #[.slice q1 q2 q3, .slice q4 q5 q6] 26 (0, 0)) := by
      rw [hwf]; exact set_blk (o := 1) _ (set_blk (o := 0) _ HZ.out.2.2)
    obtain ⟨d1, d2, d3, d4⟩ := box2 hfb
    rw [← hwf]
    refine bodyPost_ret (v := .tuple #[.agg #[.slice q1 q2 q3, .slice q4 q5 q6], .bool true]) (by simp [results, Try.results25, go_sem, d1, d2]) rfl ⟨_, _, P, by rw [HB2.out.1], ?_, ?_⟩
    · rw [show Tr.insAllT wide ks = (Tr.allIn wide ks).1 by simp [Tr.insAllT, HB2.out.1]]
      exact (HZ.out.1.same (w' := wf) (by rw [hwf]; simp) (fun q e => by have := (HZ.out.1.lt q e).1; rw [hwf, set_other _ _ _ _ _ (by omega), set_other _ _ _ _ _ (by omega)])).lower (by omega)
    · rw [hwf]; exact ((H1.out.1.trans (HZ.out.2.1.mono (by omega))).setCell (by show w.heap.size ≤ w.heap.size; omega) _).setCell (by show w.heap.size ≤ w.heap.size; omega) _
end Go.Proofs.Ytgbgdanbdbojaaa

/- The program's SplitsOf. -/
namespace Go.Proofs.Ytgbgdanbdbojaaa
open Go.RowKit

set_option maxRecDepth 100000 in
set_option maxHeartbeats 2000000 in
theorem impl_splitsOf {v : Value} {ks : List Int} (w : World) (B : Nat) (hB : B ≤ w.heap.size) (hk : IntsIn w B v ks) (wide : Int) :
    Calls Try.prog 24 #[.int .i64 wide, v] w fun e w' => e = .returned (.int .i64 (Tr.splitsOfB wide ks)) ∧ Below w.heap.size w w' := by
  have HG := Lib.hid (grownFrom_c w B hB hk wide)
  clear hk
  go_enter Try.func24, Try.ntmps24
  go_wp2_with fail
  refine HG.out.mono ?_
  intro e w2 hgo
  rcases hgo with ⟨ha, rfl, hb2⟩ | ⟨ha, gb, b, F, gr, rfl, hgr, hF, hb2⟩
  · have H2 := Lib.hid (And.intro (show Tr.splitsOfB wide ks = -1 by simp [Tr.splitsOfB, ha]) hb2)
    clear ha hb2
    go_wp2_with fail
    go_ret
    exact ⟨ret_int H2.out.1.symm, H2.out.2⟩
  · have H2 := Lib.hid (And.intro (show Tr.splitsOfB wide ks = ((Tr.allIn wide ks).2 : Int) by simp [Tr.splitsOfB, ha]) hb2)
    obtain ⟨y1, y2, y3, y4, y5, y6, y7⟩ := hgr.box.cells
    clear ha hb2 hgr hF
    generalize (Tr.allIn wide ks).2 = n at y3 H2
    go_wp2_with fail
    go_ret
    exact ⟨ret_int H2.out.1.symm, H2.out.2⟩
end Go.Proofs.Ytgbgdanbdbojaaa

/- Inserting: how many nodes, how deep, how many splits: plain data. -/
namespace Go.Proofs.Ytgbgdanbdbojaaa
open Go.RowKit
namespace Tr

theorem counts_take_drop (c : List Tr) (i : Nat) : counts (c.take i) + counts (c.drop i) = counts c := by
  rw [← counts_append, List.take_append_drop]
theorem counts_at (c : List Tr) (i : Nat) (h : i < c.length) : counts (c.take i) + c[i].count + counts (c.drop (i + 1)) = counts c := by
  have h1 := counts_take_drop c i
  rw [List.drop_eq_getElem_cons h] at h1
  simp only [counts] at h1
  omega
theorem halves_count (u : Tr) : u.leftOf.count + u.rightOf.count = u.count + 1 := by
  cases u with
  | mk k c =>
    have := counts_take_drop c (k.length / 2 + 1)
    simp only [leftOf, rightOf, count]
    omega

theorem step_count (wide : Int) (k : List Int) (c : List Tr) (i : Nat) (h : i < c.length) (r : Tr × Nat) (m : Nat) (hr : r.1.count = c[i].count + m) (hm : r.2 = m) :
    (growStep wide k c i r).1.count = (Tr.mk k c).count + (growStep wide k c i r).2 := by
  have h1 := counts_at c i h
  have h2 := halves_count r.1
  unfold growStep
  split
  · simp only [splitKid, count, counts_append, counts]
    omega
  · simp only [setKid, count, counts_append, counts]
    omega

theorem full_at (n : Int) (c : List Tr) (i : Nat) (h : i < c.length) : c[i].full n ≤ fulls n c := by
  have h1 : fulls n (c.take i ++ c.drop i) = fulls n c := by rw [List.take_append_drop]
  rw [fulls_append, List.drop_eq_getElem_cons h] at h1
  simp only [fulls] at h1
  omega

/-- How many nodes there are behind an insertion, how many were full. -/
theorem grow_facts {wide : Int} (key : Int) : ∀ (n : Nat) (t : Tr), t.weight ≤ n → ∀ (least d : Int), nodesB wide least d t = true →
    (grow wide key t).1.count = t.count + (grow wide key t).2 ∧ ((grow wide key t).2 : Int) + 1 ≤ d ∧ (wide < ((grow wide key t).1.ks.length : Int) → ((grow wide key t).2 : Int) + 1 = d) ∧
    (grow wide key t).2 + (if wide < ((grow wide key t).1.ks.length : Int) then 1 else 0) ≤ t.full wide := by
  intro n
  induction n with
  | zero =>
    rintro ⟨k, c⟩ hn least d h
    simp only [weight] at hn
    have hc : c.length = 0 := by have := length_le_weights c; omega
    obtain ⟨⟨h1, h2⟩, h3⟩ := nodes_mem h
    have hd : d = 1 := by
      rcases h3 with h3 | h3
      · exact h3.2
      · omega
    have hl := putAt_length (x := key) (place_le key k)
    have hc' : c = [] := List.length_eq_zero_iff.1 hc
    rw [grow_leaf hc]
    subst hc'
    refine ⟨rfl, by omega, fun _ => by omega, ?_⟩
    simp only [ks, hl, full, fulls]
    split
    · rw [if_pos (by omega)]; omega
    · omega
  | succ n ih =>
    rintro ⟨k, c⟩ hn least d h
    simp only [weight] at hn
    obtain ⟨⟨h1, h2⟩, h3⟩ := nodes_mem h
    have hl := putAt_length (x := key) (place_le key k)
    rcases h3 with ⟨h3, hd⟩ | ⟨h4, h5, h6, h7, h8⟩
    · have hc' : c = [] := List.length_eq_zero_iff.1 h3
      rw [grow_leaf h3]
      subst hc'
      refine ⟨rfl, by omega, fun _ => by omega, ?_⟩
      simp only [ks, hl, full, fulls]
      split
      · rw [if_pos (by omega)]; omega
      · omega
    · have hp : place key k < c.length := by have := place_le key k; omega
      have hw := weight_get_le c (place key k) hp
      obtain ⟨i1, i2, i3, i4⟩ := ih c[place key k] (by omega) _ _ (h8 _ (List.getElem_mem hp))
      have hf := full_at wide c (place key k) hp
      rw [grow_inner hp]
      have hsc := step_count wide k c (place key k) hp (grow wide key c[place key k]) _ i1 rfl
      refine ⟨hsc, ?_⟩
      unfold growStep
      by_cases ho : wide < ((grow wide key c[place key k]).1.ks.length : Int)
      · rw [if_pos ho] at i4 ⊢
        have hi3 := i3 ho
        have hlk : (splitKid k c (place key k) (grow wide key c[place key k]).1).ks.length = k.length + 1 := by
          show (putAt k _ _).length = _; exact putAt_length (place_le key k)
        dsimp only
        rw [hlk]
        refine ⟨by push_cast; omega, fun _ => by push_cast; omega, ?_⟩
        simp only [full]
        by_cases hk : wide < ((k.length + 1 : Nat) : Int)
        · rw [if_pos hk, if_pos (by omega)]; omega
        · rw [if_neg hk]; omega
      · rw [if_neg ho] at i4 ⊢
        have hkl : (Tr.mk k (setKid c (place key k) (grow wide key c[place key k]).1)).ks.length = k.length := rfl
        dsimp only
        rw [hkl]
        refine ⟨by omega, fun hk => by omega, ?_⟩
        simp only [full]
        rw [if_neg (by omega)]
        omega

/-- What the law on splits asks. -/
theorem ins_facts {wide : Int} (key : Int) {t : Tr} (h : validB wide t = true) :
    (insT wide key t).count = t.count + insN wide key t + (if insG wide key t then 1 else 0) ∧ ((insT wide key t).depth : Int) = (t.depth : Int) + (if insG wide key t then 1 else 0) ∧
    insN wide key t ≤ t.depth ∧ (insG wide key t = true → insN wide key t = t.depth) ∧ insN wide key t ≤ t.full wide := by
  have hw := valid_wide h
  have h' := h
  simp only [validB, Bool.and_eq_true] at h'
  have hn := h'.2.1
  obtain ⟨g1, g2, g3, g4⟩ := grow_facts key t.weight t (Nat.le_refl _) _ _ hn
  have hi := insT_nodes hw.1 key hn
  have hd := nodes_depth wide _ _ _ _ (Nat.le_refl _) hi
  have hh := halves_count (grow wide key t).1
  refine ⟨?_, by rw [hd]; split <;> simp, ?_, ?_, ?_⟩
  · unfold insT insN insG
    dsimp only
    by_cases ho : wide < ((grow wide key t).1.ks.length : Int)
    · rw [if_pos ho, if_pos ho, decide_eq_true ho]; simp only [count, counts, if_true]; omega
    · rw [if_neg ho, if_neg ho, decide_eq_false ho]; simp only [Bool.false_eq_true, if_false]; omega
  · unfold insN
    dsimp only
    split
    · rename_i ho; have := g3 ho; omega
    · omega
  · intro hg
    have ho : wide < ((grow wide key t).1.ks.length : Int) := of_decide_eq_true hg
    unfold insN
    dsimp only
    rw [if_pos ho]
    have := g3 ho
    omega
  · unfold insN
    dsimp only
    split
    · rename_i ho; rw [if_pos ho] at g4; exact g4
    · rename_i ho; rw [if_neg ho] at g4; omega
end Tr
end Go.Proofs.Ytgbgdanbdbojaaa

/- Inserting a list of keys: nodes are splits and levels: plain data. -/
namespace Go.Proofs.Ytgbgdanbdbojaaa
open Go.RowKit
namespace Tr

theorem put_count {wide k : Int} {s : Tr × Nat} (h : validB wide s.1 = true) (hs : s.1.count = s.2 + s.1.depth) : (putKey wide s k).1.count = (putKey wide s k).2 + (putKey wide s k).1.depth := by
  unfold putKey
  split
  · exact hs
  · obtain ⟨f1, f2, _⟩ := ins_facts k h
    show (insT wide k s.1).count = s.2 + insN wide k s.1 + (insT wide k s.1).depth
    split at f1 <;> rename_i hg
    · rw [if_pos hg] at f2; omega
    · rw [if_neg hg] at f2; omega

theorem all_count {wide : Int} (h2 : 2 ≤ wide) (h6 : wide ≤ 6) {ks : List Int} (hk : ∀ i, i < ks.length → inB (ks.getD i 0) 0 99 = true) :
    ∀ j, j ≤ ks.length → (allIn wide (ks.take j)).1.count = (allIn wide (ks.take j)).2 + (allIn wide (ks.take j)).1.depth := by
  intro j
  induction j with
  | zero => intro _; rfl
  | succ j ih =>
    intro hj
    rw [allIn_snoc wide (by omega)]
    exact put_count (allIn_valid h2 h6 hk j (by omega)).1 (ih (by omega))

theorem all_count' {wide : Int} {ks : List Int} (h : allOk wide ks = true) : (allIn wide ks).1.count = (allIn wide ks).2 + (allIn wide ks).1.depth := by
  simp only [allOk, Bool.and_eq_true] at h
  have hw : 2 ≤ wide ∧ wide ≤ 6 := by simpa [inB] using h.1
  have := all_count hw.1 hw.2 (keysOk_at h.2).1 ks.length (Nat.le_refl _)
  rwa [List.take_length] at this
end Tr
end Go.Proofs.Ytgbgdanbdbojaaa
