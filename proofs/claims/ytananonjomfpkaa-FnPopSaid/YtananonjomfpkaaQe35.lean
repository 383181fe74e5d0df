/- The contract of the model's PopLeast. -/
import Derived.Test.YtananonjomfpkaaQe34
import Derived.Test.YtananonjomfpkaaQe29
/- PopLeast: what there is behind the call; plain data. -/
namespace Go.Proofs.Ytananonjomfpkaa
open Go.RowKit
namespace Tr
theorem pop_is (wide : Int) (t : Tr) : popB wide t = (validB wide t && !(t.keys.length == 0)) := by
 unfold popB
 cases hv : validB wide t with
 | false =>
   have : lacksB wide (t.keyAtB 0).1 t = false := by unfold lacksB; rw [hv]; rfl
   rw [this]; simp
 | true =>
   have hs := someB_valid hv
   rw [(keyAtB_is 0 t).1 hs, keyL]
   by_cases h0 : t.keys.length = 0
   · rw [if_neg (by omega)]; simp [h0]
   · rw [if_pos ⟨by omega, by omega⟩]
     have hmem : t.keys.getD (Int.toNat 0) 0 ∈ t.keys := by
       rw [List.getD_eq_getElem?_getD, List.getElem?_eq_getElem (by show 0 < _; omega)]
       exact List.getElem_mem _
     have hl : lacksB wide (t.keys.getD (Int.toNat 0) 0) t = true := by
       unfold lacksB
       rw [hv, ← (someB_path _ t).1 hs, (hasB_iff _ t hs).2 hmem]; rfl
     rw [hl]; simp [h0]
theorem pop_first {wide : Int} {t : Tr} (h : popB wide t = true) : (t.keyAtB 0).1 = t.keys.getD 0 0 ∧ 0 < t.keys.length ∧ lacksB wide (t.keys.getD 0 0) t = true := by
 have h2 := h
 rw [pop_is] at h
 simp only [Bool.and_eq_true, Bool.not_eq_true', beq_eq_false_iff_ne] at h
 have hs := someB_valid h.1
 have e : (t.keyAtB 0).1 = t.keys.getD 0 0 := by
   rw [(keyAtB_is 0 t).1 hs, keyL, if_pos ⟨by omega, by omega⟩]; rfl
 refine ⟨e, by omega, ?_⟩
 unfold popB at h2
 rw [e] at h2
 exact (Bool.and_eq_true_iff.1 h2).2
theorem pop_weight (wide : Int) (t : Tr) : (popT wide t).weight ≤ 1048576 := by
 unfold popT
 split
 · rename_i h
   have hv := h
   rw [pop_is] at hv
   have := valid_small (Bool.and_eq_true_iff.1 hv).1
   have := delT_weight wide (t.keyAtB 0).1 t
   omega
 · simp [weight, weights]
end Tr
def PopAfter (w5 wx : World) (T : Tr) (p : Nat) : Prop :=
 ∃ (e1 : Option Addr) (e2 e3 : Nat) (e4 : Option Addr) (e5 e6 : Nat) (P : Blocks), wx.heap[p]? = some (.cells #[.slice e1 e2 e3, .slice e4 e5 e6] 26 (0, 0)) ∧
   TreeO wx w5.heap.size P (.slice e1 e2 e3) (.slice e4 e5 e6) T ∧ Below w5.heap.size w5 wx ∧ w5.heap.size ≤ p ∧ (∀ b, P b → b ≠ p)
section
variable {w5 Wc w6 : World} {P : Blocks} {T : Tr} {e1 : Option Addr} {e2 e3 : Nat} {e4 : Option Addr} {e5 e6 : Nat} {b j : Int} {sh : Bool}
theorem popAfter6 {W : World} {p q : Nat} (hB : Boxed w6 W p q (.slice e1 e2 e3) (.slice e4 e5 e6) b j sh) (ht : TreeO w6 Wc.heap.size P (.slice e1 e2 e3) (.slice e4 e5 e6) T) (hb : Below w5.heap.size w5 w6) (hW : w5.heap.size ≤ Wc.heap.size)
   (hp5 : w5.heap.size ≤ p) (hq5 : w5.heap.size ≤ q) (hp : p < Wc.heap.size ∨ w6.heap.size ≤ p) (hq : q < Wc.heap.size ∨ w6.heap.size ≤ q) : PopAfter w5 W T p := by
 have hk := hB.kept
 have hz := hb.size
 refine ⟨e1, e2, e3, e4, e5, e6, P, hB.bp, (ht.same (w' := W) hk.size (fun x e => ?_)).lower hW, hb.trans (hk.below hz (fun x o h => by omega)), hp5, fun x e h => ?_⟩
 · have hl := ht.lt x e
   exact hk.block x hl.2 (fun o h => by omega)
 · have hl := ht.lt x e
   omega
theorem popAfter_1 (ht : TreeO w6 Wc.heap.size P (.slice e1 e2 e3) (.slice e4 e5 e6) T) (hb : Below w5.heap.size w5 w6) (hz : Wc.heap.size = w5.heap.size + 0) :
   PopAfter w5 ((w6.alloc (.cells #[.slice e1 e2 e3, .slice e4 e5 e6] 26)).alloc (.cells #[.int .i64 b, .int .i64 j, .bool sh] 52)) T w6.heap.size := by
 have h1 := hb.size
 exact popAfter6 (Wc := Wc) boxed1 ht hb (by omega) h1 (by omega) (.inr (Nat.le_refl _)) (.inr (by omega))
theorem popAfter_2 (ht : TreeO w6 Wc.heap.size P (.slice e1 e2 e3) (.slice e4 e5 e6) T) (hb : Below w5.heap.size w5 w6) (hz : Wc.heap.size = w5.heap.size + 0) :
   PopAfter w5 ((w6.alloc (.cells #[.int .i64 b, .int .i64 j, .bool sh] 52)).alloc (.cells #[.slice e1 e2 e3, .slice e4 e5 e6] 26)) T (w6.heap.size + 1) := by
 have h1 := hb.size
 exact popAfter6 (Wc := Wc) boxed2 ht hb (by omega) (by omega) h1 (.inr (by omega)) (.inr (Nat.le_refl _))
theorem popAfter_3 {o0 o1 : Value} (t6 : w6.heap[w5.heap.size]? = some (.cells #[o0, o1] 26 (0, 0))) (ht : TreeO w6 Wc.heap.size P (.slice e1 e2 e3) (.slice e4 e5 e6) T) (hb : Below w5.heap.size w5 w6) (hz : Wc.heap.size = w5.heap.size + 1) :
   PopAfter w5 (((w6.setCell ⟨w5.heap.size, 0, none⟩ (.slice e1 e2 e3)).setCell ⟨w5.heap.size, 1, none⟩ (.slice e4 e5 e6)).alloc (.cells #[.int .i64 b, .int .i64 j, .bool sh] 52)) T w5.heap.size := by
 have h1 := hb.size
 exact popAfter6 (Wc := Wc) (boxed3 t6) ht hb (by omega) (Nat.le_refl _) h1 (.inl (by omega)) (.inr (Nat.le_refl _))
theorem popAfter_5 {o0 o1 o2 : Value} (t6 : w6.heap[w5.heap.size]? = some (.cells #[o0, o1, o2] 52 (0, 0))) (ht : TreeO w6 Wc.heap.size P (.slice e1 e2 e3) (.slice e4 e5 e6) T) (hb : Below w5.heap.size w5 w6) (hz : Wc.heap.size = w5.heap.size + 1) :
   PopAfter w5 ((((w6.setCell ⟨w5.heap.size, 0, none⟩ (.int .i64 b)).setCell ⟨w5.heap.size, 1, none⟩ (.int .i64 j)).setCell ⟨w5.heap.size, 2, none⟩ (.bool sh)).alloc (.cells #[.slice e1 e2 e3, .slice e4 e5 e6] 26)) T w6.heap.size := by
 have h1 := hb.size
 exact popAfter6 (Wc := Wc) (boxed5 t6) ht hb (by omega) h1 (Nat.le_refl _) (.inr (Nat.le_refl _)) (.inl (by omega))
theorem popAfter_4 {o0 o1 p0 p1 p2 : Value} (t6 : w6.heap[w5.heap.size]? = some (.cells #[o0, o1] 26 (0, 0))) (u6 : w6.heap[w5.heap.size + 1]? = some (.cells #[p0, p1, p2] 52 (0, 0))) (ht : TreeO w6 Wc.heap.size P (.slice e1 e2 e3) (.slice e4 e5 e6) T) (hb : Below w5.heap.size w5 w6) (hz : Wc.heap.size = w5.heap.size + 2) :
   PopAfter w5 (((((w6.setCell ⟨w5.heap.size, 0, none⟩ (.slice e1 e2 e3)).setCell ⟨w5.heap.size, 1, none⟩ (.slice e4 e5 e6)).setCell ⟨w5.heap.size + 1, 0, none⟩ (.int .i64 b)).setCell ⟨w5.heap.size + 1, 1, none⟩ (.int .i64 j)).setCell ⟨w5.heap.size + 1, 2, none⟩ (.bool sh)) T w5.heap.size := by
 have h1 := hb.size
 exact popAfter6 (Wc := Wc) (boxed4 (by omega) t6 u6) ht hb (by omega) (Nat.le_refl _) (by omega) (.inl (by omega)) (.inl (by omega))
theorem popAfter_6 {o0 o1 p0 p1 p2 : Value} (u6 : w6.heap[w5.heap.size + 1]? = some (.cells #[o0, o1] 26 (0, 0))) (t6 : w6.heap[w5.heap.size]? = some (.cells #[p0, p1, p2] 52 (0, 0))) (ht : TreeO w6 Wc.heap.size P (.slice e1 e2 e3) (.slice e4 e5 e6) T) (hb : Below w5.heap.size w5 w6) (hz : Wc.heap.size = w5.heap.size + 2) :
   PopAfter w5 (((((w6.setCell ⟨w5.heap.size + 1, 0, none⟩ (.slice e1 e2 e3)).setCell ⟨w5.heap.size + 1, 1, none⟩ (.slice e4 e5 e6)).setCell ⟨w5.heap.size, 0, none⟩ (.int .i64 b)).setCell ⟨w5.heap.size, 1, none⟩ (.int .i64 j)).setCell ⟨w5.heap.size, 2, none⟩ (.bool sh)) T (w5.heap.size + 1) := by
 have h1 := hb.size
 exact popAfter6 (Wc := Wc) (boxed4 (by omega) u6 t6) ht hb (by omega) (by omega) (Nat.le_refl _) (.inl (by omega)) (.inl (by omega))
end
end Go.Proofs.Ytananonjomfpkaa
/- The contract of the model's PopLeast. -/
namespace Go.Proofs.Ytananonjomfpkaa
open Go.RowKit
set_option maxRecDepth 100000 in
set_option maxHeartbeats 8000000 in
theorem specPop_c {w : World} {B : Nat} {kv cv : Value} {t : Tr} (ht : TreeIn w B kv cv t) (hw : t.weight ≤ 1048576) (wide : Int) (w' : World) (hbw : Below B w w') (hB : B ≤ w'.heap.size) :
   Calls Try.prog 26 #[.agg #[kv, cv], .int .i64 wide] w' fun e w'' => ∃ kv' cv' P, e = .returned (.tuple #[.int .i64 (Tr.popK wide t), .agg #[kv', cv'], .bool (Tr.popB wide t)]) ∧ TreeO w'' w'.heap.size P kv' cv' (Tr.popT wide t) ∧ Below w'.heap.size w' w'' := by
 obtain ⟨a5, n5, m5, a6, n6, m6, rfl, rfl⟩ := ht.slices
 obtain ⟨W1, hW1⟩ : ∃ W1, W1 = (w'.alloc (.cells #[.slice a5 n5 m5, .slice a6 n6 m6] 26)).alloc (.cells #[.slice none 0 0, .slice none 0 0] 26) := ⟨_, rfl⟩
 have hs1 : W1.heap.size = w'.heap.size + 2 := by rw [hW1]; simp
 have hb1 : Below w'.heap.size w' W1 := by rw [hW1]; exact ((Below.refl _ _).alloc (Nat.le_refl _) _).alloc (by simp) _
 have k0 : W1.heap[w'.heap.size]? = some (.cells #[.slice a5 n5 m5, .slice a6 n6 m6] 26 (0, 0)) := by rw [hW1, old_blk _ _ _ (by simp), new_blk]
 have kb : W1.heap[w'.heap.size + 1]? = some (.cells #[.slice none 0 0, .slice none 0 0] 26 (0, 0)) := by
   rw [hW1, show w'.heap.size + 1 = (w'.alloc (.cells #[.slice a5 n5 m5, .slice a6 n6 m6] 26)).heap.size by simp, new_blk]
 have k0x := k0
 rw [hW1] at k0x
 obtain ⟨x1, x2, x3, x4⟩ := box2 k0x
 have HT := Lib.hid ht
 have HBW := Lib.hid hbw
 have HW1 := Lib.hid hW1
 have H1 := Lib.hid (And.intro hb1 (And.intro kb k0))
 clear ht hbw hW1 hb1 k0 kb k0x
 go_enter Try.func26, Try.ntmps26
 go_wp2_with fail
 rw [← HW1.out]
 refine (specKeys_c HT.out hw W1 (HBW.out.trans (H1.out.1.mono hB)) (by omega)).mono ?_
 rintro e w2 ⟨v2, rfl, hown2, hb2⟩
 obtain ⟨ka, kc, rfl⟩ := hown2.shown
 have hs2 := hb2.size
 have kb2 := (hb2.block (w'.heap.size + 1) (by omega)).trans H1.out.2.1
 have k02 := (hb2.block w'.heap.size (by omega)).trans H1.out.2.2
 clear x1 x2 x3 x4
 obtain ⟨x1, x2, x3, x4⟩ := box2 k02
 have H2 := Lib.hid (And.intro (H1.out.1.trans (hb2.mono (by omega))) (And.intro kb2 (And.intro k02 hown2)))
 clear hb2 k02 kb2 hown2
 go_wp2_with fail
 refine (specTreeValid_c HT.out hw wide w2 (HBW.out.trans (H2.out.1.mono hB)) (by omega)).mono ?_
 rintro e w5 ⟨rfl, hb3⟩
 have hs3 := hb3.size
 have kb3 := (hb3.block (w'.heap.size + 1) (by omega)).trans H2.out.2.1
 have k03 := (hb3.block w'.heap.size (by omega)).trans H2.out.2.2.1
 have hown3 := IntsOwn.later H2.out.2.2.2 hb3 (Nat.le_refl _)
 clear x1 x2 x3 x4
 obtain ⟨x1, x2, x3, x4⟩ := box2 k03
 obtain ⟨r1, r2, r3, r4⟩ := box2 kb3
 have hlk : t.keys.length ≤ 1048576 := Nat.le_trans (Tr.keys_length_le t) hw
 have H5 := Lib.hid (And.intro (H2.out.1.trans (hb3.mono (by omega))) (And.intro kb3 (And.intro k03 hown3)))
 clear hb3 k03 kb3 hown3
 obtain ⟨K, hK⟩ : ∃ K, K = t.keys := ⟨_, rfl⟩
 obtain ⟨V, hV⟩ : ∃ V, V = Tr.validB wide t := ⟨_, rfl⟩
 rw [← hK, ← hV]
 rw [← hK] at H5 hlk
 have HKV := Lib.hid (And.intro hK hV)
 clear hK hV
 cases V with
 | false =>
   go_wp2_with fail
   obtain ⟨wf, hwf⟩ : ∃ wf, wf = (w5.setCell ⟨w'.heap.size + 1, 0, none⟩ (.slice none 0 0)).setCell ⟨w'.heap.size + 1, 1, none⟩ (.slice none 0 0) := ⟨_, rfl⟩
   have hfb : wf.heap[w'.heap.size + 1]? = some (.cells #[.slice none 0 0, .slice none 0 0] 26 (0, 0)) := by
     rw [hwf]; exact set_blk (o := 1) _ (set_blk (o := 0) _ H5.out.2.1)
   obtain ⟨d1, d2, d3, d4⟩ := box2 hfb
   rw [← hwf]
   have hp : Tr.popB wide t = false := by rw [Tr.pop_is, ← HKV.out.2]; rfl
   refine bodyPost_ret (v := .tuple #[.int .i64 0, .agg #[.slice none 0 0, .slice none 0 0], .bool false]) (by simp [results, Try.results26, go_sem, d1, d2]) rfl ⟨_, _, _, by rw [show Tr.popK wide t = 0 by (simp [Tr.popK, hp]), hp], by simp only [Tr.popT, hp]; exact TreeO.nil _ _, ?_⟩
   rw [hwf]; exact (H5.out.1.setCell (by show w'.heap.size ≤ w'.heap.size + 1; omega) _).setCell (by show w'.heap.size ≤ w'.heap.size + 1; omega) _
 | true =>
   by_cases h0 : K.length = 0
   · have h0' : ((K.length : Int) == 0) = true := by simp [h0]
     go_wp2_with fail
     obtain ⟨wf, hwf⟩ : ∃ wf, wf = (w5.setCell ⟨w'.heap.size + 1, 0, none⟩ (.slice none 0 0)).setCell ⟨w'.heap.size + 1, 1, none⟩ (.slice none 0 0) := ⟨_, rfl⟩
     have hfb : wf.heap[w'.heap.size + 1]? = some (.cells #[.slice none 0 0, .slice none 0 0] 26 (0, 0)) := by
       rw [hwf]; exact set_blk (o := 1) _ (set_blk (o := 0) _ H5.out.2.1)
     obtain ⟨d1, d2, d3, d4⟩ := box2 hfb
     rw [← hwf]
     have hp : Tr.popB wide t = false := by rw [Tr.pop_is, ← HKV.out.1, h0]; simp
     refine bodyPost_ret (v := .tuple #[.int .i64 0, .agg #[.slice none 0 0, .slice none 0 0], .bool false]) (by simp [results, Try.results26, go_sem, d1, d2]) rfl ⟨_, _, _, by rw [show Tr.popK wide t = 0 by (simp [Tr.popK, hp]), hp], by simp only [Tr.popT, hp]; exact TreeO.nil _ _, ?_⟩
     rw [hwf]; exact (H5.out.1.setCell (by show w'.heap.size ≤ w'.heap.size + 1; omega) _).setCell (by show w'.heap.size ≤ w'.heap.size + 1; omega) _
   · have h0' : ((K.length : Int) == 0) = false := beq_eq_false_iff_ne.2 (by omega)
     have hp : Tr.popB wide t = true := by rw [Tr.pop_is, ← HKV.out.2, ← HKV.out.1]; simp [h0]
     obtain ⟨f1, f2, f3⟩ := Tr.pop_first hp
     rw [← HKV.out.1] at f1 f2 f3
     obtain ⟨K0, hK0⟩ : ∃ K0, K0 = K.getD 0 0 := ⟨_, rfl⟩
     rw [← hK0] at f1 f3
     obtain ⟨kb, ko, hka, hkb, hcell⟩ : ∃ kb ko, ka = some ⟨kb, ko, none⟩ ∧ W1.heap.size ≤ kb ∧ w5.cell? ⟨kb, ko, none⟩ = some (.int .i64 K0) := by
       have h5 := H5.out.2.2.2
       have h5' := h5
       obtain ⟨-, ⟨-, h6⟩ | ⟨g, cap, cur, hv, hbb, hg, hr⟩⟩ := h5
       · exact absurd h6 h0
       · injection hv with hv1 _ hv3
         subst hv1
         refine ⟨g, 0, rfl, hbb, ?_⟩
         have hc := World.ownsRow.cellAt h5' 0 (by omega)
         rw [hc, hK0, List.getElem?_map, List.getElem?_eq_getElem (by omega), List.getD_eq_getElem?_getD, List.getElem?_eq_getElem (by omega)]
         rfl
     subst hka
     have hkbl : kb < w5.heap.size := World.block_lt_of_cell? w5 _ hcell
     have hX : Tr.popT wide t = Tr.delT wide K0 t := by unfold Tr.popT; rw [if_pos hp, f1]
     have hKK : Tr.popK wide t = K0 := by unfold Tr.popK; rw [if_pos hp, f1]
     have hP := And.intro hp (And.intro hX hKK)
     have HP := Lib.hid hP
     have hv : Tr.validB wide t = true := HKV.out.2.symm
     have hpk : (t.path K0).2 = true := by have h := f3; unfold Tr.lacksB at h; exact (Bool.and_eq_true_iff.1 h).2
     have HCALL : Hid (∀ W, Below w5.heap.size w5 W → Calls Try.prog 58 #[.agg #[.slice a5 n5 m5, .slice a6 n6 m6], .int .i64 wide, .int .i64 K0] W (KeyDone W wide K0 t)) :=
       Lib.hid (fun W hb => l4Key_c HT.out wide K0 (Tr.valid_wide hv) (by have := Tr.valid_small hv; omega) (Tr.Lacks.of_tops (Tr.valid_well hv) (Tr.Tops.of_valid hv (Tr.valid_wide hv).1) hpk) W ((HBW.out.trans (H5.out.1.mono hB)).trans (hb.mono (by omega))) (by have := hb.size; omega))
     have HCC : Hid (∀ W, Below w5.heap.size w5 W → W.cell? ⟨w'.heap.size, 0, none⟩ = some (.slice a5 n5 m5) ∧ W.cell? ⟨w'.heap.size, 1, none⟩ = some (.slice a6 n6 m6) ∧ W.cell? ⟨kb, ko, none⟩ = some (.int .i64 K0)) :=
       Lib.hid (fun W hb => ⟨by rw [below_cell hb (by omega)]; exact x1, by rw [below_cell hb (by omega)]; exact x2, by rw [below_cell hb hkbl]; exact hcell⟩)
     have hk0 : (0 : Int) < (K.length : Int) := by omega
     have hkN : 0 < K.length := by omega
     have c1 : ¬ w5.heap.size = w'.heap.size := by omega
     have c2 : ¬ w5.heap.size = w'.heap.size + 1 := by omega
     have c3 : ¬ w5.heap.size = kb := by omega
     have c4 : ¬ w5.heap.size + 1 = w'.heap.size := by omega
     have c5 : ¬ w5.heap.size + 1 = w'.heap.size + 1 := by omega
     have c6 : ¬ w5.heap.size + 1 = kb := by omega
     clear hp f1 f2 f3 hX hKK hP hv hpk hK0 x3 x4
     go_upto_region 4 with (fail)
     go_cut [8, 9] from 10 (fun s8 s9 wx => ∃ p q, s8 = .pointer (some ⟨p, 0, none⟩) ∧ s9 = .pointer (some ⟨q, 0, none⟩) ∧ PopAfter w5 wx (Tr.delT wide K0 t) p)
     case first =>
       go_region_held3 (fun u => u.cell? ⟨w'.heap.size, 0, none⟩ = some (.slice a5 n5 m5) ∧ u.cell? ⟨w'.heap.size, 1, none⟩ = some (.slice a6 n6 m6) ∧ u.cell? ⟨kb, ko, none⟩ = some (.int .i64 K0))
         (first | (with_reducible exact ⟨x1, x2, hcell⟩) | (with_reducible exact ⟨s1, s2, s3⟩) | go_keep)
         (first
           | (go_at_call 58; (with_reducible show Calls _ _ _ (w5.drew) _); refine (HCALL.out _ ((Below.refl w5.heap.size w5).drew)).mono ?_; rintro e w6 ⟨kv6, cv6, P6, rfl, ht6, hb6⟩; obtain ⟨e1, e2, e3, e4, e5, e6, rfl, rfl⟩ := ht6.tree.slices; have hbw : Below w5.heap.size w5 w6 := ((Below.refl w5.heap.size w5).drew).trans (hb6.mono (by simp <;> omega)); obtain ⟨s1, s2, s3⟩ := HCC.out w6 hbw; have H6 := Lib.hid (And.intro ht6 hbw); clear ht6 hbw hb6)
           | (go_at_call 58; (with_reducible show Calls _ _ _ ((w5.alloc (.cells #[.slice none 0 0, .slice none 0 0] 26)).drew) _); refine (HCALL.out _ (((Below.refl w5.heap.size w5).alloc (Nat.le_refl _) _).drew)).mono ?_; rintro e w6 ⟨kv6, cv6, P6, rfl, ht6, hb6⟩; obtain ⟨e1, e2, e3, e4, e5, e6, rfl, rfl⟩ := ht6.tree.slices; have hbw : Below w5.heap.size w5 w6 := (((Below.refl w5.heap.size w5).alloc (Nat.le_refl _) _).drew).trans (hb6.mono (by simp <;> omega)); obtain ⟨s1, s2, s3⟩ := HCC.out w6 hbw; have t6 := (hb6.block w5.heap.size (by simp)).trans (show ((w5.alloc (.cells #[.slice none 0 0, .slice none 0 0] 26)).drew).heap[w5.heap.size]? = _ from new_blk _ _); obtain ⟨m1, m2, m3, m4⟩ := box2 t6; obtain ⟨a21, a22, a23, a24⟩ := box2 ((old_blk w6 (.cells #[.int .i64 0, .int .i64 0, .bool false] 52) _ (Array.getElem?_eq_some_iff.1 t6).1).trans t6); have d7 : ¬ w5.heap.size = w6.heap.size := (by have := (Array.getElem?_eq_some_iff.1 t6).1; omega); have d8 : ¬ w6.heap.size = w5.heap.size := (by omega); have d9 : w5.heap.size < w6.heap.size := (Array.getElem?_eq_some_iff.1 t6).1; have H6 := Lib.hid (And.intro ht6 hbw); clear ht6 hbw hb6)
           | (go_at_call 58; (with_reducible show Calls _ _ _ ((w5.alloc (.cells #[.int .i64 0, .int .i64 0, .bool false] 52)).drew) _); refine (HCALL.out _ (((Below.refl w5.heap.size w5).alloc (Nat.le_refl _) _).drew)).mono ?_; rintro e w6 ⟨kv6, cv6, P6, rfl, ht6, hb6⟩; obtain ⟨e1, e2, e3, e4, e5, e6, rfl, rfl⟩ := ht6.tree.slices; have hbw : Below w5.heap.size w5 w6 := (((Below.refl w5.heap.size w5).alloc (Nat.le_refl _) _).drew).trans (hb6.mono (by simp <;> omega)); obtain ⟨s1, s2, s3⟩ := HCC.out w6 hbw; have t6 := (hb6.block w5.heap.size (by simp)).trans (show ((w5.alloc (.cells #[.int .i64 0, .int .i64 0, .bool false] 52)).drew).heap[w5.heap.size]? = _ from new_blk _ _); obtain ⟨m1, m2, m3, m4, m5, m6⟩ := box3 t6; obtain ⟨a21, a22, a23, a24, a25, a26⟩ := box3 ((old_blk w6 (.cells #[.slice e1 e2 e3, .slice e4 e5 e6] 26) _ (Array.getElem?_eq_some_iff.1 t6).1).trans t6); obtain ⟨b21, b22, b23, b24, b25, b26⟩ := box3 ((old_blk w6 (.cells #[.slice none 0 0, .slice none 0 0] 26) _ (Array.getElem?_eq_some_iff.1 t6).1).trans t6); have d7 : ¬ w5.heap.size = w6.heap.size := (by have := (Array.getElem?_eq_some_iff.1 t6).1; omega); have d8 : ¬ w6.heap.size = w5.heap.size := (by omega); have d9 : w5.heap.size < w6.heap.size := (Array.getElem?_eq_some_iff.1 t6).1; have H6 := Lib.hid (And.intro ht6 hbw); clear ht6 hbw hb6)
           | (go_at_call 58; (with_reducible show Calls _ _ _ (((w5.alloc (.cells #[.slice none 0 0, .slice none 0 0] 26)).alloc (.cells #[.int .i64 0, .int .i64 0, .bool false] 52)).drew) _); refine (HCALL.out _ ((((Below.refl w5.heap.size w5).alloc (Nat.le_refl _) _).alloc (by simp <;> omega) _).drew)).mono ?_; rintro e w6 ⟨kv6, cv6, P6, rfl, ht6, hb6⟩; obtain ⟨e1, e2, e3, e4, e5, e6, rfl, rfl⟩ := ht6.tree.slices; have hbw : Below w5.heap.size w5 w6 := ((((Below.refl w5.heap.size w5).alloc (Nat.le_refl _) _).alloc (by simp <;> omega) _).drew).trans (hb6.mono (by simp <;> omega)); obtain ⟨s1, s2, s3⟩ := HCC.out w6 hbw; have t6 := (hb6.block w5.heap.size (by simp <;> omega)).trans (show (((w5.alloc (.cells #[.slice none 0 0, .slice none 0 0] 26)).alloc (.cells #[.int .i64 0, .int .i64 0, .bool false] 52)).drew).heap[w5.heap.size]? = some (.cells #[.slice none 0 0, .slice none 0 0] 26 (0, 0)) from (old_blk _ _ _ (by simp)).trans (new_blk _ _)); obtain ⟨m1, m2, m3, m4⟩ := box2 t6; have u6 := (hb6.block (w5.heap.size + 1) (by simp <;> omega)).trans (show (((w5.alloc (.cells #[.slice none 0 0, .slice none 0 0] 26)).alloc (.cells #[.int .i64 0, .int .i64 0, .bool false] 52)).drew).heap[w5.heap.size + 1]? = some (.cells #[.int .i64 0, .int .i64 0, .bool false] 52 (0, 0)) from (by rw [show w5.heap.size + 1 = (w5.alloc (.cells #[.slice none 0 0, .slice none 0 0] 26)).heap.size by simp]; exact new_blk _ _)); obtain ⟨n1, n2, n3, n4, n5, n6⟩ := box3 u6; have H6 := Lib.hid (And.intro ht6 hbw); clear ht6 hbw hb6)
           | (go_at_call 58; (with_reducible show Calls _ _ _ (((w5.alloc (.cells #[.int .i64 0, .int .i64 0, .bool false] 52)).alloc (.cells #[.slice none 0 0, .slice none 0 0] 26)).drew) _); refine (HCALL.out _ ((((Below.refl w5.heap.size w5).alloc (Nat.le_refl _) _).alloc (by simp <;> omega) _).drew)).mono ?_; rintro e w6 ⟨kv6, cv6, P6, rfl, ht6, hb6⟩; obtain ⟨e1, e2, e3, e4, e5, e6, rfl, rfl⟩ := ht6.tree.slices; have hbw : Below w5.heap.size w5 w6 := ((((Below.refl w5.heap.size w5).alloc (Nat.le_refl _) _).alloc (by simp <;> omega) _).drew).trans (hb6.mono (by simp <;> omega)); obtain ⟨s1, s2, s3⟩ := HCC.out w6 hbw; have t6 := (hb6.block w5.heap.size (by simp <;> omega)).trans (show (((w5.alloc (.cells #[.int .i64 0, .int .i64 0, .bool false] 52)).alloc (.cells #[.slice none 0 0, .slice none 0 0] 26)).drew).heap[w5.heap.size]? = some (.cells #[.int .i64 0, .int .i64 0, .bool false] 52 (0, 0)) from (old_blk _ _ _ (by simp)).trans (new_blk _ _)); obtain ⟨m1, m2, m3, m4, m5, m6⟩ := box3 t6; have u6 := (hb6.block (w5.heap.size + 1) (by simp <;> omega)).trans (show (((w5.alloc (.cells #[.int .i64 0, .int .i64 0, .bool false] 52)).alloc (.cells #[.slice none 0 0, .slice none 0 0] 26)).drew).heap[w5.heap.size + 1]? = some (.cells #[.slice none 0 0, .slice none 0 0] 26 (0, 0)) from (by rw [show w5.heap.size + 1 = (w5.alloc (.cells #[.int .i64 0, .int .i64 0, .bool false] 52)).heap.size by simp]; exact new_blk _ _)); obtain ⟨n1, n2, n3, n4⟩ := box2 u6; have H6 := Lib.hid (And.intro ht6 hbw); clear ht6 hbw hb6)
           | fail)
       all_goals (
         go_wp2_with fail
         go_meet
         refine ⟨_, _, rfl, rfl, ?_⟩
         first
           | (with_reducible refine popAfter_1 H6.out.1 H6.out.2 ?_)
           | (with_reducible refine popAfter_2 H6.out.1 H6.out.2 ?_)
           | (with_reducible refine popAfter_3 t6 H6.out.1 H6.out.2 ?_)
           | (with_reducible refine popAfter_5 t6 H6.out.1 H6.out.2 ?_)
           | (with_reducible refine popAfter_4 t6 u6 H6.out.1 H6.out.2 ?_)
           | (with_reducible refine popAfter_6 u6 t6 H6.out.1 H6.out.2 ?_)
           | fail
         simp)
     case rest =>
       obtain ⟨p, q, rfl, rfl, hafter⟩ := hcut
       rename World => w8
       obtain ⟨e1, e2, e3, e4, e5, e6, P, bp, ht8, hb8, hp5, hnp⟩ := hafter
       have hs8 := hb8.size
       have kb8 := (hb8.block (w'.heap.size + 1) (by omega)).trans H5.out.2.1
       have hcell8 := (HCC.out w8 hb8).2.2
       have hpd : ¬ p = w'.heap.size + 1 := by omega
       have hkd : ¬ kb = w'.heap.size + 1 := by omega
       have hpd' : ¬ w'.heap.size + 1 = p := by omega
       have hkd' : ¬ w'.heap.size + 1 = kb := by omega
       have hbl : Below w'.heap.size w' w8 := H5.out.1.trans (hb8.mono (by omega))
       have hlt := ht8.lt
       have H8 := Lib.hid (And.intro hbl (And.intro kb8 (And.intro ht8 hlt)))
       clear x1 x2 r1 r2 r3 r4 hcell
       obtain ⟨x1, x2, x3, x4⟩ := box2 bp
       obtain ⟨r1, r2, r3, r4⟩ := box2 kb8
       have hws : w'.heap.size + 2 ≤ w5.heap.size := by omega
       clear bp ht8 hb8 hp5 hnp kb8 hbl hlt
       go_upto_region 5 with (fail)
       go_region_law (fail)
       all_goals (
         go_wp2_with fail
         obtain ⟨wf, hwf⟩ : ∃ wf, wf = (w8.setCell ⟨w'.heap.size + 1, 0, none⟩ (.slice e1 e2 e3)).setCell ⟨w'.heap.size + 1, 1, none⟩ (.slice e4 e5 e6) := ⟨_, rfl⟩
         have hfb : wf.heap[w'.heap.size + 1]? = some (.cells #[.slice e1 e2 e3, .slice e4 e5 e6] 26 (0, 0)) := by
           rw [hwf]; exact set_blk (o := 1) _ (set_blk (o := 0) _ H8.out.2.1)
         obtain ⟨d1, d2, d3, d4⟩ := box2 hfb
         rw [← hwf]
         refine bodyPost_ret (v := .tuple #[.int .i64 K0, .agg #[.slice e1 e2 e3, .slice e4 e5 e6], .bool true]) (by simp [results, Try.results26, go_sem, d1, d2]) rfl ⟨_, _, P, by rw [HP.out.1, HP.out.2.2], ?_, ?_⟩
         · rw [HP.out.2.1]
           have hA := (H8.out.2.2.1.same (w' := wf) (by rw [hwf]; simp) (fun q e => by have := (H8.out.2.2.2 q e).1; rw [hwf, set_other _ _ _ _ _ (by omega), set_other _ _ _ _ _ (by omega)])).lower (lo' := w'.heap.size) (by omega)
           first
             | exact hA
             | exact hA.same (w' := wf.drew) (Nat.le_refl _) (fun _ _ => rfl)
         · have hA : Below w'.heap.size w' wf := by rw [hwf]; exact (H8.out.1.setCell (by show w'.heap.size ≤ w'.heap.size + 1; omega) _).setCell (by show w'.heap.size ≤ w'.heap.size + 1; omega) _
           first
             | exact hA
             | exact hA.drew)
end Go.Proofs.Ytananonjomfpkaa
