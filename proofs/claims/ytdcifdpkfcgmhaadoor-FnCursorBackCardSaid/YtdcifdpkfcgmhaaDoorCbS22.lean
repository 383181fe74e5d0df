/- The model's FirstCursor, LastCursor and SeekCursor. -/
import Derived.Test.YtdcifdpkfcgmhaaDoorProg
import Derived.Test.YtdcifdpkfcgmhaaDoorCb0
import Derived.Test.YtdcifdpkfcgmhaaDoorCb14
import Derived.Test.YtdcifdpkfcgmhaaDoorCbS19
import Derived.Test.YtdcifdpkfcgmhaaDoorCb19
import Derived.Test.YtdcifdpkfcgmhaaDoorCbS13
import Derived.Test.YtdcifdpkfcgmhaaDoorCb23
import Derived.Test.YtdcifdpkfcgmhaaDoorCbS20
import Derived.Test.YtdcifdpkfcgmhaaDoorCbS21
namespace Go.Proofs.YtdcifdpkfcgmhaaDoor
open Go.RowKit

/-- What the model comes to from the whole tree. -/
def Tr.wholeB (t : Tr) (r : List Int × Int × Bool) : List Int × Int × Bool := if t.someB = true ∧ t.ks.length ≠ 0 then r else ([], 0, false)

set_option maxHeartbeats 2000000 in
set_option maxRecDepth 100000 in
theorem specFirst_c {w : World} {B : Nat} {kv cv : Value} {t : Tr} (ht : TreeIn w B kv cv t) (hw : t.weight ≤ 1048576) (w' : World) (hbw : Below B w w') (hB : B ≤ w'.heap.size) :
    Calls Tryd.prog 16 #[.agg #[kv, cv]] w' (Told w' (Tr.wholeB t (Tr.downF t.weight t, 0, true))) := by
  obtain ⟨r, hr⟩ : ∃ r, r = Tr.wholeB t (Tr.downF t.weight t, 0, true) := ⟨_, rfl⟩
  rw [← hr]
  have HR := Lib.hid hr
  clear hr
  have HT := Lib.hid ht
  obtain ⟨g1, g2, g3, g4, g5, g6, rfl, rfl⟩ := ht.slices
  obtain ⟨W2, hW2⟩ : ∃ W2, W2 = (w'.alloc (.cells #[.slice g1 g2 g3, .slice g4 g5 g6] 33)).alloc (.cells #[.slice none 0 0, .int .i64 0] 28) := ⟨_, rfl⟩
  have hb2 : Below w'.heap.size w' W2 := by rw [hW2]; exact ((Below.refl _ _).alloc (Nat.le_refl _) _).alloc (by simp) _
  have hs2 : W2.heap.size = w'.heap.size + 2 := by rw [hW2]; simp
  have k0 : W2.heap[w'.heap.size]? = some (.cells #[.slice g1 g2 g3, .slice g4 g5 g6] 33 (0, 0)) := by rw [hW2, old_blk _ _ _ (by simp), new_blk]
  have k1 : W2.heap[w'.heap.size + 1]? = some (.cells #[.slice none 0 0, .int .i64 0] 28 (0, 0)) := by
    rw [hW2, show w'.heap.size + 1 = (w'.alloc (.cells #[.slice g1 g2 g3, .slice g4 g5 g6] 33)).heap.size by simp, new_blk]
  have k0x := k0
  rw [hW2] at k0x
  obtain ⟨x1, x2, x3, x4⟩ := box2 k0x
  have HB2 := Lib.hid (And.intro hb2 (And.intro k0 (And.intro k1 hs2)))
  have HBW := Lib.hid hbw
  have HW2 := Lib.hid hW2
  clear ht hbw hW2 hb2 hs2 k0 k1 k0x
  go_enter Tryd.func16, Tryd.ntmps16
  go_wp2_with fail
  rw [← HW2.out]
  refine (l2Valid_c HT.out hw W2 (HBW.out.trans (HB2.out.1.mono hB)) (by have := HB2.out.2.2.2; omega)).mono ?_
  rintro e w3 ⟨rfl, hb3⟩
  have hs3 := hb3.size
  have hz := HB2.out.2.2.2
  have j0 := (hb3.block w'.heap.size (by omega)).trans HB2.out.2.1
  have j1 := (hb3.block (w'.heap.size + 1) (by omega)).trans HB2.out.2.2.1
  have hb13 := HB2.out.1.trans (hb3.mono HB2.out.1.size)
  have hs13 : w'.heap.size + 1 < w3.heap.size := by omega
  clear x1 x2 x3 x4
  obtain ⟨x1, x2, x3, x4⟩ := box2 j0
  obtain ⟨y1, y2, y3, y4⟩ := box2 j1
  have H3 := Lib.hid (And.intro j0 (And.intro j1 hb13))
  clear hb3 j0 j1 hb13 hz
  cases hv : t.someB with
  | false =>
    have hr : r = ([], 0, false) := by rw [HR.out, Tr.wholeB, if_neg (by rw [hv]; simp)]
    have HN := Lib.hid hr
    clear hr hv
    go_wp2_with fail
    have d := set_blk (o := 1) (.int .i64 0) (set_blk (o := 0) (.slice none 0 0) H3.out.2.1)
    obtain ⟨t1, t2, -, -⟩ := box2 d
    refine bodyPost_ret (v := .tuple #[.agg #[.slice none 0 0, .int .i64 0], .bool false]) (by simp [results, Tryd.results16, go_sem, t1, t2]) rfl ?_
    rw [HN.out]
    exact Told.none ((H3.out.2.2.setCell (by show w'.heap.size ≤ w'.heap.size + 1; omega) _).setCell (by show w'.heap.size ≤ w'.heap.size + 1; omega) _)
  | true =>
    obtain ⟨k, cs⟩ := t
    obtain ⟨_, _, _, _, hcv, hik, hcl, hcc, -, -⟩ := HT.out.parts
    simp only [Value.slice.injEq] at hcv
    obtain ⟨rfl, rfl, rfl⟩ := hcv
    obtain ⟨_, _, hkv, hk1, hk2, -⟩ := hik
    simp only [Value.slice.injEq] at hkv
    obtain ⟨rfl, rfl, rfl⟩ := hkv
    unfold maxLen at hk2
    by_cases hk0 : k.length = 0
    · have hr : r = ([], 0, false) := by rw [HR.out, Tr.wholeB, if_neg (by simp [Tr.ks, hk0])]
      have HN := Lib.hid hr
      have hk0i : (k.length : Int) = 0 := by omega
      clear hr hv hk0
      go_wp2_with fail
      have d := set_blk (o := 1) (.int .i64 0) (set_blk (o := 0) (.slice none 0 0) H3.out.2.1)
      obtain ⟨t1, t2, -, -⟩ := box2 d
      refine bodyPost_ret (v := .tuple #[.agg #[.slice none 0 0, .int .i64 0], .bool false]) (by simp [results, Tryd.results16, go_sem, t1, t2]) rfl ?_
      rw [HN.out]
      exact Told.none ((H3.out.2.2.setCell (by show w'.heap.size ≤ w'.heap.size + 1; omega) _).setCell (by show w'.heap.size ≤ w'.heap.size + 1; omega) _)
    · have hr : r = (Tr.downF (Tr.mk k cs).weight (.mk k cs), 0, true) := by rw [HR.out, Tr.wholeB, if_pos ⟨hv, hk0⟩]
      have HN := Lib.hid hr
      have HWELL := Lib.hid (Tr.Well.of_some hv)
      have hk0i : ((k.length : Int) == 0) = false := by rw [beq_eq_false_iff_ne]; omega
      obtain ⟨W4, hW4⟩ : ∃ W4, W4 = w3.alloc (.cells #[] 3) := ⟨_, rfl⟩
      have hs4 : W4.heap.size = w3.heap.size + 1 := by rw [hW4]; simp
      have hb4 : Below w3.heap.size w3 W4 := by rw [hW4]; exact (Below.refl _ _).alloc (Nat.le_refl _) _
      have h04 : IntsIn W4 W4.heap.size (.slice (some ⟨w3.heap.size, 0, none⟩) 0 0) [] := ⟨some ⟨w3.heap.size, 0, none⟩, 0, rfl, Nat.le_refl _, by unfold maxLen; omega, (fun h => by cases h), .inl rfl⟩
      have hbel4 : Below w'.heap.size w' W4 := H3.out.2.2.trans (hb4.mono (by omega))
      have HD := Lib.hid (l8DownF_c (L := []) ((HT.out.later (HBW.out.trans (hbel4.mono hB)) (Nat.le_refl _)).wider (by omega : B ≤ W4.heap.size)) h04 rfl hw (by simp) HWELL.out W4 (Below.refl _ _) (Nat.le_refl _))
      have H4 := Lib.hid (And.intro ((hb4.block (w'.heap.size + 1) (by omega)).trans H3.out.2.1) (And.intro hbel4 hs4))
      have HW4 := Lib.hid hW4
      clear hr hv hk0 hs4 hb4 h04 hbel4 hW4
      go_wp2_with fail
      rw [← HW4.out]
      refine HD.out.mono ?_
      rintro e w5 ⟨v5, rfl, hin5, hb5⟩
      obtain ⟨a5, c5, rfl⟩ := IntsOwn.shown hin5
      have hz4 := H4.out.2.2
      have hs5 := hb5.size
      have j5 := (hb5.block (w'.heap.size + 1) (by omega)).trans H4.out.1
      have hbel5 := H4.out.2.1.trans (hb5.mono (by omega))
      clear y1 y2 y3 y4
      obtain ⟨y1, y2, y3, y4⟩ := box2 j5
      have H5 := Lib.hid (And.intro j5 (And.intro hbel5 hin5))
      clear hb5 j5 hbel5 hin5 hz4
      simp only [List.nil_append] at H5 ⊢
      go_wp2_with fail
      have d := set_blk (o := 1) (.int .i64 (0)) (set_blk (o := 0) (.slice a5 (Tr.downF (Tr.mk k cs).weight (.mk k cs)).length c5) H5.out.1)
      obtain ⟨t1, t2, -, -⟩ := box2 d
      have hz4 := H4.out.2.2
      refine bodyPost_ret (v := .tuple #[.agg #[.slice a5 (Tr.downF (Tr.mk k cs).weight (.mk k cs)).length c5, .int .i64 (0)], .bool true]) (by simp [results, Tryd.results16, go_sem, t1, t2]) rfl ⟨.slice a5 (Tr.downF (Tr.mk k cs).weight (.mk k cs)).length c5, by rw [HN.out], ?_, ?_⟩
      · rw [HN.out]
        exact (H5.out.2.2.only (w' := (w5.setCell ⟨w'.heap.size + 1, 0, none⟩ (.slice a5 (Tr.downF (Tr.mk k cs).weight (.mk k cs)).length c5)).setCell ⟨w'.heap.size + 1, 1, none⟩ (.int .i64 (0))) (C := w5.heap.size) (r := w'.heap.size + 1) ⟨rfl, rfl, rfl, by simp, fun k _ hne => by rw [set_other _ _ _ _ _ hne, set_other _ _ _ _ _ hne]⟩ (Nat.le_refl _) (by omega)).lower (by omega)
      · exact (H5.out.2.1.setCell (by show w'.heap.size ≤ w'.heap.size + 1; omega) _).setCell (by show w'.heap.size ≤ w'.heap.size + 1; omega) _

set_option maxHeartbeats 2000000 in
set_option maxRecDepth 100000 in
theorem specLast_c {w : World} {B : Nat} {kv cv : Value} {t : Tr} (ht : TreeIn w B kv cv t) (hw : t.weight ≤ 1048576) (w' : World) (hbw : Below B w w') (hB : B ≤ w'.heap.size) :
    Calls Tryd.prog 24 #[.agg #[kv, cv]] w' (Told w' (Tr.wholeB t ((Tr.downL t.weight t).1, ((Tr.downL t.weight t).2 : Int) - 1, true))) := by
  obtain ⟨r, hr⟩ : ∃ r, r = Tr.wholeB t ((Tr.downL t.weight t).1, ((Tr.downL t.weight t).2 : Int) - 1, true) := ⟨_, rfl⟩
  rw [← hr]
  have HR := Lib.hid hr
  clear hr
  have HT := Lib.hid ht
  obtain ⟨g1, g2, g3, g4, g5, g6, rfl, rfl⟩ := ht.slices
  obtain ⟨W2, hW2⟩ : ∃ W2, W2 = (w'.alloc (.cells #[.slice g1 g2 g3, .slice g4 g5 g6] 33)).alloc (.cells #[.slice none 0 0, .int .i64 0] 28) := ⟨_, rfl⟩
  have hb2 : Below w'.heap.size w' W2 := by rw [hW2]; exact ((Below.refl _ _).alloc (Nat.le_refl _) _).alloc (by simp) _
  have hs2 : W2.heap.size = w'.heap.size + 2 := by rw [hW2]; simp
  have k0 : W2.heap[w'.heap.size]? = some (.cells #[.slice g1 g2 g3, .slice g4 g5 g6] 33 (0, 0)) := by rw [hW2, old_blk _ _ _ (by simp), new_blk]
  have k1 : W2.heap[w'.heap.size + 1]? = some (.cells #[.slice none 0 0, .int .i64 0] 28 (0, 0)) := by
    rw [hW2, show w'.heap.size + 1 = (w'.alloc (.cells #[.slice g1 g2 g3, .slice g4 g5 g6] 33)).heap.size by simp, new_blk]
  have k0x := k0
  rw [hW2] at k0x
  obtain ⟨x1, x2, x3, x4⟩ := box2 k0x
  have HB2 := Lib.hid (And.intro hb2 (And.intro k0 (And.intro k1 hs2)))
  have HBW := Lib.hid hbw
  have HW2 := Lib.hid hW2
  clear ht hbw hW2 hb2 hs2 k0 k1 k0x
  go_enter Tryd.func24, Tryd.ntmps24
  go_wp2_with fail
  rw [← HW2.out]
  refine (l2Valid_c HT.out hw W2 (HBW.out.trans (HB2.out.1.mono hB)) (by have := HB2.out.2.2.2; omega)).mono ?_
  rintro e w3 ⟨rfl, hb3⟩
  have hs3 := hb3.size
  have hz := HB2.out.2.2.2
  have j0 := (hb3.block w'.heap.size (by omega)).trans HB2.out.2.1
  have j1 := (hb3.block (w'.heap.size + 1) (by omega)).trans HB2.out.2.2.1
  have hb13 := HB2.out.1.trans (hb3.mono HB2.out.1.size)
  have hs13 : w'.heap.size + 1 < w3.heap.size := by omega
  clear x1 x2 x3 x4
  obtain ⟨x1, x2, x3, x4⟩ := box2 j0
  obtain ⟨y1, y2, y3, y4⟩ := box2 j1
  have H3 := Lib.hid (And.intro j0 (And.intro j1 hb13))
  clear hb3 j0 j1 hb13 hz
  cases hv : t.someB with
  | false =>
    have hr : r = ([], 0, false) := by rw [HR.out, Tr.wholeB, if_neg (by rw [hv]; simp)]
    have HN := Lib.hid hr
    clear hr hv
    go_wp2_with fail
    have d := set_blk (o := 1) (.int .i64 0) (set_blk (o := 0) (.slice none 0 0) H3.out.2.1)
    obtain ⟨t1, t2, -, -⟩ := box2 d
    refine bodyPost_ret (v := .tuple #[.agg #[.slice none 0 0, .int .i64 0], .bool false]) (by simp [results, Tryd.results24, go_sem, t1, t2]) rfl ?_
    rw [HN.out]
    exact Told.none ((H3.out.2.2.setCell (by show w'.heap.size ≤ w'.heap.size + 1; omega) _).setCell (by show w'.heap.size ≤ w'.heap.size + 1; omega) _)
  | true =>
    obtain ⟨k, cs⟩ := t
    obtain ⟨_, _, _, _, hcv, hik, hcl, hcc, -, -⟩ := HT.out.parts
    simp only [Value.slice.injEq] at hcv
    obtain ⟨rfl, rfl, rfl⟩ := hcv
    obtain ⟨_, _, hkv, hk1, hk2, -⟩ := hik
    simp only [Value.slice.injEq] at hkv
    obtain ⟨rfl, rfl, rfl⟩ := hkv
    unfold maxLen at hk2
    by_cases hk0 : k.length = 0
    · have hr : r = ([], 0, false) := by rw [HR.out, Tr.wholeB, if_neg (by simp [Tr.ks, hk0])]
      have HN := Lib.hid hr
      have hk0i : (k.length : Int) = 0 := by omega
      clear hr hv hk0
      go_wp2_with fail
      have d := set_blk (o := 1) (.int .i64 0) (set_blk (o := 0) (.slice none 0 0) H3.out.2.1)
      obtain ⟨t1, t2, -, -⟩ := box2 d
      refine bodyPost_ret (v := .tuple #[.agg #[.slice none 0 0, .int .i64 0], .bool false]) (by simp [results, Tryd.results24, go_sem, t1, t2]) rfl ?_
      rw [HN.out]
      exact Told.none ((H3.out.2.2.setCell (by show w'.heap.size ≤ w'.heap.size + 1; omega) _).setCell (by show w'.heap.size ≤ w'.heap.size + 1; omega) _)
    · have hr : r = ((Tr.downL (Tr.mk k cs).weight (.mk k cs)).1, ((Tr.downL (Tr.mk k cs).weight (.mk k cs)).2 : Int) - 1, true) := by rw [HR.out, Tr.wholeB, if_pos ⟨hv, hk0⟩]
      have HN := Lib.hid hr
      have HWELL := Lib.hid (Tr.Well.of_some hv)
      have hk0i : ((k.length : Int) == 0) = false := by rw [beq_eq_false_iff_ne]; omega
      obtain ⟨W4, hW4⟩ : ∃ W4, W4 = w3.alloc (.cells #[] 3) := ⟨_, rfl⟩
      have hs4 : W4.heap.size = w3.heap.size + 1 := by rw [hW4]; simp
      have hb4 : Below w3.heap.size w3 W4 := by rw [hW4]; exact (Below.refl _ _).alloc (Nat.le_refl _) _
      have h04 : IntsIn W4 W4.heap.size (.slice (some ⟨w3.heap.size, 0, none⟩) 0 0) [] := ⟨some ⟨w3.heap.size, 0, none⟩, 0, rfl, Nat.le_refl _, by unfold maxLen; omega, (fun h => by cases h), .inl rfl⟩
      have hbel4 : Below w'.heap.size w' W4 := H3.out.2.2.trans (hb4.mono (by omega))
      have HD := Lib.hid (l8DownB_c (L := []) ((HT.out.later (HBW.out.trans (hbel4.mono hB)) (Nat.le_refl _)).wider (by omega : B ≤ W4.heap.size)) h04 rfl hw (by simp) HWELL.out W4 (Below.refl _ _) (Nat.le_refl _))
      have H4 := Lib.hid (And.intro ((hb4.block (w'.heap.size + 1) (by omega)).trans H3.out.2.1) (And.intro hbel4 hs4))
      have HW4 := Lib.hid hW4
      clear hr hv hk0 hs4 hb4 h04 hbel4 hW4
      go_wp2_with fail
      rw [← HW4.out]
      refine HD.out.mono ?_
      rintro e w5 ⟨v5, rfl, hin5, hb5⟩
      obtain ⟨a5, c5, rfl⟩ := IntsOwn.shown hin5
      have hz4 := H4.out.2.2
      have hs5 := hb5.size
      have j5 := (hb5.block (w'.heap.size + 1) (by omega)).trans H4.out.1
      have hbel5 := H4.out.2.1.trans (hb5.mono (by omega))
      clear y1 y2 y3 y4
      obtain ⟨y1, y2, y3, y4⟩ := box2 j5
      have H5 := Lib.hid (And.intro j5 (And.intro hbel5 hin5))
      clear hb5 j5 hbel5 hin5 hz4
      simp only [List.nil_append] at H5 ⊢
      go_wp2_with fail
      have d := set_blk (o := 1) (.int .i64 (((Tr.downL (Tr.mk k cs).weight (.mk k cs)).2 : Int) - 1)) (set_blk (o := 0) (.slice a5 ((Tr.downL (Tr.mk k cs).weight (.mk k cs)).1).length c5) H5.out.1)
      obtain ⟨t1, t2, -, -⟩ := box2 d
      have hz4 := H4.out.2.2
      refine bodyPost_ret (v := .tuple #[.agg #[.slice a5 ((Tr.downL (Tr.mk k cs).weight (.mk k cs)).1).length c5, .int .i64 (((Tr.downL (Tr.mk k cs).weight (.mk k cs)).2 : Int) - 1)], .bool true]) (by simp [results, Tryd.results24, go_sem, t1, t2]) rfl ⟨.slice a5 ((Tr.downL (Tr.mk k cs).weight (.mk k cs)).1).length c5, by rw [HN.out], ?_, ?_⟩
      · rw [HN.out]
        exact (H5.out.2.2.only (w' := (w5.setCell ⟨w'.heap.size + 1, 0, none⟩ (.slice a5 ((Tr.downL (Tr.mk k cs).weight (.mk k cs)).1).length c5)).setCell ⟨w'.heap.size + 1, 1, none⟩ (.int .i64 (((Tr.downL (Tr.mk k cs).weight (.mk k cs)).2 : Int) - 1))) (C := w5.heap.size) (r := w'.heap.size + 1) ⟨rfl, rfl, rfl, by simp, fun k _ hne => by rw [set_other _ _ _ _ _ hne, set_other _ _ _ _ _ hne]⟩ (Nat.le_refl _) (by omega)).lower (by omega)
      · exact (H5.out.2.1.setCell (by show w'.heap.size ≤ w'.heap.size + 1; omega) _).setCell (by show w'.heap.size ≤ w'.heap.size + 1; omega) _
end Go.Proofs.YtdcifdpkfcgmhaaDoor
