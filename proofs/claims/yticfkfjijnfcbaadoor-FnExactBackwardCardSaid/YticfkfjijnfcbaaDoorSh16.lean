/- append of ints at a step of a region that draws its order. -/
import Derived.Test.YticfkfjijnfcbaaDoorProg
import Derived.Test.YticfkfjijnfcbaaDoorSh0
import Derived.Test.YticfkfjijnfcbaaDoorSh3
import Derived.Test.YticfkfjijnfcbaaDoorSh15
import Derived.Test.YticfkfjijnfcbaaDoorSh8
import Derived.Test.YticfkfjijnfcbaaDoorCurWalk
import Derived.Test.YticfkfjijnfcbaaDoorSh12
import Derived.Test.YticfkfjijnfcbaaDoorSpecUp
import Derived.Test.YticfkfjijnfcbaaDoorSpecDown
import Derived.Deep.AppendLies

/- The model's FirstCursor, LastCursor and SeekCursor. -/
namespace Go.Proofs.YticfkfjijnfcbaaDoor
open Go.RowKit

/-- What the model comes to from the whole tree. -/
def Tr.wholeB (t : Tr) (r : List Int × Int × Bool) : List Int × Int × Bool := if t.someB = true ∧ t.ks.length ≠ 0 then r else ([], 0, false)

set_option maxHeartbeats 2000000 in
set_option maxRecDepth 100000 in
theorem specFirst_c {w : World} {B : Nat} {kv cv : Value} {t : Tr} (ht : TreeIn w B kv cv t) (hw : t.weight ≤ 1048576) (w' : World) (hbw : Below B w w') (hB : B ≤ w'.heap.size) :
    Calls Tryd.prog 16 #[.agg #[kv, cv]] w' (Told w' (Tr.wholeB t (Tr.downF t.weight t, 0, true))) := by
  obtain ⟨r, hr⟩ : ∃ r, r = Tr.wholeB t (Tr.downF t.weight t, 0, true) := ⟨_, rfl⟩
  rw [← hr]
  have HR := Lib.hid hr
  clear hr
  have HT := Lib.hid ht
  obtain ⟨g1, g2, g3, g4, g5, g6, rfl, rfl⟩ := ht.slices
  obtain ⟨W2, hW2⟩ : ∃ W2, W2 = (w'.alloc (.cells #[.slice g1 g2 g3, .slice g4 g5 g6] 33)).alloc (.cells #[.slice none 0 0, .int .i64 0] 28) := ⟨_, rfl⟩
  have hb2 : Below w'.heap.size w' W2 := by rw [hW2]; exact ((Below.refl _ _).alloc (Nat.le_refl _) _).alloc (by simp) _
  have hs2 : W2.heap.size = w'.heap.size + 2 := by rw [hW2]; simp
  have k0 : W2.heap[w'.heap.size]? = some (.cells #[.slice g1 g2 g3, .slice g4 g5 g6] 33 (0, 0)) := by rw [hW2, old_blk _ _ _ (by simp), new_blk]
  have k1 : W2.heap[w'.heap.size + 1]? = some (.cells #[.slice none 0 0, .int .i64 0] 28 (0, 0)) := by
    rw [hW2, show w'.heap.size + 1 = (w'.alloc (.cells #[.slice g1 g2 g3, .slice g4 g5 g6] 33)).heap.size by simp, new_blk]
  have k0x := k0
  rw [hW2] at k0x
  obtain ⟨x1, x2, x3, x4⟩ := box2 k0x
  have HB2 := Lib.hid (And.intro hb2 (And.intro k0 (And.intro k1 hs2)))
  have HBW := Lib.hid hbw
  have HW2 := Lib.hid hW2
  clear ht hbw hW2 hb2 hs2 k0 k1 k0x
  go_enter Tryd.func16, Tryd.ntmps16
  go_wp2_with fail
  rw [← HW2.out]
  refine (l2Valid_c HT.out hw W2 (HBW.out.trans (HB2.out.1.mono hB)) (by have := HB2.out.2.2.2; omega)).mono ?_
  rintro e w3 ⟨rfl, hb3⟩
  have hs3 := hb3.size
  have hz := HB2.out.2.2.2
  have j0 := (hb3.block w'.heap.size (by omega)).trans HB2.out.2.1
  have j1 := (hb3.block (w'.heap.size + 1) (by omega)).trans HB2.out.2.2.1
  have hb13 := HB2.out.1.trans (hb3.mono HB2.out.1.size)
  have hs13 : w'.heap.size + 1 < w3.heap.size := by omega
  clear x1 x2 x3 x4
  obtain ⟨x1, x2, x3, x4⟩ := box2 j0
  obtain ⟨y1, y2, y3, y4⟩ := box2 j1
  have H3 := Lib.hid (And.intro j0 (And.intro j1 hb13))
  clear hb3 j0 j1 hb13 hz
  cases hv : t.someB with
  | false =>
    have hr : r = ([], 0, false) := by rw [HR.out, Tr.wholeB, if_neg (by rw [hv]; simp)]
    have HN := Lib.hid hr
    clear hr hv
    go_wp2_with fail
    have d := set_blk (o := 1) (.int .i64 0) (set_blk (o := 0) (.slice none 0 0) H3.out.2.1)
    obtain ⟨t1, t2, -, -⟩ := box2 d
    refine bodyPost_ret (v := .tuple #[.agg #[.slice none 0 0, .int .i64 0], .bool false]) (by simp [results, Tryd.results16, go_sem, t1, t2]) rfl ?_
    rw [HN.out]
    exact Told.none ((H3.out.2.2.setCell (by show w'.heap.size ≤ w'.heap.size + 1; omega) _).setCell (by show w'.heap.size ≤ w'.heap.size + 1; omega) _)
  | true =>
    obtain ⟨k, cs⟩ := t
    obtain ⟨_, _, _, _, hcv, hik, hcl, hcc, -, -⟩ := HT.out.parts
    simp only [Value.slice.injEq] at hcv
    obtain ⟨rfl, rfl, rfl⟩ := hcv
    obtain ⟨_, _, hkv, hk1, hk2, -⟩ := hik
    simp only [Value.slice.injEq] at hkv
    obtain ⟨rfl, rfl, rfl⟩ := hkv
    unfold maxLen at hk2
    by_cases hk0 : k.length = 0
    · have hr : r = ([], 0, false) := by rw [HR.out, Tr.wholeB, if_neg (by simp [Tr.ks, hk0])]
      have HN := Lib.hid hr
      have hk0i : (k.length : Int) = 0 := by omega
      clear hr hv hk0
      go_wp2_with fail
      have d := set_blk (o := 1) (.int .i64 0) (set_blk (o := 0) (.slice none 0 0) H3.out.2.1)
      obtain ⟨t1, t2, -, -⟩ := box2 d
      refine bodyPost_ret (v := .tuple #[.agg #[.slice none 0 0, .int .i64 0], .bool false]) (by simp [results, Tryd.results16, go_sem, t1, t2]) rfl ?_
      rw [HN.out]
      exact Told.none ((H3.out.2.2.setCell (by show w'.heap.size ≤ w'.heap.size + 1; omega) _).setCell (by show w'.heap.size ≤ w'.heap.size + 1; omega) _)
    · have hr : r = (Tr.downF (Tr.mk k cs).weight (.mk k cs), 0, true) := by rw [HR.out, Tr.wholeB, if_pos ⟨hv, hk0⟩]
      have HN := Lib.hid hr
      have HWELL := Lib.hid (Tr.Well.of_some hv)
      have hk0i : ((k.length : Int) == 0) = false := by rw [beq_eq_false_iff_ne]; omega
      obtain ⟨W4, hW4⟩ : ∃ W4, W4 = w3.alloc (.cells #[] 3) := ⟨_, rfl⟩
      have hs4 : W4.heap.size = w3.heap.size + 1 := by rw [hW4]; simp
      have hb4 : Below w3.heap.size w3 W4 := by rw [hW4]; exact (Below.refl _ _).alloc (Nat.le_refl _) _
      have h04 : IntsIn W4 W4.heap.size (.slice (some ⟨w3.heap.size, 0, none⟩) 0 0) [] := ⟨some ⟨w3.heap.size, 0, none⟩, 0, rfl, Nat.le_refl _, by unfold maxLen; omega, (fun h => by cases h), .inl rfl⟩
      have hbel4 : Below w'.heap.size w' W4 := H3.out.2.2.trans (hb4.mono (by omega))
      have HD := Lib.hid (l8DownF_c (L := []) ((HT.out.later (HBW.out.trans (hbel4.mono hB)) (Nat.le_refl _)).wider (by omega : B ≤ W4.heap.size)) h04 rfl hw (by simp) HWELL.out W4 (Below.refl _ _) (Nat.le_refl _))
      have H4 := Lib.hid (And.intro ((hb4.block (w'.heap.size + 1) (by omega)).trans H3.out.2.1) (And.intro hbel4 hs4))
      have HW4 := Lib.hid hW4
      clear hr hv hk0 hs4 hb4 h04 hbel4 hW4
      go_wp2_with fail
      rw [← HW4.out]
      refine HD.out.mono ?_
      rintro e w5 ⟨v5, rfl, hin5, hb5⟩
      obtain ⟨a5, c5, rfl⟩ := IntsOwn.shown hin5
      have hz4 := H4.out.2.2
      have hs5 := hb5.size
      have j5 := (hb5.block (w'.heap.size + 1) (by omega)).trans H4.out.1
      have hbel5 := H4.out.2.1.trans (hb5.mono (by omega))
      clear y1 y2 y3 y4
      obtain ⟨y1, y2, y3, y4⟩ := box2 j5
      have H5 := Lib.hid (And.intro j5 (And.intro hbel5 hin5))
      clear hb5 j5 hbel5 hin5 hz4
      simp only [List.nil_append] at H5 ⊢
      go_wp2_with fail
      have d := set_blk (o := 1) (.int .i64 (0)) (set_blk (o := 0) (.slice a5 (Tr.downF (Tr.mk k cs).weight (.mk k cs)).length c5) H5.out.1)
      obtain ⟨t1, t2, -, -⟩ := box2 d
      have hz4 := H4.out.2.2
      refine bodyPost_ret (v := .tuple #[.agg #[.slice a5 (Tr.downF (Tr.mk k cs).weight (.mk k cs)).length c5, .int .i64 (0)], .bool true]) (by simp [results, Tryd.results16, go_sem, t1, t2]) rfl ⟨.slice a5 (Tr.downF (Tr.mk k cs).weight (.mk k cs)).length c5, by rw [HN.out], ?_, ?_⟩
      · rw [HN.out]
        exact (H5.out.2.2.only (w' := (w5.setCell ⟨w'.heap.size + 1, 0, none⟩ (.slice a5 (Tr.downF (Tr.mk k cs).weight (.mk k cs)).length c5)).setCell ⟨w'.heap.size + 1, 1, none⟩ (.int .i64 (0))) (C := w5.heap.size) (r := w'.heap.size + 1) ⟨rfl, rfl, rfl, by simp, fun k _ hne => by rw [set_other _ _ _ _ _ hne, set_other _ _ _ _ _ hne]⟩ (Nat.le_refl _) (by omega)).lower (by omega)
      · exact (H5.out.2.1.setCell (by show w'.heap.size ≤ w'.heap.size + 1; omega) _).setCell (by show w'.heap.size ≤ w'.heap.size + 1; omega) _

set_option maxHeartbeats 2000000 in
set_option maxRecDepth 100000 in
theorem specLast_c {w : World} {B : Nat} {kv cv : Value} {t : Tr} (ht : TreeIn w B kv cv t) (hw : t.weight ≤ 1048576) (w' : World) (hbw : Below B w w') (hB : B ≤ w'.heap.size) :
    Calls Tryd.prog 24 #[.agg #[kv, cv]] w' (Told w' (Tr.wholeB t ((Tr.downL t.weight t).1, ((Tr.downL t.weight t).2 : Int) - 1, true))) := by
  obtain ⟨r, hr⟩ : ∃ r, r = Tr.wholeB t ((Tr.downL t.weight t).1, ((Tr.downL t.weight t).2 : Int) - 1, true) := ⟨_, rfl⟩
  rw [← hr]
  have HR := Lib.hid hr
  clear hr
  have HT := Lib.hid ht
  obtain ⟨g1, g2, g3, g4, g5, g6, rfl, rfl⟩ := ht.slices
  obtain ⟨W2, hW2⟩ : ∃ W2, W2 = (w'.alloc (.cells #[.slice g1 g2 g3, .slice g4 g5 g6] 33)).alloc (.cells #[.slice none 0 0, .int .i64 0] 28) := ⟨_, rfl⟩
  have hb2 : Below w'.heap.size w' W2 := by rw [hW2]; exact ((Below.refl _ _).alloc (Nat.le_refl _) _).alloc (by simp) _
  have hs2 : W2.heap.size = w'.heap.size + 2 := by rw [hW2]; simp
  have k0 : W2.heap[w'.heap.size]? = some (.cells #[.slice g1 g2 g3, .slice g4 g5 g6] 33 (0, 0)) := by rw [hW2, old_blk _ _ _ (by simp), new_blk]
  have k1 : W2.heap[w'.heap.size + 1]? = some (.cells #[.slice none 0 0, .int .i64 0] 28 (0, 0)) := by
    rw [hW2, show w'.heap.size + 1 = (w'.alloc (.cells #[.slice g1 g2 g3, .slice g4 g5 g6] 33)).heap.size by simp, new_blk]
  have k0x := k0
  rw [hW2] at k0x
  obtain ⟨x1, x2, x3, x4⟩ := box2 k0x
  have HB2 := Lib.hid (And.intro hb2 (And.intro k0 (And.intro k1 hs2)))
  have HBW := Lib.hid hbw
  have HW2 := Lib.hid hW2
  clear ht hbw hW2 hb2 hs2 k0 k1 k0x
  go_enter Tryd.func24, Tryd.ntmps24
  go_wp2_with fail
  rw [← HW2.out]
  refine (l2Valid_c HT.out hw W2 (HBW.out.trans (HB2.out.1.mono hB)) (by have := HB2.out.2.2.2; omega)).mono ?_
  rintro e w3 ⟨rfl, hb3⟩
  have hs3 := hb3.size
  have hz := HB2.out.2.2.2
  have j0 := (hb3.block w'.heap.size (by omega)).trans HB2.out.2.1
  have j1 := (hb3.block (w'.heap.size + 1) (by omega)).trans HB2.out.2.2.1
  have hb13 := HB2.out.1.trans (hb3.mono HB2.out.1.size)
  have hs13 : w'.heap.size + 1 < w3.heap.size := by omega
  clear x1 x2 x3 x4
  obtain ⟨x1, x2, x3, x4⟩ := box2 j0
  obtain ⟨y1, y2, y3, y4⟩ := box2 j1
  have H3 := Lib.hid (And.intro j0 (And.intro j1 hb13))
  clear hb3 j0 j1 hb13 hz
  cases hv : t.someB with
  | false =>
    have hr : r = ([], 0, false) := by rw [HR.out, Tr.wholeB, if_neg (by rw [hv]; simp)]
    have HN := Lib.hid hr
    clear hr hv
    go_wp2_with fail
    have d := set_blk (o := 1) (.int .i64 0) (set_blk (o := 0) (.slice none 0 0) H3.out.2.1)
    obtain ⟨t1, t2, -, -⟩ := box2 d
    refine bodyPost_ret (v := .tuple #[.agg #[.slice none 0 0, .int .i64 0], .bool false]) (by simp [results, Tryd.results24, go_sem, t1, t2]) rfl ?_
    rw [HN.out]
    exact Told.none ((H3.out.2.2.setCell (by show w'.heap.size ≤ w'.heap.size + 1; omega) _).setCell (by show w'.heap.size ≤ w'.heap.size + 1; omega) _)
  | true =>
    obtain ⟨k, cs⟩ := t
    obtain ⟨_, _, _, _, hcv, hik, hcl, hcc, -, -⟩ := HT.out.parts
    simp only [Value.slice.injEq] at hcv
    obtain ⟨rfl, rfl, rfl⟩ := hcv
    obtain ⟨_, _, hkv, hk1, hk2, -⟩ := hik
    simp only [Value.slice.injEq] at hkv
    obtain ⟨rfl, rfl, rfl⟩ := hkv
    unfold maxLen at hk2
    by_cases hk0 : k.length = 0
    · have hr : r = ([], 0, false) := by rw [HR.out, Tr.wholeB, if_neg (by simp [Tr.ks, hk0])]
      have HN := Lib.hid hr
      have hk0i : (k.length : Int) = 0 := by omega
      clear hr hv hk0
      go_wp2_with fail
      have d := set_blk (o := 1) (.int .i64 0) (set_blk (o := 0) (.slice none 0 0) H3.out.2.1)
      obtain ⟨t1, t2, -, -⟩ := box2 d
      refine bodyPost_ret (v := .tuple #[.agg #[.slice none 0 0, .int .i64 0], .bool false]) (by simp [results, Tryd.results24, go_sem, t1, t2]) rfl ?_
      rw [HN.out]
      exact Told.none ((H3.out.2.2.setCell (by show w'.heap.size ≤ w'.heap.size + 1; omega) _).setCell (by show w'.heap.size ≤ w'.heap.size + 1; omega) _)
    · have hr : r = ((Tr.downL (Tr.mk k cs).weight (.mk k cs)).1, ((Tr.downL (Tr.mk k cs).weight (.mk k cs)).2 : Int) - 1, true) := by rw [HR.out, Tr.wholeB, if_pos ⟨hv, hk0⟩]
      have HN := Lib.hid hr
      have HWELL := Lib.hid (Tr.Well.of_some hv)
      have hk0i : ((k.length : Int) == 0) = false := by rw [beq_eq_false_iff_ne]; omega
      obtain ⟨W4, hW4⟩ : ∃ W4, W4 = w3.alloc (.cells #[] 3) := ⟨_, rfl⟩
      have hs4 : W4.heap.size = w3.heap.size + 1 := by rw [hW4]; simp
      have hb4 : Below w3.heap.size w3 W4 := by rw [hW4]; exact (Below.refl _ _).alloc (Nat.le_refl _) _
      have h04 : IntsIn W4 W4.heap.size (.slice (some ⟨w3.heap.size, 0, none⟩) 0 0) [] := ⟨some ⟨w3.heap.size, 0, none⟩, 0, rfl, Nat.le_refl _, by unfold maxLen; omega, (fun h => by cases h), .inl rfl⟩
      have hbel4 : Below w'.heap.size w' W4 := H3.out.2.2.trans (hb4.mono (by omega))
      have HD := Lib.hid (l8DownB_c (L := []) ((HT.out.later (HBW.out.trans (hbel4.mono hB)) (Nat.le_refl _)).wider (by omega : B ≤ W4.heap.size)) h04 rfl hw (by simp) HWELL.out W4 (Below.refl _ _) (Nat.le_refl _))
      have H4 := Lib.hid (And.intro ((hb4.block (w'.heap.size + 1) (by omega)).trans H3.out.2.1) (And.intro hbel4 hs4))
      have HW4 := Lib.hid hW4
      clear hr hv hk0 hs4 hb4 h04 hbel4 hW4
      go_wp2_with fail
      rw [← HW4.out]
      refine HD.out.mono ?_
      rintro e w5 ⟨v5, rfl, hin5, hb5⟩
      obtain ⟨a5, c5, rfl⟩ := IntsOwn.shown hin5
      have hz4 := H4.out.2.2
      have hs5 := hb5.size
      have j5 := (hb5.block (w'.heap.size + 1) (by omega)).trans H4.out.1
      have hbel5 := H4.out.2.1.trans (hb5.mono (by omega))
      clear y1 y2 y3 y4
      obtain ⟨y1, y2, y3, y4⟩ := box2 j5
      have H5 := Lib.hid (And.intro j5 (And.intro hbel5 hin5))
      clear hb5 j5 hbel5 hin5 hz4
      simp only [List.nil_append] at H5 ⊢
      go_wp2_with fail
      have d := set_blk (o := 1) (.int .i64 (((Tr.downL (Tr.mk k cs).weight (.mk k cs)).2 : Int) - 1)) (set_blk (o := 0) (.slice a5 ((Tr.downL (Tr.mk k cs).weight (.mk k cs)).1).length c5) H5.out.1)
      obtain ⟨t1, t2, -, -⟩ := box2 d
      have hz4 := H4.out.2.2
      refine bodyPost_ret (v := .tuple #[.agg #[.slice a5 ((Tr.downL (Tr.mk k cs).weight (.mk k cs)).1).length c5, .int .i64 (((Tr.downL (Tr.mk k cs).weight (.mk k cs)).2 : Int) - 1)], .bool true]) (by simp [results, Tryd.results24, go_sem, t1, t2]) rfl ⟨.slice a5 ((Tr.downL (Tr.mk k cs).weight (.mk k cs)).1).length c5, by rw [HN.out], ?_, ?_⟩
      · rw [HN.out]
        exact (H5.out.2.2.only (w' := (w5.setCell ⟨w'.heap.size + 1, 0, none⟩ (.slice a5 ((Tr.downL (Tr.mk k cs).weight (.mk k cs)).1).length c5)).setCell ⟨w'.heap.size + 1, 1, none⟩ (.int .i64 (((Tr.downL (Tr.mk k cs).weight (.mk k cs)).2 : Int) - 1))) (C := w5.heap.size) (r := w'.heap.size + 1) ⟨rfl, rfl, rfl, by simp, fun k _ hne => by rw [set_other _ _ _ _ _ hne, set_other _ _ _ _ _ hne]⟩ (Nat.le_refl _) (by omega)).lower (by omega)
      · exact (H5.out.2.1.setCell (by show w'.heap.size ≤ w'.heap.size + 1; omega) _).setCell (by show w'.heap.size ≤ w'.heap.size + 1; omega) _
end Go.Proofs.YticfkfjijnfcbaaDoor

/- The model's SeekCursor. -/
namespace Go.Proofs.YticfkfjijnfcbaaDoor
open Go.RowKit

def Tr.seekB (t : Tr) (key : Int) : List Int × Int × Bool := if t.someB = true then Tr.seekCur t key else ([], 0, false)

set_option maxHeartbeats 2000000 in
set_option maxRecDepth 100000 in
theorem specSeek_c {w : World} {B : Nat} {kv cv : Value} {t : Tr} (ht : TreeIn w B kv cv t) (hw : t.weight ≤ 1048576) (key : Int) (w' : World) (hbw : Below B w w') (hB : B ≤ w'.heap.size) :
    Calls Tryd.prog 26 #[.agg #[kv, cv], .int .i64 key] w' (Told w' (Tr.seekB t key)) := by
  obtain ⟨r, hr⟩ : ∃ r, r = Tr.seekB t key := ⟨_, rfl⟩
  rw [← hr]
  have HR := Lib.hid hr
  clear hr
  have HT := Lib.hid ht
  obtain ⟨g1, g2, g3, g4, g5, g6, rfl, rfl⟩ := ht.slices
  obtain ⟨W2, hW2⟩ : ∃ W2, W2 = (w'.alloc (.cells #[.slice g1 g2 g3, .slice g4 g5 g6] 33)).alloc (.cells #[.slice none 0 0, .int .i64 0] 28) := ⟨_, rfl⟩
  have hb2 : Below w'.heap.size w' W2 := by rw [hW2]; exact ((Below.refl _ _).alloc (Nat.le_refl _) _).alloc (by simp) _
  have hs2 : W2.heap.size = w'.heap.size + 2 := by rw [hW2]; simp
  have k0 : W2.heap[w'.heap.size]? = some (.cells #[.slice g1 g2 g3, .slice g4 g5 g6] 33 (0, 0)) := by rw [hW2, old_blk _ _ _ (by simp), new_blk]
  have k1 : W2.heap[w'.heap.size + 1]? = some (.cells #[.slice none 0 0, .int .i64 0] 28 (0, 0)) := by
    rw [hW2, show w'.heap.size + 1 = (w'.alloc (.cells #[.slice g1 g2 g3, .slice g4 g5 g6] 33)).heap.size by simp, new_blk]
  have k0x := k0
  rw [hW2] at k0x
  obtain ⟨x1, x2, x3, x4⟩ := box2 k0x
  have hlt2 : w'.heap.size + 1 < W2.heap.size := by omega
  have HB2 := Lib.hid (And.intro hb2 (And.intro k0 k1))
  -- the boxes, whatever comes
  have BOX : Hid (∀ wx : World, Below W2.heap.size W2 wx → wx.heap[w'.heap.size]? = some (.cells #[.slice g1 g2 g3, .slice g4 g5 g6] 33 (0, 0)) ∧ wx.heap[w'.heap.size + 1]? = some (.cells #[.slice none 0 0, .int .i64 0] 28 (0, 0)) ∧ Below B w wx ∧ Below w'.heap.size w' wx) :=
    Lib.hid (fun wx hx => ⟨(hx.block _ (by omega)).trans k0, (hx.block _ hlt2).trans k1, hbw.trans ((hb2.trans (hx.mono (by omega))).mono hB), hb2.trans (hx.mono (by omega))⟩)
  have hBle : B ≤ W2.heap.size := by omega
  have HW2 := Lib.hid hW2
  clear ht hbw hW2 hb2 hs2 k0 k1 k0x
  go_enter Tryd.func26, Tryd.ntmps26
  go_wp2_with fail
  rw [← HW2.out]
  refine (l2Valid_c HT.out hw W2 (BOX.out _ (Below.refl _ _)).2.2.1 hBle).mono ?_
  rintro e w3 ⟨rfl, hb3⟩
  have hs3 := hb3.size
  clear x1 x2 x3 x4
  obtain ⟨x1, x2, x3, x4⟩ := box2 (BOX.out w3 hb3).1
  obtain ⟨y1, y2, y3, y4⟩ := box2 (BOX.out w3 hb3).2.1
  have H3 := Lib.hid hb3
  clear hb3
  cases hv : t.someB with
  | false =>
    have hr : r = ([], 0, false) := by rw [HR.out, Tr.seekB, if_neg (by rw [hv]; simp)]
    have HN := Lib.hid hr
    clear hr hv
    go_wp2_with fail
    have d := set_blk (o := 1) (.int .i64 0) (set_blk (o := 0) (.slice none 0 0) (BOX.out w3 H3.out).2.1)
    obtain ⟨t1, t2, -, -⟩ := box2 d
    refine bodyPost_ret (v := .tuple #[.agg #[.slice none 0 0, .int .i64 0], .bool false]) (by simp [results, Tryd.results26, go_sem, t1, t2]) rfl ?_
    rw [HN.out]
    exact Told.none (((BOX.out w3 H3.out).2.2.2.setCell (by show w'.heap.size ≤ w'.heap.size + 1; omega) _).setCell (by show w'.heap.size ≤ w'.heap.size + 1; omega) _)
  | true =>
    have hpb := (someB_path key t).1 hv
    obtain ⟨uk, uc, M, hn, -⟩ := Tr.path_sink key t.weight t (Nat.le_refl _) (Tr.Well.of_some hv)
    have hr : r = if place key uk < uk.length then ((t.path key).1, (place key uk : Int), true) else Tr.upF t (t.path key).1 := by
      rw [HR.out, Tr.seekB, if_pos hv, Tr.seekCur, hn]
    have hfew := Tr.nodeTo_few hv hn
    obtain ⟨P, hP⟩ : ∃ P, P = (t.path key).1 := ⟨_, rfl⟩
    rw [← hP] at hr hn hfew
    have HN := Lib.hid (And.intro hr (And.intro hn hfew))
    have HPB := Lib.hid (show (t.pathB key).1 = P by rw [hpb, hP])
    clear hr hn hfew hv hpb hP
    go_wp2_with fail
    refine (specPathOf_c HT.out hw key w3 (BOX.out w3 H3.out).2.2.1 (by omega)).mono ?_
    rintro e w4 ⟨v4, rfl, hown4, hb4⟩
    rw [HPB.out] at hown4
    obtain ⟨a4, c4, rfl⟩ := IntsOwn.shown hown4
    have hs4 := hb4.size
    have h24 : Below W2.heap.size W2 w4 := H3.out.trans (hb4.mono hs3)
    have H4 := Lib.hid (And.intro h24 hown4)
    clear x1 x2 x3 x4 y1 y2 y3 y4
    obtain ⟨x1, x2, x3, x4⟩ := box2 (BOX.out w4 h24).1
    clear hb4 h24 hown4
    go_wp2_with fail
    refine (l8Node_c ((HT.out.later (BOX.out w4 H4.out.1).2.2.1 (Nat.le_refl _)).wider (by omega : B ≤ w4.heap.size)) H4.out.2.in w4 (Below.refl _ _) (Nat.le_refl _)).mono ?_
    rintro e w5 ⟨hno, hb5⟩
    rcases hno with ⟨u1, ku, cu, hnd, rfl, hu⟩ | ⟨hnone, rfl⟩
    case inr => rw [HN.out.2.1] at hnone; cases hnone
    obtain rfl : u1 = .mk uk uc := by rw [HN.out.2.1] at hnd; exact (Option.some.inj hnd).symm
    have hs5 := hb5.size
    obtain ⟨ca, ccap, kvs, cvs, rfl, hik, -, -, -, -⟩ := hu.parts
    have HIK := Lib.hid hik
    obtain ⟨ka, kcap, rfl, hk1, hk2, -⟩ := hik
    unfold maxLen at hk2
    have h25 : Below W2.heap.size W2 w5 := H4.out.1.trans (hb5.mono (by omega))
    have hown5 : IntsOwn w5 w3.heap.size (.slice a4 P.length c4) P := H4.out.2.later hb5 (Nat.le_refl _)
    obtain ⟨W6, hW6⟩ : ∃ W6, W6 = w5.alloc (.cells #[.slice ka uk.length kcap, .slice ca uc.length ccap] 33) := ⟨_, rfl⟩
    have hs6 : W6.heap.size = w5.heap.size + 1 := by rw [hW6]; simp
    have hb6 : Below w5.heap.size w5 W6 := by rw [hW6]; exact (Below.refl _ _).alloc (Nat.le_refl _) _
    have d2 : W6.heap[w5.heap.size]? = some (.cells #[.slice ka uk.length kcap, .slice ca uc.length ccap] 33 (0, 0)) := by rw [hW6, new_blk]
    have h26 : Below W2.heap.size W2 W6 := h25.trans (hb6.mono (by omega))
    have hown6 := hown5.later hb6 (Nat.le_refl _)
    have HPL := Lib.hid (l2Place_c W6 w4.heap.size (HIK.out.later (hb5.trans (hb6.mono hs5)) (Nat.le_refl _)) key)
    obtain ⟨q1, q2, q3, q4⟩ := box2 d2
    rw [hW6] at q1 q2 q3 q4
    have H6 := Lib.hid (And.intro h26 (And.intro hown6 (And.intro d2 hs6)))
    have HW6 := Lib.hid hW6
    clear hnd hu hb5 h25 hown5 hW6 hb6 d2 h26 hown6 x1 x2 x3 x4 hs6
    go_wp2_with fail
    rw [← HW6.out]
    refine HPL.out.mono ?_
    rintro e w7 ⟨rfl, hb7⟩
    have hs7 := hb7.size
    have hz6 := H6.out.2.2.2
    have hz6x : w5.heap.size ≤ W6.heap.size := by omega
    have h27 : Below W2.heap.size W2 w7 := H6.out.1.trans (hb7.mono (by omega))
    have hown7 := H6.out.2.1.later hb7 (Nat.le_refl _)
    have d7 := (hb7.block w5.heap.size (by omega)).trans H6.out.2.2.1
    clear q1 q2 q3 q4
    obtain ⟨q1, q2, q3, q4⟩ := box2 d7
    obtain ⟨x1, x2, x3, x4⟩ := box2 (BOX.out w7 h27).1
    obtain ⟨y1, y2, y3, y4⟩ := box2 (BOX.out w7 h27).2.1
    have hpl := place_le key uk
    obtain ⟨i, hi⟩ : ∃ i, i = place key uk := ⟨_, rfl⟩
    rw [← hi] at hpl ⊢
    have HI := Lib.hid hi
    have H7 := Lib.hid (And.intro h27 hown7)
    clear hb7 h27 hown7 d7 hz6 hi
    by_cases hlt : i < uk.length
    · have hr : r = (P, (i : Int), true) := by rw [HN.out.1, ← HI.out, if_pos hlt]
      have HRR := Lib.hid hr
      have hlti : (i : Int) < (uk.length : Int) := by omega
      clear hr
      go_wp2_with fail
      have d := set_blk (o := 1) (.int .i64 (i : Int)) (set_blk (o := 0) (.slice a4 P.length c4) (BOX.out w7 H7.out.1).2.1)
      obtain ⟨t1, t2, -, -⟩ := box2 d
      refine bodyPost_ret (v := .tuple #[.agg #[.slice a4 P.length c4, .int .i64 (i : Int)], .bool true]) (by simp [results, Tryd.results26, go_sem, t1, t2]) rfl ⟨.slice a4 P.length c4, by rw [HRR.out], ?_, ?_⟩
      · rw [HRR.out]
        exact (H7.out.2.only (w' := (w7.setCell ⟨w'.heap.size + 1, 0, none⟩ (.slice a4 P.length c4)).setCell ⟨w'.heap.size + 1, 1, none⟩ (.int .i64 (i : Int))) (C := w7.heap.size) (r := w'.heap.size + 1) ⟨rfl, rfl, rfl, by simp, fun k _ hne => by rw [set_other _ _ _ _ _ hne, set_other _ _ _ _ _ hne]⟩ (Nat.le_refl _) (by omega)).lower (by omega)
      · exact ((BOX.out w7 H7.out.1).2.2.2.setCell (by show w'.heap.size ≤ w'.heap.size + 1; omega) _).setCell (by show w'.heap.size ≤ w'.heap.size + 1; omega) _
    · have hr : r = Tr.upF t P := by rw [HN.out.1, ← HI.out, if_neg hlt]
      have HUP := Lib.hid (show Calls Tryd.prog 71 #[.agg #[.slice g1 g2 g3, .slice g4 g5 g6], .slice a4 P.length c4, .bool false] w7 (Told w7 r) by
        rw [hr]
        exact l8UpF_c ((HT.out.later (BOX.out w7 H7.out.1).2.2.1 (Nat.le_refl _)).wider (by omega : B ≤ w7.heap.size)) H7.out.2.in HN.out.2.1 hw (by have := HN.out.2.2; omega) w7 (Below.refl _ _) (Nat.le_refl _))
      have hlti : ¬ (i : Int) < (uk.length : Int) := by omega
      clear hr
      go_wp2_with fail
      refine HUP.out.mono ?_
      rintro e w8 ⟨v8, rfl, hown8, hb8⟩
      obtain ⟨a8, c8, rfl⟩ := IntsOwn.shown hown8
      have hs8 := hb8.size
      have h28 : Below W2.heap.size W2 w8 := H7.out.1.trans (hb8.mono (by omega))
      clear x1 x2 x3 x4 y1 y2 y3 y4 q1 q2 q3 q4
      obtain ⟨y1, y2, y3, y4⟩ := box2 (BOX.out w8 h28).2.1
      obtain ⟨P8, A8, ok8⟩ := r
      have H8 := Lib.hid (And.intro h28 hown8)
      clear hb8 h28 hown8
      go_wp2_with fail
      have d := set_blk (o := 1) (.int .i64 A8) (set_blk (o := 0) (.slice a8 P8.length c8) (BOX.out w8 H8.out.1).2.1)
      obtain ⟨t1, t2, -, -⟩ := box2 d
      refine bodyPost_ret (v := .tuple #[.agg #[.slice a8 P8.length c8, .int .i64 A8], .bool ok8]) (by simp [results, Tryd.results26, go_sem, t1, t2]) rfl ⟨.slice a8 P8.length c8, rfl, ?_, ?_⟩
      · exact (H8.out.2.only (w' := (w8.setCell ⟨w'.heap.size + 1, 0, none⟩ (.slice a8 P8.length c8)).setCell ⟨w'.heap.size + 1, 1, none⟩ (.int .i64 A8)) (C := w8.heap.size) (r := w'.heap.size + 1) ⟨rfl, rfl, rfl, by simp, fun k _ hne => by rw [set_other _ _ _ _ _ hne, set_other _ _ _ _ _ hne]⟩ (Nat.le_refl _) (by omega)).lower (by omega)
      · exact ((BOX.out w8 H8.out.1).2.2.2.setCell (by show w'.heap.size ≤ w'.heap.size + 1; omega) _).setCell (by show w'.heap.size ≤ w'.heap.size + 1; omega) _
end Go.Proofs.YticfkfjijnfcbaaDoor

/- append of ints at a step of a region that draws its order. -/
namespace Go.Proofs.YticfkfjijnfcbaaDoor
open Go.RowKit

theorem IntsAt.of_block {w : World} {m : Nat} {x : Int} {ty : TypeId} {fr : Nat × Nat} (h : w.heap[m]? = some (.cells #[.int .i64 x] ty fr)) : IntsAt w (.slice (some ⟨m, 0, none⟩) 1 1) [x] :=
  ⟨_, _, rfl, by simp, .inr ⟨_, 0, rfl, fun i hi => by
    obtain rfl : i = 0 := by simpa using hi
    rw [cell_of_row w m 0 _ ty fr h]; rfl⟩⟩

/-- 'append(out, more...)' at a step of a region that draws. -/
theorem step_append_ints {w : World} {ops : Array Oper} {o : Oper} {a : Act} {K : Act → World → Prop} {Q : Exit → Act → World → Prop} {E : Prop} (hgd : o.guard = none) (s x : Operand)
    (ho : o.op = .call { callee := .builtin .append, args := #[s, x], argTypes := #[22, 22] })
    (lo : Nat) (v y : Value) (xs ms : List Int) (hs : a.eval s = v) (hown : IntsOwn w lo v xs) (hx : a.eval x = y) (hsrc : IntsAt w y ms)
    (hlen : xs.length + ms.length ≤ 17592186044416) (hlo : lo ≤ w.heap.size)
    (h : ∀ v' w', IntsOwn w' lo v' (xs ++ ms) → Below lo w w' → w.grownBy w' v.ownBlock → (∃ a c, v' = .slice a (xs ++ ms).length c) → K (a.put o.dst v') w') :
    if Region.wanted o (yielded ops a.tmps) = true then Oper.wp Tryd.prog o a w K Q else E := by
  have hw : Region.wanted o (yielded ops a.tmps) = true := by simp [Region.wanted, hgd]
  rw [if_pos hw]
  obtain ⟨i0, hi, hz0, hz1, hz2⟩ := info_parts Tryd.appInfo
  obtain ⟨pa, cap, rfl, hnl, hat⟩ := hsrc
  rcases pa with _ | p
  · obtain rfl := hnl rfl
    obtain rfl : ms = [] := by
      rcases hat with h | ⟨b, o, h, _⟩
      · exact h
      · cases h
    have hk := h v w (by simpa using hown) (Below.refl _ _) (World.grownBy.refl _ _) (by simpa using IntsOwn.shown hown)
    have hrun := run_append_owned_none (P := Tryd.prog) (w := w) lo 22 o.type 3 i0 1 Tryd.underlying22 hi v _ _ hown
    unfold Oper.wp
    simp only [List.length_nil] at hx
    simp [execOp, ho, resolve, invoke, builtin, hs, hx, hrun, Result.andThen]
    exact hk
  · refine wp_append_own w s x 22 ho lo 3 i0 (.int .i64 0) 1 8 Tryd.underlying22 hi hz0 hz1 hz2 rfl (by decide) v _ _ hs hown p ms.length cap (ms.map (Value.int .i64)) hx (by simp) (fun j u hj => ?_) (ints_oneCell .i64 ms) (by unfold maxLen; omega) (by omega) hlo (fun v' w' hown' hgrow _ => ?_)
    · have hjl : j < ms.length := by
        have := (List.getElem?_eq_some_iff.1 hj).1
        simpa using this
      rcases hat with h | ⟨b, o, h, hc⟩
      · simp [h] at hjl
      · cases h
        have hu : u = .int .i64 (ms.getD j 0) := by
          rw [List.getElem?_map] at hj
          simp [hjl] at hj
          simp [← hj, hjl]
        rw [hu, Addr.add_lit]
        exact hc j hjl
    · have hown2 : IntsOwn w' lo v' (xs ++ ms) := by
        unfold IntsOwn
        rw [List.length_append, List.map_append]
        exact hown'
      exact h v' w' hown2 ((Below.refl lo w).grown hgrow hlo (fun k hk => (hown.lt k hk).1)) hgrow (IntsOwn.shown hown2)

/-- The empty row, and the row of one, in whatever order they are laid. -/
theorem made1 (w : World) : IntsOwn (w.alloc (.cells #[] 3)).drew w.heap.size (.slice (some ⟨w.heap.size, 0, none⟩) 0 0) [] := World.ownsRow_made w #[] 0 (Nat.le_refl _) (by unfold maxLen; omega) rfl
theorem made2 (w : World) (o : Obj) : IntsOwn ((w.alloc (.cells #[] 3)).alloc o).drew w.heap.size (.slice (some ⟨w.heap.size, 0, none⟩) 0 0) [] := IntsOwn.alloc' (made1 w) o
theorem made3 (w : World) (o : Obj) : IntsOwn ((w.alloc o).alloc (.cells #[] 3)).drew w.heap.size (.slice (some ⟨w.heap.size + 1, 0, none⟩) 0 0) [] := by
  have h := made1 (w.alloc o)
  rw [show (w.alloc o).heap.size = w.heap.size + 1 by simp] at h
  exact IntsOwn.lower h (by omega)
theorem key1 {w w' : World} {o : Obj} {x : Int} {r : Option Nat} (hg : ((w.alloc o).alloc (.cells #[.int .i64 x] 3)).drew.grownBy w' r) (hr : some (w.heap.size + 1) ≠ r) : IntsAt w' (.slice (some ⟨w.heap.size + 1, 0, none⟩) 1 1) [x] := by
  refine IntsAt.of_block (ty := 3) (fr := (0, 0)) ((hg.block (w.heap.size + 1) (by simp) hr).trans ?_)
  show ((w.alloc o).alloc (.cells #[.int .i64 x] 3)).heap[w.heap.size + 1]? = _
  rw [show w.heap.size + 1 = (w.alloc o).heap.size by simp, new_blk]
theorem key2 {w w' : World} {o : Obj} {x : Int} {r : Option Nat} (hg : ((w.alloc (.cells #[.int .i64 x] 3)).alloc o).drew.grownBy w' r) (hr : some w.heap.size ≠ r) : IntsAt w' (.slice (some ⟨w.heap.size, 0, none⟩) 1 1) [x] := by
  refine IntsAt.of_block (ty := 3) (fr := (0, 0)) ((hg.block w.heap.size (by simp; omega) hr).trans ?_)
  show ((w.alloc (.cells #[.int .i64 x] 3)).alloc o).heap[w.heap.size]? = _
  rw [old_blk _ _ _ (by simp), new_blk]
end Go.Proofs.YticfkfjijnfcbaaDoor
