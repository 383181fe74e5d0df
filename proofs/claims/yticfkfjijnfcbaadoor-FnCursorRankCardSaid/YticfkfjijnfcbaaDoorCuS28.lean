/- The program's FirstCursor, LastCursor, SeekCursor, Forward and Backward. -/
import Derived.Test.YticfkfjijnfcbaaDoorCuS27
namespace Go.Proofs.YticfkfjijnfcbaaDoor
open Go.RowKit
theorem ints_nil (w : World) (B : Nat) : IntsIn w B (.slice none 0 0) [] := ⟨none, 0, rfl, Nat.le_refl _, by unfold maxLen; omega, fun h => rfl, .inl rfl⟩
set_option maxHeartbeats 1000000 in
set_option maxRecDepth 100000 in
theorem impl_forward_c {w : World} {B : Nat} {kv cv v : Value} {t : Tr} {ks : List Int} (ht : TreeIn w B kv cv t) (hw : t.weight ≤ 1048576) (hk : IntsIn w B v ks) (a : Int) (s s2 : Addr) (w' : World) (hbw : Below B w w') (hB : B ≤ w'.heap.size)
   (hV : ∀ wx, Below w'.heap.size w' wx → wx.cell? ⟨0, 0, none⟩ = some (.iface 174 (.pointer (some s))) ∧ wx.cell? ⟨1, 0, none⟩ = some (.iface 174 (.pointer (some s2)))) :
   Calls Tryd.prog 31 #[.agg #[kv, cv], .agg #[v, .int .i64 a]] w' (Walked w' (Tr.walkB t ks a (fun K => Tr.goF (K + 1) t ks))) := by
 obtain ⟨r, hr⟩ : ∃ r, r = Tr.walkB t ks a (fun K => Tr.goF (K + 1) t ks) := ⟨_, rfl⟩
 rw [← hr]
 have HT := Lib.hid ht
 have HK := Lib.hid hk
 obtain ⟨g1, g2, g3, g4, g5, g6, rfl, rfl⟩ := ht.slices
 obtain ⟨va, vcap, rfl, -⟩ := hk
 obtain ⟨W2, hW2⟩ : ∃ W2, W2 = ((w'.alloc (.cells #[.slice g1 g2 g3, .slice g4 g5 g6] 33)).alloc (.cells #[.slice va ks.length vcap, .int .i64 a] 28)).alloc (.cells #[.slice none 0 0, .int .i64 0] 28) := ⟨_, rfl⟩
 have hb2 : Below w'.heap.size w' W2 := by rw [hW2]; exact (((Below.refl _ _).alloc (Nat.le_refl _) _).alloc (by simp) _).alloc (by simp; omega) _
 have hs2 : W2.heap.size = w'.heap.size + 3 := by rw [hW2]; simp
 have k0 : W2.heap[w'.heap.size]? = some (.cells #[.slice g1 g2 g3, .slice g4 g5 g6] 33 (0, 0)) := by rw [hW2, old_blk _ _ _ (by first | (simp; done) | (simp; omega)), old_blk _ _ _ (by first | (simp; done) | (simp; omega)), new_blk]
 have k1 : W2.heap[w'.heap.size + 1]? = some (.cells #[.slice va ks.length vcap, .int .i64 a] 28 (0, 0)) := by rw [hW2, old_blk _ _ _ (by first | (simp; done) | (simp; omega)), show w'.heap.size + 1 = (w'.alloc (.cells #[.slice g1 g2 g3, .slice g4 g5 g6] 33)).heap.size by simp, new_blk]
 have kr : W2.heap[w'.heap.size + 1 + 1]? = some (.cells #[.slice none 0 0, .int .i64 0] 28 (0, 0)) := by rw [hW2, show w'.heap.size + 1 + 1 = ((w'.alloc (.cells #[.slice g1 g2 g3, .slice g4 g5 g6] 33)).alloc (.cells #[.slice va ks.length vcap, .int .i64 a] 28)).heap.size by simp, new_blk]
 have k0x := k0
 rw [hW2] at k0x
 obtain ⟨x1, x2, x3, x4⟩ := box2 k0x
 have k1x := k1
 rw [hW2] at k1x
 obtain ⟨y1, y2, y3, y4⟩ := box2 k1x
 have HC := Lib.hid (show Calls Tryd.prog 66 #[.agg #[.slice g1 g2 g3, .slice g4 g5 g6], .agg #[.slice va ks.length vcap, .int .i64 a], .func (.func 76) #[] #[]] W2 (Walked W2 r) by
   rw [hr]; exact walkForward_c HT.out hw HK.out a s s2 W2 (hbw.trans (hb2.mono hB)) (by omega) (fun wx hx => hV wx (hb2.trans (hx.mono (by omega)))))
 have HB2 := Lib.hid (And.intro hb2 (And.intro kr hs2))
 have HW2 := Lib.hid hW2
 clear ht hbw hW2 hb2 hs2 kr hr hV k0 k0x k1 k1x
 go_enter Tryd.func31, Tryd.ntmps31
 go_wp2_with fail
 rw [← HW2.out]
 refine HC.out.mono ?_
 rintro e w3 ⟨v, rfl, hown, hb3⟩
 obtain ⟨a3, m3, rfl⟩ := IntsOwn.shown hown
 have hs3 := hb3.size
 have j3 := (hb3.block (w'.heap.size + 1 + 1) (by have := HB2.out.2.2; omega)).trans HB2.out.2.1
 obtain ⟨c1, c2, c3, c4⟩ := box2 j3
 have H3 := Lib.hid (And.intro (HB2.out.1.trans (hb3.mono HB2.out.1.size)) (And.intro j3 hown))
 obtain ⟨P, a', ok⟩ := r
 clear hb3 j3 hown x1 x2 x3 x4 y1 y2 y3 y4
 go_wp2_with fail
 have d := set_blk (o := 1) (.int .i64 a') (set_blk (o := 0) (.slice a3 P.length m3) H3.out.2.1)
 obtain ⟨t1, t2, -, -⟩ := box2 d
 have hz := HB2.out.2.2
 refine bodyPost_ret (v := .tuple #[.agg #[.slice a3 P.length m3, .int .i64 a'], .bool ok]) (by simp [results, Tryd.results31, go_sem, t1, t2]) rfl ⟨_, rfl, ?_, ?_⟩
 · have h2 := H3.out.2.2.only (w' := (w3.setCell ⟨w'.heap.size + 1 + 1, 0, none⟩ (.slice a3 P.length m3)).setCell ⟨w'.heap.size + 1 + 1, 1, none⟩ (.int .i64 a')) (C := w3.heap.size) (r := w'.heap.size + 1 + 1) ⟨rfl, rfl, rfl, by simp, fun k _ hne => by rw [set_other _ _ _ _ _ hne, set_other _ _ _ _ _ hne]⟩ (Nat.le_refl _) (by omega)
   exact h2.lower (by omega)
 · exact (H3.out.1.setCell (by show w'.heap.size ≤ w'.heap.size + 1 + 1; omega) _).setCell (by show w'.heap.size ≤ w'.heap.size + 1 + 1; omega) _
set_option maxHeartbeats 1000000 in
set_option maxRecDepth 100000 in
theorem impl_seek_c {w : World} {B : Nat} {kv cv : Value} {t : Tr} (ht : TreeIn w B kv cv t) (hw : t.weight ≤ 1048576) (key : Int) (s s2 : Addr) (w' : World) (hbw : Below B w w') (hB : B ≤ w'.heap.size)
   (hV : ∀ wx, Below w'.heap.size w' wx → wx.cell? ⟨0, 0, none⟩ = some (.iface 174 (.pointer (some s))) ∧ wx.cell? ⟨1, 0, none⟩ = some (.iface 174 (.pointer (some s2)))) :
   Calls Tryd.prog 27 #[.agg #[kv, cv], .int .i64 key] w' (Walked w' (Tr.walkB t [] 0 (fun _ => Tr.goF key t []))) := by
 obtain ⟨r, hr⟩ : ∃ r, r = Tr.walkB t [] 0 (fun _ => Tr.goF key t []) := ⟨_, rfl⟩
 rw [← hr]
 have HT := Lib.hid ht
 obtain ⟨g1, g2, g3, g4, g5, g6, rfl, rfl⟩ := ht.slices
 obtain ⟨W2, hW2⟩ : ∃ W2, W2 = ((w'.alloc (.cells #[.slice g1 g2 g3, .slice g4 g5 g6] 33)).alloc (.cells #[.int .i64 key] 3)).alloc (.cells #[.slice none 0 0, .int .i64 0] 28) := ⟨_, rfl⟩
 have hb2 : Below w'.heap.size w' W2 := by rw [hW2]; exact (((Below.refl _ _).alloc (Nat.le_refl _) _).alloc (by simp) _).alloc (by simp; omega) _
 have hs2 : W2.heap.size = w'.heap.size + 3 := by rw [hW2]; simp
 have k0 : W2.heap[w'.heap.size]? = some (.cells #[.slice g1 g2 g3, .slice g4 g5 g6] 33 (0, 0)) := by rw [hW2, old_blk _ _ _ (by first | (simp; done) | (simp; omega)), old_blk _ _ _ (by first | (simp; done) | (simp; omega)), new_blk]
 have k1 : W2.heap[w'.heap.size + 1]? = some (.cells #[.int .i64 key] 3 (0, 0)) := by rw [hW2, old_blk _ _ _ (by first | (simp; done) | (simp; omega)), show w'.heap.size + 1 = (w'.alloc (.cells #[.slice g1 g2 g3, .slice g4 g5 g6] 33)).heap.size by simp, new_blk]
 have kr : W2.heap[w'.heap.size + 1 + 1]? = some (.cells #[.slice none 0 0, .int .i64 0] 28 (0, 0)) := by rw [hW2, show w'.heap.size + 1 + 1 = ((w'.alloc (.cells #[.slice g1 g2 g3, .slice g4 g5 g6] 33)).alloc (.cells #[.int .i64 key] 3)).heap.size by simp, new_blk]
 have k0x := k0
 rw [hW2] at k0x
 obtain ⟨x1, x2, x3, x4⟩ := box2 k0x
 have k1x := k1
 rw [hW2] at k1x
 obtain ⟨y1, y2⟩ := box1 k1x
 have HKB : Hid (∀ wx : World, Below W2.heap.size W2 wx → wx.cell? ⟨w'.heap.size + 1, 0, none⟩ = some (.int .i64 key)) := Lib.hid (fun wx hx => (box1 ((hx.block _ (by omega)).trans k1)).1)
 have HC := Lib.hid (show Calls Tryd.prog 66 #[.agg #[.slice g1 g2 g3, .slice g4 g5 g6], .agg #[.slice none 0 0, .int .i64 0], .func (.func 72) #[] #[.pointer (some ⟨w'.heap.size + 1, 0, none⟩)]] W2 (Walked W2 r) by
   rw [hr]; exact walkSeek_c HT.out hw (ints_nil _ _) 0 s s2 W2 (hbw.trans (hb2.mono hB)) (by omega) (fun wx hx => hV wx (hb2.trans (hx.mono (by omega)))) key _ HKB.out)
 have HB2 := Lib.hid (And.intro hb2 (And.intro kr hs2))
 have HW2 := Lib.hid hW2
 clear ht hbw hW2 hb2 hs2 kr hr hV k0 k0x k1 k1x
 go_enter Tryd.func27, Tryd.ntmps27
 go_wp2_with fail
 rw [← HW2.out]
 refine HC.out.mono ?_
 rintro e w3 ⟨v, rfl, hown, hb3⟩
 obtain ⟨a3, m3, rfl⟩ := IntsOwn.shown hown
 have hs3 := hb3.size
 have j3 := (hb3.block (w'.heap.size + 1 + 1) (by have := HB2.out.2.2; omega)).trans HB2.out.2.1
 obtain ⟨c1, c2, c3, c4⟩ := box2 j3
 have H3 := Lib.hid (And.intro (HB2.out.1.trans (hb3.mono HB2.out.1.size)) (And.intro j3 hown))
 obtain ⟨P, a', ok⟩ := r
 clear hb3 j3 hown x1 x2 x3 x4 y1 y2
 go_wp2_with fail
 have d := set_blk (o := 1) (.int .i64 a') (set_blk (o := 0) (.slice a3 P.length m3) H3.out.2.1)
 obtain ⟨t1, t2, -, -⟩ := box2 d
 have hz := HB2.out.2.2
 refine bodyPost_ret (v := .tuple #[.agg #[.slice a3 P.length m3, .int .i64 a'], .bool ok]) (by simp [results, Tryd.results27, go_sem, t1, t2]) rfl ⟨_, rfl, ?_, ?_⟩
 · have h2 := H3.out.2.2.only (w' := (w3.setCell ⟨w'.heap.size + 1 + 1, 0, none⟩ (.slice a3 P.length m3)).setCell ⟨w'.heap.size + 1 + 1, 1, none⟩ (.int .i64 a')) (C := w3.heap.size) (r := w'.heap.size + 1 + 1) ⟨rfl, rfl, rfl, by simp, fun k _ hne => by rw [set_other _ _ _ _ _ hne, set_other _ _ _ _ _ hne]⟩ (Nat.le_refl _) (by omega)
   exact h2.lower (by omega)
 · exact (H3.out.1.setCell (by show w'.heap.size ≤ w'.heap.size + 1 + 1; omega) _).setCell (by show w'.heap.size ≤ w'.heap.size + 1 + 1; omega) _
set_option maxHeartbeats 1000000 in
set_option maxRecDepth 100000 in
theorem impl_first_c {w : World} {B : Nat} {kv cv : Value} {t : Tr} (ht : TreeIn w B kv cv t) (hw : t.weight ≤ 1048576) (s s2 : Addr) (w' : World) (hbw : Below B w w') (hB : B ≤ w'.heap.size)
   (hV : ∀ wx, Below w'.heap.size w' wx → wx.cell? ⟨0, 0, none⟩ = some (.iface 174 (.pointer (some s))) ∧ wx.cell? ⟨1, 0, none⟩ = some (.iface 174 (.pointer (some s2)))) :
   Calls Tryd.prog 18 #[.agg #[kv, cv]] w' (Walked w' (Tr.walkB t [] 0 (fun _ => Tr.goF 0 t []))) := by
 obtain ⟨r, hr⟩ : ∃ r, r = Tr.walkB t [] 0 (fun _ => Tr.goF 0 t []) := ⟨_, rfl⟩
 rw [← hr]
 have HT := Lib.hid ht
 obtain ⟨g1, g2, g3, g4, g5, g6, rfl, rfl⟩ := ht.slices
 obtain ⟨W2, hW2⟩ : ∃ W2, W2 = (w'.alloc (.cells #[.slice g1 g2 g3, .slice g4 g5 g6] 33)).alloc (.cells #[.slice none 0 0, .int .i64 0] 28) := ⟨_, rfl⟩
 have hb2 : Below w'.heap.size w' W2 := by rw [hW2]; exact ((Below.refl _ _).alloc (Nat.le_refl _) _).alloc (by simp) _
 have hs2 : W2.heap.size = w'.heap.size + 2 := by rw [hW2]; simp
 have k0 : W2.heap[w'.heap.size]? = some (.cells #[.slice g1 g2 g3, .slice g4 g5 g6] 33 (0, 0)) := by rw [hW2, old_blk _ _ _ (by first | (simp; done) | (simp; omega)), new_blk]
 have kr : W2.heap[w'.heap.size + 1]? = some (.cells #[.slice none 0 0, .int .i64 0] 28 (0, 0)) := by rw [hW2, show w'.heap.size + 1 = (w'.alloc (.cells #[.slice g1 g2 g3, .slice g4 g5 g6] 33)).heap.size by simp, new_blk]
 have k0x := k0
 rw [hW2] at k0x
 obtain ⟨x1, x2, x3, x4⟩ := box2 k0x
 have HC := Lib.hid (show Calls Tryd.prog 27 #[.agg #[.slice g1 g2 g3, .slice g4 g5 g6], .int .i64 0] W2 (Walked W2 r) by
   rw [hr]; exact impl_seek_c HT.out hw 0 s s2 W2 (hbw.trans (hb2.mono hB)) (by omega) (fun wx hx => hV wx (hb2.trans (hx.mono (by omega)))))
 have HB2 := Lib.hid (And.intro hb2 (And.intro kr hs2))
 have HW2 := Lib.hid hW2
 clear ht hbw hW2 hb2 hs2 kr hr hV k0 k0x
 go_enter Tryd.func18, Tryd.ntmps18
 go_wp2_with fail
 rw [← HW2.out]
 refine HC.out.mono ?_
 rintro e w3 ⟨v, rfl, hown, hb3⟩
 obtain ⟨a3, m3, rfl⟩ := IntsOwn.shown hown
 have hs3 := hb3.size
 have j3 := (hb3.block (w'.heap.size + 1) (by have := HB2.out.2.2; omega)).trans HB2.out.2.1
 obtain ⟨c1, c2, c3, c4⟩ := box2 j3
 have H3 := Lib.hid (And.intro (HB2.out.1.trans (hb3.mono HB2.out.1.size)) (And.intro j3 hown))
 obtain ⟨P, a', ok⟩ := r
 clear hb3 j3 hown x1 x2 x3 x4
 go_wp2_with fail
 have d := set_blk (o := 1) (.int .i64 a') (set_blk (o := 0) (.slice a3 P.length m3) H3.out.2.1)
 obtain ⟨t1, t2, -, -⟩ := box2 d
 have hz := HB2.out.2.2
 refine bodyPost_ret (v := .tuple #[.agg #[.slice a3 P.length m3, .int .i64 a'], .bool ok]) (by simp [results, Tryd.results18, go_sem, t1, t2]) rfl ⟨_, rfl, ?_, ?_⟩
 · have h2 := H3.out.2.2.only (w' := (w3.setCell ⟨w'.heap.size + 1, 0, none⟩ (.slice a3 P.length m3)).setCell ⟨w'.heap.size + 1, 1, none⟩ (.int .i64 a')) (C := w3.heap.size) (r := w'.heap.size + 1) ⟨rfl, rfl, rfl, by simp, fun k _ hne => by rw [set_other _ _ _ _ _ hne, set_other _ _ _ _ _ hne]⟩ (Nat.le_refl _) (by omega)
   exact h2.lower (by omega)
 · exact (H3.out.1.setCell (by show w'.heap.size ≤ w'.heap.size + 1; omega) _).setCell (by show w'.heap.size ≤ w'.heap.size + 1; omega) _
end Go.Proofs.YticfkfjijnfcbaaDoor
