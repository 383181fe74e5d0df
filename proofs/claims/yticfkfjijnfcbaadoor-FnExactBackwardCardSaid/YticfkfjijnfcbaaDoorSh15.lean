/- The model's l2Place and PathOf. -/
import Derived.Test.YticfkfjijnfcbaaDoorProg
import Derived.Test.YticfkfjijnfcbaaDoorSh0
import Derived.Test.YticfkfjijnfcbaaDoorWalk
import Derived.Test.YticfkfjijnfcbaaDoorSh3
import Derived.Test.YticfkfjijnfcbaaDoorSh7
import Derived.Test.YticfkfjijnfcbaaDoorPlant
import Derived.Deep.LoopGhost

/- The program's FirstCursor, LastCursor, SeekCursor, Forward and Backward. -/
namespace Go.Proofs.YticfkfjijnfcbaaDoor
open Go.RowKit

theorem ints_nil (w : World) (B : Nat) : IntsIn w B (.slice none 0 0) [] := ⟨none, 0, rfl, Nat.le_refl _, by unfold maxLen; omega, fun h => rfl, .inl rfl⟩

set_option maxHeartbeats 1000000 in
set_option maxRecDepth 100000 in
theorem impl_forward_c {w : World} {B : Nat} {kv cv v : Value} {t : Tr} {ks : List Int} (ht : TreeIn w B kv cv t) (hw : t.weight ≤ 1048576) (hk : IntsIn w B v ks) (a : Int) (s s2 : Addr) (w' : World) (hbw : Below B w w') (hB : B ≤ w'.heap.size)
    (hV : ∀ wx, Below w'.heap.size w' wx → wx.cell? ⟨0, 0, none⟩ = some (.iface 174 (.pointer (some s))) ∧ wx.cell? ⟨1, 0, none⟩ = some (.iface 174 (.pointer (some s2)))) :
    Calls Tryd.prog 31 #[.agg #[kv, cv], .agg #[v, .int .i64 a]] w' (Walked w' (Tr.walkB t ks a (fun K => Tr.goF (K + 1) t ks))) := by
  obtain ⟨r, hr⟩ : ∃ r, r = Tr.walkB t ks a (fun K => Tr.goF (K + 1) t ks) := ⟨_, rfl⟩
  rw [← hr]
  have HT := Lib.hid ht
  have HK := Lib.hid hk
  obtain ⟨g1, g2, g3, g4, g5, g6, rfl, rfl⟩ := ht.slices
  obtain ⟨va, vcap, rfl, -⟩ := hk
  obtain ⟨W2, hW2⟩ : ∃ W2, W2 = ((w'.alloc (.cells #[.slice g1 g2 g3, .slice g4 g5 g6] 33)).alloc (.cells #[.slice va ks.length vcap, .int .i64 a] 28)).alloc (.cells #[.slice none 0 0, .int .i64 0] 28) := ⟨_, rfl⟩
  have hb2 : Below w'.heap.size w' W2 := by rw [hW2]; exact (((Below.refl _ _).alloc (Nat.le_refl _) _).alloc (by simp) _).alloc (by simp; omega) _
  have hs2 : W2.heap.size = w'.heap.size + 3 := by rw [hW2]; simp
  have k0 : W2.heap[w'.heap.size]? = some (.cells #[.slice g1 g2 g3, .slice g4 g5 g6] 33 (0, 0)) := by rw [hW2, old_blk _ _ _ (by first | (simp; done) | (simp; omega)), old_blk _ _ _ (by first | (simp; done) | (simp; omega)), new_blk]
  have k1 : W2.heap[w'.heap.size + 1]? = some (.cells #[.slice va ks.length vcap, .int .i64 a] 28 (0, 0)) := by rw [hW2, old_blk _ _ _ (by first | (simp; done) | (simp; omega)), show w'.heap.size + 1 = (w'.alloc (.cells #[.slice g1 g2 g3, .slice g4 g5 g6] 33)).heap.size by simp, new_blk]
  have kr : W2.heap[w'.heap.size + 1 + 1]? = some (.cells #[.slice none 0 0, .int .i64 0] 28 (0, 0)) := by rw [hW2, show w'.heap.size + 1 + 1 = ((w'.alloc (.cells #[.slice g1 g2 g3, .slice g4 g5 g6] 33)).alloc (.cells #[.slice va ks.length vcap, .int .i64 a] 28)).heap.size by simp, new_blk]
  have k0x := k0
  rw [hW2] at k0x
  obtain ⟨x1, x2, x3, x4⟩ := box2 k0x
  have k1x := k1
  rw [hW2] at k1x
  obtain ⟨y1, y2, y3, y4⟩ := box2 k1x
  have HC := Lib.hid (show Calls Tryd.prog 66 #[.agg #[.slice g1 g2 g3, .slice g4 g5 g6], .agg #[.slice va ks.length vcap, .int .i64 a], .func (.func 76) #[] #[]] W2 (Walked W2 r) by
    rw [hr]; exact walkForward_c HT.out hw HK.out a s s2 W2 (hbw.trans (hb2.mono hB)) (by omega) (fun wx hx => hV wx (hb2.trans (hx.mono (by omega)))))
  have HB2 := Lib.hid (And.intro hb2 (And.intro kr hs2))
  have HW2 := Lib.hid hW2
  clear ht hbw hW2 hb2 hs2 kr hr hV k0 k0x k1 k1x
  go_enter Tryd.func31, Tryd.ntmps31
  go_wp2_with fail
  rw [← HW2.out]
  refine HC.out.mono ?_
  rintro e w3 ⟨v, rfl, hown, hb3⟩
  obtain ⟨a3, m3, rfl⟩ := IntsOwn.shown hown
  have hs3 := hb3.size
  have j3 := (hb3.block (w'.heap.size + 1 + 1) (by have := HB2.out.2.2; omega)).trans HB2.out.2.1
  obtain ⟨c1, c2, c3, c4⟩ := box2 j3
  have H3 := Lib.hid (And.intro (HB2.out.1.trans (hb3.mono HB2.out.1.size)) (And.intro j3 hown))
  obtain ⟨P, a', ok⟩ := r
  clear hb3 j3 hown x1 x2 x3 x4 y1 y2 y3 y4
  go_wp2_with fail
  have d := set_blk (o := 1) (.int .i64 a') (set_blk (o := 0) (.slice a3 P.length m3) H3.out.2.1)
  obtain ⟨t1, t2, -, -⟩ := box2 d
  have hz := HB2.out.2.2
  refine bodyPost_ret (v := .tuple #[.agg #[.slice a3 P.length m3, .int .i64 a'], .bool ok]) (by simp [results, Tryd.results31, go_sem, t1, t2]) rfl ⟨_, rfl, ?_, ?_⟩
  · have h2 := H3.out.2.2.only (w' := (w3.setCell ⟨w'.heap.size + 1 + 1, 0, none⟩ (.slice a3 P.length m3)).setCell ⟨w'.heap.size + 1 + 1, 1, none⟩ (.int .i64 a')) (C := w3.heap.size) (r := w'.heap.size + 1 + 1) ⟨rfl, rfl, rfl, by simp, fun k _ hne => by rw [set_other _ _ _ _ _ hne, set_other _ _ _ _ _ hne]⟩ (Nat.le_refl _) (by omega)
    exact h2.lower (by omega)
  · exact (H3.out.1.setCell (by show w'.heap.size ≤ w'.heap.size + 1 + 1; omega) _).setCell (by show w'.heap.size ≤ w'.heap.size + 1 + 1; omega) _

set_option maxHeartbeats 1000000 in
set_option maxRecDepth 100000 in
theorem impl_backward_c {w : World} {B : Nat} {kv cv v : Value} {t : Tr} {ks : List Int} (ht : TreeIn w B kv cv t) (hw : t.weight ≤ 1048576) (hk : IntsIn w B v ks) (a : Int) (s s2 : Addr) (w' : World) (hbw : Below B w w') (hB : B ≤ w'.heap.size)
    (hV : ∀ wx, Below w'.heap.size w' wx → wx.cell? ⟨0, 0, none⟩ = some (.iface 174 (.pointer (some s))) ∧ wx.cell? ⟨1, 0, none⟩ = some (.iface 174 (.pointer (some s2)))) :
    Calls Tryd.prog 33 #[.agg #[kv, cv], .agg #[v, .int .i64 a]] w' (Walked w' (Tr.walkB t ks a (fun K => Tr.goB K t ks))) := by
  obtain ⟨r, hr⟩ : ∃ r, r = Tr.walkB t ks a (fun K => Tr.goB K t ks) := ⟨_, rfl⟩
  rw [← hr]
  have HT := Lib.hid ht
  have HK := Lib.hid hk
  obtain ⟨g1, g2, g3, g4, g5, g6, rfl, rfl⟩ := ht.slices
  obtain ⟨va, vcap, rfl, -⟩ := hk
  obtain ⟨W2, hW2⟩ : ∃ W2, W2 = ((w'.alloc (.cells #[.slice g1 g2 g3, .slice g4 g5 g6] 33)).alloc (.cells #[.slice va ks.length vcap, .int .i64 a] 28)).alloc (.cells #[.slice none 0 0, .int .i64 0] 28) := ⟨_, rfl⟩
  have hb2 : Below w'.heap.size w' W2 := by rw [hW2]; exact (((Below.refl _ _).alloc (Nat.le_refl _) _).alloc (by simp) _).alloc (by simp; omega) _
  have hs2 : W2.heap.size = w'.heap.size + 3 := by rw [hW2]; simp
  have k0 : W2.heap[w'.heap.size]? = some (.cells #[.slice g1 g2 g3, .slice g4 g5 g6] 33 (0, 0)) := by rw [hW2, old_blk _ _ _ (by first | (simp; done) | (simp; omega)), old_blk _ _ _ (by first | (simp; done) | (simp; omega)), new_blk]
  have k1 : W2.heap[w'.heap.size + 1]? = some (.cells #[.slice va ks.length vcap, .int .i64 a] 28 (0, 0)) := by rw [hW2, old_blk _ _ _ (by first | (simp; done) | (simp; omega)), show w'.heap.size + 1 = (w'.alloc (.cells #[.slice g1 g2 g3, .slice g4 g5 g6] 33)).heap.size by simp, new_blk]
  have kr : W2.heap[w'.heap.size + 1 + 1]? = some (.cells #[.slice none 0 0, .int .i64 0] 28 (0, 0)) := by rw [hW2, show w'.heap.size + 1 + 1 = ((w'.alloc (.cells #[.slice g1 g2 g3, .slice g4 g5 g6] 33)).alloc (.cells #[.slice va ks.length vcap, .int .i64 a] 28)).heap.size by simp, new_blk]
  have k0x := k0
  rw [hW2] at k0x
  obtain ⟨x1, x2, x3, x4⟩ := box2 k0x
  have k1x := k1
  rw [hW2] at k1x
  obtain ⟨y1, y2, y3, y4⟩ := box2 k1x
  have HC := Lib.hid (show Calls Tryd.prog 66 #[.agg #[.slice g1 g2 g3, .slice g4 g5 g6], .agg #[.slice va ks.length vcap, .int .i64 a], .func (.func 77) #[] #[]] W2 (Walked W2 r) by
    rw [hr]; exact walkBackward_c HT.out hw HK.out a s s2 W2 (hbw.trans (hb2.mono hB)) (by omega) (fun wx hx => hV wx (hb2.trans (hx.mono (by omega)))))
  have HB2 := Lib.hid (And.intro hb2 (And.intro kr hs2))
  have HW2 := Lib.hid hW2
  clear ht hbw hW2 hb2 hs2 kr hr hV k0 k0x k1 k1x
  go_enter Tryd.func33, Tryd.ntmps33
  go_wp2_with fail
  rw [← HW2.out]
  refine HC.out.mono ?_
  rintro e w3 ⟨v, rfl, hown, hb3⟩
  obtain ⟨a3, m3, rfl⟩ := IntsOwn.shown hown
  have hs3 := hb3.size
  have j3 := (hb3.block (w'.heap.size + 1 + 1) (by have := HB2.out.2.2; omega)).trans HB2.out.2.1
  obtain ⟨c1, c2, c3, c4⟩ := box2 j3
  have H3 := Lib.hid (And.intro (HB2.out.1.trans (hb3.mono HB2.out.1.size)) (And.intro j3 hown))
  obtain ⟨P, a', ok⟩ := r
  clear hb3 j3 hown x1 x2 x3 x4 y1 y2 y3 y4
  go_wp2_with fail
  have d := set_blk (o := 1) (.int .i64 a') (set_blk (o := 0) (.slice a3 P.length m3) H3.out.2.1)
  obtain ⟨t1, t2, -, -⟩ := box2 d
  have hz := HB2.out.2.2
  refine bodyPost_ret (v := .tuple #[.agg #[.slice a3 P.length m3, .int .i64 a'], .bool ok]) (by simp [results, Tryd.results33, go_sem, t1, t2]) rfl ⟨_, rfl, ?_, ?_⟩
  · have h2 := H3.out.2.2.only (w' := (w3.setCell ⟨w'.heap.size + 1 + 1, 0, none⟩ (.slice a3 P.length m3)).setCell ⟨w'.heap.size + 1 + 1, 1, none⟩ (.int .i64 a')) (C := w3.heap.size) (r := w'.heap.size + 1 + 1) ⟨rfl, rfl, rfl, by simp, fun k _ hne => by rw [set_other _ _ _ _ _ hne, set_other _ _ _ _ _ hne]⟩ (Nat.le_refl _) (by omega)
    exact h2.lower (by omega)
  · exact (H3.out.1.setCell (by show w'.heap.size ≤ w'.heap.size + 1 + 1; omega) _).setCell (by show w'.heap.size ≤ w'.heap.size + 1 + 1; omega) _

set_option maxHeartbeats 1000000 in
set_option maxRecDepth 100000 in
theorem impl_last_c {w : World} {B : Nat} {kv cv : Value} {t : Tr} (ht : TreeIn w B kv cv t) (hw : t.weight ≤ 1048576) (s s2 : Addr) (w' : World) (hbw : Below B w w') (hB : B ≤ w'.heap.size)
    (hV : ∀ wx, Below w'.heap.size w' wx → wx.cell? ⟨0, 0, none⟩ = some (.iface 174 (.pointer (some s))) ∧ wx.cell? ⟨1, 0, none⟩ = some (.iface 174 (.pointer (some s2)))) :
    Calls Tryd.prog 25 #[.agg #[kv, cv]] w' (Walked w' (Tr.walkB t [] 0 (fun _ => Tr.goB 100 t []))) := by
  obtain ⟨r, hr⟩ : ∃ r, r = Tr.walkB t [] 0 (fun _ => Tr.goB 100 t []) := ⟨_, rfl⟩
  rw [← hr]
  have HT := Lib.hid ht
  obtain ⟨g1, g2, g3, g4, g5, g6, rfl, rfl⟩ := ht.slices
  obtain ⟨W2, hW2⟩ : ∃ W2, W2 = (w'.alloc (.cells #[.slice g1 g2 g3, .slice g4 g5 g6] 33)).alloc (.cells #[.slice none 0 0, .int .i64 0] 28) := ⟨_, rfl⟩
  have hb2 : Below w'.heap.size w' W2 := by rw [hW2]; exact ((Below.refl _ _).alloc (Nat.le_refl _) _).alloc (by simp) _
  have hs2 : W2.heap.size = w'.heap.size + 2 := by rw [hW2]; simp
  have k0 : W2.heap[w'.heap.size]? = some (.cells #[.slice g1 g2 g3, .slice g4 g5 g6] 33 (0, 0)) := by rw [hW2, old_blk _ _ _ (by first | (simp; done) | (simp; omega)), new_blk]
  have kr : W2.heap[w'.heap.size + 1]? = some (.cells #[.slice none 0 0, .int .i64 0] 28 (0, 0)) := by rw [hW2, show w'.heap.size + 1 = (w'.alloc (.cells #[.slice g1 g2 g3, .slice g4 g5 g6] 33)).heap.size by simp, new_blk]
  have k0x := k0
  rw [hW2] at k0x
  obtain ⟨x1, x2, x3, x4⟩ := box2 k0x
  have HC := Lib.hid (show Calls Tryd.prog 66 #[.agg #[.slice g1 g2 g3, .slice g4 g5 g6], .agg #[.slice none 0 0, .int .i64 0], .func (.func 67) #[] #[]] W2 (Walked W2 r) by
    rw [hr]; exact walkToLast_c HT.out hw (ints_nil _ _) 0 s s2 W2 (hbw.trans (hb2.mono hB)) (by omega) (fun wx hx => hV wx (hb2.trans (hx.mono (by omega)))))
  have HB2 := Lib.hid (And.intro hb2 (And.intro kr hs2))
  have HW2 := Lib.hid hW2
  clear ht hbw hW2 hb2 hs2 kr hr hV k0 k0x
  go_enter Tryd.func25, Tryd.ntmps25
  go_wp2_with fail
  rw [← HW2.out]
  refine HC.out.mono ?_
  rintro e w3 ⟨v, rfl, hown, hb3⟩
  obtain ⟨a3, m3, rfl⟩ := IntsOwn.shown hown
  have hs3 := hb3.size
  have j3 := (hb3.block (w'.heap.size + 1) (by have := HB2.out.2.2; omega)).trans HB2.out.2.1
  obtain ⟨c1, c2, c3, c4⟩ := box2 j3
  have H3 := Lib.hid (And.intro (HB2.out.1.trans (hb3.mono HB2.out.1.size)) (And.intro j3 hown))
  obtain ⟨P, a', ok⟩ := r
  clear hb3 j3 hown x1 x2 x3 x4
  go_wp2_with fail
  have d := set_blk (o := 1) (.int .i64 a') (set_blk (o := 0) (.slice a3 P.length m3) H3.out.2.1)
  obtain ⟨t1, t2, -, -⟩ := box2 d
  have hz := HB2.out.2.2
  refine bodyPost_ret (v := .tuple #[.agg #[.slice a3 P.length m3, .int .i64 a'], .bool ok]) (by simp [results, Tryd.results25, go_sem, t1, t2]) rfl ⟨_, rfl, ?_, ?_⟩
  · have h2 := H3.out.2.2.only (w' := (w3.setCell ⟨w'.heap.size + 1, 0, none⟩ (.slice a3 P.length m3)).setCell ⟨w'.heap.size + 1, 1, none⟩ (.int .i64 a')) (C := w3.heap.size) (r := w'.heap.size + 1) ⟨rfl, rfl, rfl, by simp, fun k _ hne => by rw [set_other _ _ _ _ _ hne, set_other _ _ _ _ _ hne]⟩ (Nat.le_refl _) (by omega)
    exact h2.lower (by omega)
  · exact (H3.out.1.setCell (by show w'.heap.size ≤ w'.heap.size + 1; omega) _).setCell (by show w'.heap.size ≤ w'.heap.size + 1; omega) _

set_option maxHeartbeats 1000000 in
set_option maxRecDepth 100000 in
theorem impl_seek_c {w : World} {B : Nat} {kv cv : Value} {t : Tr} (ht : TreeIn w B kv cv t) (hw : t.weight ≤ 1048576) (key : Int) (s s2 : Addr) (w' : World) (hbw : Below B w w') (hB : B ≤ w'.heap.size)
    (hV : ∀ wx, Below w'.heap.size w' wx → wx.cell? ⟨0, 0, none⟩ = some (.iface 174 (.pointer (some s))) ∧ wx.cell? ⟨1, 0, none⟩ = some (.iface 174 (.pointer (some s2)))) :
    Calls Tryd.prog 27 #[.agg #[kv, cv], .int .i64 key] w' (Walked w' (Tr.walkB t [] 0 (fun _ => Tr.goF key t []))) := by
  obtain ⟨r, hr⟩ : ∃ r, r = Tr.walkB t [] 0 (fun _ => Tr.goF key t []) := ⟨_, rfl⟩
  rw [← hr]
  have HT := Lib.hid ht
  obtain ⟨g1, g2, g3, g4, g5, g6, rfl, rfl⟩ := ht.slices
  obtain ⟨W2, hW2⟩ : ∃ W2, W2 = ((w'.alloc (.cells #[.slice g1 g2 g3, .slice g4 g5 g6] 33)).alloc (.cells #[.int .i64 key] 3)).alloc (.cells #[.slice none 0 0, .int .i64 0] 28) := ⟨_, rfl⟩
  have hb2 : Below w'.heap.size w' W2 := by rw [hW2]; exact (((Below.refl _ _).alloc (Nat.le_refl _) _).alloc (by simp) _).alloc (by simp; omega) _
  have hs2 : W2.heap.size = w'.heap.size + 3 := by rw [hW2]; simp
  have k0 : W2.heap[w'.heap.size]? = some (.cells #[.slice g1 g2 g3, .slice g4 g5 g6] 33 (0, 0)) := by rw [hW2, old_blk _ _ _ (by first | (simp; done) | (simp; omega)), old_blk _ _ _ (by first | (simp; done) | (simp; omega)), new_blk]
  have k1 : W2.heap[w'.heap.size + 1]? = some (.cells #[.int .i64 key] 3 (0, 0)) := by rw [hW2, old_blk _ _ _ (by first | (simp; done) | (simp; omega)), show w'.heap.size + 1 = (w'.alloc (.cells #[.slice g1 g2 g3, .slice g4 g5 g6] 33)).heap.size by simp, new_blk]
  have kr : W2.heap[w'.heap.size + 1 + 1]? = some (.cells #[.slice none 0 0, .int .i64 0] 28 (0, 0)) := by rw [hW2, show w'.heap.size + 1 + 1 = ((w'.alloc (.cells #[.slice g1 g2 g3, .slice g4 g5 g6] 33)).alloc (.cells #[.int .i64 key] 3)).heap.size by simp, new_blk]
  have k0x := k0
  rw [hW2] at k0x
  obtain ⟨x1, x2, x3, x4⟩ := box2 k0x
  have k1x := k1
  rw [hW2] at k1x
  obtain ⟨y1, y2⟩ := box1 k1x
  have HKB : Hid (∀ wx : World, Below W2.heap.size W2 wx → wx.cell? ⟨w'.heap.size + 1, 0, none⟩ = some (.int .i64 key)) := Lib.hid (fun wx hx => (box1 ((hx.block _ (by omega)).trans k1)).1)
  have HC := Lib.hid (show Calls Tryd.prog 66 #[.agg #[.slice g1 g2 g3, .slice g4 g5 g6], .agg #[.slice none 0 0, .int .i64 0], .func (.func 72) #[] #[.pointer (some ⟨w'.heap.size + 1, 0, none⟩)]] W2 (Walked W2 r) by
    rw [hr]; exact walkSeek_c HT.out hw (ints_nil _ _) 0 s s2 W2 (hbw.trans (hb2.mono hB)) (by omega) (fun wx hx => hV wx (hb2.trans (hx.mono (by omega)))) key _ HKB.out)
  have HB2 := Lib.hid (And.intro hb2 (And.intro kr hs2))
  have HW2 := Lib.hid hW2
  clear ht hbw hW2 hb2 hs2 kr hr hV k0 k0x k1 k1x
  go_enter Tryd.func27, Tryd.ntmps27
  go_wp2_with fail
  rw [← HW2.out]
  refine HC.out.mono ?_
  rintro e w3 ⟨v, rfl, hown, hb3⟩
  obtain ⟨a3, m3, rfl⟩ := IntsOwn.shown hown
  have hs3 := hb3.size
  have j3 := (hb3.block (w'.heap.size + 1 + 1) (by have := HB2.out.2.2; omega)).trans HB2.out.2.1
  obtain ⟨c1, c2, c3, c4⟩ := box2 j3
  have H3 := Lib.hid (And.intro (HB2.out.1.trans (hb3.mono HB2.out.1.size)) (And.intro j3 hown))
  obtain ⟨P, a', ok⟩ := r
  clear hb3 j3 hown x1 x2 x3 x4 y1 y2
  go_wp2_with fail
  have d := set_blk (o := 1) (.int .i64 a') (set_blk (o := 0) (.slice a3 P.length m3) H3.out.2.1)
  obtain ⟨t1, t2, -, -⟩ := box2 d
  have hz := HB2.out.2.2
  refine bodyPost_ret (v := .tuple #[.agg #[.slice a3 P.length m3, .int .i64 a'], .bool ok]) (by simp [results, Tryd.results27, go_sem, t1, t2]) rfl ⟨_, rfl, ?_, ?_⟩
  · have h2 := H3.out.2.2.only (w' := (w3.setCell ⟨w'.heap.size + 1 + 1, 0, none⟩ (.slice a3 P.length m3)).setCell ⟨w'.heap.size + 1 + 1, 1, none⟩ (.int .i64 a')) (C := w3.heap.size) (r := w'.heap.size + 1 + 1) ⟨rfl, rfl, rfl, by simp, fun k _ hne => by rw [set_other _ _ _ _ _ hne, set_other _ _ _ _ _ hne]⟩ (Nat.le_refl _) (by omega)
    exact h2.lower (by omega)
  · exact (H3.out.1.setCell (by show w'.heap.size ≤ w'.heap.size + 1 + 1; omega) _).setCell (by show w'.heap.size ≤ w'.heap.size + 1 + 1; omega) _

set_option maxHeartbeats 1000000 in
set_option maxRecDepth 100000 in
theorem impl_first_c {w : World} {B : Nat} {kv cv : Value} {t : Tr} (ht : TreeIn w B kv cv t) (hw : t.weight ≤ 1048576) (s s2 : Addr) (w' : World) (hbw : Below B w w') (hB : B ≤ w'.heap.size)
    (hV : ∀ wx, Below w'.heap.size w' wx → wx.cell? ⟨0, 0, none⟩ = some (.iface 174 (.pointer (some s))) ∧ wx.cell? ⟨1, 0, none⟩ = some (.iface 174 (.pointer (some s2)))) :
    Calls Tryd.prog 18 #[.agg #[kv, cv]] w' (Walked w' (Tr.walkB t [] 0 (fun _ => Tr.goF 0 t []))) := by
  obtain ⟨r, hr⟩ : ∃ r, r = Tr.walkB t [] 0 (fun _ => Tr.goF 0 t []) := ⟨_, rfl⟩
  rw [← hr]
  have HT := Lib.hid ht
  obtain ⟨g1, g2, g3, g4, g5, g6, rfl, rfl⟩ := ht.slices
  obtain ⟨W2, hW2⟩ : ∃ W2, W2 = (w'.alloc (.cells #[.slice g1 g2 g3, .slice g4 g5 g6] 33)).alloc (.cells #[.slice none 0 0, .int .i64 0] 28) := ⟨_, rfl⟩
  have hb2 : Below w'.heap.size w' W2 := by rw [hW2]; exact ((Below.refl _ _).alloc (Nat.le_refl _) _).alloc (by simp) _
  have hs2 : W2.heap.size = w'.heap.size + 2 := by rw [hW2]; simp
  have k0 : W2.heap[w'.heap.size]? = some (.cells #[.slice g1 g2 g3, .slice g4 g5 g6] 33 (0, 0)) := by rw [hW2, old_blk _ _ _ (by first | (simp; done) | (simp; omega)), new_blk]
  have kr : W2.heap[w'.heap.size + 1]? = some (.cells #[.slice none 0 0, .int .i64 0] 28 (0, 0)) := by rw [hW2, show w'.heap.size + 1 = (w'.alloc (.cells #[.slice g1 g2 g3, .slice g4 g5 g6] 33)).heap.size by simp, new_blk]
  have k0x := k0
  rw [hW2] at k0x
  obtain ⟨x1, x2, x3, x4⟩ := box2 k0x
  have HC := Lib.hid (show Calls Tryd.prog 27 #[.agg #[.slice g1 g2 g3, .slice g4 g5 g6], .int .i64 0] W2 (Walked W2 r) by
    rw [hr]; exact impl_seek_c HT.out hw 0 s s2 W2 (hbw.trans (hb2.mono hB)) (by omega) (fun wx hx => hV wx (hb2.trans (hx.mono (by omega)))))
  have HB2 := Lib.hid (And.intro hb2 (And.intro kr hs2))
  have HW2 := Lib.hid hW2
  clear ht hbw hW2 hb2 hs2 kr hr hV k0 k0x
  go_enter Tryd.func18, Tryd.ntmps18
  go_wp2_with fail
  rw [← HW2.out]
  refine HC.out.mono ?_
  rintro e w3 ⟨v, rfl, hown, hb3⟩
  obtain ⟨a3, m3, rfl⟩ := IntsOwn.shown hown
  have hs3 := hb3.size
  have j3 := (hb3.block (w'.heap.size + 1) (by have := HB2.out.2.2; omega)).trans HB2.out.2.1
  obtain ⟨c1, c2, c3, c4⟩ := box2 j3
  have H3 := Lib.hid (And.intro (HB2.out.1.trans (hb3.mono HB2.out.1.size)) (And.intro j3 hown))
  obtain ⟨P, a', ok⟩ := r
  clear hb3 j3 hown x1 x2 x3 x4
  go_wp2_with fail
  have d := set_blk (o := 1) (.int .i64 a') (set_blk (o := 0) (.slice a3 P.length m3) H3.out.2.1)
  obtain ⟨t1, t2, -, -⟩ := box2 d
  have hz := HB2.out.2.2
  refine bodyPost_ret (v := .tuple #[.agg #[.slice a3 P.length m3, .int .i64 a'], .bool ok]) (by simp [results, Tryd.results18, go_sem, t1, t2]) rfl ⟨_, rfl, ?_, ?_⟩
  · have h2 := H3.out.2.2.only (w' := (w3.setCell ⟨w'.heap.size + 1, 0, none⟩ (.slice a3 P.length m3)).setCell ⟨w'.heap.size + 1, 1, none⟩ (.int .i64 a')) (C := w3.heap.size) (r := w'.heap.size + 1) ⟨rfl, rfl, rfl, by simp, fun k _ hne => by rw [set_other _ _ _ _ _ hne, set_other _ _ _ _ _ hne]⟩ (Nat.le_refl _) (by omega)
    exact h2.lower (by omega)
  · exact (H3.out.1.setCell (by show w'.heap.size ≤ w'.heap.size + 1; omega) _).setCell (by show w'.heap.size ≤ w'.heap.size + 1; omega) _
end Go.Proofs.YticfkfjijnfcbaaDoor

/- The model's l2Place and PathOf. -/
namespace Go.Proofs.YticfkfjijnfcbaaDoor
open Go.RowKit

set_option maxRecDepth 100000 in
set_option maxHeartbeats 1000000 in
theorem l2Place_c {v : Value} {ks : List Int} (w : World) (B : Nat) (hk : IntsIn w B v ks) (key : Int) :
    Calls Tryd.prog 70 #[v, .int .i64 key] w fun e w' => e = .returned (.int .i64 (place key ks)) ∧ Below w.heap.size w w' := by
  obtain ⟨a, cap, rfl, h1, h2, _, h3⟩ := hk
  unfold maxLen at h2
  have HK := Lib.hid h3
  clear h3
  go_enter Tryd.func70, Tryd.ntmps70
  go_wp2_with fail
  go_loopw [5] (fun i wr => ∃ (j : Nat), j ≤ ks.length ∧ i = .int .i64 j ∧ (∀ q, q < j → ks.getD q 0 < key) ∧ Below w.heap.size w wr) (fun i _ => ks.length - (intOf i).toNat)
  case atStart => exact ⟨0, Nat.zero_le _, rfl, fun q h => by omega, Below.refl _ _⟩
  case round =>
    obtain ⟨j, hj, rfl, hall, hbel⟩ := hrel
    have HALL := Lib.hid hall
    have HBEL := Lib.hid hbel
    clear hall
    by_cases hlt : j < ks.length
    · rcases HK.out with h | ⟨b, off, rfl, hb, hat⟩
      · simp [h] at hlt
      have ha' : wr.cell? ⟨b, off + j, none⟩ = some (.int .i64 (ks.getD j 0)) := by
        have h := hat j hlt
        rw [below_cell hbel (World.block_lt_of_cell? w _ h)]; exact h
      have hjlt : (j : Int) < (ks.length : Int) := by omega
      by_cases hx : ks.getD j 0 < key
      · obtain ⟨x, hxe⟩ : ∃ x, x = ks.getD j 0 := ⟨_, rfl⟩
        rw [← hxe] at ha' hx
        have HX := Lib.hid hxe
        clear hat hxe hbel
        go_wp2_with fail
        go_roundw
        case rel =>
          refine ⟨j + 1, by omega, by go_num, fun q hq => ?_, HBEL.out⟩
          by_cases hqj : q = j
          · rw [hqj, ← HX.out]; exact hx
          · exact HALL.out q (by omega)
        case measure => simp [intOf]; omega
      · have hpl : place key ks = j := place_eq hj HALL.out (fun _ => hx)
        have HPL := Lib.hid hpl
        obtain ⟨x, hxe⟩ : ∃ x, x = ks.getD j 0 := ⟨_, rfl⟩
        rw [← hxe] at ha' hx
        clear hat hxe hbel hpl
        go_wp2_with fail
        go_ret
        exact ⟨ret_int (by rw [HPL.out]), HBEL.out⟩
    · have hpl : place key ks = j := place_eq hj HALL.out (fun h => absurd h hlt)
      have HPL := Lib.hid hpl
      have hjlt : ¬ (j : Int) < (ks.length : Int) := by omega
      clear hbel hpl
      go_wp2_with fail
      go_ret
      exact ⟨ret_int (by rw [HPL.out]), HBEL.out⟩

theorem ret_pair {x v : Value} {b c : Bool} (h : x = v) (h2 : b = c) : Ending.returned (.tuple #[x, .bool b]) = .returned (.tuple #[v, .bool c]) := by rw [h, h2]

set_option maxRecDepth 100000 in
set_option maxHeartbeats 4000000 in
theorem specPathOf_c {w : World} {B : Nat} {kv cv : Value} {t : Tr} (ht : TreeIn w B kv cv t) (hw : t.weight ≤ 1048576) (key : Int) (w' : World) (hbw : Below B w w') (hB : B ≤ w'.heap.size) :
    Calls Tryd.prog 68 #[.agg #[kv, cv], .int .i64 key] w' fun e w'' => ∃ v, e = .returned (.tuple #[v, .bool (t.pathB key).2]) ∧ IntsOwn w'' w'.heap.size v (t.pathB key).1 ∧ Below w'.heap.size w' w'' := by
  obtain ⟨i0, hi0, hz0, hz1, hz2⟩ := info_parts Tryd.appInfo
  obtain ⟨a5, n5, m5, a6, n6, m6, rfl, rfl⟩ := ht.slices
  obtain ⟨W2, hW2⟩ : ∃ W2, W2 = (w'.alloc (.cells #[.slice a5 n5 m5, .slice a6 n6 m6] 33)).alloc (.cells #[] 3) := ⟨_, rfl⟩
  have hs2 : W2.heap.size = w'.heap.size + 2 := by rw [hW2]; simp
  have hb2 : Below w'.heap.size w' W2 := by rw [hW2]; exact ((Below.refl _ _).alloc (Nat.le_refl _) _).alloc (by simp) _
  have kb : W2.heap[w'.heap.size]? = some (.cells #[.slice a5 n5 m5, .slice a6 n6 m6] 33 (0, 0)) := by rw [hW2, old_blk _ _ _ (by simp), new_blk]
  obtain ⟨W1, hW1⟩ : ∃ W1, W1 = w'.alloc (.cells #[.slice a5 n5 m5, .slice a6 n6 m6] 33) := ⟨_, rfl⟩
  have hs1 : W1.heap.size = w'.heap.size + 1 := by rw [hW1]; simp
  have ho2 : IntsOwn W2 (w'.heap.size + 1) (.slice (some ⟨w'.heap.size + 1, 0, none⟩) 0 0) [] := by
    rw [hW2, ← hW1, ← hs1]; exact World.ownsRow_made W1 #[] 0 (Nat.le_refl _) (by unfold maxLen; omega) rfl
  obtain ⟨x1, x2, x3, x4⟩ := box2 kb
  have HT := Lib.hid ht
  have HBW := Lib.hid hbw
  have HW2 := Lib.hid hW2
  have H2 := Lib.hid (And.intro hb2 (And.intro kb ho2))
  have hsome := someB_path key t
  have HSOME := Lib.hid hsome
  clear ht hbw hW2 hb2 kb ho2 hsome hW1 hs1
  clear W1
  go_enter Tryd.func68, Tryd.ntmps68
  go_wp2_with fail
  rw [← HW2.out]
  refine (l2Valid_c HT.out hw W2 (HBW.out.trans (H2.out.1.mono hB)) (by omega)).mono ?_
  rintro e w3 ⟨rfl, hb3⟩
  have hs3 := hb3.size
  have ho3 := IntsOwn.later H2.out.2.2 hb3 (Nat.le_refl _)
  have kb3 := (hb3.block w'.heap.size (by omega)).trans H2.out.2.1
  have hb3' := H2.out.1.trans (hb3.mono (by omega))
  have H3 := Lib.hid (And.intro hb3' (And.intro kb3 ho3))
  clear hb3 ho3 kb3 hb3' x1 x2 x3 x4
  cases hv : t.someB with
  | false =>
    have hp := HSOME.out.2 hv
    have HP := Lib.hid hp
    have HV := Lib.hid hv
    clear hp hv
    go_wp2_with fail
    go_ret2
    exact ⟨_, ret_pair rfl (by rw [HP.out]), by rw [HP.out]; exact IntsOwn.lower H3.out.2.2 (by omega), H3.out.1⟩
  | true =>
    have hp := HSOME.out.1 hv
    have hwell := Tr.Well.of_some hv
    have HP := Lib.hid hp
    have HV := Lib.hid hv
    have HWELL := Lib.hid hwell
    clear hp hv hwell
    go_wp2_with fail
    go_loopg [6] t.weight (fun k s6 wr => ∃ (tr : Tr) (kvr cvr : Value) (pre : List Int) (v : Value), s6 = v ∧ IntsOwn wr (w'.heap.size + 1) v pre ∧ wr.heap[w'.heap.size]? = some (.cells #[kvr, cvr] 33 (0, 0)) ∧ TreeIn w B kvr cvr tr ∧ Tr.Well tr ∧
      tr.weight ≤ k ∧ t.path key = (pre ++ (tr.path key).1, (tr.path key).2) ∧ Below w'.heap.size w' wr ∧ tr.weight ≤ 1048576)
    case atStart => exact ⟨t, _, _, [], _, rfl, H3.out.2.2, H3.out.2.1, HT.out, HWELL.out, Nat.le_refl _, rfl, H3.out.1, hw⟩
    case round =>
      obtain ⟨tr, kvr, cvr, pre, v, rfl, hown, hbox, htr, hwl, hk, hpath, hbel, hwt⟩ := hrel
      cases tr with
      | mk ks cs =>
      obtain ⟨a, cap, kvs, cvs, rfl, hki, hlen, hcap, hat, hkids⟩ := htr.parts
      obtain ⟨ka, kcap, rfl, k1, k2, k3, k4⟩ := hki
      obtain ⟨va, vc, rfl⟩ := IntsOwn.shown hown
      have hsr := hbel.size
      have hlt := (Array.getElem?_eq_some_iff.1 hbox).1
      obtain ⟨x1, x2, x3, x4⟩ := box2 hbox
      have hki' : IntsIn w B (.slice ka ks.length kcap) ks := ⟨ka, kcap, rfl, k1, k2, k3, k4⟩
      have hBr : Below B w wr := HBW.out.trans (hbel.mono hB)
      have hpl := place_le key ks
      have hpre : pre.length + ((Tr.mk ks cs).path key).1.length ≤ 1048576 := by
        have h1 := Tr.path_len key t
        rw [hpath] at h1
        simp only [List.length_append] at h1
        omega
      have HKI := Lib.hid (hki'.later hBr (Nat.le_refl _))
      have HR := Lib.hid (And.intro hown (And.intro hbox (And.intro hwl (And.intro hpath (And.intro hbel (And.intro hat (And.intro hkids hBr)))))))
      have HK := Lib.hid hk
      have HPRE := Lib.hid hpre
      unfold maxLen at k2 hcap
      simp only [Tr.weight] at hwt
      have hl0 := Tr.length_le_weights cs
      clear hown hbox htr hwl hk hpath hbel hat hkids hki' hBr hpre k3 k4
      go_wp2_with fail
      refine (l2Place_c wr B HKI.out key).mono ?_
      rintro e w4 ⟨rfl, hb4⟩
      obtain ⟨i, hi⟩ : ∃ i, i = place key ks := ⟨_, rfl⟩
      rw [← hi] at hpl ⊢
      have hs4 := hb4.size
      have hbox4 := (hb4.block w'.heap.size (by omega)).trans HR.out.2.1
      clear x1 x2 x3 x4
      obtain ⟨x1, x2, x3, x4⟩ := box2 hbox4
      have hown4 := IntsOwn.later HR.out.1 hb4 (Nat.le_refl _)
      have hbel4 := HR.out.2.2.2.2.1.trans (hb4.mono hsr)
      have hB4 : Below B w w4 := HR.out.2.2.2.2.2.2.2.trans (hb4.mono (by omega))
      have H4 := Lib.hid (And.intro hown4 (And.intro hbox4 (And.intro hbel4 hB4)))
      have hki4 : IntsIn w4 B (.slice ka ks.length kcap) ks := HKI.out.later hb4 (by omega)
      have HK4 := Lib.hid hki4
      have HI := Lib.hid hi
      clear hb4 hbox4 hown4 hbel4 hB4 hi hki4
      by_cases hfound : i < ks.length ∧ ks.getD i 0 = key
      · have hpf := Tr.path_found (key := key) (k := ks) (c := cs) (by rw [← HI.out]; exact hfound)
        have HPF := Lib.hid hpf
        obtain ⟨f1, f2⟩ := hfound
        have F2 := Lib.hid f2
        clear hpf f2
        obtain ⟨_, _, hv, _, _, _, h⟩ := HK4.out
        injection hv with e1 _ e3
        subst e1 e3
        rcases h with h | ⟨b, off, rfl, hb, hat⟩
        · exact absurd f1 (by rw [h]; simp)
        have ha' : w4.cell? ⟨b, off + i, none⟩ = some (.int .i64 (ks.getD i 0)) := hat i f1
        have f1' : (i : Int) < (ks.length : Int) := by omega
        rw [F2.out] at ha'
        clear hat
        go_wp2_with fail
        go_ret2
        exact ⟨_, ret_pair rfl (by rw [HP.out, HR.out.2.2.2.1, HPF.out]), by rw [HP.out, HR.out.2.2.2.1, HPF.out]; simpa using IntsOwn.lower H4.out.1 (by omega), H4.out.2.2.1⟩
      · have hnf := Lib.hid (show ¬ (place key ks < ks.length ∧ ks.getD (place key ks) 0 = key) by rw [← HI.out]; exact hfound)
        by_cases f1 : i < ks.length
        · have f2 : ¬ ks.getD i 0 = key := fun h => hfound ⟨f1, h⟩
          obtain ⟨_, _, hv, _, _, _, h⟩ := HK4.out
          injection hv with e1 _ e3
          subst e1 e3
          rcases h with h | ⟨b, off, rfl, hb, hat⟩
          · exact absurd f1 (by rw [h]; simp)
          have ha' : w4.cell? ⟨b, off + i, none⟩ = some (.int .i64 (ks.getD i 0)) := hat i f1
          have f1' : (i : Int) < (ks.length : Int) := by omega
          obtain ⟨x, hx⟩ : ∃ x, x = ks.getD i 0 := ⟨_, rfl⟩
          rw [← hx] at ha' f2
          have hne : (x == key) = false := by simpa using f2
          have HX := Lib.hid hx
          clear hx
          clear hat hfound
          by_cases hleaf : cs.length = 0
          · have hpf := Tr.path_leaf (key := key) (k := ks) (c := cs) hnf.out hleaf
            have HPF := Lib.hid hpf
            have hleaf' : ((cs.length : Int) == 0) = true := by simp [hleaf]
            clear hpf
            go_wp2_with fail
            go_ret2
            exact ⟨_, ret_pair rfl (by rw [HP.out, HR.out.2.2.2.1, HPF.out]), by rw [HP.out, HR.out.2.2.2.1, HPF.out]; simpa using IntsOwn.lower H4.out.1 (by omega), H4.out.2.2.1⟩
          · have hcl := Tr.Well.inner HR.out.2.2.1 hleaf
            have hic : i < cs.length := by omega
            have hpf := Tr.path_inner (key := key) (k := ks) (c := cs) hnf.out (by rw [← HI.out]; exact hic)
            have HPF := Lib.hid hpf
            have hleaf' : ((cs.length : Int) == 0) = false := by rw [beq_eq_false_iff_ne]; omega
            clear hpf
            obtain ⟨ka5, kn5, kc5, ca5, cn5, cc5, hkv5, hcv5⟩ := (HR.out.2.2.2.2.2.2.1 i hic).slices
            rcases HR.out.2.2.2.2.2.1 with h | ⟨kb5, ko5, rfl, hkb5, hkat5⟩
            · omega
            have hka := (hkat5 i hic).1
            have hkc := (hkat5 i hic).2
            rw [hkv5] at hka
            rw [hcv5] at hkc
            have HKAC := Lib.hid (And.intro hka (And.intro hkc hkb5))
            have HKV5 := Lib.hid (And.intro hkv5 hcv5)
            have HOXX := Lib.hid (IntsOwn.alloc' H4.out.1 (.cells #[.int .i64 (i : Int)] 3))
            have HSX := Lib.hid (IntsAt.one w4 (i : Int))
            have hlo9 : w'.heap.size + 1 ≤ (w4.alloc (.cells #[.int .i64 (i : Int)] 3)).heap.size := by rw [World.size_alloc]; omega
            have HLEN9 : Hid (pre.length + [(i : Int)].length ≤ 17592186044416) := Lib.hid (by have h := HPRE.out; rw [HPF.out] at h; simp only [List.length_cons] at h; simp; omega)
            have HBA : Hid (Below (w'.heap.size + 1) w4 (w4.alloc (.cells #[.int .i64 (i : Int)] 3))) := Lib.hid ((Below.refl _ _).alloc (by omega) _)
            have hic' : (i : Int) < (cs.length : Int) := by omega
            clear hka hkc hkat5 hkv5 hcv5
            go_wp2_with (at_builtin; refine wpList_append_ints rfl _ _ rfl (w'.heap.size + 1) _ _ _ [(i : Int)] rfl HOXX.out rfl HSX.out HLEN9.out hlo9 ?_; intro v9 w9 hown9 hbel9 _ hsh9; obtain ⟨a9, c9, rfl⟩ := hsh9; have hb49 := HBA.out.trans hbel9; have hs9 := hb49.size; have hbox9 := (hb49.block w'.heap.size (by omega)).trans H4.out.2.1; obtain ⟨y1, y2, y3, y4⟩ := box2 hbox9; have hB9 : Below B w w9 := H4.out.2.2.2.trans (hb49.mono (by omega)); have z1 := (below_cell hB9 HKAC.out.2.2).trans HKAC.out.1; have z2 := (below_cell hB9 HKAC.out.2.2).trans HKAC.out.2.1; generalize hL9 : pre ++ [(i : Int)] = L9 at hown9 ⊢; have H9 := Lib.hid (And.intro hown9 (And.intro hbox9 (And.intro (H4.out.2.2.1.trans (hb49.mono (by omega))) (And.intro hB9 hL9)))); clear hown9 hbel9 hb49 hbox9 hB9 hL9 x1 x2 x3 x4)
            go_roundg cs[i].weight
            case measure => have h := HK.out; simp only [Tr.weight] at h; have := Tr.weight_get_le cs i hic; omega
            case rel =>
              refine ⟨cs[i], _, _, L9, _, rfl, ownsRow_same H9.out.1 (fun k _ h => by rw [set_other _ _ _ _ _ (by omega), set_other _ _ _ _ _ (by omega)]) , set_blk _ (set_blk _ H9.out.2.1), ?_, Tr.Well.kid HR.out.2.2.1 i hic, Nat.le_refl _, ?_, ?_, ?_⟩
              · rw [← HKV5.out.1, ← HKV5.out.2]; exact HR.out.2.2.2.2.2.2.1 i hic
              · have e9 := H9.out.2.2.2.2
                obtain rfl := HI.out
                rw [HR.out.2.2.2.1, HPF.out, ← e9]; simp
              · exact (H9.out.2.2.1.setCell (Nat.le_refl _) _).setCell (Nat.le_refl _) _
              · have := Tr.weight_get_le cs i hic; omega
        · have f1' : ¬ (i : Int) < (ks.length : Int) := by omega
          clear hfound
          by_cases hleaf : cs.length = 0
          · have hpf := Tr.path_leaf (key := key) (k := ks) (c := cs) hnf.out hleaf
            have HPF := Lib.hid hpf
            have hleaf' : ((cs.length : Int) == 0) = true := by simp [hleaf]
            clear hpf
            go_wp2_with fail
            go_ret2
            exact ⟨_, ret_pair rfl (by rw [HP.out, HR.out.2.2.2.1, HPF.out]), by rw [HP.out, HR.out.2.2.2.1, HPF.out]; simpa using IntsOwn.lower H4.out.1 (by omega), H4.out.2.2.1⟩
          · have hcl := Tr.Well.inner HR.out.2.2.1 hleaf
            have hic : i < cs.length := by omega
            have hpf := Tr.path_inner (key := key) (k := ks) (c := cs) hnf.out (by rw [← HI.out]; exact hic)
            have HPF := Lib.hid hpf
            have hleaf' : ((cs.length : Int) == 0) = false := by rw [beq_eq_false_iff_ne]; omega
            clear hpf
            obtain ⟨ka5, kn5, kc5, ca5, cn5, cc5, hkv5, hcv5⟩ := (HR.out.2.2.2.2.2.2.1 i hic).slices
            rcases HR.out.2.2.2.2.2.1 with h | ⟨kb5, ko5, rfl, hkb5, hkat5⟩
            · omega
            have hka := (hkat5 i hic).1
            have hkc := (hkat5 i hic).2
            rw [hkv5] at hka
            rw [hcv5] at hkc
            have HKAC := Lib.hid (And.intro hka (And.intro hkc hkb5))
            have HKV5 := Lib.hid (And.intro hkv5 hcv5)
            have HOXX := Lib.hid (IntsOwn.alloc' H4.out.1 (.cells #[.int .i64 (i : Int)] 3))
            have HSX := Lib.hid (IntsAt.one w4 (i : Int))
            have hlo9 : w'.heap.size + 1 ≤ (w4.alloc (.cells #[.int .i64 (i : Int)] 3)).heap.size := by rw [World.size_alloc]; omega
            have HLEN9 : Hid (pre.length + [(i : Int)].length ≤ 17592186044416) := Lib.hid (by have h := HPRE.out; rw [HPF.out] at h; simp only [List.length_cons] at h; simp; omega)
            have HBA : Hid (Below (w'.heap.size + 1) w4 (w4.alloc (.cells #[.int .i64 (i : Int)] 3))) := Lib.hid ((Below.refl _ _).alloc (by omega) _)
            have hic' : (i : Int) < (cs.length : Int) := by omega
            clear hka hkc hkat5 hkv5 hcv5
            go_wp2_with (at_builtin; refine wpList_append_ints rfl _ _ rfl (w'.heap.size + 1) _ _ _ [(i : Int)] rfl HOXX.out rfl HSX.out HLEN9.out hlo9 ?_; intro v9 w9 hown9 hbel9 _ hsh9; obtain ⟨a9, c9, rfl⟩ := hsh9; have hb49 := HBA.out.trans hbel9; have hs9 := hb49.size; have hbox9 := (hb49.block w'.heap.size (by omega)).trans H4.out.2.1; obtain ⟨y1, y2, y3, y4⟩ := box2 hbox9; have hB9 : Below B w w9 := H4.out.2.2.2.trans (hb49.mono (by omega)); have z1 := (below_cell hB9 HKAC.out.2.2).trans HKAC.out.1; have z2 := (below_cell hB9 HKAC.out.2.2).trans HKAC.out.2.1; generalize hL9 : pre ++ [(i : Int)] = L9 at hown9 ⊢; have H9 := Lib.hid (And.intro hown9 (And.intro hbox9 (And.intro (H4.out.2.2.1.trans (hb49.mono (by omega))) (And.intro hB9 hL9)))); clear hown9 hbel9 hb49 hbox9 hB9 hL9 x1 x2 x3 x4)
            go_roundg cs[i].weight
            case measure => have h := HK.out; simp only [Tr.weight] at h; have := Tr.weight_get_le cs i hic; omega
            case rel =>
              refine ⟨cs[i], _, _, L9, _, rfl, ownsRow_same H9.out.1 (fun k _ h => by rw [set_other _ _ _ _ _ (by omega), set_other _ _ _ _ _ (by omega)]) , set_blk _ (set_blk _ H9.out.2.1), ?_, Tr.Well.kid HR.out.2.2.1 i hic, Nat.le_refl _, ?_, ?_, ?_⟩
              · rw [← HKV5.out.1, ← HKV5.out.2]; exact HR.out.2.2.2.2.2.2.1 i hic
              · have e9 := H9.out.2.2.2.2
                obtain rfl := HI.out
                rw [HR.out.2.2.2.1, HPF.out, ← e9]; simp
              · exact (H9.out.2.2.1.setCell (Nat.le_refl _) _).setCell (Nat.le_refl _) _
              · have := Tr.weight_get_le cs i hic; omega
end Go.Proofs.YticfkfjijnfcbaaDoor
