/- The program's CursorValid. -/
import Derived.Test.YticfkfjijnfcbaaDoorProg
import Derived.Test.YticfkfjijnfcbaaDoorSh0
import Derived.Test.YticfkfjijnfcbaaDoorKeys
import Derived.Test.YticfkfjijnfcbaaDoorSh18
import Derived.Test.YticfkfjijnfcbaaDoorSh25
import Derived.Test.YticfkfjijnfcbaaDoorSh10

/- The model draws a tree and a number to seek. -/
namespace Go.Proofs.YticfkfjijnfcbaaDoor
open Go.RowKit

set_option maxHeartbeats 1000000 in
theorem drawSeek_c {w : World} {B : Nat} {v : Value} {bs : List Nat} (h : BytesIn w B v bs) (w' : World) (hbw : Below B w w') (hB : B ≤ w'.heap.size) :
    Calls Tryd.prog 40 #[v] w' (HasDrawn w') := by
  obtain ⟨W1, hW1⟩ : ∃ W1, W1 = w'.alloc (.cells #[.slice none 0 0, .slice none 0 0] 33) := ⟨_, rfl⟩
  have hs1 : W1.heap.size = w'.heap.size + 1 := by rw [hW1]; simp
  have hb1 : Below w'.heap.size w' W1 := by rw [hW1]; exact (Below.refl _ _).alloc (Nat.le_refl _) _
  have hk1 : W1.heap[w'.heap.size]? = some (.cells #[.slice none 0 0, .slice none 0 0] 33 (0, 0)) := by rw [hW1, new_blk]
  have HD := Lib.hid (drawHas_c h W1 (hbw.trans (hb1.mono hB)) (by omega))
  obtain ⟨va, vcap, rfl, -⟩ := h
  have HW1 := Lib.hid hW1
  have H1 := Lib.hid (And.intro hb1 (And.intro hk1 hs1))
  clear hW1 hb1 hk1 hbw hs1
  go_enter Tryd.func40, Tryd.ntmps40
  go_wp2_with fail
  rw [← HW1.out]
  refine HD.out.mono ?_
  rintro e w3 ⟨k3, c3, t, key, rfl, ht3, hw3, hky, hb3⟩
  obtain ⟨b1, b2, b3, b4, b5, b6, rfl, rfl⟩ := ht3.slices
  have hz1 := H1.out.2.2
  have hs3 := hb3.size
  have hk3 := (hb3.block w'.heap.size (by omega)).trans H1.out.2.1
  obtain ⟨y1, y2, y3, y4⟩ := box2 hk3
  have H3 := Lib.hid (And.intro ht3 (And.intro hk3 (H1.out.1.trans (hb3.mono (by omega)))))
  clear ht3 hk3 hb3 hz1
  go_wp2_with fail
  have hz1 := H1.out.2.2
  obtain ⟨wf, hwf⟩ : ∃ wf, wf = (w3.setCell ⟨w'.heap.size, 0, none⟩ (.slice b1 b2 b3)).setCell ⟨w'.heap.size, 1, none⟩ (.slice b4 b5 b6) := ⟨_, rfl⟩
  have hfb : wf.heap[w'.heap.size]? = some (.cells #[.slice b1 b2 b3, .slice b4 b5 b6] 33 (0, 0)) := by
    rw [hwf]; exact set_blk (o := 1) _ (set_blk (o := 0) _ H3.out.2.1)
  obtain ⟨d1, d2, d3, d4⟩ := box2 hfb
  have hsf : wf.heap.size = w3.heap.size := by rw [hwf]; simp
  rw [← hwf]
  refine bodyPost_ret (v := .tuple #[.agg #[.slice b1 b2 b3, .slice b4 b5 b6], .int .i64 key]) (by simp [results, Tryd.results40, go_sem, d1, d2]) rfl ⟨_, _, t, key, rfl, ?_, hw3, hky, ?_⟩
  · refine H3.out.1.same (fun k hk => ?_) (fun k hk => ⟨by omega, by omega⟩)
    rw [hwf, set_other _ _ _ _ _ (by omega), set_other _ _ _ _ _ (by omega)]
  · rw [hwf]; exact (H3.out.2.2.setCell (by show w'.heap.size ≤ w'.heap.size; omega) _).setCell (by show w'.heap.size ≤ w'.heap.size; omega) _
end Go.Proofs.YticfkfjijnfcbaaDoor

/- The program's CursorValid. -/
namespace Go.Proofs.YticfkfjijnfcbaaDoor
open Go.RowKit

set_option maxHeartbeats 2000000 in
set_option maxRecDepth 100000 in
theorem impl_cursorValid {w : World} {B : Nat} {kv cv v : Value} {t : Tr} {ks : List Int} (ht : TreeIn w B kv cv t) (hw : t.weight ≤ 1048576) (hk : IntsIn w B v ks) (a : Int) (s : Addr) (w' : World) (hbw : Below B w w') (hB : B ≤ w'.heap.size)
    (hV : ∀ wx, Below w'.heap.size w' wx → wx.cell? ⟨0, 0, none⟩ = some (.iface 174 (.pointer (some s)))) :
    Calls Tryd.prog 43 #[.agg #[kv, cv], .agg #[v, .int .i64 a]] w' fun e w'' => e = .returned (.bool (Tr.curB t ks a)) ∧ Below w'.heap.size w' w'' := by
  have HT := Lib.hid ht
  have HK := Lib.hid hk
  obtain ⟨g1, g2, g3, g4, g5, g6, rfl, rfl⟩ := ht.slices
  obtain ⟨va, vcap, rfl, -⟩ := hk
  obtain ⟨W2, hW2⟩ : ∃ W2, W2 = (w'.alloc (.cells #[.slice g1 g2 g3, .slice g4 g5 g6] 33)).alloc (.cells #[.slice va ks.length vcap, .int .i64 a] 28) := ⟨_, rfl⟩
  have hb2 : Below w'.heap.size w' W2 := by rw [hW2]; exact ((Below.refl _ _).alloc (Nat.le_refl _) _).alloc (by simp) _
  have hs2 : w'.heap.size ≤ W2.heap.size := hb2.size
  have k0 : W2.heap[w'.heap.size]? = some (.cells #[.slice g1 g2 g3, .slice g4 g5 g6] 33 (0, 0)) := by rw [hW2, old_blk _ _ _ (by simp), new_blk]
  have k1 : W2.heap[w'.heap.size + 1]? = some (.cells #[.slice va ks.length vcap, .int .i64 a] 28 (0, 0)) := by
    rw [hW2, show w'.heap.size + 1 = (w'.alloc (.cells #[.slice g1 g2 g3, .slice g4 g5 g6] 33)).heap.size by simp, new_blk]
  rw [hW2] at k0 k1
  obtain ⟨x1, x2, x3, x4⟩ := box2 k0
  obtain ⟨y1, y2, y3, y4⟩ := box2 k1
  have HWA := Lib.hid (walkerAt_c HT.out hw HK.out a s W2 (hbw.trans (hb2.mono hB)) (by omega) (fun wx hx => hV wx (hb2.trans (hx.mono hs2))))
  have HB2 := Lib.hid (And.intro hb2 hV)
  have HW2 := Lib.hid hW2
  clear ht hbw hW2 hb2 k0 k1 hV
  go_enter Tryd.func43, Tryd.ntmps43
  go_wp2_with fail
  rw [← HW2.out]
  refine HWA.out.mono ?_
  rintro e w3 ⟨hres, hb3⟩
  have H3 := Lib.hid (HB2.out.1.trans (hb3.mono hs2))
  have xv := HB2.out.2 w3 H3.out
  clear hb3 x1 x2 x3 x4 y1 y2 y3 y4
  rcases hres with ⟨hc, rfl⟩ | ⟨hc, b, f, u, p, lo, hi, rfl, -⟩
  · have HC := Lib.hid hc
    clear hc
    go_wp2_with fail
    refine (is_same s _).mono ?_
    rintro e w4 ⟨rfl, hw4⟩
    have hw4' := hw4.symm
    subst hw4'
    go_wp2_with fail
    go_ret
    exact ⟨by rw [HC.out]; rfl, H3.out⟩
  · have HC := Lib.hid hc
    clear hc
    go_wp2_with fail
    refine (is_nil s _).mono ?_
    rintro e w4 ⟨rfl, hw4⟩
    have hw4' := hw4.symm
    subst hw4'
    go_wp2_with fail
    go_ret
    exact ⟨by rw [HC.out]; rfl, H3.out⟩
end Go.Proofs.YticfkfjijnfcbaaDoor
