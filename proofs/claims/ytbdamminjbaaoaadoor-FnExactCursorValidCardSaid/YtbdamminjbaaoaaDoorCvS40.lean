/- The program's CursorValid. -/
import Derived.Test.YtbdamminjbaaoaaDoorProg
import Derived.Test.YtbdamminjbaaoaaDoorCvS1
import Derived.Test.YtbdamminjbaaoaaDoorCvS38
import Derived.Test.YtbdamminjbaaoaaDoorCvS39
namespace Go.Proofs.YtbdamminjbaaoaaDoor
open Go.RowKit

set_option maxHeartbeats 2000000 in
set_option maxRecDepth 100000 in
theorem impl_cursorValid {w : World} {B : Nat} {kv cv v : Value} {t : Tr} {ks : List Int} (ht : TreeIn w B kv cv t) (hw : t.weight ≤ 1048576) (hk : IntsIn w B v ks) (a : Int) (s : Addr) (w' : World) (hbw : Below B w w') (hB : B ≤ w'.heap.size)
    (hV : ∀ wx, Below w'.heap.size w' wx → wx.cell? ⟨0, 0, none⟩ = some (.iface 181 (.pointer (some s)))) :
    Calls Tryd.prog 19 #[.agg #[kv, cv], .agg #[v, .int .i64 a]] w' fun e w'' => e = .returned (.bool (Tr.curB t ks a)) ∧ Below w'.heap.size w' w'' := by
  have HT := Lib.hid ht
  have HK := Lib.hid hk
  obtain ⟨g1, g2, g3, g4, g5, g6, rfl, rfl⟩ := ht.slices
  obtain ⟨va, vcap, rfl, -⟩ := hk
  obtain ⟨W2, hW2⟩ : ∃ W2, W2 = (w'.alloc (.cells #[.slice g1 g2 g3, .slice g4 g5 g6] 33)).alloc (.cells #[.slice va ks.length vcap, .int .i64 a] 35) := ⟨_, rfl⟩
  have hb2 : Below w'.heap.size w' W2 := by rw [hW2]; exact ((Below.refl _ _).alloc (Nat.le_refl _) _).alloc (by simp) _
  have hs2 : w'.heap.size ≤ W2.heap.size := hb2.size
  have k0 : W2.heap[w'.heap.size]? = some (.cells #[.slice g1 g2 g3, .slice g4 g5 g6] 33 (0, 0)) := by rw [hW2, old_blk _ _ _ (by simp), new_blk]
  have k1 : W2.heap[w'.heap.size + 1]? = some (.cells #[.slice va ks.length vcap, .int .i64 a] 35 (0, 0)) := by
    rw [hW2, show w'.heap.size + 1 = (w'.alloc (.cells #[.slice g1 g2 g3, .slice g4 g5 g6] 33)).heap.size by simp, new_blk]
  rw [hW2] at k0 k1
  obtain ⟨x1, x2, x3, x4⟩ := box2 k0
  obtain ⟨y1, y2, y3, y4⟩ := box2 k1
  have HWA := Lib.hid (walkerAt_c HT.out hw HK.out a s W2 (hbw.trans (hb2.mono hB)) (by omega) (fun wx hx => hV wx (hb2.trans (hx.mono hs2))))
  have HB2 := Lib.hid (And.intro hb2 hV)
  have HW2 := Lib.hid hW2
  clear ht hbw hW2 hb2 k0 k1 hV
  go_enter Tryd.func19, Tryd.ntmps19
  go_wp2_with fail
  rw [← HW2.out]
  refine HWA.out.mono ?_
  rintro e w3 ⟨hres, hb3⟩
  have H3 := Lib.hid (HB2.out.1.trans (hb3.mono hs2))
  have xv := HB2.out.2 w3 H3.out
  clear hb3 x1 x2 x3 x4 y1 y2 y3 y4
  rcases hres with ⟨hc, rfl⟩ | ⟨hc, b, f, u, p, lo, hi, rfl, -⟩
  · have HC := Lib.hid hc
    clear hc
    go_wp2_with fail
    refine (is_same s _).mono ?_
    rintro e w4 ⟨rfl, hw4⟩
    have hw4' := hw4.symm
    subst hw4'
    go_wp2_with fail
    go_ret
    exact ⟨by rw [HC.out]; rfl, H3.out⟩
  · have HC := Lib.hid hc
    clear hc
    go_wp2_with fail
    refine (is_nil s _).mono ?_
    rintro e w4 ⟨rfl, hw4⟩
    have hw4' := hw4.symm
    subst hw4'
    go_wp2_with fail
    go_ret
    exact ⟨by rw [HC.out]; rfl, H3.out⟩
end Go.Proofs.YtbdamminjbaaoaaDoor
