/- The model's CursorKey. -/
import Derived.Test.YtbdamminjbaaoaaDoorProg
import Derived.Test.YtbdamminjbaaoaaDoorCkS1
import Derived.Test.YtbdamminjbaaoaaDoorCkS7
import Derived.Test.YtbdamminjbaaoaaDoorCkS12
import Derived.Test.YtbdamminjbaaoaaDoorCkS13
import Derived.Test.YtbdamminjbaaoaaDoorCkS14
import Derived.Test.YtbdamminjbaaoaaDoorCkS41
namespace Go.Proofs.YtbdamminjbaaoaaDoor
open Go.RowKit

set_option maxHeartbeats 2000000 in
set_option maxRecDepth 100000 in
theorem specCursorKey_c {w : World} {B : Nat} {kv cv v : Value} {t : Tr} {ks : List Int} (ht : TreeIn w B kv cv t) (hw : t.weight ≤ 1048576) (hk : IntsIn w B v ks) (a : Int) (w' : World) (hbw : Below B w w') (hB : B ≤ w'.heap.size) :
    Calls Tryd.prog 35 #[.agg #[kv, cv], .agg #[v, .int .i64 a]] w' fun e w'' => e = .returned (.tuple #[.int .i64 (Tr.curK t ks a), .bool (Tr.curB t ks a)]) ∧ Below w'.heap.size w' w'' := by
  have HT := Lib.hid ht
  have HK := Lib.hid hk
  obtain ⟨g1, g2, g3, g4, g5, g6, rfl, rfl⟩ := ht.slices
  obtain ⟨va, vcap, rfl, -⟩ := hk
  obtain ⟨W2, hW2⟩ : ∃ W2, W2 = (w'.alloc (.cells #[.slice g1 g2 g3, .slice g4 g5 g6] 33)).alloc (.cells #[.slice va ks.length vcap, .int .i64 a] 35) := ⟨_, rfl⟩
  have hb2 : Below w'.heap.size w' W2 := by rw [hW2]; exact ((Below.refl _ _).alloc (Nat.le_refl _) _).alloc (by simp) _
  have hs2 : W2.heap.size = w'.heap.size + 2 := by rw [hW2]; simp
  have k0 : W2.heap[w'.heap.size]? = some (.cells #[.slice g1 g2 g3, .slice g4 g5 g6] 33 (0, 0)) := by rw [hW2, old_blk _ _ _ (by simp), new_blk]
  have k1 : W2.heap[w'.heap.size + 1]? = some (.cells #[.slice va ks.length vcap, .int .i64 a] 35 (0, 0)) := by
    rw [hW2, show w'.heap.size + 1 = (w'.alloc (.cells #[.slice g1 g2 g3, .slice g4 g5 g6] 33)).heap.size by simp, new_blk]
  have BOX : Hid (∀ wx : World, Below W2.heap.size W2 wx → wx.heap[w'.heap.size]? = some (.cells #[.slice g1 g2 g3, .slice g4 g5 g6] 33 (0, 0)) ∧ wx.heap[w'.heap.size + 1]? = some (.cells #[.slice va ks.length vcap, .int .i64 a] 35 (0, 0))) :=
    Lib.hid (fun wx hx => ⟨(hx.block _ (by omega)).trans k0, (hx.block _ (by omega)).trans k1⟩)
  have k0x := k0
  have k1x := k1
  rw [hW2] at k0x k1x
  obtain ⟨x1, x2, x3, x4⟩ := box2 k0x
  obtain ⟨y1, y2, y3, y4⟩ := box2 k1x
  have hlt2 : w'.heap.size < W2.heap.size := by omega
  have HB2 := Lib.hid (And.intro hb2 (hbw.trans (hb2.mono hB)))
  have HW2 := Lib.hid hW2
  have HS2 := Lib.hid hs2
  clear ht hbw hW2 hb2 k0 k1 k0x k1x hs2
  go_enter Tryd.func35, Tryd.ntmps35
  go_wp2_with fail
  rw [← HW2.out]
  refine (specCursorValid_c HT.out hw HK.out a W2 HB2.out.2 (by omega)).mono ?_
  rintro e w3 ⟨rfl, hb3⟩
  have hs3 := hb3.size
  clear x1 x2 x3 x4 y1 y2 y3 y4
  obtain ⟨x1, x2, x3, x4⟩ := box2 (BOX.out w3 hb3).1
  obtain ⟨y1, y2, y3, y4⟩ := box2 (BOX.out w3 hb3).2
  have H3 := Lib.hid hb3
  clear hb3
  cases hc : Tr.curB t ks a with
  | false =>
    have HC := Lib.hid (And.intro (curK_no hc) hc)
    have HL := Lib.hid (HB2.out.1.trans (H3.out.mono (by omega)))
    clear hc
    go_wp2_with fail
    exact bodyPost_ret (v := .tuple #[.int .i64 0, .bool false]) (by simp [results, Tryd.results35]) rfl ⟨by rw [HC.out.1, HC.out.2], HL.out⟩
  | true =>
    have HC := Lib.hid hc
    have HND := Lib.hid (l8Node_c HT.out HK.out w3 (HB2.out.2.trans (H3.out.mono (by omega))) (by omega))
    clear hc
    go_wp2_with fail
    refine HND.out.mono ?_
    rintro e w4 ⟨hnode, hb4⟩
    have hb24 := H3.out.trans (hb4.mono hs3)
    have hs4 := hb24.size
    rcases hnode with ⟨⟨uk, uc⟩, ku, cu, hn, rfl, hu⟩ | ⟨hn, rfl⟩
    case inr =>
      have := HC.out
      unfold Tr.curB at this
      rw [hn] at this
      cases this
    obtain ⟨hk1, ha1, ha2, -⟩ := curK_at HC.out hn
    obtain ⟨ca, ccap, kvs, cvs, rfl, hik, -, -, -, -⟩ := hu.parts
    obtain ⟨ua, ucap, rfl, hu1, hu2, -, hu3⟩ := hik
    unfold maxLen at hu2
    obtain ⟨N, rfl⟩ : ∃ N : Nat, a = N := ⟨a.toNat, by omega⟩
    rw [Int.toNat_natCast] at hk1
    have hN : N < uk.length := by omega
    rcases hu3 with h0 | ⟨kb, ko, rfl, hkb, hkc⟩
    · simp [h0] at hN
    obtain ⟨W5, hW5⟩ : ∃ W5, W5 = w4.alloc (.cells #[.slice (some ⟨kb, ko, none⟩) uk.length ucap, .slice ca uc.length ccap] 33) := ⟨_, rfl⟩
    have hs5 : w4.heap.size < W5.heap.size := by rw [hW5]; simp
    have hb5 : Below w4.heap.size w4 W5 := by rw [hW5]; exact (Below.refl _ _).alloc (Nat.le_refl _) _
    have hx5 : W5.heap[w4.heap.size]? = some (.cells #[.slice (some ⟨kb, ko, none⟩) uk.length ucap, .slice ca uc.length ccap] 33 (0, 0)) := by rw [hW5, new_blk]
    have hb25 : Below W2.heap.size W2 W5 := hb24.trans (hb5.mono hs4)
    have hkN : W5.cell? ⟨kb, ko + N, none⟩ = some (.int .i64 (uk.getD N 0)) := by
      rw [below_cell (HB2.out.2.trans (hb25.mono (by omega))) hkb]; exact hkc N hN
    obtain ⟨K, hK⟩ : ∃ K, K = uk.getD N 0 := ⟨_, rfl⟩
    rw [← hK] at hkN hk1
    obtain ⟨z1, z2, z3, z4⟩ := box2 hx5
    obtain ⟨q1, q2, q3, q4⟩ := box2 (BOX.out W5 hb25).2
    rw [hW5] at hkN z1 z2 z3 z4 q1 q2 q3 q4
    have hNl : (N : Int) < (uk.length : Int) := by omega
    have HK1 := Lib.hid hk1
    have HL := Lib.hid (HB2.out.1.trans (hb25.mono (by omega)))
    have HW5 := Lib.hid hW5
    clear hn hu hb4 hb24 hkc hW5 hb5 hx5 hb25 hK hk1 ha1 ha2 x1 x2 x3 x4 y1 y2 y3 y4
    go_wp2_with fail
    rw [← HW5.out]
    exact bodyPost_ret (v := .tuple #[.int .i64 K, .bool true]) (by simp [results, Tryd.results35]) rfl ⟨by rw [HK1.out, HC.out], HL.out⟩
end Go.Proofs.YtbdamminjbaaoaaDoor
