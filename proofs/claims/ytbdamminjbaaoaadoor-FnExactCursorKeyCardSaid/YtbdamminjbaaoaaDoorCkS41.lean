/- The program's CursorKey. -/
import Derived.Test.YtbdamminjbaaoaaDoorProg
import Derived.Test.YtbdamminjbaaoaaDoorCkS1
import Derived.Test.YtbdamminjbaaoaaDoorCkS38
import Derived.Test.YtbdamminjbaaoaaDoorCkS39
import Derived.Test.YtbdamminjbaaoaaDoorCkS40
namespace Go.Proofs.YtbdamminjbaaoaaDoor
open Go.RowKit

/-- The key at which a cursor stands. -/
def Tr.curK (t : Tr) (ks : List Int) (a : Int) : Int :=
  if Tr.curB t ks a = true then (match Tr.nodeTo ks t with | some (.mk k _) => k.getD a.toNat 0 | none => 0) else 0
theorem curK_no {t : Tr} {ks : List Int} {a : Int} (h : Tr.curB t ks a = false) : Tr.curK t ks a = 0 := by simp [Tr.curK, h]
theorem curK_at {t : Tr} {ks : List Int} {a : Int} {k : List Int} {c : List Tr} (h : Tr.curB t ks a = true) (hn : Tr.nodeTo ks t = some (.mk k c)) : Tr.curK t ks a = k.getD a.toNat 0 ∧ 0 ≤ a ∧ a < (k.length : Int) ∧ t.someB = true := by
  refine ⟨by simp [Tr.curK, h, hn], ?_⟩
  unfold Tr.curB at h
  rw [hn] at h
  simp only [Bool.and_eq_true, inB, decide_eq_true_eq] at h
  exact ⟨h.2.1, by omega, h.1⟩

set_option maxHeartbeats 2000000 in
set_option maxRecDepth 100000 in
theorem impl_cursorKey {w : World} {B : Nat} {kv cv v : Value} {t : Tr} {ks : List Int} (ht : TreeIn w B kv cv t) (hw : t.weight ≤ 1048576) (hk : IntsIn w B v ks) (a : Int) (s : Addr) (w' : World) (hbw : Below B w w') (hB : B ≤ w'.heap.size)
    (hV : ∀ wx, Below w'.heap.size w' wx → wx.cell? ⟨0, 0, none⟩ = some (.iface 181 (.pointer (some s)))) :
    Calls Tryd.prog 36 #[.agg #[kv, cv], .agg #[v, .int .i64 a]] w' fun e w'' => e = .returned (.tuple #[.int .i64 (Tr.curK t ks a), .bool (Tr.curB t ks a)]) ∧ Below w'.heap.size w' w'' := by
  have HT := Lib.hid ht
  have HK := Lib.hid hk
  obtain ⟨g1, g2, g3, g4, g5, g6, rfl, rfl⟩ := ht.slices
  obtain ⟨va, vcap, rfl, -⟩ := hk
  obtain ⟨W2, hW2⟩ : ∃ W2, W2 = (w'.alloc (.cells #[.slice g1 g2 g3, .slice g4 g5 g6] 33)).alloc (.cells #[.slice va ks.length vcap, .int .i64 a] 35) := ⟨_, rfl⟩
  have hb2 : Below w'.heap.size w' W2 := by rw [hW2]; exact ((Below.refl _ _).alloc (Nat.le_refl _) _).alloc (by simp) _
  have hs2 : w'.heap.size ≤ W2.heap.size := hb2.size
  have k0 : W2.heap[w'.heap.size]? = some (.cells #[.slice g1 g2 g3, .slice g4 g5 g6] 33 (0, 0)) := by rw [hW2, old_blk _ _ _ (by simp), new_blk]
  have k1 : W2.heap[w'.heap.size + 1]? = some (.cells #[.slice va ks.length vcap, .int .i64 a] 35 (0, 0)) := by
    rw [hW2, show w'.heap.size + 1 = (w'.alloc (.cells #[.slice g1 g2 g3, .slice g4 g5 g6] 33)).heap.size by simp, new_blk]
  rw [hW2] at k0 k1
  obtain ⟨x1, x2, x3, x4⟩ := box2 k0
  obtain ⟨y1, y2, y3, y4⟩ := box2 k1
  have HWA := Lib.hid (walkerAt_c HT.out hw HK.out a s W2 (hbw.trans (hb2.mono hB)) (by omega) (fun wx hx => hV wx (hb2.trans (hx.mono hs2))))
  have HB2 := Lib.hid (And.intro hb2 hV)
  have HW2 := Lib.hid hW2
  clear ht hbw hW2 hb2 k0 k1 hV
  go_enter Tryd.func36, Tryd.ntmps36
  go_wp2_with fail
  rw [← HW2.out]
  refine HWA.out.mono ?_
  rintro e w3 ⟨hres, hb3⟩
  have H3 := Lib.hid (HB2.out.1.trans (hb3.mono hs2))
  have xv := HB2.out.2 w3 H3.out
  clear hb3 x1 x2 x3 x4 y1 y2 y3 y4
  rcases hres with ⟨hc, rfl⟩ | ⟨hc, b, f, ⟨uk, uc⟩, p, lo, hi, rfl, hwk, hfp, hnode, hnd, -, -⟩
  · have HC := Lib.hid (And.intro hc (curK_no hc))
    clear hc
    go_wp2_with fail
    refine (is_same s _).mono ?_
    rintro e w4 ⟨rfl, hw4⟩
    have hw4' := hw4.symm
    subst hw4'
    go_wp2_with fail
    exact bodyPost_ret (v := .tuple #[.int .i64 0, .bool false]) (by simp [results, Tryd.results36]) rfl ⟨by rw [HC.out.1, HC.out.2], H3.out⟩
  · obtain ⟨hk1, ha1, ha2, hsb⟩ := curK_at hc hnode
    have hfew := Tr.nodeTo_few hsb hnode
    have HC := Lib.hid (And.intro hc hk1)
    have HKY := Lib.hid (key_c hwk (by omega) hfp hnd ⟨ha1, ha2⟩)
    clear hc hwk hfp hnode hnd hk1 ha1 ha2 hsb hfew
    go_wp2_with fail
    refine (is_nil s _).mono ?_
    rintro e w4 ⟨rfl, hw4⟩
    have hw4' := hw4.symm
    subst hw4'
    go_wp2_with fail
    refine HKY.out.mono ?_
    rintro e w5 ⟨rfl, hb5⟩
    have H5 := Lib.hid (H3.out.trans (hb5.mono H3.out.size))
    obtain ⟨K, hK⟩ : ∃ K, K = uk.getD a.toNat 0 := ⟨_, rfl⟩
    rw [← hK]
    have HKK := Lib.hid hK
    clear hb5 hK
    go_wp2_with fail
    exact bodyPost_ret (v := .tuple #[.int .i64 K, .bool true]) (by simp [results, Tryd.results36]) rfl ⟨by rw [HC.out.1, HC.out.2, HKK.out], H5.out⟩
end Go.Proofs.YtbdamminjbaaoaaDoor
