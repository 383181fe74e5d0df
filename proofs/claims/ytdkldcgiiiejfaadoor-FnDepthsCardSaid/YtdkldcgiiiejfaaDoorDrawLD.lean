/- The model draws a width and a number of keys. -/
import Derived.Test.YtdkldcgiiiejfaaDoorProg
import Derived.Test.YtdkldcgiiiejfaaDoorBase
import Derived.Test.YtdkldcgiiiejfaaDoorDa0
import Derived.Test.YtdkldcgiiiejfaaDoorDraw1
import Derived.Test.YtdkldcgiiiejfaaDoorOpenBytes
namespace Go.Proofs.YtdkldcgiiiejfaaDoor
open Go.RowKit

def wideL9 : List Int := [2, 3, 4, 5, 6, 2, 1, 7, 3]

/-- What drawing a width leaves. -/
def WidedL (w : World) (B r : Nat) (bs : List Nat) (p : Nat) (e : Ending) (w' : World) : Prop :=
  ∃ i, i < wideL9.length ∧ e = .returned (.int .i64 (wideL9.getD i 0)) ∧ Rd w' B r bs (p + 1) ∧ Only w.heap.size r w w'

theorem some5l_c (w : World) (B r : Nat) (bs : List Nat) (p : Nat) (h : Rd w B r bs p) (hp : p ≤ 1000000) :
    Calls Tryd.prog 17 #[.pointer (some ⟨r, 0, none⟩)] w (WidedL w B r bs p) := by
  have hrl := h.lt
  obtain ⟨W1, hW1⟩ : ∃ W1, W1 = w.alloc (.cells #[.int .i64 2, .int .i64 3, .int .i64 4, .int .i64 5, .int .i64 6, .int .i64 2, .int .i64 1, .int .i64 7, .int .i64 3] 3) := ⟨_, rfl⟩
  have hb1 : Below w.heap.size w W1 := by rw [hW1]; exact (Below.refl _ _).alloc (Nat.le_refl _) _
  have hr1 : Rd W1 B r bs p := h.later hb1 hrl
  have hk1 : W1.heap[w.heap.size]? = some (.cells #[.int .i64 2, .int .i64 3, .int .i64 4, .int .i64 5, .int .i64 6, .int .i64 2, .int .i64 1, .int .i64 7, .int .i64 3] 3 (0, 0)) := by rw [hW1, new_blk]
  have HW1 := Lib.hid hW1
  have HX := Lib.hid (And.intro hb1 (And.intro hr1 hk1))
  clear hW1 hb1 hr1 hk1 h
  go_enter Tryd.func17, Tryd.ntmps17
  go_wp2_with fail
  rw [← HW1.out]
  refine (num_c W1 B r bs p w.heap.size wideL9 9 HX.out.2.1 (by omega) (by omega) (by decide) (by decide) (fun i hi => ?_)).mono ?_
  · have hk := HX.out.2.2
    have hi9 : i < 9 := hi
    rcases i with _ | _ | _ | _ | _ | _ | _ | _ | _ | i
    iterate 9 (simp [World.cell?, hk, wideL9])
    omega
  rintro e w2 ⟨i, m, hi, rfl, hw2⟩
  have hr2 : Rd w2 B r bs (p + 1) := by rw [hw2]; exact HX.out.2.1.picked m
  have ho2 : Only w.heap.size r w w2 := by rw [hw2]; exact (below_only HX.out.1).trans (Only.picked _ _ _ _ _)
  generalize hz : wideL9.getD i 0 = z
  have HZ := Lib.hid (And.intro hz (And.intro hr2 ho2))
  clear hz hr2 ho2 hw2
  go_wp2_with fail
  refine bodyPost_ret (v := .int .i64 z) (by simp [results, Tryd.results17]) rfl ⟨i, hi, by rw [HZ.out.1], HZ.out.2.1, HZ.out.2.2⟩

/-- What drawing a width and a number leaves. -/
def LDDrawn (w : World) (e : Ending) (w' : World) : Prop :=
  ∃ wd n : Int, e = .returned (.tuple #[.int .i64 wd, .int .i64 n]) ∧ Below w.heap.size w w'

theorem cell_of8 {w : World} {b : Nat} {x0 x1 x2 x3 x4 x5 x6 x7 : Int} {t : TypeId} (h : w.heap[b]? = some (.cells #[.int .i64 x0, .int .i64 x1, .int .i64 x2, .int .i64 x3, .int .i64 x4, .int .i64 x5, .int .i64 x6, .int .i64 x7] t (0, 0))) (i : Nat) (hi : i < 8) : w.cell? ⟨b, i, none⟩ = some (.int .i64 (([x0, x1, x2, x3, x4, x5, x6, x7] : List Int).getD i 0)) := by
  rcases i with _ | _ | _ | _ | _ | _ | _ | _ | i
  iterate 8 (simp [World.cell?, h])
  omega

set_option maxHeartbeats 1000000 in
theorem drawLD_c {w : World} {B : Nat} {v : Value} {bs : List Nat} (h : BytesIn w B v bs) (w' : World) (hbw : Below B w w') (hB : B ≤ w'.heap.size) :
    Calls Tryd.prog 5 #[v] w' (LDDrawn w') := by
  have HO := Lib.hid (open_c h w' hbw hB)
  clear hbw h
  go_enter Tryd.func5, Tryd.ntmps5
  go_wp2_with fail
  refine HO.out.mono ?_
  rintro e w1 ⟨rfl, ⟨bs', hr1⟩, hb1⟩
  have hrl1 := hr1.lt
  have hs1 := hb1.size
  have HD := Lib.hid (some5l_c w1 w'.heap.size w'.heap.size bs' 0 hr1 (by omega))
  have H1 := Lib.hid (And.intro hb1 hr1)
  clear hb1 hr1
  go_wp2_with fail
  refine HD.out.mono ?_
  rintro e w2 ⟨i, hi, rfl, hr2, ho2⟩
  have hrl2 := hr2.lt
  have hs2 := ho2.size
  generalize wideL9.getD i 0 = z
  have H2 := Lib.hid (And.intro hr2 ho2)
  clear hr2 ho2 hi
  go_wp2_with fail
  refine (pick_c w2 w'.heap.size w'.heap.size bs' (0 + 1) 101 H2.out.1 (by omega) (by omega) (by omega)).mono ?_
  rintro e w3 ⟨x, m3, rfl, hx0, hx1, _, hw3⟩
  have hr3 : Rd w3 w'.heap.size w'.heap.size bs' (0 + 1 + 1) := by rw [hw3]; exact H2.out.1.picked m3
  have ho3 : Only w1.heap.size w'.heap.size w1 w3 := by rw [hw3]; exact H2.out.2.trans (Only.picked _ _ _ _ _)
  have hz3 := ho3.size
  have hrl3 := hr3.lt
  obtain ⟨W4, hW4⟩ : ∃ W4, W4 = w3.alloc (.cells #[.int .i64 x, .int .i64 0, .int .i64 1, .int .i64 3, .int .i64 8, .int .i64 100, .int .i64 101, .int .i64 (-1)] 3) := ⟨_, rfl⟩
  have hb4 : Below w3.heap.size w3 W4 := by rw [hW4]; exact (Below.refl _ _).alloc (Nat.le_refl _) _
  have hr4 : Rd W4 w'.heap.size w'.heap.size bs' (0 + 1 + 1) := hr3.later hb4 hrl3
  have hk4 : W4.heap[w3.heap.size]? = some (.cells #[.int .i64 x, .int .i64 0, .int .i64 1, .int .i64 3, .int .i64 8, .int .i64 100, .int .i64 101, .int .i64 (-1)] 3 (0, 0)) := by rw [hW4, new_blk]
  have ho4 : Only w1.heap.size w'.heap.size w1 W4 := ho3.trans ((below_only hb4).mono (by omega))
  have HW4 := Lib.hid hW4
  have H4 := Lib.hid (And.intro hr4 (And.intro hk4 ho4))
  clear hr3 ho3 hw3 hb4 hr4 hk4 ho4 hW4 hx1
  go_wp2_with fail
  rw [← HW4.out]
  refine (num_c W4 w'.heap.size w'.heap.size bs' (0 + 1 + 1) w3.heap.size [x, 0, 1, 3, 8, 100, 101, -1] 8 H4.out.1 (by omega) (by omega) (by simp) (by simp) (fun i hi => cell_of8 H4.out.2.1 i (by simpa using hi))).mono ?_
  rintro e w5 ⟨j, m, hj, rfl, hw5⟩
  have ho5 : Only w1.heap.size w'.heap.size w1 w5 := by rw [hw5]; exact H4.out.2.2.trans (Only.picked _ _ _ _ _)
  have hb5 : Below w'.heap.size w' w5 := H1.out.1.trans ((ho5.below (B := w'.heap.size) (by omega) (Nat.le_refl _)))
  generalize ([x, 0, 1, 3, 8, 100, 101, -1] : List Int).getD j 0 = y
  have H5 := Lib.hid hb5
  clear ho5 hb5 hw5 hj
  go_wp2_with fail
  refine bodyPost_ret (v := .tuple #[.int .i64 z, .int .i64 y]) (by simp [results, Tryd.results5]) rfl ⟨z, y, rfl, H5.out⟩
end Go.Proofs.YtdkldcgiiiejfaaDoor
