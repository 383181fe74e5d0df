/- The law on how many keys a depth has: the draw, the facts, the walk. -/
import Derived.Test.YtpoeggimpdllbaaDoorProg
import Derived.Test.YtpoeggimpdllbaaDoorBase
import Derived.Test.YtpoeggimpdllbaaDoorApp
import Derived.Test.YtpoeggimpdllbaaDoorPick
import Derived.Test.YtpoeggimpdllbaaDoorDraw1
import Derived.Test.YtpoeggimpdllbaaDoorOpenBytes
import Derived.Test.YtpoeggimpdllbaaDoorSizes
namespace Go.Proofs.YtpoeggimpdllbaaDoor
open Go.RowKit

def widesL : List Int := [2, 3, 4, 5, 6, 2, 1, 7, 3]
def depthsL : List Int := [1, 2, 3, 4, 5, 8, 0, 9, -1]

/-- What the law asks of a width and a depth. -/
def kodOk (wd d : Int) : Bool :=
  if leastV wd d < 0 then decide (mostV wd d < 0) else
    (!decide (mostV wd d ≤ 100) || (leastD wd (mostV wd d) == d && !decide (leastD wd (mostV wd d) > mostD wd (mostV wd d)))) &&
    (!decide (leastV wd d ≤ 100) || (mostD wd (leastV wd d) == d && (!decide (leastV wd d > 0) || mostD wd (leastV wd d - 1) == d - 1))) &&
    decide (leastV wd d ≤ mostV wd d) && (decide (leastV wd (d + 1) < 0) || (decide (leastV wd d < leastV wd (d + 1)) && decide (leastV wd (d + 1) ≤ mostV wd d + 1) && decide (mostV wd d < mostV wd (d + 1)))) &&
    decide (mostV wd d < 100000000)

theorem kod_ok : (widesL.all fun wd => depthsL.all fun d => kodOk wd d) = true := by decide +kernel
theorem kod_at (i j : Nat) (hi : i < widesL.length) (hj : j < depthsL.length) : kodOk (widesL.getD i 0) (depthsL.getD j 0) = true := by
  have h := kod_ok
  rw [List.all_eq_true] at h
  have h1 := h (widesL.getD i 0) (by rw [List.getD_eq_getElem?_getD, List.getElem?_eq_getElem hi]; exact List.getElem_mem hi)
  rw [List.all_eq_true] at h1
  exact h1 (depthsL.getD j 0) (by rw [List.getD_eq_getElem?_getD, List.getElem?_eq_getElem hj]; exact List.getElem_mem hj)

theorem depths_at (j : Nat) (hj : j < depthsL.length) : -1 ≤ depthsL.getD j 0 ∧ depthsL.getD j 0 ≤ 9 := by
  have hj9 : j < 9 := hj
  rcases j with _ | _ | _ | _ | _ | _ | _ | _ | _ | j
  iterate 9 (exact (by decide))
  omega

/-- What drawing a width leaves. -/
def Wided (w : World) (B r : Nat) (bs : List Nat) (p : Nat) (e : Ending) (w' : World) : Prop :=
  ∃ i, i < widesL.length ∧ e = .returned (.int .i64 (widesL.getD i 0)) ∧ Rd w' B r bs (p + 1) ∧ Only w.heap.size r w w'

theorem some5_c (w : World) (B r : Nat) (bs : List Nat) (p : Nat) (h : Rd w B r bs p) (hp : p ≤ 1000000) :
    Calls Tryd.prog 18 #[.pointer (some ⟨r, 0, none⟩)] w (Wided w B r bs p) := by
  have hrl := h.lt
  obtain ⟨W1, hW1⟩ : ∃ W1, W1 = w.alloc (.cells #[.int .i64 2, .int .i64 3, .int .i64 4, .int .i64 5, .int .i64 6, .int .i64 2, .int .i64 1, .int .i64 7, .int .i64 3] 3) := ⟨_, rfl⟩
  have hb1 : Below w.heap.size w W1 := by rw [hW1]; exact (Below.refl _ _).alloc (Nat.le_refl _) _
  have hr1 : Rd W1 B r bs p := h.later hb1 hrl
  have hk1 : W1.heap[w.heap.size]? = some (.cells #[.int .i64 2, .int .i64 3, .int .i64 4, .int .i64 5, .int .i64 6, .int .i64 2, .int .i64 1, .int .i64 7, .int .i64 3] 3 (0, 0)) := by rw [hW1, new_blk]
  have HW1 := Lib.hid hW1
  have HX := Lib.hid (And.intro hb1 (And.intro hr1 hk1))
  clear hW1 hb1 hr1 hk1 h
  go_enter Tryd.func18, Tryd.ntmps18
  go_wp2_with fail
  rw [← HW1.out]
  refine (num_c W1 B r bs p w.heap.size widesL 9 HX.out.2.1 (by omega) (by omega) (by decide) (by decide) (fun i hi => ?_)).mono ?_
  · have hk := HX.out.2.2
    have hi9 : i < 9 := hi
    rcases i with _ | _ | _ | _ | _ | _ | _ | _ | _ | i
    iterate 9 (simp [World.cell?, hk, widesL])
    omega
  rintro e w2 ⟨i, m, hi, rfl, hw2⟩
  have hr2 : Rd w2 B r bs (p + 1) := by rw [hw2]; exact HX.out.2.1.picked m
  have ho2 : Only w.heap.size r w w2 := by rw [hw2]; exact (below_only HX.out.1).trans (Only.picked _ _ _ _ _)
  generalize hz : widesL.getD i 0 = z
  have HZ := Lib.hid (And.intro hz (And.intro hr2 ho2))
  clear hz hr2 ho2 hw2
  go_wp2_with fail
  refine bodyPost_ret (v := .int .i64 z) (by simp [results, Tryd.results18]) rfl ⟨i, hi, by rw [HZ.out.1], HZ.out.2.1, HZ.out.2.2⟩

/-- What drawing a width and a depth leaves. -/
def KodDrawn (w : World) (e : Ending) (w' : World) : Prop :=
  ∃ i j, i < widesL.length ∧ j < depthsL.length ∧ e = .returned (.tuple #[.int .i64 (widesL.getD i 0), .int .i64 (depthsL.getD j 0)]) ∧ Below w.heap.size w w'

theorem drawKod_c {w : World} {B : Nat} {v : Value} {bs : List Nat} (h : BytesIn w B v bs) (w' : World) (hbw : Below B w w') (hB : B ≤ w'.heap.size) :
    Calls Tryd.prog 8 #[v] w' (KodDrawn w') := by
  have HO := Lib.hid (open_c h w' hbw hB)
  clear hbw h
  go_enter Tryd.func8, Tryd.ntmps8
  go_wp2_with fail
  refine HO.out.mono ?_
  rintro e w1 ⟨rfl, ⟨bs', hr1⟩, hb1⟩
  have hrl1 := hr1.lt
  have hs1 := hb1.size
  have HD := Lib.hid (some5_c w1 w'.heap.size w'.heap.size bs' 0 hr1 (by omega))
  have H1 := Lib.hid (And.intro hb1 hr1)
  clear hb1 hr1
  go_wp2_with fail
  refine HD.out.mono ?_
  rintro e w2 ⟨i, hi, rfl, hr2, ho2⟩
  have hrl2 := hr2.lt
  have hs2 := ho2.size
  generalize hz : widesL.getD i 0 = z
  obtain ⟨W3, hW3⟩ : ∃ W3, W3 = w2.alloc (.cells #[.int .i64 1, .int .i64 2, .int .i64 3, .int .i64 4, .int .i64 5, .int .i64 8, .int .i64 0, .int .i64 9, .int .i64 (-1)] 3) := ⟨_, rfl⟩
  have hb3 : Below w2.heap.size w2 W3 := by rw [hW3]; exact (Below.refl _ _).alloc (Nat.le_refl _) _
  have hr3 : Rd W3 w'.heap.size w'.heap.size bs' (0 + 1) := hr2.later hb3 hrl2
  have hk3 : W3.heap[w2.heap.size]? = some (.cells #[.int .i64 1, .int .i64 2, .int .i64 3, .int .i64 4, .int .i64 5, .int .i64 8, .int .i64 0, .int .i64 9, .int .i64 (-1)] 3 (0, 0)) := by rw [hW3, new_blk]
  have ho3 : Only w1.heap.size w'.heap.size w1 W3 := ho2.trans ((below_only hb3).mono (by omega))
  have HW3 := Lib.hid hW3
  have H3 := Lib.hid (And.intro hz (And.intro hr3 (And.intro hk3 ho3)))
  clear hz hr2 ho2 hb3 hr3 hk3 ho3 hW3
  go_wp2_with fail
  rw [← HW3.out]
  refine (num_c W3 w'.heap.size w'.heap.size bs' (0 + 1) w2.heap.size depthsL 9 H3.out.2.1 (by omega) (by omega) (by decide) (by decide) (fun i hi => ?_)).mono ?_
  · have hk := H3.out.2.2.1
    have hi9 : i < 9 := hi
    rcases i with _ | _ | _ | _ | _ | _ | _ | _ | _ | i
    iterate 9 (simp [World.cell?, hk, depthsL])
    omega
  rintro e w4 ⟨j, m, hj, rfl, hw4⟩
  have ho4 : Only w1.heap.size w'.heap.size w1 w4 := by rw [hw4]; exact H3.out.2.2.2.trans (Only.picked _ _ _ _ _)
  have hb4 : Below w'.heap.size w' w4 := H1.out.1.trans ((ho4.below (B := w'.heap.size) (by omega) (Nat.le_refl _)))
  generalize hy : depthsL.getD j 0 = y
  have H4 := Lib.hid (And.intro hy hb4)
  clear hy ho4 hb4 hw4
  go_wp2_with fail
  refine bodyPost_ret (v := .tuple #[.int .i64 z, .int .i64 y]) (by simp [results, Tryd.results8]) rfl ⟨i, j, hi, hj, by rw [H3.out.1, H4.out.1], H4.out.2⟩

set_option maxHeartbeats 4000000 in
set_option maxRecDepth 100000 in
/-- The law's end, once a width and a depth are drawn. -/
theorem kod_c {w : World} {v : Value} {bs : List Nat} (h : BytesIn w w.heap.size v bs) (hl : TabAt w 0 tabL) (hm : TabAt w 1 tabM) (hg : 2 ≤ w.heap.size) :
    Calls Tryd.prog 3 #[v] w fun e w' => e = .returned (.bool true) ∧ Below w.heap.size w w' := by
  have H := Lib.hid h
  obtain ⟨a1, c1, rfl, -⟩ := h
  by_cases hc1 : bs.length ≤ 1048576
  case neg =>
    have hc1' : ((bs.length : Int) > 1048576) := by omega
    clear hl hm
    go_enter Tryd.func3, Tryd.ntmps3
    go_wp2_with fail
    go_ret
    exact ⟨rfl, Below.refl _ _⟩
  have hc1' : ¬ ((bs.length : Int) > 1048576) := by omega
  have HD := Lib.hid (drawKod_c H.out w (Below.refl _ _) (Nat.le_refl _))
  have HT := Lib.hid (And.intro hl hm)
  clear hl hm
  go_enter Tryd.func3, Tryd.ntmps3
  go_wp2_with fail
  refine HD.out.mono ?_
  rintro e w2 ⟨i, j, hi, hj, rfl, hb2⟩
  have hok := kod_at i j hi hj
  obtain ⟨hd1, hd2⟩ := depths_at j hj
  generalize widesL.getD i 0 = wd at hok ⊢
  generalize depthsL.getD j 0 = d at hok hd1 hd2 ⊢
  have hl2 : TabAt w2 0 tabL := fun i hi => by rw [below_cell hb2 (by show 0 < _; omega)]; exact HT.out.1 i hi
  have hm2 : TabAt w2 1 tabM := fun i hi => by rw [below_cell hb2 (by show 1 < _; omega)]; exact HT.out.2 i hi
  have L1 := Lib.hid (LeastKeys_c w2 hl2 wd d)
  have L2 := Lib.hid (MostKeys_c w2 hm2 wd d)
  have S1 := Lib.hid (specLeastKeys_c w2 wd d)
  have S2 := Lib.hid (specMostKeys_c w2 wd d)
  have D1 := Lib.hid (LeastDepth_c w2 hm2 wd (mostV wd d))
  have D2 := Lib.hid (MostDepth_c w2 hl2 wd (mostV wd d))
  have D3 := Lib.hid (MostDepth_c w2 hl2 wd (leastV wd d))
  have D4 := Lib.hid (MostDepth_c w2 hl2 wd (leastV wd d - 1))
  have L3 := Lib.hid (LeastKeys_c w2 hl2 wd (d + 1))
  have L4 := Lib.hid (MostKeys_c w2 hm2 wd (d + 1))
  unfold kodOk at hok
  generalize leastD wd (mostV wd d) = LB at hok D1
  generalize mostD wd (mostV wd d) = MB at hok D2
  generalize mostD wd (leastV wd d - 1) = MA1 at hok D4
  generalize mostD wd (leastV wd d) = MA at hok D3
  generalize leastV wd (d + 1) = C at hok L3
  generalize mostV wd (d + 1) = M at hok L4
  generalize leastV wd d = A at hok L1 S1 D3 D4
  generalize mostV wd d = B at hok L2 S2 D1 D2
  have HB2 := Lib.hid hb2
  clear hb2 hl2 hm2 hi hj
  by_cases hA : A < 0
  · rw [if_pos hA] at hok
    have hB : B < 0 := by simpa using hok
    clear hok
    go_wp2_with fail
    refine L1.out.mono ?_
    rintro e w1 ⟨rfl, rfl⟩
    go_wp2_with fail
    refine L2.out.mono ?_
    rintro e w1 ⟨rfl, rfl⟩
    go_wp2_with fail
    refine S1.out.mono ?_
    rintro e w1 ⟨rfl, rfl⟩
    go_wp2_with fail
    refine S2.out.mono ?_
    rintro e w1 ⟨rfl, rfl⟩
    go_wp2_with fail
    refine S1.out.mono ?_
    rintro e w1 ⟨rfl, rfl⟩
    go_wp2_with fail
    refine S2.out.mono ?_
    rintro e w1 ⟨rfl, rfl⟩
    go_wp2_with fail
    go_ret
    exact ⟨ret_bool rfl, HB2.out⟩
  · rw [if_neg hA] at hok
    simp only [Bool.and_eq_true, Bool.or_eq_true, Bool.not_eq_true', decide_eq_true_eq, decide_eq_false_iff_not, beq_iff_eq] at hok
    obtain ⟨⟨⟨⟨hk1, hk2⟩, hk3⟩, hk4⟩, hk5⟩ := hok
    by_cases hB1 : B ≤ 100
    · obtain ⟨hk12, hk13⟩ := hk1.resolve_left (by omega)
      subst hk12
      clear hk1
      by_cases hA2 : A ≤ 100
      · obtain ⟨hk9, hk10⟩ := hk2.resolve_left (by omega)
        subst hk9
        clear hk2
        by_cases hA3 : A > 0
        · have hk11 := hk10.resolve_left (by omega)
          subst hk11
          clear hk10
          by_cases hC : C < 0
          · clear hk4
            go_wp2_with fail
            refine L1.out.mono ?_
            rintro e w1 ⟨rfl, rfl⟩
            go_wp2_with fail
            refine L2.out.mono ?_
            rintro e w1 ⟨rfl, rfl⟩
            go_wp2_with fail
            refine S1.out.mono ?_
            rintro e w1 ⟨rfl, rfl⟩
            go_wp2_with fail
            refine S2.out.mono ?_
            rintro e w1 ⟨rfl, rfl⟩
            go_wp2_with fail
            refine D1.out.mono ?_
            rintro e w1 ⟨rfl, rfl⟩
            go_wp2_with fail
            refine D1.out.mono ?_
            rintro e w1 ⟨rfl, rfl⟩
            go_wp2_with fail
            refine D2.out.mono ?_
            rintro e w1 ⟨rfl, rfl⟩
            go_wp2_with fail
            refine D3.out.mono ?_
            rintro e w1 ⟨rfl, rfl⟩
            go_wp2_with fail
            refine D4.out.mono ?_
            rintro e w1 ⟨rfl, rfl⟩
            go_wp2_with fail
            refine L3.out.mono ?_
            rintro e w1 ⟨rfl, rfl⟩
            go_wp2_with fail
            go_ret
            first | exact ⟨rfl, HB2.out⟩ | exact ⟨ret_bool (by simp [*]), HB2.out⟩
          · obtain ⟨⟨hk6, hk7⟩, hk8⟩ := hk4.resolve_left hC
            clear hk4
            go_wp2_with fail
            refine L1.out.mono ?_
            rintro e w1 ⟨rfl, rfl⟩
            go_wp2_with fail
            refine L2.out.mono ?_
            rintro e w1 ⟨rfl, rfl⟩
            go_wp2_with fail
            refine S1.out.mono ?_
            rintro e w1 ⟨rfl, rfl⟩
            go_wp2_with fail
            refine S2.out.mono ?_
            rintro e w1 ⟨rfl, rfl⟩
            go_wp2_with fail
            refine D1.out.mono ?_
            rintro e w1 ⟨rfl, rfl⟩
            go_wp2_with fail
            refine D1.out.mono ?_
            rintro e w1 ⟨rfl, rfl⟩
            go_wp2_with fail
            refine D2.out.mono ?_
            rintro e w1 ⟨rfl, rfl⟩
            go_wp2_with fail
            refine D3.out.mono ?_
            rintro e w1 ⟨rfl, rfl⟩
            go_wp2_with fail
            refine D4.out.mono ?_
            rintro e w1 ⟨rfl, rfl⟩
            go_wp2_with fail
            refine L3.out.mono ?_
            rintro e w1 ⟨rfl, rfl⟩
            go_wp2_with fail
            refine L4.out.mono ?_
            rintro e w1 ⟨rfl, rfl⟩
            go_wp2_with fail
            go_ret
            first | exact ⟨rfl, HB2.out⟩ | exact ⟨ret_bool (by simp [*]), HB2.out⟩
        · clear hk10
          by_cases hC : C < 0
          · clear hk4
            go_wp2_with fail
            refine L1.out.mono ?_
            rintro e w1 ⟨rfl, rfl⟩
            go_wp2_with fail
            refine L2.out.mono ?_
            rintro e w1 ⟨rfl, rfl⟩
            go_wp2_with fail
            refine S1.out.mono ?_
            rintro e w1 ⟨rfl, rfl⟩
            go_wp2_with fail
            refine S2.out.mono ?_
            rintro e w1 ⟨rfl, rfl⟩
            go_wp2_with fail
            refine D1.out.mono ?_
            rintro e w1 ⟨rfl, rfl⟩
            go_wp2_with fail
            refine D1.out.mono ?_
            rintro e w1 ⟨rfl, rfl⟩
            go_wp2_with fail
            refine D2.out.mono ?_
            rintro e w1 ⟨rfl, rfl⟩
            go_wp2_with fail
            refine D3.out.mono ?_
            rintro e w1 ⟨rfl, rfl⟩
            go_wp2_with fail
            refine L3.out.mono ?_
            rintro e w1 ⟨rfl, rfl⟩
            go_wp2_with fail
            go_ret
            first | exact ⟨rfl, HB2.out⟩ | exact ⟨ret_bool (by simp [*]), HB2.out⟩
          · obtain ⟨⟨hk6, hk7⟩, hk8⟩ := hk4.resolve_left hC
            clear hk4
            go_wp2_with fail
            refine L1.out.mono ?_
            rintro e w1 ⟨rfl, rfl⟩
            go_wp2_with fail
            refine L2.out.mono ?_
            rintro e w1 ⟨rfl, rfl⟩
            go_wp2_with fail
            refine S1.out.mono ?_
            rintro e w1 ⟨rfl, rfl⟩
            go_wp2_with fail
            refine S2.out.mono ?_
            rintro e w1 ⟨rfl, rfl⟩
            go_wp2_with fail
            refine D1.out.mono ?_
            rintro e w1 ⟨rfl, rfl⟩
            go_wp2_with fail
            refine D1.out.mono ?_
            rintro e w1 ⟨rfl, rfl⟩
            go_wp2_with fail
            refine D2.out.mono ?_
            rintro e w1 ⟨rfl, rfl⟩
            go_wp2_with fail
            refine D3.out.mono ?_
            rintro e w1 ⟨rfl, rfl⟩
            go_wp2_with fail
            refine L3.out.mono ?_
            rintro e w1 ⟨rfl, rfl⟩
            go_wp2_with fail
            refine L4.out.mono ?_
            rintro e w1 ⟨rfl, rfl⟩
            go_wp2_with fail
            go_ret
            first | exact ⟨rfl, HB2.out⟩ | exact ⟨ret_bool (by simp [*]), HB2.out⟩
      · exfalso; omega
    · clear hk1
      by_cases hA2 : A ≤ 100
      · obtain ⟨hk9, hk10⟩ := hk2.resolve_left (by omega)
        subst hk9
        clear hk2
        by_cases hA3 : A > 0
        · have hk11 := hk10.resolve_left (by omega)
          subst hk11
          clear hk10
          by_cases hC : C < 0
          · clear hk4
            go_wp2_with fail
            refine L1.out.mono ?_
            rintro e w1 ⟨rfl, rfl⟩
            go_wp2_with fail
            refine L2.out.mono ?_
            rintro e w1 ⟨rfl, rfl⟩
            go_wp2_with fail
            refine S1.out.mono ?_
            rintro e w1 ⟨rfl, rfl⟩
            go_wp2_with fail
            refine S2.out.mono ?_
            rintro e w1 ⟨rfl, rfl⟩
            go_wp2_with fail
            refine D3.out.mono ?_
            rintro e w1 ⟨rfl, rfl⟩
            go_wp2_with fail
            refine D4.out.mono ?_
            rintro e w1 ⟨rfl, rfl⟩
            go_wp2_with fail
            refine L3.out.mono ?_
            rintro e w1 ⟨rfl, rfl⟩
            go_wp2_with fail
            go_ret
            first | exact ⟨rfl, HB2.out⟩ | exact ⟨ret_bool (by simp [*]), HB2.out⟩
          · obtain ⟨⟨hk6, hk7⟩, hk8⟩ := hk4.resolve_left hC
            clear hk4
            go_wp2_with fail
            refine L1.out.mono ?_
            rintro e w1 ⟨rfl, rfl⟩
            go_wp2_with fail
            refine L2.out.mono ?_
            rintro e w1 ⟨rfl, rfl⟩
            go_wp2_with fail
            refine S1.out.mono ?_
            rintro e w1 ⟨rfl, rfl⟩
            go_wp2_with fail
            refine S2.out.mono ?_
            rintro e w1 ⟨rfl, rfl⟩
            go_wp2_with fail
            refine D3.out.mono ?_
            rintro e w1 ⟨rfl, rfl⟩
            go_wp2_with fail
            refine D4.out.mono ?_
            rintro e w1 ⟨rfl, rfl⟩
            go_wp2_with fail
            refine L3.out.mono ?_
            rintro e w1 ⟨rfl, rfl⟩
            go_wp2_with fail
            refine L4.out.mono ?_
            rintro e w1 ⟨rfl, rfl⟩
            go_wp2_with fail
            go_ret
            first | exact ⟨rfl, HB2.out⟩ | exact ⟨ret_bool (by simp [*]), HB2.out⟩
        · clear hk10
          by_cases hC : C < 0
          · clear hk4
            go_wp2_with fail
            refine L1.out.mono ?_
            rintro e w1 ⟨rfl, rfl⟩
            go_wp2_with fail
            refine L2.out.mono ?_
            rintro e w1 ⟨rfl, rfl⟩
            go_wp2_with fail
            refine S1.out.mono ?_
            rintro e w1 ⟨rfl, rfl⟩
            go_wp2_with fail
            refine S2.out.mono ?_
            rintro e w1 ⟨rfl, rfl⟩
            go_wp2_with fail
            refine D3.out.mono ?_
            rintro e w1 ⟨rfl, rfl⟩
            go_wp2_with fail
            refine L3.out.mono ?_
            rintro e w1 ⟨rfl, rfl⟩
            go_wp2_with fail
            go_ret
            first | exact ⟨rfl, HB2.out⟩ | exact ⟨ret_bool (by simp [*]), HB2.out⟩
          · obtain ⟨⟨hk6, hk7⟩, hk8⟩ := hk4.resolve_left hC
            clear hk4
            go_wp2_with fail
            refine L1.out.mono ?_
            rintro e w1 ⟨rfl, rfl⟩
            go_wp2_with fail
            refine L2.out.mono ?_
            rintro e w1 ⟨rfl, rfl⟩
            go_wp2_with fail
            refine S1.out.mono ?_
            rintro e w1 ⟨rfl, rfl⟩
            go_wp2_with fail
            refine S2.out.mono ?_
            rintro e w1 ⟨rfl, rfl⟩
            go_wp2_with fail
            refine D3.out.mono ?_
            rintro e w1 ⟨rfl, rfl⟩
            go_wp2_with fail
            refine L3.out.mono ?_
            rintro e w1 ⟨rfl, rfl⟩
            go_wp2_with fail
            refine L4.out.mono ?_
            rintro e w1 ⟨rfl, rfl⟩
            go_wp2_with fail
            go_ret
            first | exact ⟨rfl, HB2.out⟩ | exact ⟨ret_bool (by simp [*]), HB2.out⟩
      · clear hk2
        by_cases hC : C < 0
        · clear hk4
          go_wp2_with fail
          refine L1.out.mono ?_
          rintro e w1 ⟨rfl, rfl⟩
          go_wp2_with fail
          refine L2.out.mono ?_
          rintro e w1 ⟨rfl, rfl⟩
          go_wp2_with fail
          refine S1.out.mono ?_
          rintro e w1 ⟨rfl, rfl⟩
          go_wp2_with fail
          refine S2.out.mono ?_
          rintro e w1 ⟨rfl, rfl⟩
          go_wp2_with fail
          refine L3.out.mono ?_
          rintro e w1 ⟨rfl, rfl⟩
          go_wp2_with fail
          go_ret
          first | exact ⟨rfl, HB2.out⟩ | exact ⟨ret_bool (by simp [*]), HB2.out⟩
        · obtain ⟨⟨hk6, hk7⟩, hk8⟩ := hk4.resolve_left hC
          clear hk4
          go_wp2_with fail
          refine L1.out.mono ?_
          rintro e w1 ⟨rfl, rfl⟩
          go_wp2_with fail
          refine L2.out.mono ?_
          rintro e w1 ⟨rfl, rfl⟩
          go_wp2_with fail
          refine S1.out.mono ?_
          rintro e w1 ⟨rfl, rfl⟩
          go_wp2_with fail
          refine S2.out.mono ?_
          rintro e w1 ⟨rfl, rfl⟩
          go_wp2_with fail
          refine L3.out.mono ?_
          rintro e w1 ⟨rfl, rfl⟩
          go_wp2_with fail
          refine L4.out.mono ?_
          rintro e w1 ⟨rfl, rfl⟩
          go_wp2_with fail
          go_ret
          first | exact ⟨rfl, HB2.out⟩ | exact ⟨ret_bool (by simp [*]), HB2.out⟩
end Go.Proofs.YtpoeggimpdllbaaDoor
