/- For every tree in memory, any int and any list of ints in memory, the law on DeleteAll returns true and leaves its arguments as they were; no conditions. -/
import Derived.Test.YtananonjomfpkaaProg
import Derived.Test.YtananonjomfpkaaPe0
import Derived.Test.YtananonjomfpkaaPe5
import Derived.Test.YtananonjomfpkaaTo
import Derived.Test.YtananonjomfpkaaPe6
import Derived.Test.YtananonjomfpkaaPe22
import Derived.Test.YtananonjomfpkaaPe23
import Derived.Test.YtananonjomfpkaaExS
import Derived.Test.YtananonjomfpkaaPe35
import Derived.Test.YtananonjomfpkaaPe36
import Derived.Test.YtananonjomfpkaaPe20
import Derived.Deep.RegionHeld3
import Derived.Test.YtananonjomfpkaaRows
import Derived.Test.YtananonjomfpkaaFacts
import Derived.WalkKit
import Derived.ProofKit
import Derived.OpenShut
import Derived.ChangeOld
import Derived.Below

/- The law on DeleteAll: the walk over the contracts. -/
namespace Go.Proofs.Ytananonjomfpkaa
open Go.RowKit

/-- What the program's DeleteAll is to do. -/
def ImplDeleteAll : Prop := ∀ (w0 : World) (B : Nat) (kv cv v : Value) (t : Tr) (ks : List Int) (wide : Int), TreeIn w0 B kv cv t → t.weight ≤ 1048576 → IntsIn w0 B v ks → -9223372036854775808 ≤ wide → wide ≤ 9223372036854775807 → w0.heap.size ≤ B → ∀ w', Below B w0 w' → B ≤ w'.heap.size →
  Calls Try.prog 34 #[.agg #[kv, cv], .int .i64 wide, v] w' fun e w'' => ∃ kv' cv' P, e = .returned (.tuple #[.agg #[kv', cv'], .bool (Tr.askAll wide t ks)]) ∧ TreeO w'' w'.heap.size P kv' cv' (Tr.goneT wide t ks) ∧ Below w'.heap.size w' w''

set_option maxHeartbeats 4000000 in
set_option maxRecDepth 100000 in
theorem exDeleteAll_c {kv cv v : Value} {t : Tr} {ks : List Int} (w : World) (ht : TreeIn w w.heap.size kv cv t) (hk : IntsIn w w.heap.size v ks) (wide : Int) (hwide1 : -9223372036854775808 ≤ wide) (hwide2 : wide ≤ 9223372036854775807) (hI : ImplDeleteAll) :
    Calls Try.prog 6 #[.agg #[kv, cv], .int .i64 wide, v] w fun e w' => e = .returned (.bool true) ∧ Below w.heap.size w w' := by
  have HK := Lib.hid hk
  obtain ⟨av, cpv, rfl, -, hcap, -, -⟩ := hk
  unfold maxLen at hcap
  obtain ⟨W1, hW1⟩ : ∃ W1, W1 = w.alloc (.cells #[kv, cv] 43) := ⟨_, rfl⟩
  have hs1 : W1.heap.size = w.heap.size + 1 := by rw [hW1]; simp
  have hb1 : Below w.heap.size w W1 := by rw [hW1]; exact (Below.refl _ _).alloc (Nat.le_refl _) _
  have kb : W1.heap[w.heap.size]? = some (.cells #[kv, cv] 43 (0, 0)) := by rw [hW1, new_blk]
  obtain ⟨x1, x2, x3, x4⟩ := box2 kb
  have HW1 := Lib.hid hW1
  have HT := Lib.hid ht
  have H1 := Lib.hid (And.intro hb1 kb)
  clear hW1 hb1 kb ht
  by_cases hlen : ks.length ≤ 1048576
  case neg =>
    have hc1' : ((ks.length : Int) > 1048576) := by omega
    go_enter Try.func6, Try.ntmps6
    go_wp2_with fail
    go_ret
    exact ⟨rfl, by rw [← HW1.out]; exact H1.out.1⟩
  have hc1' : ¬ ((ks.length : Int) > 1048576) := by omega
  go_enter Try.func6, Try.ntmps6
  go_wp2_with fail
  rw [← HW1.out]
  refine (szTree_c HT.out W1 1048576 H1.out.1 (by omega) (by omega) (by omega)).mono ?_
  rintro e w2 ⟨rfl, hb2⟩
  have hs2 := hb2.size
  have kb2 := (hb2.block w.heap.size (by omega)).trans H1.out.2
  have hb2' := H1.out.1.trans (hb2.mono (by omega))
  clear x1 x2 x3 x4
  obtain ⟨x1, x2, x3, x4⟩ := box2 kb2
  have H2 := Lib.hid (And.intro hb2' kb2)
  clear hb2 hb2' kb2
  by_cases hwt : t.weight ≤ 1048576
  · rw [leftOf_ge (by omega)]
    have hnn : ¬ ((1048576 : Int) - (t.weight : Int) < 0) := by omega
    go_wp2_with fail
    -- the first copy, for the model
    refine (toTree_c HT.out hwt w2 H2.out.1 (by omega)).mono ?_
    rintro e w3 ⟨k3, c3, rfl, hn3, hb3⟩
    have hs3 := hb3.size
    have kb3 := (hb3.block w.heap.size (by omega)).trans H2.out.2
    have hb3' := H2.out.1.trans (hb3.mono (by omega))
    clear x1 x2 x3 x4
    obtain ⟨x1, x2, x3, x4⟩ := box2 kb3
    have H3 := Lib.hid (And.intro hb3' kb3)
    have HN3 := Lib.hid (hn3.tree hwt)
    clear hb3 hb3' kb3 hn3
    go_wp2_with fail
    refine (toIntS_c ks _ w3 w.heap.size (by omega) (HK.out.later H3.out.1 (Nat.le_refl _)) hlen).mono ?_
    rintro e w3b ⟨g3, rfl, hg3, hr3, hb3b⟩
    have hs3b := hb3b.size
    have kb3b := (hb3b.block w.heap.size (by omega)).trans H3.out.2
    have hb3b' := H3.out.1.trans (hb3b.mono (by omega))
    have HN3b := Lib.hid (And.intro (TreeIn.wider (TreeIn.later HN3.out hb3b (Nat.le_refl _)) hs3b) (rowIn hr3 hlen hr3.lt))
    have H3b := Lib.hid (And.intro hb3b' kb3b)
    clear hb3b hb3b' kb3b hr3 x1 x2 x3 x4
    obtain ⟨x1, x2, x3, x4⟩ := box2 H3b.out.2
    go_wp2_with fail
    refine (specDeleteAll_c HN3b.out.1 hwt HN3b.out.2 wide w3b (Below.refl _ _) (Nat.le_refl _) (Nat.le_refl _)).mono ?_
    rintro e w4 ⟨k4, c4, rfl, ho4, hb4⟩
    obtain ⟨p1, p2, p3, p4, p5, p6, rfl, rfl⟩ := ho4.slices
    have hs4 := hb4.size
    have kb4 := (hb4.block w.heap.size (by omega)).trans H3b.out.2
    have hb4' := H3b.out.1.trans (hb4.mono (by omega))
    have HRL := Lib.hid (Tr.goneT_weight wide t ks)
    have HT4 := Lib.hid ho4
    clear x1 x2 x3 x4 ho4
    generalize hres : (Tr.goneT wide t ks) = res at HT4 HRL
    generalize hqb : (Tr.askAll wide t ks) = qb
    have HQB := Lib.hid hqb
    have hneb : (qb != qb) = false := by simp
    have HRES := Lib.hid hres
    obtain ⟨W5, hW5⟩ : ∃ W5, W5 = w4.alloc (.cells #[.slice p1 p2 p3, .slice p4 p5 p6] 26) := ⟨_, rfl⟩
    have hs5 : W5.heap.size = w4.heap.size + 1 := by rw [hW5]; simp
    have hb5 : Below w4.heap.size w4 W5 := by rw [hW5]; exact (Below.refl _ _).alloc (Nat.le_refl _) _
    have kb5 := (hb5.block w.heap.size (by omega)).trans kb4
    have k85 : W5.heap[w4.heap.size]? = some (.cells #[.slice p1 p2 p3, .slice p4 p5 p6] 26 (0, 0)) := by rw [hW5, new_blk]
    have kb5x := kb5
    rw [hW5] at kb5x
    obtain ⟨x1, x2, x3, x4⟩ := box2 kb5x
    obtain ⟨y1, y2, y3, y4⟩ := box2 kb4
    have H5 := Lib.hid (And.intro (hb4'.trans (hb5.mono (by omega))) (And.intro kb5 (And.intro k85 hb5)))
    have HW5 := Lib.hid hW5
    clear hb4 hb4' kb4 hb5 kb5 kb5x k85 hW5 hres hqb
    go_wp2_with fail
    rw [← HW5.out]
    -- the second copy, for the program
    refine (toTree_c HT.out hwt W5 H5.out.1 (by omega)).mono ?_
    rintro e w6 ⟨k6, c6, rfl, hn6, hb6⟩
    obtain ⟨g6, h6, n6, m6, rfl, rfl⟩ := hn6.slices
    have hs6 := hb6.size
    obtain ⟨W7, hW7⟩ : ∃ W7, W7 = w6.alloc (.cells #[.slice (some ⟨g6, 0, none⟩) n6 n6, .slice (some ⟨h6, 0, none⟩) m6 m6] 26) := ⟨_, rfl⟩
    have hs7 : W7.heap.size = w6.heap.size + 1 := by rw [hW7]; simp
    have hb7 : Below w6.heap.size w6 W7 := by rw [hW7]; exact (Below.refl _ _).alloc (Nat.le_refl _) _
    have hb57 : Below W5.heap.size W5 W7 := hb6.trans (hb7.mono (by omega))
    have k10 : W7.heap[w6.heap.size]? = some (.cells #[.slice (some ⟨g6, 0, none⟩) n6 n6, .slice (some ⟨h6, 0, none⟩) m6 m6] 26 (0, 0)) := by rw [hW7, new_blk]
    have H7 := Lib.hid (And.intro hb57 (And.intro k10 hb7))
    have HM6 := Lib.hid hn6.mem
    have HN6 := Lib.hid (hn6.tree hwt)
    have HW7 := Lib.hid hW7
    clear x1 x2 x3 x4 y1 y2 y3 y4 hb6 hn6 hW7 hb7 hb57 k10
    go_wp2_with fail
    rw [← HW7.out]
    refine (toIntS_c ks _ W7 w.heap.size (by omega) (HK.out.later (H5.out.1.trans (H7.out.1.mono (by omega))) (Nat.le_refl _)) hlen).mono ?_
    rintro e w7 ⟨g7, rfl, hg7, hr7, hb7⟩
    have hs7b := hb7.size
    have hg7' := hr7.lt
    have hb67 : Below w6.heap.size w6 w7 := H7.out.2.2.trans (hb7.mono (by omega))
    have hb57 : Below W5.heap.size W5 w7 := H7.out.1.trans (hb7.mono (by omega))
    have k10 := (hb7.block w6.heap.size (by omega)).trans H7.out.2.1
    have H7b := Lib.hid (And.intro hb57 (And.intro k10 (And.intro hb67 hr7)))
    have HX7 := Lib.hid (And.intro (TreeIn.wider (TreeIn.later HN6.out hb67 (Nat.le_refl _)) hb67.size) (rowIn hr7 hlen hr7.lt))
    clear hb7 hb67 hb57 k10 hr7
    obtain ⟨x1, x2, x3, x4⟩ := box2 H7b.out.2.1
    go_wp2_with fail
    refine (hI _ _ _ _ _ _ _ _ HX7.out.1 hwt HX7.out.2 hwide1 hwide2 (Nat.le_refl _) w7 (Below.refl _ _) (Nat.le_refl _)).mono ?_
    rintro e w8 ⟨k8, c8, P, rfl, ho8, hb8⟩
    clear x1 x2 x3 x4
    rw [HRES.out] at ho8
    rw [HQB.out]
    obtain ⟨s1, s2, s3, s4, s5, s6, rfl, rfl⟩ := ho8.tree.slices
    have hs8 := hb8.size
    obtain ⟨W9, hW9⟩ : ∃ W9, W9 = w8.alloc (.cells #[.slice s1 s2 s3, .slice s4 s5 s6] 26) := ⟨_, rfl⟩
    have hs9 : W9.heap.size = w8.heap.size + 1 := by rw [hW9]; simp
    have hb9 : Below w8.heap.size w8 W9 := by rw [hW9]; exact (Below.refl _ _).alloc (Nat.le_refl _) _
    have k11 : W9.heap[w8.heap.size]? = some (.cells #[.slice s1 s2 s3, .slice s4 s5 s6] 26 (0, 0)) := by rw [hW9, new_blk]
    have hb79 : Below w7.heap.size w7 W9 := hb8.trans (hb9.mono (by omega))
    have hb59 : Below W5.heap.size W5 W9 := H7b.out.1.trans (hb79.mono (by omega))
    have hb49 : Below w4.heap.size w4 W9 := H5.out.2.2.2.trans (hb59.mono (by omega))
    have S9 : ExS w w.heap.size w4.heap.size w6.heap.size w8.heap.size w4.heap.size w7.heap.size kv cv (.slice p1 p2 p3) (.slice p4 p5 p6) (.slice (some ⟨g6, 0, none⟩) n6 n6) (.slice (some ⟨h6, 0, none⟩) m6 m6) (.slice s1 s2 s3) (.slice s4 s5 s6) P res res W9 :=
      ⟨H5.out.1.trans (hb59.mono (by omega)), (hb59.block _ (by omega)).trans H5.out.2.1, (hb59.block _ (by omega)).trans H5.out.2.2.1, (hb79.block _ (by omega)).trans H7b.out.2.1, k11,
        HT4.out.later hb49 (Nat.le_refl _), ho8.later hb9 (Nat.le_refl _), by omega, ⟨Nat.le_refl _, by omega⟩, by omega, Nat.le_refl _, ⟨by omega, fun e => by have := (ho8.lt _ e).2; omega⟩, by omega⟩
    have S9x := S9
    rw [hW9] at S9x
    obtain ⟨x1, x2, x3, x4⟩ := box2 S9x.x8
    obtain ⟨y1, y2, y3, y4⟩ := box2 S9x.x11
    have HS9 := Lib.hid (And.intro S9 (And.intro (show Below w6.heap.size w6 W9 from H7b.out.2.2.1.trans (hb79.mono (by omega))) hb79))
    have HW9 := Lib.hid hW9
    clear ho8 hb8 hW9 hb9 k11 hb79 hb59 hb49 S9 S9x
    go_wp2_with fail
    rw [← HW9.out]
    refine (eqTree_c (B := W9.heap.size) HS9.out.1.tr7.tree _ _ (HS9.out.1.tr4.wider HS9.out.1.lw) W9 (Below.refl _ _) (Nat.le_refl _)).mono ?_
    rintro e w10 ⟨rfl, hb10⟩
    have hs10 := hb10.size
    have HS10 := Lib.hid (And.intro (HS9.out.1.below hb10) (And.intro (HS9.out.2.1.trans (hb10.mono (by omega))) (HS9.out.2.2.trans (hb10.mono (by omega)))))
    clear hb10 x1 x2 x3 x4 y1 y2 y3 y4
    obtain ⟨x1, x2, x3, x4⟩ := box2 HS10.out.1.x3
    obtain ⟨y1, y2, y3, y4⟩ := box2 HS10.out.1.x10
    go_wp2_with fail
    go_region_held3 (fun x => x.cell? ⟨w.heap.size, 0, none⟩ = some kv ∧ x.cell? ⟨w.heap.size, 1, none⟩ = some cv ∧ x.cell? ⟨w6.heap.size, 0, none⟩ = some (.slice (some ⟨g6, 0, none⟩) n6 n6) ∧ x.cell? ⟨w6.heap.size, 1, none⟩ = some (.slice (some ⟨h6, 0, none⟩) m6 m6))
      (first | exact ⟨x1, x2, y1, y2⟩ | exact ⟨z1, z2, u1, u2⟩ | exact ⟨q1, q2, r1, r2⟩ | go_keep)
      (first
        | (go_at_call 28; refine (toTree_c HT.out hwt _ (HS10.out.1.drew.bel) (by simp; omega)).mono ?_; rintro e w11 ⟨k11, c11, rfl, hn11, hb11⟩; obtain ⟨g11, h11, n11, m11, rfl, rfl⟩ := hn11.slices; have hs11 : w10.heap.size ≤ w11.heap.size := hb11.size; have HN11 := Lib.hid (hn11.tree hwt); have hS11 := HS10.out.1.drew.below hb11; obtain ⟨z1, z2, z3, z4⟩ := box2 hS11.x3; obtain ⟨u1, u2, u3, u4⟩ := box2 hS11.x10; have HS11 := Lib.hid (And.intro hS11 (And.intro (HS10.out.2.1.drew.trans (hb11.mono (by simp; omega))) (HS10.out.2.2.drew.trans (hb11.mono (by simp; omega))))); clear hb11 hn11 hS11)
        | (go_at_call 29; refine (eqTree_c (TreeIn.wider (TreeIn.later HN6.out HS11.out.2.1 (Nat.le_refl _)) (by omega)) _ _ HN11.out _ (Below.refl _ _) (Nat.le_refl _)).mono ?_; rintro e w12 ⟨rfl, hb12⟩; have hs12 : w11.heap.size ≤ w12.heap.size := hb12.size; have hS12 := HS11.out.1.below hb12; obtain ⟨q1, q2, q3, q4⟩ := box2 hS12.x3; obtain ⟨r1, r2, r3, r4⟩ := box2 hS12.x10; have HS12 := Lib.hid (And.intro hS12 (And.intro (HS11.out.2.1.trans (hb12.mono (by omega))) (HS11.out.2.2.trans (hb12.mono (by omega))))); clear hb12 hS12))
    go_wp2_with fail
    -- the list as it was
    refine (toIntS_c ks _ w12 w.heap.size HS12.out.1.bel.size (HK.out.later HS12.out.1.bel (Nat.le_refl _)) hlen).mono ?_
    rintro e w12a ⟨g12, rfl, hg12, hr12, hb12a⟩
    have hs12a := hb12a.size
    have HS12a := Lib.hid (And.intro (HS12.out.1.below hb12a) (And.intro (HS12.out.2.1.trans (hb12a.mono (by omega))) (And.intro (HS12.out.2.2.trans (hb12a.mono (by omega))) (rowIn hr12 hlen hr12.lt))))
    clear hr12 hb12a x1 x2 x3 x4 y1 y2 y3 y4 z1 z2 z3 z4 u1 u2 u3 u4 q1 q2 q3 q4 r1 r2 r3 r4
    go_wp2_with fail
    refine (eqIntS_c ks _ _ w12a w12a.heap.size (Nat.le_refl _) (rowIn (H7b.out.2.2.2.of_block (HS12a.out.2.2.1.block _ hg7')) hlen (by omega)) HS12a.out.2.2.2).mono ?_
    rintro e w12b ⟨rfl, hb12b⟩
    have hs12b := hb12b.size
    have HS12b := Lib.hid (And.intro (HS12a.out.1.below hb12b) (And.intro (HS12a.out.2.1.trans (hb12b.mono (by omega))) (HS12a.out.2.2.1.trans (hb12b.mono (by omega)))))
    clear hb12b
    obtain ⟨y1, y2, y3, y4⟩ := box2 HS12b.out.1.x10
    go_wp2_with fail
    -- the program's arguments are marked
    refine (markTree_up (HM6.out.touch (Touch.of_below HS12b.out.2.1 (Nat.le_refl _))) hwt (by omega) 1 (by omega) (by omega)).mono ?_
    rintro e w13a ⟨m13, rfl, hm13, hm13', hsp⟩
    have hs13a := hsp.size
    have HR13 := Lib.hid ((H7b.out.2.2.2.of_block (HS12b.out.2.2.block _ hg7')).of_block (hsp.block g7 (by omega) (.inr (by omega))))
    have HS13a := Lib.hid (HS12b.out.1.span hsp (by omega) (by omega) (by omega))
    clear hsp y1 y2 y3 y4
    go_wp2_with fail
    refine (markKeys_c (lo := g7) (hi := g7 + 1) HR13.out (Nat.le_refl _) (by omega) hlen m13 (by omega) (by omega)).mono ?_
    rintro e w13 ⟨rfl, -, hsp⟩
    have hs13 := hsp.size
    have HS13 := Lib.hid (HS13a.out.span2 hsp (by omega) (by omega) (by omega))
    have hm' : ¬ (m13 + (ks.length : Int) < 0) := by omega
    clear hsp
    obtain ⟨x1, x2, x3, x4⟩ := box2 HS13.out.x8
    obtain ⟨y1, y2, y3, y4⟩ := box2 HS13.out.x11
    go_wp2_with fail
    refine (eqTree_c (B := w13.heap.size) HS13.out.tr7.tree _ _ (HS13.out.tr4.wider HS13.out.lw) w13 (Below.refl _ _) (Nat.le_refl _)).mono ?_
    rintro e w14 ⟨rfl, hb14⟩
    have hs14 := hb14.size
    have HS14 := Lib.hid (HS13.out.below hb14)
    clear hb14 x1 x2 x3 x4 y1 y2 y3 y4
    obtain ⟨y1, y2, y3, y4⟩ := box2 HS14.out.x11
    have hrl := HRL.out
    have hnk := Tr.nkeys_le res
    go_wp2_with fail
    -- the program's answer is marked
    refine (markTree_o HS14.out.tr7 hrl (by omega) 1 (by omega) (by omega)).mono ?_
    rintro e w15 ⟨rfl, ho15, hk15⟩
    have hs15 := hk15.size
    have HS15 := Lib.hid (HS14.out.mark ho15 hk15)
    have hne : (((1 : Int) + (Tr.nkeys res : Int)) != 1 + (Tr.nkeys res : Int)) = false := by simp
    have hn15 : ¬ ((1 : Int) + (Tr.nkeys res : Int) < 0) := by omega
    clear ho15 hk15 y1 y2 y3 y4
    obtain ⟨y1, y2, y3, y4⟩ := box2 HS15.out.x11
    go_wp2_with fail
    refine (heldTree_o 1 HS15.out.tr7.tree (Nat.le_refl _) hrl (by omega) (by omega)).mono ?_
    rintro e w16 ⟨rfl, hb16⟩
    have hs16 := hb16.size
    have HS16 := Lib.hid (HS15.out.below hb16)
    clear hb16 y1 y2 y3 y4
    obtain ⟨x1, x2, x3, x4⟩ := box2 HS16.out.x3
    go_wp2_with fail
    -- once more
    refine (toTree_c HT.out hwt w16 HS16.out.bel (by omega)).mono ?_
    rintro e w17 ⟨k17, c17, rfl, hn17, hb17⟩
    have hs17 := hb17.size
    have HS17a := Lib.hid (And.intro (HS16.out.below hb17) (hn17.tree hwt))
    clear hb17 hn17 x1 x2 x3 x4
    go_wp2_with fail
    refine (toIntS_c ks _ w17 w.heap.size HS17a.out.1.bel.size (HK.out.later HS17a.out.1.bel (Nat.le_refl _)) hlen).mono ?_
    rintro e w17b ⟨g17, rfl, hg17, hr17, hb17b⟩
    have hs17b := hb17b.size
    have HS17 := Lib.hid (And.intro (HS17a.out.1.below hb17b) (And.intro (TreeIn.wider (TreeIn.later HS17a.out.2 hb17b (Nat.le_refl _)) hs17b) (rowIn hr17 hlen hr17.lt)))
    clear hb17b hr17
    go_wp2_with fail
    refine (hI _ _ _ _ _ _ _ _ HS17.out.2.1 hwt HS17.out.2.2 hwide1 hwide2 (Nat.le_refl _) w17b (Below.refl _ _) (Nat.le_refl _)).mono ?_
    rintro e w18 ⟨k18, c18, P18, rfl, ho18, hb18⟩
    rw [HRES.out] at ho18
    rw [HQB.out]
    obtain ⟨t1, t2, t3, t4, t5, t6, rfl, rfl⟩ := ho18.tree.slices
    have hs18 := hb18.size
    obtain ⟨W19, hW19⟩ : ∃ W19, W19 = w18.alloc (.cells #[.slice t1 t2 t3, .slice t4 t5 t6] 26) := ⟨_, rfl⟩
    have hs19 : W19.heap.size = w18.heap.size + 1 := by rw [hW19]; simp
    have hb19 : Below w18.heap.size w18 W19 := by rw [hW19]; exact (Below.refl _ _).alloc (Nat.le_refl _) _
    have k16 : W19.heap[w18.heap.size]? = some (.cells #[.slice t1 t2 t3, .slice t4 t5 t6] 26 (0, 0)) := by rw [hW19, new_blk]
    have S19 := (HS17.out.1.below hb18).below hb19
    have S19x := S19
    have k16x := k16
    rw [hW19] at S19x k16x
    obtain ⟨x1, x2, x3, x4⟩ := box2 S19x.x8
    obtain ⟨y1, y2, y3, y4⟩ := box2 k16x
    have HS19 := Lib.hid (And.intro S19 (ho18.later hb19 (Nat.le_refl _)))
    have HW19 := Lib.hid hW19
    clear ho18 hb18 hW19 hb19 k16 k16x S19 S19x
    go_wp2_with fail
    rw [← HW19.out]
    refine (eqTree_c (B := W19.heap.size) HS19.out.2.tree _ _ (HS19.out.1.tr4.wider HS19.out.1.lw) W19 (Below.refl _ _) (Nat.le_refl _)).mono ?_
    rintro e w20 ⟨rfl, hb20⟩
    have hs20 := hb20.size
    have HS20 := Lib.hid (HS19.out.1.below hb20)
    clear hb20 x1 x2 x3 x4 y1 y2 y3 y4
    obtain ⟨y1, y2, y3, y4⟩ := box2 HS20.out.x11
    go_wp2_with fail
    refine (heldTree_o 1 HS20.out.tr7.tree (Nat.le_refl _) hrl (by omega) (by omega)).mono ?_
    rintro e w21 ⟨rfl, hb21⟩
    have HS21 := Lib.hid (HS20.out.below hb21)
    clear hb21 y1 y2 y3 y4
    go_wp2_with fail
    go_ret
    exact ⟨rfl, HS21.out.bel⟩
  · rw [leftOf_lt (by omega)]
    go_wp2_with fail
    go_ret
    exact ⟨rfl, H2.out.1⟩
end Go.Proofs.Ytananonjomfpkaa

/- The statement on DeleteAll, from the walk of its law. -/
namespace Go.Proofs.Ytananonjomfpkaa.exDeleteAll
open Go.ChangeShapes Go.WideShapes Go.ChangeAt Go.RowKit
set_option linter.unusedVariables false

theorem own : ownKnob Try.prog.godebug = none := by kernel_rfl
theorem laidOut : laidOutB Try.prog = true := by kernel_rfl

set_option maxRecDepth 100000 in
set_option maxHeartbeats 1000000 in
theorem lifted (hI : ImplDeleteAll) (os : Os) (started : os.Started) (H : Type) (enc : TypeId × Value → H) :
    ReturnsInHanded {} Try.checked os 6 .any (Rows.fnExactDeleteAllSpec.pre6 enc Try.prog Try.f6 Rows.fnExactDeleteAllRow.domain false) (Rows.fnExactDeleteAllSpec.post enc Try.prog Try.f6 false true false false) := by
  refine returnsInHanded_of_change (C := Try.checked) own started (by kernel_rfl) Try.func6
    (ChangeSpec.witness6 (enc := enc) (C := Try.checked) false ⟨#[], #[.agg #[.slice none 0 0, .slice none 0 0], .int .i64 0, .slice none 0 0], []⟩ 8 (by kernel_rfl) (by kernel_rfl) (by kernel_rfl) (by kernel_rfl)) ?_
  intro W base args ds gs before hval0 hW hcnd _
  have hval : ∀ (j : Nat) t v, Try.f6.params[j]? = some t → args[j]? = some v → Value.okWide Try.prog W .any base t v := hval0
  have hW' := hW
  obtain ⟨p, q, hA0, hV, rfl, hfz, hnd⟩ := hW
  have hA : DataW.TrodAll enc Try.prog W 0 (fun _ => true) true Try.f6.params.toList args.toList ds p := hA0
  rw [Try.params6] at hA hval
  obtain ⟨v0, vs0, d0, ds0, p0, q0, hargs, rfl, rfl, h0, r0⟩ := trodAll_cons hA
  obtain ⟨v1, vs1, d1, ds1, p1, q1, rfl, rfl, rfl, h1, r1⟩ := trodAll_cons r0
  obtain ⟨v2, vs2, d2, ds2, p2, q2, rfl, rfl, rfl, h2, r2⟩ := trodAll_cons r1
  obtain ⟨rfl, rfl, rfl⟩ := trodAll_nil r2
  obtain rfl : args = #[v0, v1, v2] := by cases args; simp_all
  obtain ⟨rfl, rfl⟩ := trodVars_none hV
  obtain ⟨cs, rfl, hcs⟩ := okWide_struct Try.underlying43 (hval 0 43 v0 rfl rfl)
  have k0 := h0
  have lt0 : ∀ x ∈ p0, x.block < W.heap.size := by obtain ⟨m, hm⟩ := k0; exact DataW.trod_lt m _ _ _ hm
  obtain ⟨kv, cv, t, hkc, ht, hf⟩ : ∃ kv cv t, cs = #[kv, cv] ∧ TreeIn W W.heap.size kv cv t ∧ Tr.Fit t := by
    obtain ⟨fuel, hf⟩ := h0
    obtain ⟨kv, cv, t, hcl, ht, hft⟩ := tree_of_trod fuel hf
    exact ⟨kv, cv, t, by cases cs; simp_all [Value.cells], ht, hft⟩
  subst hkc
  obtain ⟨n1, rfl, rfl, rfl, wn1⟩ := open_int Try.underlying3 (hval 1 3 v1 rfl rfl) h1
  have hfit1 : -9223372036854775808 ≤ n1 ∧ n1 ≤ 9223372036854775807 := by simpa [Lit.wf, IntKind.min, IntKind.max, IntKind.signed, IntKind.bits] using wn1
  obtain ⟨a2, len2, cap2, rfl⟩ := okWide_slice Try.underlying23 (hval 2 23 v2 rfl rfl)
  have k2 := h2
  have lt2 : ∀ x ∈ p2, x.block < W.heap.size := by obtain ⟨m, hm⟩ := k2; exact DataW.trod_lt m _ _ _ hm
  obtain ⟨ks, hks⟩ : ∃ ks, IntsIn W W.heap.size (.slice a2 len2 cap2) ks := by
    obtain ⟨fuel, hf⟩ := h2
    obtain ⟨v, ks, hv, hin, _⟩ := ints_of_trod hf
    have : v = .slice a2 len2 cap2 := by simpa [Value.cells] using hv.symm
    subst this
    exact ⟨ks, hin⟩
  clear hA0 hval0
  refine (exDeleteAll_c W ht hks n1 hfit1.1 hfit1.2 hI).mono fun e W' ⟨he, bel⟩ => ?_
  subst he
  exact ⟨_, rfl, _, _, _, [], _, [], hW', trodAll_mk1 (shut_bool Try.underlying4 _), (trodAll_cons_mk (Below.trod laidOut (by kernel_rfl) (of_decide_eq_true (by kernel_rfl)) k0 bel lt0) (trodAll_cons_mk (shut_int Try.underlying3 wn1) (trodAll_cons_mk (Below.trod laidOut (by kernel_rfl) (of_decide_eq_true (by kernel_rfl)) k2 bel lt2) trodAll_mk0))), rfl, bel.frame _, fun h => by cases h⟩

theorem closed : joinedFacts Try.prog 6 Try.f6 Rows.fnExactDeleteAllSpec Rows.fnExactDeleteAllRow = true := by
  unfold joinedFacts
  exact band (band (band (band (band (band (band (by kernel_rfl) fact_enter) fact_lifts) fact_make) (by kernel_rfl)) (by kernel_rfl)) (by kernel_rfl)) (by kernel_rfl)

theorem over (hI : ImplDeleteAll) : Rows.fnExactDeleteAllRow.holds Try.pinned (OpenSpec.ofChange Rows.fnExactDeleteAllSpec) :=
  OpenClaim.holds_of_wide 6 Try.f6 rfl rfl rfl rfl rfl rfl rfl ⟨rfl, rfl, rfl, rfl, rfl⟩ rfl rfl rfl rfl rfl (by kernel_rfl) Try.func6 closed
    (of_decide_eq_true (by kernel_rfl)) (by unfold Func.isWrapper; first | (rw [if_pos (by decide +kernel)]; kernel_rfl) | (rw [if_neg (by decide +kernel)]; exact ⟨rfl, rfl⟩))
    (fun os started H enc _ => lifted hI os started H enc)

theorem proved (hI : ImplDeleteAll) : Rows.FnExactDeleteAllSaid := over hI
end Go.Proofs.Ytananonjomfpkaa.exDeleteAll

/- For every tree in memory, any int and any list of ints in memory, the law on DeleteAll returns true and leaves its arguments as they were; no conditions. -/
namespace Go.Proofs.Ytananonjomfpkaa

theorem delete_all_said : Rows.FnExactDeleteAllSaid := exDeleteAll.proved (fun _ _ _ _ _ _ _ n ht hw hk h1 h2 hB0 w' hb hB => impl_deleteAll ht hw hk n h1 h2 w' hb hB hB0)
end Go.Proofs.Ytananonjomfpkaa
