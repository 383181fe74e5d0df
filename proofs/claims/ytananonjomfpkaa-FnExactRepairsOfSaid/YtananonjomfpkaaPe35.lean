/- What a law on a function from a list of ints to a tree keeps from call to call. -/
import Derived.Test.YtananonjomfpkaaProg
import Derived.Test.YtananonjomfpkaaPe0
import Derived.Test.YtananonjomfpkaaPe24
import Derived.Test.YtananonjomfpkaaPe34
import Derived.Test.YtananonjomfpkaaPe32
import Derived.Deep.Cut
import Derived.Deep.RegionLaw
import Derived.Test.YtananonjomfpkaaPe3
import Derived.Test.YtananonjomfpkaaTo
import Derived.Test.YtananonjomfpkaaPe22
import Derived.Test.YtananonjomfpkaaPe23

/- The model's l4All: the walk. -/
namespace Go.Proofs.Ytananonjomfpkaa
open Go.RowKit

set_option maxRecDepth 100000 in
set_option maxHeartbeats 8000000 in
theorem l4All_c {w : World} {B : Nat} {kv cv v : Value} {t : Tr} {ks : List Int} (ht : TreeIn w B kv cv t) (wide : Int) (hv : Tr.validB wide t = true) (hk : IntsIn w B v ks) (hfew : ks.length ≤ 200) (w' : World) (hbw : Below B w w') (hB : B ≤ w'.heap.size) (hwB : w.heap.size ≤ B) :
    Calls Try.prog 83 #[.agg #[kv, cv], .int .i64 wide, v] w' (AllDone w' wide t ks) := by
  obtain ⟨a5, n5, m5, a6, n6, m6, rfl, rfl⟩ := ht.slices
  have hk' := hk
  obtain ⟨ka, kc, rfl, hk1, hk2, hk3, hk4⟩ := hk'
  unfold maxLen at hk2
  have HKI : Hid (∀ wx : World, Below w'.heap.size w' wx → IntsIn wx B (.slice ka ks.length kc) ks) := Lib.hid (fun wx hx => hk.later (hbw.trans (hx.mono hB)) (by omega))
  obtain ⟨W1, hW1⟩ : ∃ W1, W1 = (((w'.alloc (.cells #[.slice a5 n5 m5, .slice a6 n6 m6] 26)).alloc (.cells #[.slice none 0 0, .slice none 0 0] 26)).alloc (.cells #[.int .i64 0, .int .i64 0, .bool false] 52)).alloc (.cells #[.int .i64 0, .int .i64 0, .bool false] 52) := ⟨_, rfl⟩
  have hs1 : W1.heap.size = w'.heap.size + 4 := by rw [hW1]; simp
  have hb1 : Below w'.heap.size w' W1 := by rw [hW1]; exact ((((Below.refl _ _).alloc (Nat.le_refl _) _).alloc (by simp) _).alloc (by simp <;> omega) _).alloc (by simp <;> omega) _
  have k0 : W1.heap[w'.heap.size]? = some (.cells #[.slice a5 n5 m5, .slice a6 n6 m6] 26 (0, 0)) := by rw [hW1, old_blk _ _ _ (by simp <;> omega), old_blk _ _ _ (by simp <;> omega), old_blk _ _ _ (by simp), new_blk]
  have k6 : W1.heap[w'.heap.size + 1]? = some (.cells #[.slice none 0 0, .slice none 0 0] 26 (0, 0)) := by
    rw [hW1, old_blk _ _ _ (by simp <;> omega), old_blk _ _ _ (by simp <;> omega), show w'.heap.size + 1 = (w'.alloc (.cells #[.slice a5 n5 m5, .slice a6 n6 m6] 26)).heap.size by simp, new_blk]
  have k7 : W1.heap[w'.heap.size + 2]? = some (.cells #[.int .i64 0, .int .i64 0, .bool false] 52 (0, 0)) := by
    rw [hW1, old_blk _ _ _ (by simp <;> omega), show w'.heap.size + 2 = ((w'.alloc (.cells #[.slice a5 n5 m5, .slice a6 n6 m6] 26)).alloc (.cells #[.slice none 0 0, .slice none 0 0] 26)).heap.size by simp, new_blk]
  have k8 : W1.heap[w'.heap.size + 3]? = some (.cells #[.int .i64 0, .int .i64 0, .bool false] 52 (0, 0)) := by
    rw [hW1, show w'.heap.size + 3 = (((w'.alloc (.cells #[.slice a5 n5 m5, .slice a6 n6 m6] 26)).alloc (.cells #[.slice none 0 0, .slice none 0 0] 26)).alloc (.cells #[.int .i64 0, .int .i64 0, .bool false] 52)).heap.size by simp, new_blk]
  obtain ⟨x1, x2, x3, x4⟩ := box2 k0
  have HT := Lib.hid ht
  have HBW := Lib.hid hbw
  have HV := Lib.hid hv
  have HW1 := Lib.hid hW1
  have hsm := Tr.valid_small hv
  have H1 := Lib.hid (And.intro hb1 (And.intro k0 (And.intro k6 (And.intro k7 k8))))
  clear ht hbw hv hW1 hb1 k0 k6 k7 k8 hk hk4
  go_enter Try.func83, Try.ntmps83
  go_upto_region 2 with (fail)
  rw [← HW1.out]
  go_wp2_with fail
  refine (copy_c HT.out (by omega) W1 (HBW.out.trans (H1.out.1.mono hB)) (by omega)).mono ?_
  rintro e w2 ⟨kv2, cv2, P2, rfl, ho2, hb2⟩
  obtain ⟨p1, p2, p3, p4, p5, p6, rfl, rfl⟩ := ho2.tree.slices
  have hs2 := hb2.size
  have j0 := (hb2.block w'.heap.size (by omega)).trans H1.out.2.1
  clear x1 x2 x3 x4
  obtain ⟨x1, x2, x3, x4⟩ := box2 j0
  have hA : AllR w' ((w2.setCell ⟨w'.heap.size, 0, none⟩ (.slice p1 p2 p3)).setCell ⟨w'.heap.size, 1, none⟩ (.slice p4 p5 p6)) (.slice p1 p2 p3) (.slice p4 p5 p6) ⟨t, 0, 0, false⟩ := by
    have hoth : ∀ q, q ≠ w'.heap.size → ((w2.setCell ⟨w'.heap.size, 0, none⟩ (.slice p1 p2 p3)).setCell ⟨w'.heap.size, 1, none⟩ (.slice p4 p5 p6)).heap[q]? = w2.heap[q]? := fun q e1 => by
      rw [set_other _ _ _ _ _ e1, set_other _ _ _ _ _ e1]
    refine ⟨two_blk j0 _ _, (hoth _ (by omega)).trans ((hb2.block _ (by omega)).trans H1.out.2.2.1), (hoth _ (by omega)).trans ((hb2.block _ (by omega)).trans H1.out.2.2.2.1), (hoth _ (by omega)).trans ((hb2.block _ (by omega)).trans H1.out.2.2.2.2), ?_, ?_, by simp only [World.size_setCell]; omega⟩
    · refine ho2.q.same (fun k hk => hoth k (by omega)) (fun k hk => ⟨by omega, ?_⟩)
      simp only [World.size_setCell]; exact hk.2
    · exact ((H1.out.1.trans (hb2.mono (by omega))).setCell (by show w'.heap.size ≤ w'.heap.size; omega) _).setCell (by show w'.heap.size ≤ w'.heap.size; omega) _
  have HA := Lib.hid hA
  clear ho2 hb2 j0 hA
  go_wp2_with fail
  go_loopw [18] (fun s18 wr => ∃ (j : Nat) (kv cv : Value), j ≤ ks.length ∧ s18 = .int .i64 j ∧ AllR w' wr kv cv (Tr.gone wide t (ks.take j))) (fun s18 _ => ks.length - (intOf s18).toNat)
  case atStart => exact ⟨0, _, _, Nat.zero_le _, rfl, HA.out⟩
  case round =>
    obtain ⟨j, kv, cv, hj, rfl, hR⟩ := hrel
    obtain ⟨g1, g2, g3⟩ := Tr.gone_valid HV.out ks j hj
    have hsnoc := fun h => Tr.gone_snoc wide t (ks := ks) (j := j) h
    obtain ⟨S, hSe⟩ : ∃ S, S = Tr.gone wide t (ks.take j) := ⟨_, rfl⟩
    rw [← hSe] at hR g1 g2 g3 hsnoc
    obtain ⟨d1, d2, d3, d4, d5, d6, rfl, rfl⟩ := hR.tree.slices
    have gw := Tr.valid_small g1
    have hz := hR.size
    have HG := Lib.hid (And.intro g1 (And.intro hsnoc hSe))
    have HR := Lib.hid hR
    clear hR g1 hsnoc hSe x1 x2 x3 x4
    by_cases hlt : j < ks.length
    · obtain ⟨_, _, hvk, -, -, -, hat⟩ := HKI.out wr HR.out.bel
      injection hvk with ev1 _ ev3
      subst ev1 ev3
      rcases hat with h0 | ⟨kb, ko, rfl, hkb, hat⟩
      · rw [h0] at hlt; simp at hlt
      have hcell := hat j hlt
      obtain ⟨k, hk⟩ : ∃ k, k = ks.getD j 0 := ⟨_, rfl⟩
      rw [← hk] at hcell
      have hjk : (j : Int) < (ks.length : Int) := by omega
      have HKk := Lib.hid hk
      have hti : TreeIn wr wr.heap.size (.slice d1 d2 d3) (.slice d4 d5 d6) S.t := TreeQ.tree HR.out.tree (fun _ e => e.2)
      have hcall := specHasKey_c hti (by omega) k wr (Below.refl _ _) (Nat.le_refl _)
      rw [(someB_path k S.t).1 (Tr.someB_valid HG.out.1)] at hcall
      have HCALL := Lib.hid hcall
      have HTI := Lib.hid hti
      obtain ⟨x1, x2, x3, x4⟩ := box2 HR.out.bt
      clear hat hk hcall hti
      go_wp2_with fail
      refine HCALL.out.mono ?_
      rintro e w6 ⟨rfl, hb6⟩
      have h6 := HR.out.later hb6
      have hz6 := hb6.size
      clear x1 x2 x3 x4
      obtain ⟨x1, x2, x3, x4⟩ := box2 h6.bt
      have H6 := Lib.hid (And.intro h6 hb6)
      clear h6 hb6
      cases hp : (S.t.path k).2 with
      | false =>
        have HE := Lib.hid (show Tr.gone wide t (ks.take (j + 1)) = S by rw [HG.out.2.1 hlt, ← HKk.out, Tr.takeKey, if_neg (by rw [hp]; simp)])
        clear hp
        go_wp2_with fail
        go_roundw
        case rel => exact ⟨j + 1, .slice d1 d2 d3, .slice d4 d5 d6, by omega, by go_num, by rw [HE.out]; exact H6.out.1⟩
        case measure => simp [intOf]; omega
      | true =>
        have hkey := l4Key_c HTI.out wide k (Tr.valid_wide HV.out) (by omega) (Tr.Lacks.of_tops (Tr.valid_well HG.out.1) (Tr.Tops.of_valid HG.out.1 (Tr.valid_wide HV.out).1) hp) w6 H6.out.2 hz6
        obtain ⟨S7, hS7⟩ : ∃ S7 : Tr.Gone, S7 = ⟨Tr.delT wide k S.t, S.b + (Tr.del (wide / 2) (S.t.weight + 1) k S.t).b, S.j + (Tr.del (wide / 2) (S.t.weight + 1) k S.t).j, S.sh || Tr.delShrinks wide k S.t⟩ := ⟨_, rfl⟩
        have HE := Lib.hid (show Tr.gone wide t (ks.take (j + 1)) = S7 by rw [HG.out.2.1 hlt, ← HKk.out, Tr.takeKey, if_pos hp, hS7])
        have hc := Tr.del_count (half := wide / 2) (S.t.weight + 1) k S.t
        obtain ⟨db, hdb⟩ : ∃ db, db = (Tr.del (wide / 2) (S.t.weight + 1) k S.t).b := ⟨_, rfl⟩
        obtain ⟨dj, hdj⟩ : ∃ dj, dj = (Tr.del (wide / 2) (S.t.weight + 1) k S.t).j := ⟨_, rfl⟩
        obtain ⟨ds, hds⟩ : ∃ ds, ds = Tr.delShrinks wide k S.t := ⟨_, rfl⟩
        unfold KeyDone at hkey
        rw [← hdb, ← hdj, ← hds] at hkey
        rw [← hdb, ← hdj, ← hds] at hS7
        rw [← hdb, ← hdj] at hc
        have e1 : S7.b = S.b + db := by rw [hS7]
        have e2 : S7.j = S.j + dj := by rw [hS7]
        have e3 : S7.sh = (S.sh || ds) := by rw [hS7]
        have e4 : S7.t = Tr.delT wide k S.t := by rw [hS7]
        have hw1 : IntKind.i64.wrap ((S.b : Int) + (db : Int)) = (S7.b : Int) := by rw [IntKind.wrap_i64, e1]; omega
        have hw2 : IntKind.i64.wrap ((S.j : Int) + (dj : Int)) = (S7.j : Int) := by rw [IntKind.wrap_i64, e2]; omega
        have HKEY := Lib.hid hkey
        have HS7 := Lib.hid (And.intro e4 e3)
        clear hp hkey hS7 e1 e2 e3 e4 hdb hdj hds
        go_wp2_with fail
        refine HKEY.out.mono ?_
        rintro e w7 ⟨k7, c7, P7, rfl, ho7, hb7⟩
        obtain ⟨q1, q2, q3, q4, q5, q6, rfl, rfl⟩ := ho7.tree.slices
        have hz7 := hb7.size
        obtain ⟨W8, hW8⟩ : ∃ W8, W8 = (w7.alloc (.cells #[.slice q1 q2 q3, .slice q4 q5 q6] 26)).alloc (.cells #[.int .i64 (db : Int), .int .i64 (dj : Int), .bool ds] 52) := ⟨_, rfl⟩
        have hs8 : W8.heap.size = w7.heap.size + 2 := by rw [hW8]; simp
        have hb78 : Below w7.heap.size w7 W8 := by rw [hW8]; exact ((Below.refl _ _).alloc (Nat.le_refl _) _).alloc (by simp) _
        have bt8 : W8.heap[w7.heap.size]? = some (.cells #[.slice q1 q2 q3, .slice q4 q5 q6] 26 (0, 0)) := by rw [hW8, old_blk _ _ _ (by simp), new_blk]
        have br8 : W8.heap[w7.heap.size + 1]? = some (.cells #[.int .i64 (db : Int), .int .i64 (dj : Int), .bool ds] 52 (0, 0)) := by
          rw [hW8, show w7.heap.size + 1 = (w7.alloc (.cells #[.slice q1 q2 q3, .slice q4 q5 q6] 26)).heap.size by simp, new_blk]
        have hb68 : Below w6.heap.size w6 W8 := hb7.trans (hb78.mono hz7)
        have h8 := H6.out.1.later hb68
        have htq : TreeQ W8 (fun k => w6.heap.size ≤ k ∧ k < W8.heap.size) (.slice q1 q2 q3) (.slice q4 q5 q6) S7.t := by
          rw [HS7.out.1]
          exact ho7.q.same (fun k hk => hb78.block k hk.2) (fun k hk => ⟨hk.1, by have := hk.2; omega⟩)
        have hnext := H6.out.1.next hb68 htq (Nat.le_refl _)
        have HN := Lib.hid (And.intro hnext (And.intro h8.br (And.intro br8 h8.bt)))
        have HW8 := Lib.hid hW8
        clear x1 x2 x3 x4
        obtain ⟨x1, x2, x3, x4⟩ := box2 bt8
        obtain ⟨y1, y2, y3, y4⟩ := box2 h8.bt
        clear ho7 hb7 hb78 hb68 bt8 br8 h8 htq hnext hW8
        go_upto_region 8 with (fail)
        rw [← HW8.out]
        go_upto_region 9 with (fail)
        obtain ⟨W9, hW9⟩ : ∃ W9, W9 = (W8.setCell ⟨w'.heap.size, 0, none⟩ (.slice q1 q2 q3)).setCell ⟨w'.heap.size, 1, none⟩ (.slice q4 q5 q6) := ⟨_, rfl⟩
        rw [← hW9]
        have c9 : W9.heap[w'.heap.size + 3]? = some (.cells #[.int .i64 (S.b : Int), .int .i64 (S.j : Int), .bool S.sh] 52 (0, 0)) := by
          rw [hW9, set_other _ _ _ _ _ (by omega), set_other _ _ _ _ _ (by omega)]; exact HN.out.2.1
        have r9 : W9.heap[w7.heap.size + 1]? = some (.cells #[.int .i64 (db : Int), .int .i64 (dj : Int), .bool ds] 52 (0, 0)) := by
          rw [hW9, set_other _ _ _ _ _ (by omega), set_other _ _ _ _ _ (by omega)]; exact HN.out.2.2.1
        have HW9 := Lib.hid hW9
        clear x1 x2 x3 x4 y1 y2 y3 y4 hW9
        obtain ⟨x1, x2, x3, x4, x5, x6⟩ := box3 c9
        obtain ⟨y1, y2, y3, y4, y5, y6⟩ := box3 r9
        go_upto_region 10 with (fail)
        obtain ⟨W10, hW10⟩ : ∃ W10, W10 = W9.setCell ⟨w'.heap.size + 3, 0, none⟩ (.int .i64 (S7.b : Int)) := ⟨_, rfl⟩
        rw [← hW10]
        have c10 : W10.heap[w'.heap.size + 3]? = some (.cells #[.int .i64 (S7.b : Int), .int .i64 (S.j : Int), .bool S.sh] 52 (0, 0)) := by
          rw [hW10]; exact set_blk (o := 0) _ c9
        have r10 : W10.heap[w7.heap.size + 1]? = some (.cells #[.int .i64 (db : Int), .int .i64 (dj : Int), .bool ds] 52 (0, 0)) := by
          rw [hW10, set_other _ _ _ _ _ (by omega)]; exact r9
        have HW10 := Lib.hid hW10
        clear x1 x2 x3 x4 x5 x6 y1 y2 y3 y4 y5 y6 hW10 c9 r9
        obtain ⟨x1, x2, x3, x4, x5, x6⟩ := box3 c10
        obtain ⟨y1, y2, y3, y4, y5, y6⟩ := box3 r10
        go_upto_region 11 with (fail)
        obtain ⟨W11, hW11⟩ : ∃ W11, W11 = W10.setCell ⟨w'.heap.size + 3, 1, none⟩ (.int .i64 (S7.j : Int)) := ⟨_, rfl⟩
        rw [← hW11]
        have c11 : W11.heap[w'.heap.size + 3]? = some (.cells #[.int .i64 (S7.b : Int), .int .i64 (S7.j : Int), .bool S.sh] 52 (0, 0)) := by
          rw [hW11]; exact set_blk (o := 1) _ c10
        have r11 : W11.heap[w7.heap.size + 1]? = some (.cells #[.int .i64 (db : Int), .int .i64 (dj : Int), .bool ds] 52 (0, 0)) := by
          rw [hW11, set_other _ _ _ _ _ (by omega)]; exact r10
        have HW11 := Lib.hid hW11
        clear x1 x2 x3 x4 x5 x6 y1 y2 y3 y4 y5 y6 hW11 c10 r10
        obtain ⟨x1, x2, x3, x4, x5, x6⟩ := box3 c11
        obtain ⟨y1, y2, y3, y4, y5, y6⟩ := box3 r11
        have hfin : AllR w' (W11.setCell ⟨w'.heap.size + 3, 2, none⟩ (.bool S7.sh)) (.slice q1 q2 q3) (.slice q4 q5 q6) S7 := by
          rw [HW11.out, HW10.out, HW9.out]; exact HN.out.1
        rw [HS7.out.2] at hfin
        have HFIN := Lib.hid hfin
        clear hfin c11 r11
        cases hsh : S.sh with
        | true =>
          rw [hsh] at HFIN x3
          clear hsh
          go_wp2_with fail
          go_roundw
          case rel => exact ⟨j + 1, .slice q1 q2 q3, .slice q4 q5 q6, by omega, by go_num, by rw [HE.out]; exact HFIN.out⟩
          case measure => simp [intOf]; omega
        | false =>
          rw [hsh, Bool.false_or] at HFIN
          rw [hsh] at x3
          clear hsh
          go_wp2_with fail
          go_roundw
          case rel => exact ⟨j + 1, .slice q1 q2 q3, .slice q4 q5 q6, by omega, by go_num, by rw [HE.out]; exact HFIN.out⟩
          case measure => simp [intOf]; omega
    · have hjk : ¬ (j : Int) < (ks.length : Int) := by omega
      have HE := Lib.hid (show Tr.gone wide t ks = S by rw [HG.out.2.2, show j = ks.length by omega, List.take_length])
      obtain ⟨x1, x2, x3, x4⟩ := box2 HR.out.bt
      obtain ⟨y1, y2, y3, y4, y5, y6⟩ := box3 HR.out.br
      obtain ⟨g1, g2, g3, g4⟩ := box2 HR.out.b6
      obtain ⟨h1, h2, h3, h4, h5, h6⟩ := box3 HR.out.b7
      have u1 : ¬ w'.heap.size = w'.heap.size + 1 := by omega
      have u2 : ¬ w'.heap.size + 3 = w'.heap.size + 1 := by omega
      have u3 : ¬ w'.heap.size = w'.heap.size + 2 := by omega
      have u4 : ¬ w'.heap.size + 3 = w'.heap.size + 2 := by omega
      have u5 : ¬ w'.heap.size + 1 = w'.heap.size + 2 := by omega
      have u6 : ¬ w'.heap.size + 2 = w'.heap.size + 1 := by omega
      obtain ⟨SB, hSB⟩ : ∃ SB, SB = S.b := ⟨_, rfl⟩
      obtain ⟨SJ, hSJ⟩ : ∃ SJ, SJ = S.j := ⟨_, rfl⟩
      obtain ⟨SH, hSH⟩ : ∃ SH, SH = S.sh := ⟨_, rfl⟩
      rw [← hSB] at y1
      rw [← hSJ] at y2
      rw [← hSH] at y3
      have HSS := Lib.hid (And.intro hSB (And.intro hSJ hSH))
      clear hSB hSJ hSH
      go_upto_region 13 with (fail)
      go_region_law (fail)
      all_goals (
        go_wp2_with fail
        generalize hW : World.setCell _ _ _ = W8
        have he : Boxed wr W8 (w'.heap.size + 1) (w'.heap.size + 2) (.slice d1 d2 d3) (.slice d4 d5 d6) (SB : Int) (SJ : Int) SH := by
          rw [← hW]
          first
            | exact boxed4 (by omega) HR.out.b6 HR.out.b7
            | exact boxed7 (by omega) HR.out.b6 HR.out.b7
        obtain ⟨q1, q2, q3, q4⟩ := box2 he.bp
        obtain ⟨m1, m2, m3, m4, m5, m6⟩ := box3 he.bq
        have hkp := he.kept
        have htr : TreeQ W8 (fun k => w'.heap.size ≤ k ∧ k < W8.heap.size) (.slice d1 d2 d3) (.slice d4 d5 d6) S.t := HR.out.tree.same (fun k hk => hkp.block k hk.2 (fun o e => by omega)) (fun k hk => ⟨by omega, by have := hkp.size; omega⟩)
        have hbl : Below w'.heap.size w' W8 := HR.out.bel.trans (hkp.below (by omega) (fun x o e => by omega))
        have HK := Lib.hid (And.intro htr hbl)
        clear he hkp htr hbl hW
        refine bodyPost_ret (v := .tuple #[.agg #[.slice d1 d2 d3, .slice d4 d5 d6], .agg #[.int .i64 (SB : Int), .int .i64 (SJ : Int), .bool SH]]) (by simp [results, Try.results83, go_sem, q1, q2, m1, m2, m3]) rfl ⟨.slice d1 d2 d3, .slice d4 d5 d6, ?_, ?_, ?_⟩
        · rw [HE.out, ← HSS.out.1, ← HSS.out.2.1, ← HSS.out.2.2]
        · rw [HE.out]
          first
            | exact HK.out.1
            | exact HK.out.1.same (fun _ _ => rfl) (fun _ h => h)
        · first
            | exact HK.out.2
            | exact HK.out.2.drew)
end Go.Proofs.Ytananonjomfpkaa

/- The model's DeleteAll. -/
namespace Go.Proofs.Ytananonjomfpkaa
open Go.RowKit

set_option maxRecDepth 100000 in
set_option maxHeartbeats 4000000 in
theorem specDeleteAll_c {w : World} {B : Nat} {kv cv v : Value} {t : Tr} {ks : List Int} (ht : TreeIn w B kv cv t) (hw : t.weight ≤ 1048576) (hk : IntsIn w B v ks) (wide : Int) (w' : World) (hbw : Below B w w') (hB : B ≤ w'.heap.size) (hwB : w.heap.size ≤ B) :
    Calls Try.prog 32 #[.agg #[kv, cv], .int .i64 wide, v] w' fun e w'' => ∃ kv' cv', e = .returned (.tuple #[.agg #[kv', cv'], .bool (Tr.askAll wide t ks)]) ∧ TreeIn w'' w''.heap.size kv' cv' (Tr.goneT wide t ks) ∧ Below w'.heap.size w' w'' := by
  obtain ⟨a5, n5, m5, a6, n6, m6, rfl, rfl⟩ := ht.slices
  have hk' := hk
  obtain ⟨ka, kc, rfl, -⟩ := hk'
  obtain ⟨W1, hW1⟩ : ∃ W1, W1 = (w'.alloc (.cells #[.slice a5 n5 m5, .slice a6 n6 m6] 26)).alloc (.cells #[.slice none 0 0, .slice none 0 0] 26) := ⟨_, rfl⟩
  have hs1 : W1.heap.size = w'.heap.size + 2 := by rw [hW1]; simp
  have hb1 : Below w'.heap.size w' W1 := by rw [hW1]; exact ((Below.refl _ _).alloc (Nat.le_refl _) _).alloc (by simp) _
  have k0 : W1.heap[w'.heap.size]? = some (.cells #[.slice a5 n5 m5, .slice a6 n6 m6] 26 (0, 0)) := by rw [hW1, old_blk _ _ _ (by simp), new_blk]
  have kb : W1.heap[w'.heap.size + 1]? = some (.cells #[.slice none 0 0, .slice none 0 0] 26 (0, 0)) := by
    rw [hW1, show w'.heap.size + 1 = (w'.alloc (.cells #[.slice a5 n5 m5, .slice a6 n6 m6] 26)).heap.size by simp, new_blk]
  have k0x := k0
  rw [hW1] at k0x
  obtain ⟨x1, x2, x3, x4⟩ := box2 k0x
  have HT := Lib.hid ht
  have HK := Lib.hid hk
  have HBW := Lib.hid hbw
  have HW1 := Lib.hid hW1
  have H1 := Lib.hid (And.intro hb1 (And.intro kb k0))
  clear ht hbw hW1 hb1 k0 kb k0x hk
  go_enter Try.func32, Try.ntmps32
  go_wp2_with fail
  rw [← HW1.out]
  refine (specTreeValid_c HT.out hw wide W1 (HBW.out.trans (H1.out.1.mono hB)) (by omega)).mono ?_
  rintro e w2 ⟨rfl, hb2⟩
  have hs2 := hb2.size
  clear x1 x2 x3 x4
  have j0 := (hb2.block _ (by omega)).trans H1.out.2.2
  have hrb := (hb2.block (w'.heap.size + 1) (by omega)).trans H1.out.2.1
  obtain ⟨x1, x2, x3, x4⟩ := box2 j0
  obtain ⟨r1, r2, r3, r4⟩ := box2 hrb
  have hb2' := H1.out.1.trans (hb2.mono (by omega))
  have HIN := Lib.hid (HK.out.later (HBW.out.trans (hb2'.mono hB)) (Nat.le_refl _))
  have H2 := Lib.hid (And.intro hb2' hrb)
  clear hb2 j0 hrb hb2'
  cases hv : Tr.validB wide t with
  | false =>
    have ha : Tr.askAll wide t ks = false := by simp [Tr.askAll, hv]
    have HA := Lib.hid (show Tr.goneT wide t ks = .mk [] [] by simp [Tr.goneT, ha])
    have HAB := Lib.hid ha
    clear ha hv
    go_wp2_with fail
    obtain ⟨wf, hwf⟩ : ∃ wf, wf = (w2.setCell ⟨w'.heap.size + 1, 0, none⟩ (.slice none 0 0)).setCell ⟨w'.heap.size + 1, 1, none⟩ (.slice none 0 0) := ⟨_, rfl⟩
    have hfb : wf.heap[w'.heap.size + 1]? = some (.cells #[.slice none 0 0, .slice none 0 0] 26 (0, 0)) := by
      rw [hwf]; exact set_blk (o := 1) _ (set_blk (o := 0) _ H2.out.2)
    obtain ⟨d1, d2, d3, d4⟩ := box2 hfb
    rw [← hwf]
    refine bodyPost_ret (v := .tuple #[.agg #[.slice none 0 0, .slice none 0 0], .bool false]) (by simp [results, Try.results32, go_sem, d1, d2]) rfl ⟨_, _, by rw [HAB.out], by rw [HA.out]; exact (TreeO.nil _ 0).tree, ?_⟩
    rw [hwf]; exact (H2.out.1.setCell (by show w'.heap.size ≤ w'.heap.size + 1; omega) _).setCell (by show w'.heap.size ≤ w'.heap.size + 1; omega) _
  | true =>
    have HV := Lib.hid hv
    clear hv
    go_wp2_with fail
    refine (l3Keys_c w2 B HIN.out).mono ?_
    rintro e w3 ⟨rfl, rfl⟩
    cases hko : keysOk ks with
    | false =>
      have ha : Tr.askAll wide t ks = false := by simp [Tr.askAll, hko]
      have HA := Lib.hid (show Tr.goneT wide t ks = .mk [] [] by simp [Tr.goneT, ha])
      have HAB := Lib.hid ha
      clear ha hko
      go_wp2_with fail
      obtain ⟨wf, hwf⟩ : ∃ wf, wf = (w3.setCell ⟨w'.heap.size + 1, 0, none⟩ (.slice none 0 0)).setCell ⟨w'.heap.size + 1, 1, none⟩ (.slice none 0 0) := ⟨_, rfl⟩
      have hfb : wf.heap[w'.heap.size + 1]? = some (.cells #[.slice none 0 0, .slice none 0 0] 26 (0, 0)) := by
        rw [hwf]; exact set_blk (o := 1) _ (set_blk (o := 0) _ H2.out.2)
      obtain ⟨d1, d2, d3, d4⟩ := box2 hfb
      rw [← hwf]
      refine bodyPost_ret (v := .tuple #[.agg #[.slice none 0 0, .slice none 0 0], .bool false]) (by simp [results, Try.results32, go_sem, d1, d2]) rfl ⟨_, _, by rw [HAB.out], by rw [HA.out]; exact (TreeO.nil _ 0).tree, ?_⟩
      rw [hwf]; exact (H2.out.1.setCell (by show w'.heap.size ≤ w'.heap.size + 1; omega) _).setCell (by show w'.heap.size ≤ w'.heap.size + 1; omega) _
    | true =>
      have ha : Tr.askAll wide t ks = true := by simp [Tr.askAll, hko, HV.out]
      have HA := Lib.hid (show Tr.goneT wide t ks = (Tr.gone wide t ks).t by simp [Tr.goneT, ha])
      have HAB := Lib.hid ha
      have hall := l4All_c HT.out wide HV.out HK.out (keysOk_few hko) w3 (HBW.out.trans (H2.out.1.mono hB)) (by omega) hwB
      have HALL := Lib.hid hall
      clear ha hko hall
      go_wp2_with fail
      refine HALL.out.mono ?_
      rintro e w4 ⟨k4, c4, rfl, ht4, hb4⟩
      obtain ⟨q1, q2, q3, q4, q5, q6, rfl, rfl⟩ := ht4.slices
      have hs4 := hb4.size
      have hrb := (hb4.block (w'.heap.size + 1) (by omega)).trans H2.out.2
      clear r1 r2 r3 r4 x1 x2 x3 x4
      obtain ⟨W5, hW5⟩ : ∃ W5, W5 = (w4.alloc (.cells #[.slice q1 q2 q3, .slice q4 q5 q6] 26)).alloc (.cells #[.int .i64 ((Tr.gone wide t ks).b : Int), .int .i64 ((Tr.gone wide t ks).j : Int), .bool (Tr.gone wide t ks).sh] 52) := ⟨_, rfl⟩
      have hs5 : W5.heap.size = w4.heap.size + 2 := by rw [hW5]; simp
      have hb5 : Below w4.heap.size w4 W5 := by rw [hW5]; exact ((Below.refl _ _).alloc (Nat.le_refl _) _).alloc (by simp) _
      have b8 : W5.heap[w4.heap.size]? = some (.cells #[.slice q1 q2 q3, .slice q4 q5 q6] 26 (0, 0)) := by rw [hW5, old_blk _ _ _ (by simp), new_blk]
      have b6 := (hb5.block _ (by omega)).trans hrb
      have hbl : Below w'.heap.size w' W5 := H2.out.1.trans ((hb4.mono (by omega)).trans (hb5.mono (by omega)))
      have ht5 : TreeQ W5 (fun k => w3.heap.size ≤ k ∧ k < W5.heap.size) (.slice q1 q2 q3) (.slice q4 q5 q6) (Tr.gone wide t ks).t := ht4.same (fun k hk => hb5.block k hk.2) (fun k hk => ⟨hk.1, by have := hk.2; omega⟩)
      have HZ := Lib.hid (And.intro ht5 (And.intro hbl b6))
      have HW5 := Lib.hid hW5
      have hs4' : w'.heap.size + 2 ≤ w4.heap.size := by omega
      obtain ⟨x1, x2, x3, x4⟩ := box2 b8
      obtain ⟨r1, r2, r3, r4⟩ := box2 b6
      clear ht4 hb4 hrb hW5 hb5 b8 b6 hbl ht5
      go_upto_region 4 with (fail)
      rw [← HW5.out]
      go_wp2_with fail
      obtain ⟨wf, hwf⟩ : ∃ wf, wf = (W5.setCell ⟨w'.heap.size + 1, 0, none⟩ (.slice q1 q2 q3)).setCell ⟨w'.heap.size + 1, 1, none⟩ (.slice q4 q5 q6) := ⟨_, rfl⟩
      have hfb : wf.heap[w'.heap.size + 1]? = some (.cells #[.slice q1 q2 q3, .slice q4 q5 q6] 26 (0, 0)) := by
        rw [hwf]; exact set_blk (o := 1) _ (set_blk (o := 0) _ HZ.out.2.2)
      obtain ⟨d1, d2, d3, d4⟩ := box2 hfb
      rw [← hwf]
      refine bodyPost_ret (v := .tuple #[.agg #[.slice q1 q2 q3, .slice q4 q5 q6], .bool true]) (by simp [results, Try.results32, go_sem, d1, d2]) rfl ⟨_, _, by rw [HAB.out], ?_, ?_⟩
      · rw [HA.out]
        have h := HZ.out.1.same (w' := wf) (Q := fun k => k < wf.heap.size) (fun q e => by rw [hwf, set_other _ _ _ _ _ (by omega), set_other _ _ _ _ _ (by omega)]) (fun k hk => by rw [hwf]; simp only [World.size_setCell]; exact hk.2)
        exact TreeQ.tree h (fun _ e => e)
      · rw [hwf]; exact (HZ.out.2.1.setCell (by show w'.heap.size ≤ w'.heap.size + 1; omega) _).setCell (by show w'.heap.size ≤ w'.heap.size + 1; omega) _
end Go.Proofs.Ytananonjomfpkaa

/- What a law on a function from a list of ints to a tree keeps from call to call. -/
namespace Go.Proofs.Ytananonjomfpkaa
open Go.RowKit

/-- The law's boxes, the model's answer, the program's argument and its answer. -/
structure ExI (w0 : World) (g b8 b11 B8 lo : Nat) (n : Nat) (k4 c4 k7 c7 : Value) (P : Blocks) (r u : Tr) (w : World) : Prop where
  bel : Below w0.heap.size w0 w
  x8 : w.heap[b8]? = some (.cells #[k4, c4] 26 (0, 0))
  x11 : w.heap[b11]? = some (.cells #[k7, c7] 26 (0, 0))
  tr4 : TreeIn w B8 k4 c4 r
  tr7 : TreeO w lo P k7 c7 u
  l8 : B8 ≤ b8 ∧ b8 < g ∧ g < lo
  l0 : w0.heap.size ≤ B8
  n11 : lo ≤ b11 ∧ ¬ P b11
  lw : B8 ≤ w.heap.size

variable {w0 w w' : World} {g b8 b11 B8 lo n : Nat} {k4 c4 k7 c7 : Value} {P : Blocks} {r u : Tr}

theorem cells_lt {w : World} {b : Nat} {c : Array Value} {t : TypeId} {f : Nat × Nat} (h : w.heap[b]? = some (.cells c t f)) : b < w.heap.size := (Array.getElem?_eq_some_iff.1 h).1

theorem ExI.below (h : ExI w0 g b8 b11 B8 lo n k4 c4 k7 c7 P r u w) (hb : Below w.heap.size w w') : ExI w0 g b8 b11 B8 lo n k4 c4 k7 c7 P r u w' :=
  ⟨h.bel.trans (hb.mono h.bel.size), (hb.block _ (cells_lt h.x8)).trans h.x8, (hb.block _ (cells_lt h.x11)).trans h.x11,
    h.tr4.later hb h.lw, h.tr7.later hb (Nat.le_refl _), h.l8, h.l0, h.n11, Nat.le_trans h.lw hb.size⟩

theorem ExI.drew (h : ExI w0 g b8 b11 B8 lo n k4 c4 k7 c7 P r u w) : ExI w0 g b8 b11 B8 lo n k4 c4 k7 c7 P r u w.drew := h.below (Below.refl _ _).drew

/-- The argument is marked. -/
theorem ExI.span (h : ExI w0 g b8 b11 B8 lo n k4 c4 k7 c7 P r u w) (hs : Span g (g + 1) w w') : ExI w0 g b8 b11 B8 lo n k4 c4 k7 c7 P r u w' := by
  have e8 := cells_lt h.x8
  have l8 := h.l8
  have hb : Below B8 w w' := ⟨hs.os, hs.tape, hs.output, hs.size, fun k hk => hs.block k (by have := h.lw; omega) (.inl (by omega))⟩
  refine ⟨h.bel.trans (hb.mono h.l0), (hs.block _ e8 (.inl (by omega))).trans h.x8,
    (hs.block _ (cells_lt h.x11) (.inr (by have := h.n11.1; omega))).trans h.x11, h.tr4.later hb (Nat.le_refl _), h.tr7.same hs.size (fun b e => hs.block b (h.tr7.lt b e).2 (.inr (by have := (h.tr7.lt b e).1; omega))), h.l8, h.l0, h.n11, Nat.le_trans h.lw hs.size⟩

/-- The answer is marked. -/
theorem ExI.mark {u' : Tr} (h : ExI w0 g b8 b11 B8 lo n k4 c4 k7 c7 P r u w) (ht : TreeO w' lo P k7 c7 u') (hk : KeptB P w w') : ExI w0 g b8 b11 B8 lo n k4 c4 k7 c7 P r u' w' := by
  have l8 := h.l8
  have hP : ∀ b, P b → lo ≤ b := fun b e => (h.tr7.lt b e).1
  have hb : Below lo w w' := ⟨hk.os, hk.tape, hk.output, hk.size, fun k h1 => by
    by_cases h2 : k < w.heap.size
    · exact hk.block k h2 (fun e => by have := hP k e; omega)
    · have := h.n11.1; have := cells_lt h.x11; omega⟩
  exact ⟨h.bel.trans (hb.mono (by have := h.l0; omega)), (hb.block _ (by omega)).trans h.x8,
    (hk.block _ (cells_lt h.x11) h.n11.2).trans h.x11, h.tr4.later hb (by omega), ht, h.l8, h.l0, h.n11, Nat.le_trans h.lw hk.size⟩

/-- A row of ints as a slice in memory. -/
theorem rowIn {w : World} {g : Nat} {ks : List Int} (h : w.rowIs g 3 ks.length (fun i => .int .i64 (ks.getD i 0))) (hl : ks.length ≤ 1048576) {B : Nat} (hB : g < B) : IntsIn w B (.slice (some ⟨g, 0, none⟩) ks.length ks.length) ks := by
  obtain ⟨c, hb, hn, hc⟩ := h
  exact ⟨some ⟨g, 0, none⟩, ks.length, rfl, Nat.le_refl _, by unfold maxLen; omega, (fun h => by cases h), .inr ⟨g, 0, rfl, hB, fun i hi => by simpa [World.cell?, hb] using hc i hi⟩⟩
end Go.Proofs.Ytananonjomfpkaa
