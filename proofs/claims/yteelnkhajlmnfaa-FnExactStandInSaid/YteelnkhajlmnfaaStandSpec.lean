/- The contract of the model's StandIn. -/
import Derived.Test.YteelnkhajlmnfaaProg
import Derived.Test.YteelnkhajlmnfaaBase
import Derived.Test.YteelnkhajlmnfaaApp
import Derived.Test.YteelnkhajlmnfaaSorted
import Derived.Test.YteelnkhajlmnfaaSomeSpec
import Derived.Test.YteelnkhajlmnfaaPathD
import Derived.Test.YteelnkhajlmnfaaPathSpec
import Derived.Test.YteelnkhajlmnfaaHasSpec
import Derived.Test.YteelnkhajlmnfaaStandData
import Derived.Test.YteelnkhajlmnfaaGreatSpec
import Derived.Deep.LoopGhost
import Derived.Deep.RegionWith
import Derived.Deep.RegionHeld3
import Derived.Deep.QuietTactic
import Derived.BigQuiet
import Derived.WalkSmall
namespace Go.Proofs.Yteelnkhajlmnfaa
open Go.RowKit

set_option maxRecDepth 100000 in
set_option maxHeartbeats 1000000 in
theorem l4Asked_c {w : World} {B : Nat} {kv cv : Value} {t : Tr} (ht : TreeIn w B kv cv t) (hw : t.weight ≤ 1048576) (wide key : Int) (w' : World) (hbw : Below B w w') (hB : B ≤ w'.heap.size) :
    Calls Try.prog 70 #[.agg #[kv, cv], .int .i64 wide, .int .i64 key] w' fun e w'' => e = .returned (.bool (t.validB wide && (t.pathB key).2)) ∧ Below w'.heap.size w' w'' := by
  have HBW := Lib.hid hbw
  obtain ⟨a1, n1, c1, a2, n2, c2, rfl, rfl⟩ := ht.slices
  obtain ⟨W1, hW1⟩ : ∃ W1, W1 = w'.alloc (.cells #[.slice a1 n1 c1, .slice a2 n2 c2] 30) := ⟨_, rfl⟩
  have hs1 : W1.heap.size = w'.heap.size + 1 := by rw [hW1]; simp
  have hb1 : Below w'.heap.size w' W1 := by rw [hW1]; exact (Below.refl _ _).alloc (Nat.le_refl _) _
  have kb : W1.heap[w'.heap.size]? = some (.cells #[.slice a1 n1 c1, .slice a2 n2 c2] 30 (0, 0)) := by rw [hW1, new_blk]
  have HW1 := Lib.hid hW1
  have H1 := Lib.hid (And.intro hb1 kb)
  obtain ⟨x1, x2, x3, x4⟩ := box2 kb
  clear hW1 hb1 kb hbw
  go_enter Try.func70, Try.ntmps70
  go_wp2_with fail
  rw [← HW1.out]
  refine (specTreeValid_c ht hw wide W1 (HBW.out.trans (H1.out.1.mono hB)) (by omega)).mono ?_
  rintro e w2 ⟨rfl, hb2⟩
  have hs2 := hb2.size
  clear x1 x2 x3 x4
  have j0 := (hb2.block _ (by omega)).trans H1.out.2
  obtain ⟨x1, x2, x3, x4⟩ := box2 j0
  have H2 := Lib.hid (H1.out.1.trans (hb2.mono (by omega)))
  clear hb2 j0
  cases hv : t.validB wide with
  | false =>
    have HV := Lib.hid hv
    clear hv
    go_wp2_with fail
    go_ret
    exact ⟨ret_bool (by rw [HV.out]; rfl), H2.out⟩
  | true =>
    have HV := Lib.hid hv
    clear hv
    go_wp2_with fail
    refine (specHasKey_c ht hw key w2 (HBW.out.trans (H2.out.mono hB)) (by omega)).mono ?_
    rintro e w3 ⟨rfl, hb3⟩
    have H3 := Lib.hid (H2.out.trans (hb3.mono (by omega)))
    clear hb3
    go_wp2_with fail
    go_ret
    exact ⟨ret_bool (by rw [HV.out, Bool.true_and]), H3.out⟩

theorem ret_sb {a a' : Int} {b b' : Bool} (h : a = a') (h2 : b = b') : Ending.returned (.tuple #[.int .i64 a, .bool b]) = .returned (.tuple #[.int .i64 a', .bool b']) := by rw [h, h2]

set_option maxRecDepth 100000 in
set_option maxHeartbeats 4000000 in
theorem specStandIn_c {w : World} {B : Nat} {kv cv : Value} {t : Tr} (ht : TreeIn w B kv cv t) (hw : t.weight ≤ 1048576) (wide key : Int) (w' : World) (hbw : Below B w w') (hB : B ≤ w'.heap.size) :
    Calls Try.prog 47 #[.agg #[kv, cv], .int .i64 wide, .int .i64 key] w' fun e w'' => e = .returned (.tuple #[.int .i64 (t.standB wide key).1, .bool (t.standB wide key).2]) ∧ Below w'.heap.size w' w'' := by
  have HBW := Lib.hid hbw
  obtain ⟨a1, n1, c1, a2, n2, c2, rfl, rfl⟩ := ht.slices
  obtain ⟨W1, hW1⟩ : ∃ W1, W1 = w'.alloc (.cells #[.slice a1 n1 c1, .slice a2 n2 c2] 30) := ⟨_, rfl⟩
  have hs1 : W1.heap.size = w'.heap.size + 1 := by rw [hW1]; simp
  have hb1 : Below w'.heap.size w' W1 := by rw [hW1]; exact (Below.refl _ _).alloc (Nat.le_refl _) _
  have kb : W1.heap[w'.heap.size]? = some (.cells #[.slice a1 n1 c1, .slice a2 n2 c2] 30 (0, 0)) := by rw [hW1, new_blk]
  have HW1 := Lib.hid hW1
  have H1 := Lib.hid (And.intro hb1 kb)
  have HT := Lib.hid ht
  obtain ⟨x1, x2, x3, x4⟩ := box2 kb
  clear hW1 hb1 kb hbw ht
  go_enter Try.func47, Try.ntmps47
  go_wp2_with fail
  rw [← HW1.out]
  refine (l4Asked_c HT.out hw wide key W1 (HBW.out.trans (H1.out.1.mono hB)) (by omega)).mono ?_
  rintro e w2 ⟨rfl, hb2⟩
  have hs2 := hb2.size
  clear x1 x2 x3 x4
  have j0 := (hb2.block _ (by omega)).trans H1.out.2
  obtain ⟨x1, x2, x3, x4⟩ := box2 j0
  have H2 := Lib.hid (And.intro (H1.out.1.trans (hb2.mono (by omega))) j0)
  clear hb2 j0
  have hno : (t.validB wide && (t.pathB key).2) = false → t.standB wide key = (0, false) := by
    intro h
    unfold Tr.standB
    split
    · next hv =>
      rw [hv, Bool.true_and] at h
      have hsome := Tr.someB_valid hv
      rw [(someB_path key t).1 hsome] at h
      exact Tr.stand_none key t (Tr.Well.of_some hsome) h
    · rfl
  cases hv : (t.validB wide && (t.pathB key).2) with
  | false =>
    have HP := Lib.hid (hno hv)
    clear hno hv
    go_wp2_with fail
    go_ret2
    exact ⟨ret_sb (by rw [HP.out]) (by rw [HP.out]), H2.out.1⟩
  | true =>
    clear hno
    rw [Bool.and_eq_true] at hv
    obtain ⟨hv1, hv2⟩ := hv
    have hsome := Tr.someB_valid hv1
    have hpath := (someB_path key t).1 hsome
    rw [hpath] at hv2
    have hstd : t.standB wide key = t.stand key := by unfold Tr.standB; rw [if_pos hv1]
    have hw2 : 2 ≤ wide := by
      have h := hv1
      unfold Tr.validB at h
      simp only [Bool.and_eq_true, inB, decide_eq_true_eq] at h
      exact h.1.1
    have htop := Tr.Tops.of_valid hv1 hw2
    have hwell := Tr.Well.of_some hsome
    obtain ⟨P, hP⟩ : ∃ P, P = (t.path key).1 := ⟨_, rfl⟩
    have hpt : t.path key = (P, true) := Prod.ext hP.symm hv2
    have hpl := Tr.path_len key t
    rw [← hP] at hpl
    have HPATH := Lib.hid (And.intro hpath hpt)
    have HSTD := Lib.hid hstd
    have HTW := Lib.hid (And.intro htop hwell)
    clear hv1 hv2 hsome hpath hstd htop hwell hpt hP hw2
    go_wp2_with fail
    refine (specPathOf_c HT.out hw key w2 (HBW.out.trans (H2.out.1.mono hB)) (by omega)).mono ?_
    rintro e w3 ⟨v, rfl, hown, hb3⟩
    rw [HPATH.out.1, HPATH.out.2] at hown
    dsimp only at hown
    obtain ⟨va, vc, rfl⟩ := IntsOwn.shown hown
    have hs3 := hb3.size
    have j0 := (hb3.block _ (by omega)).trans H2.out.2
    have H3 := Lib.hid (And.intro (H2.out.1.trans (hb3.mono (by omega))) (And.intro j0 hown))
    clear x1 x2 x3 x4 hb3 j0 hown
    go_wp2_with fail
    go_loopw [11, 25] (fun s11 i wr => ∃ (j : Nat) (tr : Tr) (kvr cvr : Value), j ≤ P.length ∧ i = .int .i64 j ∧ wr.heap[w'.heap.size]? = some (.cells #[kvr, cvr] 30 (0, 0)) ∧ TreeIn w B kvr cvr tr ∧ Tr.Well tr ∧ Tr.Tops tr ∧ tr.weight ≤ 1048576 ∧
      tr.path key = (P.drop j, true) ∧ tr.stand key = t.stand key ∧ Below w'.heap.size w' wr ∧ IntsOwn wr w2.heap.size (.slice va P.length vc) P) (fun _ i _ => P.length - (intOf i).toNat)
    case atStart => exact ⟨0, t, _, _, Nat.zero_le _, rfl, H3.out.2.1, HT.out, HTW.out.2, HTW.out.1, hw, HPATH.out.2, rfl, H3.out.1, H3.out.2.2⟩
    case round =>
      obtain ⟨j, tr, kvr, cvr, hj, rfl, hbox, htr, hwl, htp, hwt, hpt, hst, hbel, hown⟩ := hrel
      cases tr with
      | mk ks cs =>
      obtain ⟨a, cap, kvs, cvs, rfl, hki, hlen, hcap, hat, hkids⟩ := htr.parts
      have hsr := hbel.size
      have hlt := (Array.getElem?_eq_some_iff.1 hbox).1
      have hBr : Below B w wr := HBW.out.trans (hbel.mono hB)
      by_cases hjl : j < P.length
      · rw [List.drop_eq_getElem_cons hjl] at hpt
        obtain ⟨hi, hpj, hpt2, hst2⟩ := Tr.path_step hpt hwl
        have hin := IntsOwn.in hown
        obtain ⟨_, _, hv, _, _, _, h⟩ := hin
        injection hv with e1 _ e3
        subst e1 e3
        rcases h with h | ⟨pb, po, rfl, hb, hat4⟩
        · rw [h] at hjl; simp at hjl
        have ha' : wr.cell? ⟨pb, po + j, none⟩ = some (.int .i64 (P.getD j 0)) := hat4 j hjl
        rw [List.getD_eq_getElem?_getD, List.getElem?_eq_getElem hjl, Option.getD_some, hpj] at ha'
        obtain ⟨i, hie⟩ : ∃ i, i = place key ks := ⟨_, rfl⟩
        rw [← hie] at ha'
        have hic : i < cs.length := by omega
        obtain ⟨ka5, kn5, kc5, ca5, cn5, cc5, hkv5, hcv5⟩ := (hkids i hic).slices
        rcases hat with h | ⟨kb5, ko5, rfl, hkb5, hkat5⟩
        · omega
        have hka := (hkat5 i hic).1
        have hkc := (hkat5 i hic).2
        rw [hkv5] at hka
        rw [hcv5] at hkc
        have z1 := (below_cell hBr hkb5).trans hka
        have z2 := (below_cell hBr hkb5).trans hkc
        obtain ⟨x1, x2, x3, x4⟩ := box2 hbox
        have hic' : (i : Int) < (cs.length : Int) := by omega
        have hjl' : (j : Int) < (P.length : Int) := by omega
        have hwk := Tr.weight_get_le cs i hic
        simp only [Tr.weight] at hwt
        have hpt3 : cs[i].path key = (P.drop (j + 1), true) := by subst hie; exact hpt2
        have hst3 : cs[i].stand key = t.stand key := by subst hie; rw [← hst2, hst]
        have HR := Lib.hid (And.intro hbox (And.intro (And.intro hkv5 hcv5) (And.intro (hkids i hic) (And.intro (Tr.Well.kid hwl i hic) (And.intro (Tr.Tops.kid htp i hic).tops (And.intro hpt3 (And.intro hst3 (And.intro hbel hown))))))))
        clear hat4 hka hkc hkat5 hkv5 hcv5 hbox hkids hwl htp hpt3 hst3 hbel hown hpt hpt2 hst hst2 hpj htr hki hBr hb hie
        unfold maxLen at hcap
        go_wp2_with fail
        go_roundw
        case measure => simp [intOf]; omega
        case rel =>
          refine ⟨j + 1, cs[i], _, _, by omega, by simp, set_blk _ (set_blk _ HR.out.1), ?_, HR.out.2.2.2.1, HR.out.2.2.2.2.1, by omega, HR.out.2.2.2.2.2.1, HR.out.2.2.2.2.2.2.1, ?_, ?_⟩
          · rw [← HR.out.2.1.1, ← HR.out.2.1.2]; exact HR.out.2.2.1
          · exact (HR.out.2.2.2.2.2.2.2.1.setCell (Nat.le_refl _) _).setCell (Nat.le_refl _) _
          · exact ownsRow_same HR.out.2.2.2.2.2.2.2.2 (fun k _ h => by rw [set_other _ _ _ _ _ (by omega), set_other _ _ _ _ _ (by omega)])
      · have hje : j = P.length := by omega
        rw [hje, List.drop_length] at hpt
        have hfd := Tr.path_end hpt hwl
        have hjl' : ¬ (j : Int) < (P.length : Int) := by omega
        cases hcl : cs.length with
        | zero =>
          have hsl := Tr.stand_leaf (key := key) (k := ks) hcl
          rw [hst] at hsl
          rw [hcl] at hbox
          obtain ⟨x1, x2, x3, x4⟩ := box2 hbox
          have HR := Lib.hid (And.intro hbel hsl)
          clear hbel hsl hbox hst hfd hpt hown hkids hat htp hwl htr hki hBr hcl
          go_wp2_with fail
          go_ret2
          exact ⟨ret_sb (by rw [HSTD.out, HR.out.2]) (by rw [HSTD.out, HR.out.2]), HR.out.1⟩
        | succ m =>
          have hcl2 := Tr.Well.inner hwl (by omega)
          obtain ⟨x1, x2, x3, x4⟩ := box2 hbox
          obtain ⟨i, hie⟩ : ∃ i, i = place key ks := ⟨_, rfl⟩
          have hic : i < cs.length := by omega
          have hsf := Tr.stand_found (key := key) (k := ks) (cs := cs) hfd (by omega)
          have hsi : t.stand key = (cs[i].greatest, true) := by subst hie; rw [← hst, hsf]
          obtain ⟨ka5, kn5, kc5, ca5, cn5, cc5, hkv5, hcv5⟩ := (hkids i hic).slices
          rcases hat with h | ⟨kb5, ko5, rfl, hkb5, hkat5⟩
          · omega
          have hka := (hkat5 i hic).1
          have hkc := (hkat5 i hic).2
          rw [hkv5] at hka
          rw [hcv5] at hkc
          have hki4 := hki.later hBr (Nat.le_refl _)
          have hkid := hkids i hic
          rw [hkv5, hcv5] at hkid
          have hwk := Tr.weight_get_le cs i hic
          simp only [Tr.weight] at hwt
          have hic' : (i : Int) < (cs.length : Int) := by omega
          have hne : ((cs.length : Int) == 0) = false := by rw [beq_eq_false_iff_ne]; omega
          have HR := Lib.hid (And.intro hbox (And.intro hbel (And.intro hsi (And.intro hki4 (And.intro hkid (And.intro (Tr.Tops.kid htp i hic) (And.intro hBr (And.intro hka (And.intro hkc (And.intro hkb5 hie))))))))))
          obtain ⟨kva, kvc, rfl, k1, k2, k3, k4⟩ := hki
          clear hka hkc hkat5 hkv5 hcv5 hbox hkids hbel hsi hki4 hkid htp hBr hie hst hsf hfd hpt hown hwl htr k4 hcl
          unfold maxLen at hcap k2
          go_wp2_with fail
          have hwn : cs[i].weight ≤ 1048576 := by omega
          have hi0 : (0 : Int) ≤ (i : Int) := by omega
          have z1 := (below_cell HR.out.2.2.2.2.2.2.1 HR.out.2.2.2.2.2.2.2.2.2.1).trans HR.out.2.2.2.2.2.2.2.1
          have z2 := (below_cell HR.out.2.2.2.2.2.2.1 HR.out.2.2.2.2.2.2.2.2.2.1).trans HR.out.2.2.2.2.2.2.2.2.1
          go_region_with
            (first
            | (go_at_call 54; refine (l2Place_c _ B (HR.out.2.2.2.1.later (C := w'.heap.size) ((Below.refl _ _).drew) (by omega)) key).mono ?_; rintro e w8 ⟨rfl, hb8⟩; rw [← HR.out.2.2.2.2.2.2.2.2.2.2]; have hs8 := hb8.size; have y0 := (hb8.block w'.heap.size (by simp; omega)).trans HR.out.1; obtain ⟨y1, y2, y3, y4⟩ := box2 y0; have hb8' := HR.out.2.1.drew.trans (hb8.mono (by simp; omega)); have hB8 : Below B w w8 := HBW.out.trans (hb8'.mono hB); have v1 := (below_cell hB8 HR.out.2.2.2.2.2.2.2.2.2.1).trans HR.out.2.2.2.2.2.2.2.1; have v2 := (below_cell hB8 HR.out.2.2.2.2.2.2.2.2.2.1).trans HR.out.2.2.2.2.2.2.2.2.1; have HS8 : Hid (w'.heap.size + 1 ≤ w8.heap.size) := Lib.hid (by simp at hs8; omega); have H8 := Lib.hid (And.intro hb8' (And.intro hB8 y0)); clear hb8 hb8' hB8 y0 hs8)
            | (go_at_call 76; refine (specGreatest_c HR.out.2.2.2.2.1 HR.out.2.2.2.2.2.1 hwn _ H8.out.2.1 (by have := HS8.out; omega)).mono ?_; rintro e w9 ⟨rfl, hb9⟩; obtain ⟨u1, u2, u3, u4⟩ := box2 ((hb9.block w'.heap.size (by have := HS8.out; omega)).trans H8.out.2.2); have hB9 : Below B w _ := H8.out.2.1.trans (hb9.mono (by have := HS8.out; omega)); have v3 := (below_cell hB9 HR.out.2.2.2.2.2.2.2.2.2.1).trans HR.out.2.2.2.2.2.2.2.1; have v4 := (below_cell hB9 HR.out.2.2.2.2.2.2.2.2.2.1).trans HR.out.2.2.2.2.2.2.2.2.1; have H9 := Lib.hid (H8.out.1.trans (hb9.mono (by have := HS8.out; omega))); clear hb9))
          all_goals (
            go_wp2_with fail
            go_ret2
            exact ⟨ret_sb (by rw [HSTD.out, HR.out.2.2.1]) (by rw [HSTD.out, HR.out.2.2.1]), H9.out⟩)
end Go.Proofs.Yteelnkhajlmnfaa
