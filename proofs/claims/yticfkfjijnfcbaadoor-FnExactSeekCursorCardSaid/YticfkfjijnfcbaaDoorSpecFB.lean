/- The model's Forward and Backward. -/
import Derived.Test.YticfkfjijnfcbaaDoorProg
import Derived.Test.YticfkfjijnfcbaaDoorSh0
import Derived.Test.YticfkfjijnfcbaaDoorSh16
import Derived.Test.YticfkfjijnfcbaaDoorSh8
import Derived.Test.YticfkfjijnfcbaaDoorSh10
import Derived.Test.YticfkfjijnfcbaaDoorCurWalk
import Derived.Test.YticfkfjijnfcbaaDoorSh12
import Derived.Test.YticfkfjijnfcbaaDoorSpecUp
import Derived.Test.YticfkfjijnfcbaaDoorSpecDown
import Derived.Deep.RegionHeld3
namespace Go.Proofs.YticfkfjijnfcbaaDoor
open Go.RowKit

/-- What the model comes to from a cursor. -/
def Tr.fromB (t : Tr) (ks : List Int) (a : Int) (f : Nat → List Int × Int × Bool) : List Int × Int × Bool := if Tr.curB t ks a = true then f a.toNat else ([], 0, false)

set_option maxHeartbeats 4000000 in
set_option maxRecDepth 100000 in
theorem specForward_c {w : World} {B : Nat} {kv cv v : Value} {t : Tr} {ks : List Int} (ht : TreeIn w B kv cv t) (hw : t.weight ≤ 1048576) (hk : IntsIn w B v ks) (a : Int) (w' : World) (hbw : Below B w w') (hB : B ≤ w'.heap.size) :
    Calls Tryd.prog 29 #[.agg #[kv, cv], .agg #[v, .int .i64 a]] w' (Told w' (Tr.fromB t ks a (fun N => Tr.nextCur t ks N))) := by
  obtain ⟨r, hr⟩ : ∃ r, r = Tr.fromB t ks a (fun N => Tr.nextCur t ks N) := ⟨_, rfl⟩
  rw [← hr]
  have HR := Lib.hid hr
  clear hr
  have HT := Lib.hid ht
  have HK := Lib.hid hk
  obtain ⟨g1, g2, g3, g4, g5, g6, rfl, rfl⟩ := ht.slices
  obtain ⟨va, vcap, rfl⟩ := hk.shown
  obtain ⟨W2, hW2⟩ : ∃ W2, W2 = ((w'.alloc (.cells #[.slice g1 g2 g3, .slice g4 g5 g6] 33)).alloc (.cells #[.slice va ks.length vcap, .int .i64 a] 28)).alloc (.cells #[.slice none 0 0, .int .i64 0] 28) := ⟨_, rfl⟩
  have hb2 : Below w'.heap.size w' W2 := by rw [hW2]; exact (((Below.refl _ _).alloc (Nat.le_refl _) _).alloc (by simp) _).alloc (by simp; omega) _
  have hs2 : W2.heap.size = w'.heap.size + 3 := by rw [hW2]; simp
  have k0 : W2.heap[w'.heap.size]? = some (.cells #[.slice g1 g2 g3, .slice g4 g5 g6] 33 (0, 0)) := by rw [hW2, old_blk _ _ _ (by simp; omega), old_blk _ _ _ (by simp), new_blk]
  have k1 : W2.heap[w'.heap.size + 1]? = some (.cells #[.slice va ks.length vcap, .int .i64 a] 28 (0, 0)) := by
    rw [hW2, old_blk _ _ _ (by simp), show w'.heap.size + 1 = (w'.alloc (.cells #[.slice g1 g2 g3, .slice g4 g5 g6] 33)).heap.size by simp, new_blk]
  have k2 : W2.heap[w'.heap.size + 1 + 1]? = some (.cells #[.slice none 0 0, .int .i64 0] 28 (0, 0)) := by
    rw [hW2, show w'.heap.size + 1 + 1 = ((w'.alloc (.cells #[.slice g1 g2 g3, .slice g4 g5 g6] 33)).alloc (.cells #[.slice va ks.length vcap, .int .i64 a] 28)).heap.size by simp, new_blk]
  have k0x := k0
  have k1x := k1
  rw [hW2] at k0x k1x
  obtain ⟨x1, x2, x3, x4⟩ := box2 k0x
  obtain ⟨y1, y2, y3, y4⟩ := box2 k1x
  have hlt2 : w'.heap.size + 1 + 1 < W2.heap.size := by omega
  have BOX : Hid (∀ wx : World, Below W2.heap.size W2 wx → wx.heap[w'.heap.size]? = some (.cells #[.slice g1 g2 g3, .slice g4 g5 g6] 33 (0, 0)) ∧ wx.heap[w'.heap.size + 1]? = some (.cells #[.slice va ks.length vcap, .int .i64 a] 28 (0, 0)) ∧ wx.heap[w'.heap.size + 1 + 1]? = some (.cells #[.slice none 0 0, .int .i64 0] 28 (0, 0)) ∧ Below B w wx ∧ Below w'.heap.size w' wx) :=
    Lib.hid (fun wx hx => ⟨(hx.block _ (by omega)).trans k0, (hx.block _ (by omega)).trans k1, (hx.block _ hlt2).trans k2, hbw.trans ((hb2.trans (hx.mono (by omega))).mono hB), hb2.trans (hx.mono (by omega))⟩)
  have hBle : B ≤ W2.heap.size := by omega
  have HW2 := Lib.hid hW2
  clear ht hk hbw hW2 hb2 hs2 k0 k1 k2 k0x k1x
  go_enter Tryd.func29, Tryd.ntmps29
  go_wp2_with fail
  rw [← HW2.out]
  refine (specCursorValid_c HT.out hw HK.out a W2 (BOX.out _ (Below.refl _ _)).2.2.2.1 hBle).mono ?_
  rintro e w3 ⟨rfl, hb3⟩
  have hs3 := hb3.size
  clear x1 x2 x3 x4 y1 y2 y3 y4
  obtain ⟨x1, x2, x3, x4⟩ := box2 (BOX.out w3 hb3).1
  obtain ⟨y1, y2, y3, y4⟩ := box2 (BOX.out w3 hb3).2.1
  obtain ⟨z1, z2, z3, z4⟩ := box2 (BOX.out w3 hb3).2.2.1
  have H3 := Lib.hid hb3
  clear hb3
  cases hv : Tr.curB t ks a with
  | false =>
    have hr : r = ([], 0, false) := by rw [HR.out, Tr.fromB, if_neg (by rw [hv]; simp)]
    have HN := Lib.hid hr
    clear hr hv
    go_wp2_with fail
    have d := set_blk (o := 1) (.int .i64 0) (set_blk (o := 0) (.slice none 0 0) (BOX.out w3 H3.out).2.2.1)
    obtain ⟨t1, t2, -, -⟩ := box2 d
    refine bodyPost_ret (v := .tuple #[.agg #[.slice none 0 0, .int .i64 0], .bool false]) (by simp [results, Tryd.results29, go_sem, t1, t2]) rfl ?_
    rw [HN.out]
    exact Told.none (((BOX.out w3 H3.out).2.2.2.2.setCell (by show w'.heap.size ≤ w'.heap.size + 1 + 1; omega) _).setCell (by show w'.heap.size ≤ w'.heap.size + 1 + 1; omega) _)
  | true =>
    obtain ⟨uk, uc, hn⟩ : ∃ uk uc, Tr.nodeTo ks t = some (.mk uk uc) := by
      cases hn : Tr.nodeTo ks t with
      | none => unfold Tr.curB at hv; rw [hn] at hv; cases hv
      | some u => obtain ⟨uk, uc⟩ := u; exact ⟨uk, uc, rfl⟩
    obtain ⟨-, ha1, ha2, hsb⟩ := curK_at hv hn
    obtain ⟨N, rfl⟩ : ∃ N : Nat, a = N := ⟨a.toNat, by omega⟩
    have hN : N < uk.length := by omega
    have hfew := Tr.nodeTo_few hsb hn
    have hwell := Tr.nodeTo_well ks (Tr.Well.of_some hsb) hn
    have hr : r = Tr.nextCur t ks N := by rw [HR.out, Tr.fromB, if_pos hv, Int.toNat_natCast]
    have HN := Lib.hid (And.intro hr (And.intro hn (And.intro hwell hsb)))
    clear hr hn hwell hv hsb ha1 ha2
    go_wp2_with fail
    refine (l8Node_c ((HT.out.later (BOX.out w3 H3.out).2.2.2.1 (Nat.le_refl _)).wider (by omega : B ≤ w3.heap.size)) ((HK.out.later (BOX.out w3 H3.out).2.2.2.1 (Nat.le_refl _)).wider (by omega : B ≤ w3.heap.size)) w3 (Below.refl _ _) (Nat.le_refl _)).mono ?_
    rintro e w4 ⟨hno, hb4⟩
    rcases hno with ⟨u1, ku, cu, hnd, rfl, hu⟩ | ⟨hnone, rfl⟩
    case inr => rw [HN.out.2.1] at hnone; cases hnone
    obtain rfl : u1 = .mk uk uc := by rw [HN.out.2.1] at hnd; exact (Option.some.inj hnd).symm
    have hs4 := hb4.size
    obtain ⟨ca, ccap, kvs, cvs, rfl, hik, hcl, hcc, -, -⟩ := hu.parts
    obtain ⟨ka, kcap, rfl, hk1, hk2, -⟩ := hik
    unfold maxLen at hk2 hcc
    obtain ⟨W5, hW5⟩ : ∃ W5, W5 = w4.alloc (.cells #[.slice ka uk.length kcap, .slice ca uc.length ccap] 33) := ⟨_, rfl⟩
    have hs5 : W5.heap.size = w4.heap.size + 1 := by rw [hW5]; simp
    have hb5 : Below w4.heap.size w4 W5 := by rw [hW5]; exact (Below.refl _ _).alloc (Nat.le_refl _) _
    have d2 : W5.heap[w4.heap.size]? = some (.cells #[.slice ka uk.length kcap, .slice ca uc.length ccap] 33 (0, 0)) := by rw [hW5, new_blk]
    have h25 : Below W2.heap.size W2 W5 := H3.out.trans ((hb4.mono (by omega)).trans (hb5.mono (by omega)))
    obtain ⟨q1, q2, q3, q4⟩ := box2 d2
    rw [hW5] at q1 q2 q3 q4
    have H5 := Lib.hid (And.intro h25 d2)
    have HW5 := Lib.hid hW5
    have hlt5 : w4.heap.size < W5.heap.size := by omega
    have HS5 := Lib.hid hs5
    clear hnd hu hb4 hW5 hb5 d2 h25 hs5 x1 x2 x3 x4 y1 y2 y3 y4 z1 z2 z3 z4
    obtain ⟨x1, x2, x3, x4⟩ := box2 (BOX.out W5 H5.out.1).1
    obtain ⟨y1, y2, y3, y4⟩ := box2 (BOX.out W5 H5.out.1).2.1
    obtain ⟨z1, z2, z3, z4⟩ := box2 (BOX.out W5 H5.out.1).2.2.1
    obtain ⟨q1', q2', q3', q4'⟩ := box2 H5.out.2
    rw [HW5.out] at x1 x2 x3 x4 y1 y2 y3 y4 z1 z2 z3 z4
    have HSRC : Hid (∀ W : World, Below W5.heap.size W5 W → IntsAt W (.slice va ks.length vcap) ks) := Lib.hid (fun W hb => IntsIn.at (HK.out.later ((BOX.out W (H5.out.1.trans (hb.mono (by omega)))).2.2.2.1) (Nat.le_refl _)))
    have HL0 : Hid (([] : List Int).length + ks.length ≤ 17592186044416) := Lib.hid (by simp; omega)
    have CEL : Hid (∀ x : World, Below W5.heap.size W5 x → x.cell? ⟨w'.heap.size, 0, none⟩ = some (.slice g1 g2 g3) ∧ x.cell? ⟨w'.heap.size, 1, none⟩ = some (.slice g4 g5 g6) ∧ x.cell? ⟨w'.heap.size + 1, 0, none⟩ = some (.slice va ks.length vcap) ∧ x.cell? ⟨w'.heap.size + 1, 1, none⟩ = some (.int .i64 (N : Int))) := Lib.hid (fun x hb => by
      have hW := BOX.out x (H5.out.1.trans (hb.mono (by omega)))
      obtain ⟨a1, a2, -, -⟩ := box2 hW.1
      obtain ⟨b1, b2, -, -⟩ := box2 hW.2.1
      obtain ⟨c1, c2, c3, c4⟩ := box2 hW.2.2.1
      exact ⟨a1, a2, b1, b2⟩)
    have HCS : Hid (∀ (x0 : World) (v1 v2 : Value), Below W5.heap.size W5 x0 → (fun x : World => x.cell? ⟨w'.heap.size, 0, none⟩ = some (.slice g1 g2 g3) ∧ x.cell? ⟨w'.heap.size, 1, none⟩ = some (.slice g4 g5 g6) ∧ x.cell? ⟨w'.heap.size + 1, 0, none⟩ = some (.slice va ks.length vcap) ∧ x.cell? ⟨w'.heap.size + 1, 1, none⟩ = some (.int .i64 (N : Int))) ((x0.setCell ⟨w'.heap.size + 1 + 1, 0, none⟩ v1).setCell ⟨w'.heap.size + 1 + 1, 1, none⟩ v2)) := Lib.hid (fun x0 v1 v2 hb => by
      have hW := BOX.out x0 (H5.out.1.trans (hb.mono (by omega)))
      have e0 : ((x0.setCell ⟨w'.heap.size + 1 + 1, 0, none⟩ v1).setCell ⟨w'.heap.size + 1 + 1, 1, none⟩ v2).heap[w'.heap.size]? = some (.cells #[.slice g1 g2 g3, .slice g4 g5 g6] 33 (0, 0)) := by rw [set_other _ _ _ _ _ (by omega), set_other _ _ _ _ _ (by omega)]; exact hW.1
      have e1 : ((x0.setCell ⟨w'.heap.size + 1 + 1, 0, none⟩ v1).setCell ⟨w'.heap.size + 1 + 1, 1, none⟩ v2).heap[w'.heap.size + 1]? = some (.cells #[.slice va ks.length vcap, .int .i64 (N : Int)] 28 (0, 0)) := by rw [set_other _ _ _ _ _ (by omega), set_other _ _ _ _ _ (by omega)]; exact hW.2.1
      obtain ⟨a1, a2, -, -⟩ := box2 e0
      obtain ⟨b1, b2, -, -⟩ := box2 e1
      exact ⟨a1, a2, b1, b2⟩)
    by_cases h0 : uc.length = 0
    · have hng : ¬ (0 : Int) < (uc.length : Int) := by omega
      have hr : r = if N + 1 < uk.length then (ks, ((N + 1 : Nat) : Int), true) else Tr.upF t ks := by
        rw [HN.out.1, Tr.nextCur, HN.out.2.1]
        show (if h : N + 1 < uc.length then _ else _) = _
        rw [dif_neg (by omega)]
      by_cases hlt : N + 1 < uk.length
      · have hr2 : r = (ks, ((N + 1 : Nat) : Int), true) := by rw [hr, if_pos hlt]
        have HRR := Lib.hid hr2
        have hwx : IntKind.i64.wrap ((N : Int) + 1) = (N : Int) + 1 := by rw [IntKind.wrap_i64]; omega
        have hlti : (N : Int) + 1 < (uk.length : Int) := by omega
        clear hr hr2 h0
        go_wp2_with fail
        rw [← HW5.out]
        rw [← HW5.out] at x1 x2 x3 x4 y1 y2 y3 y4 z1 z2 z3 z4
        go_region_held3 (fun x => x.cell? ⟨w'.heap.size, 0, none⟩ = some (.slice g1 g2 g3) ∧ x.cell? ⟨w'.heap.size, 1, none⟩ = some (.slice g4 g5 g6) ∧ x.cell? ⟨w'.heap.size + 1, 0, none⟩ = some (.slice va ks.length vcap) ∧ x.cell? ⟨w'.heap.size + 1, 1, none⟩ = some (.int .i64 (N : Int)))
          (first | exact HCS.out _ _ _ H3A.out.2 | exact ⟨x1, x2, y1, y2⟩ | exact HC3.out | go_keep)
          (first
            | ((refine step_append_ints (by rfl) (.tmp 44) (.tmp 46) (by rfl) W5.heap.size (.slice (some ⟨_, 0, none⟩) 0 0) (.slice _ _ _) [] ks (by rfl) (by first | exact made1 W5 | exact made2 W5 _ | exact made3 W5 _) (by rfl) (HSRC.out _ (by first | exact ((Below.refl W5.heap.size W5).alloc (Nat.le_refl _) _).drew | exact (((Below.refl W5.heap.size W5).alloc (Nat.le_refl _) _).alloc (by simp <;> omega) _).drew)) HL0.out (by simp <;> omega) ?_; intro v3 w3' hown3 hbel3 hgrow3 hsh3; obtain ⟨a3, c3, rfl⟩ := hsh3; rw [List.nil_append] at hown3 ⊢; have hb123 : Below W5.heap.size W5 w3' := Below.trans (by first | exact ((Below.refl W5.heap.size W5).alloc (Nat.le_refl _) _).drew | exact (((Below.refl W5.heap.size W5).alloc (Nat.le_refl _) _).alloc (by simp <;> omega) _).drew) hbel3; have H3A := Lib.hid (And.intro hown3 hb123); have HC3 := Lib.hid (CEL.out w3' hb123); obtain ⟨e1, e2, e3, e4⟩ := box2 (BOX.out w3' (H5.out.1.trans (hb123.mono (by omega)))).2.2.1; clear hown3 hbel3 hgrow3 hb123))
            | fail)
        all_goals (
          go_wp2_with fail
          have d := set_blk (o := 1) (.int .i64 ((N : Int) + 1)) (set_blk (o := 0) (.slice a3 ks.length c3) (BOX.out w3' (H5.out.1.trans (H3A.out.2.mono (by omega)))).2.2.1)
          obtain ⟨t1, t2, -, -⟩ := box2 d
          have h3s := H3A.out.2.size
          refine bodyPost_ret (v := .tuple #[.agg #[.slice a3 ks.length c3, .int .i64 ((N : Int) + 1)], .bool true]) (by simp [results, Tryd.results29, go_sem, t1, t2]) rfl ⟨.slice a3 ks.length c3, by rw [HRR.out]; simp, ?_, ?_⟩
          · rw [HRR.out]
            exact (H3A.out.1.only (w' := (w3'.setCell ⟨w'.heap.size + 1 + 1, 0, none⟩ (.slice a3 ks.length c3)).setCell ⟨w'.heap.size + 1 + 1, 1, none⟩ (.int .i64 ((N : Int) + 1))) (C := w3'.heap.size) (r := w'.heap.size + 1 + 1) ⟨rfl, rfl, rfl, by simp, fun k _ hne => by rw [set_other _ _ _ _ _ hne, set_other _ _ _ _ _ hne]⟩ (Nat.le_refl _) (by omega)).lower (by omega)
          · exact ((BOX.out w3' (H5.out.1.trans (H3A.out.2.mono (by omega)))).2.2.2.2.setCell (by show w'.heap.size ≤ w'.heap.size + 1 + 1; omega) _).setCell (by show w'.heap.size ≤ w'.heap.size + 1 + 1; omega) _)
      · have hr2 : r = Tr.upF t ks := by rw [hr, if_neg hlt]
        have HUP := Lib.hid (show Calls Tryd.prog 71 #[.agg #[.slice g1 g2 g3, .slice g4 g5 g6], .slice va ks.length vcap, .bool false] W5 (Told W5 r) by
          rw [hr2]
          exact l8UpF_c ((HT.out.later (BOX.out W5 H5.out.1).2.2.2.1 (Nat.le_refl _)).wider (by omega : B ≤ W5.heap.size)) ((HK.out.later (BOX.out W5 H5.out.1).2.2.2.1 (Nat.le_refl _)).wider (by omega : B ≤ W5.heap.size)) HN.out.2.1 hw (by omega) W5 (Below.refl _ _) (Nat.le_refl _))
        have hwx : IntKind.i64.wrap ((N : Int) + 1) = (N : Int) + 1 := by rw [IntKind.wrap_i64]; omega
        have hlti : ¬ (N : Int) + 1 < (uk.length : Int) := by omega
        clear hr hr2 h0
        go_wp2_with fail
        rw [← HW5.out]
        refine HUP.out.mono ?_
        rintro e w8 ⟨v8, rfl, hown8, hb8⟩
        obtain ⟨a8, c8, rfl⟩ := IntsOwn.shown hown8
        have hs8 := hb8.size
        have h28 : Below W2.heap.size W2 w8 := H5.out.1.trans (hb8.mono (by omega))
        clear x1 x2 x3 x4 y1 y2 y3 y4 z1 z2 z3 z4 q1 q2 q3 q4
        obtain ⟨y1, y2, y3, y4⟩ := box2 (BOX.out w8 h28).2.2.1
        obtain ⟨P8, A8, ok8⟩ := r
        have H8 := Lib.hid (And.intro h28 hown8)
        clear hb8 h28 hown8
        go_wp2_with fail
        have d := set_blk (o := 1) (.int .i64 A8) (set_blk (o := 0) (.slice a8 P8.length c8) (BOX.out w8 H8.out.1).2.2.1)
        obtain ⟨t1, t2, -, -⟩ := box2 d
        refine bodyPost_ret (v := .tuple #[.agg #[.slice a8 P8.length c8, .int .i64 A8], .bool ok8]) (by simp [results, Tryd.results29, go_sem, t1, t2]) rfl ⟨.slice a8 P8.length c8, rfl, ?_, ?_⟩
        · exact (H8.out.2.only (w' := (w8.setCell ⟨w'.heap.size + 1 + 1, 0, none⟩ (.slice a8 P8.length c8)).setCell ⟨w'.heap.size + 1 + 1, 1, none⟩ (.int .i64 A8)) (C := w8.heap.size) (r := w'.heap.size + 1 + 1) ⟨rfl, rfl, rfl, by simp, fun k _ hne => by rw [set_other _ _ _ _ _ hne, set_other _ _ _ _ _ hne]⟩ (Nat.le_refl _) (by omega)).lower (by omega)
        · exact ((BOX.out w8 H8.out.1).2.2.2.2.setCell (by show w'.heap.size ≤ w'.heap.size + 1 + 1; omega) _).setCell (by show w'.heap.size ≤ w'.heap.size + 1 + 1; omega) _
    · have hpos : (0 : Int) < (uc.length : Int) := by omega
      have hcl2 := Tr.Well.inner HN.out.2.2.1 h0
      have hi : N + 1 < uc.length := by omega
      have hwx : IntKind.i64.wrap ((N : Int) + 1) = (N : Int) + 1 := by rw [IntKind.wrap_i64]; omega
      obtain ⟨RP, hRP⟩ : ∃ l, l = ks ++ (((N + 1 : Nat) : Int) : Int) :: Tr.downF uc[N + 1].weight uc[N + 1] := ⟨_, rfl⟩
      obtain ⟨RA, hRA⟩ : ∃ x, x = (0 : Int) := ⟨_, rfl⟩
      have hr : r = (RP, RA, true) := by
        rw [hRP, hRA]
        rw [HN.out.1, Tr.nextCur, HN.out.2.1]
        show (if h : N + 1 < uc.length then _ else _) = _
        rw [dif_pos hi]
      have HRR := Lib.hid hr
      have HDN : Hid (∀ (W : World) (v : Value) (P : List Int), P = ks ++ [(((N + 1 : Nat) : Int) : Int)] → Below W5.heap.size W5 W → IntsOwn W W5.heap.size v P → Calls Tryd.prog 58 #[.agg #[.slice g1 g2 g3, .slice g4 g5 g6], v, .bool false] W (Stands W RP RA)) := Lib.hid (fun W v P hP hb ho => by
        rw [hRP, hRA]
        have hW := BOX.out W (H5.out.1.trans (hb.mono (by omega)))
        have hsz := hb.size
        have h := l8DownF_c (L := P) ((HT.out.later hW.2.2.2.1 (Nat.le_refl _)).wider (by omega : B ≤ W.heap.size)) ho.in (by rw [hP]; exact Tr.nodeTo_snoc HN.out.2.1 hi) hw (by rw [hP]; simp; omega) (HN.out.2.2.1.kid _ hi) W (Below.refl _ _) (Nat.le_refl _)
        subst hP
        simpa using h)
      clear hr hcl2 h0 hRP hRA
      go_wp2_with fail
      rw [← HW5.out]
      rw [← HW5.out] at x1 x2 x3 x4 y1 y2 y3 y4 z1 z2 z3 z4
      obtain ⟨lo, hlo⟩ : ∃ lo, lo = W5.heap.size := ⟨_, rfl⟩
      go_region_held3 (fun x => x.cell? ⟨w'.heap.size, 0, none⟩ = some (.slice g1 g2 g3) ∧ x.cell? ⟨w'.heap.size, 1, none⟩ = some (.slice g4 g5 g6) ∧ x.cell? ⟨w'.heap.size + 1, 0, none⟩ = some (.slice va ks.length vcap) ∧ x.cell? ⟨w'.heap.size + 1, 1, none⟩ = some (.int .i64 (N : Int)))
        (first | exact HCS.out _ _ _ H6.out.1 | exact ⟨x1, x2, y1, y2⟩ | exact HC6.out | exact HC4.out | exact HC3.out | go_keep)
        (first
          | (go_at_call 58; refine (HDN.out _ _ _ H4.out.2.1 H4.out.2.2 H4.out.1).mono ?_; rintro e w6 ⟨v6, rfl, hown6, hb6⟩; obtain ⟨a6, c6, rfl⟩ := IntsOwn.shown hown6; have H6 := Lib.hid (And.intro (H4.out.2.2.trans (hb6.mono H4.out.2.2.size)) hown6); have HC6 := Lib.hid (CEL.out w6 H6.out.1); obtain ⟨e1, e2, e3, e4⟩ := box2 (BOX.out w6 (H5.out.1.trans (H6.out.1.mono (by omega)))).2.2.1; clear hb6 hown6)
          | ((refine step_append_ints (by rfl) (.tmp 29) (.tmp 33) (by rfl) W5.heap.size (.slice a3 L3.length c3) (.slice (some ⟨_, 0, none⟩) 1 1) L3 [((N : Int) + 1)] (by rfl) (by first | exact H3A.out.1 | exact IntsOwn.alloc' H3A.out.1 _) (by rfl) (by first | exact IntsAt.one _ ((N : Int) + 1) | exact key1 H3A.out.2.1 (by simp [Value.ownBlock]) | exact key2 H3A.out.2.1 (by simp [Value.ownBlock])) (by have := H3A.out.2.2.1; rw [← this]; simp; omega) (by have := H3A.out.2.2.2.size; first | exact this | (simp; omega)) ?_; intro v4 w4' hown4 hbel4 hgrow4 hsh4; obtain ⟨a4, c4, rfl⟩ := hsh4; generalize hL4 : L3 ++ [((N : Int) + 1)] = L4 at hown4 ⊢; have hb124 : Below W5.heap.size W5 w4' := (by first | exact H3A.out.2.2.2.trans hbel4 | exact (H3A.out.2.2.2.alloc (H3A.out.2.2.2.size) _).trans hbel4); have hp4 : L4 = ks ++ [(((N + 1 : Nat) : Int) : Int)] := (by rw [← hL4, ← H3A.out.2.2.1]; simp); have H4 := Lib.hid (And.intro hown4 (And.intro hp4 hb124)); have HC4 := Lib.hid (CEL.out w4' hb124); clear hown4 hbel4 hgrow4 hL4 hb124 hp4))
          | ((refine step_append_ints (by rfl) (.tmp 26) (.tmp 28) (by rfl) W5.heap.size (.slice (some ⟨_, 0, none⟩) 0 0) (.slice _ _ _) [] ks (by rfl) (by first | exact made1 W5 | exact made2 W5 _ | exact made3 W5 _) (by rfl) (HSRC.out _ (by first | exact ((Below.refl W5.heap.size W5).alloc (Nat.le_refl _) _).drew | exact (((Below.refl W5.heap.size W5).alloc (Nat.le_refl _) _).alloc (by simp <;> omega) _).drew)) HL0.out (by simp <;> omega) ?_; intro v3 w3' hown3 hbel3 hgrow3 hsh3; obtain ⟨a3, c3, rfl⟩ := hsh3; generalize hL3 : ([] : List Int) ++ ks = L3 at hown3 ⊢; have hb123 : Below W5.heap.size W5 w3' := Below.trans (by first | exact ((Below.refl W5.heap.size W5).alloc (Nat.le_refl _) _).drew | exact (((Below.refl W5.heap.size W5).alloc (Nat.le_refl _) _).alloc (by simp <;> omega) _).drew) hbel3; have H3A := Lib.hid (And.intro hown3 (And.intro hgrow3 (And.intro hL3 hb123))); have HC3 := Lib.hid (CEL.out w3' hb123); clear hown3 hbel3 hgrow3 hL3 hb123))
          | fail)
      all_goals (
        go_wp2_with fail
        have d := set_blk (o := 1) (.int .i64 RA) (set_blk (o := 0) (.slice a6 RP.length c6) (BOX.out w6 (H5.out.1.trans (H6.out.1.mono (by omega)))).2.2.1)
        obtain ⟨t1, t2, -, -⟩ := box2 d
        have hs6 := H6.out.1.size
        have h4s := H4.out.2.2.size
        refine bodyPost_ret (v := .tuple #[.agg #[.slice a6 RP.length c6, .int .i64 RA], .bool true]) (by simp [results, Tryd.results29, go_sem, t1, t2]) rfl ⟨.slice a6 RP.length c6, by rw [HRR.out], ?_, ?_⟩
        · rw [HRR.out]
          exact (H6.out.2.only (w' := (w6.setCell ⟨w'.heap.size + 1 + 1, 0, none⟩ (.slice a6 RP.length c6)).setCell ⟨w'.heap.size + 1 + 1, 1, none⟩ (.int .i64 RA)) (C := w6.heap.size) (r := w'.heap.size + 1 + 1) ⟨rfl, rfl, rfl, by simp, fun k _ hne => by rw [set_other _ _ _ _ _ hne, set_other _ _ _ _ _ hne]⟩ (Nat.le_refl _) (by omega)).lower (by omega)
        · exact ((BOX.out w6 (H5.out.1.trans (H6.out.1.mono (by omega)))).2.2.2.2.setCell (by show w'.heap.size ≤ w'.heap.size + 1 + 1; omega) _).setCell (by show w'.heap.size ≤ w'.heap.size + 1 + 1; omega) _)

set_option maxHeartbeats 4000000 in
set_option maxRecDepth 100000 in
theorem specBackward_c {w : World} {B : Nat} {kv cv v : Value} {t : Tr} {ks : List Int} (ht : TreeIn w B kv cv t) (hw : t.weight ≤ 1048576) (hk : IntsIn w B v ks) (a : Int) (w' : World) (hbw : Below B w w') (hB : B ≤ w'.heap.size) :
    Calls Tryd.prog 32 #[.agg #[kv, cv], .agg #[v, .int .i64 a]] w' (Told w' (Tr.fromB t ks a (fun N => Tr.prevCur t ks N))) := by
  obtain ⟨r, hr⟩ : ∃ r, r = Tr.fromB t ks a (fun N => Tr.prevCur t ks N) := ⟨_, rfl⟩
  rw [← hr]
  have HR := Lib.hid hr
  clear hr
  have HT := Lib.hid ht
  have HK := Lib.hid hk
  obtain ⟨g1, g2, g3, g4, g5, g6, rfl, rfl⟩ := ht.slices
  obtain ⟨va, vcap, rfl⟩ := hk.shown
  obtain ⟨W2, hW2⟩ : ∃ W2, W2 = ((w'.alloc (.cells #[.slice g1 g2 g3, .slice g4 g5 g6] 33)).alloc (.cells #[.slice va ks.length vcap, .int .i64 a] 28)).alloc (.cells #[.slice none 0 0, .int .i64 0] 28) := ⟨_, rfl⟩
  have hb2 : Below w'.heap.size w' W2 := by rw [hW2]; exact (((Below.refl _ _).alloc (Nat.le_refl _) _).alloc (by simp) _).alloc (by simp; omega) _
  have hs2 : W2.heap.size = w'.heap.size + 3 := by rw [hW2]; simp
  have k0 : W2.heap[w'.heap.size]? = some (.cells #[.slice g1 g2 g3, .slice g4 g5 g6] 33 (0, 0)) := by rw [hW2, old_blk _ _ _ (by simp; omega), old_blk _ _ _ (by simp), new_blk]
  have k1 : W2.heap[w'.heap.size + 1]? = some (.cells #[.slice va ks.length vcap, .int .i64 a] 28 (0, 0)) := by
    rw [hW2, old_blk _ _ _ (by simp), show w'.heap.size + 1 = (w'.alloc (.cells #[.slice g1 g2 g3, .slice g4 g5 g6] 33)).heap.size by simp, new_blk]
  have k2 : W2.heap[w'.heap.size + 1 + 1]? = some (.cells #[.slice none 0 0, .int .i64 0] 28 (0, 0)) := by
    rw [hW2, show w'.heap.size + 1 + 1 = ((w'.alloc (.cells #[.slice g1 g2 g3, .slice g4 g5 g6] 33)).alloc (.cells #[.slice va ks.length vcap, .int .i64 a] 28)).heap.size by simp, new_blk]
  have k0x := k0
  have k1x := k1
  rw [hW2] at k0x k1x
  obtain ⟨x1, x2, x3, x4⟩ := box2 k0x
  obtain ⟨y1, y2, y3, y4⟩ := box2 k1x
  have hlt2 : w'.heap.size + 1 + 1 < W2.heap.size := by omega
  have BOX : Hid (∀ wx : World, Below W2.heap.size W2 wx → wx.heap[w'.heap.size]? = some (.cells #[.slice g1 g2 g3, .slice g4 g5 g6] 33 (0, 0)) ∧ wx.heap[w'.heap.size + 1]? = some (.cells #[.slice va ks.length vcap, .int .i64 a] 28 (0, 0)) ∧ wx.heap[w'.heap.size + 1 + 1]? = some (.cells #[.slice none 0 0, .int .i64 0] 28 (0, 0)) ∧ Below B w wx ∧ Below w'.heap.size w' wx) :=
    Lib.hid (fun wx hx => ⟨(hx.block _ (by omega)).trans k0, (hx.block _ (by omega)).trans k1, (hx.block _ hlt2).trans k2, hbw.trans ((hb2.trans (hx.mono (by omega))).mono hB), hb2.trans (hx.mono (by omega))⟩)
  have hBle : B ≤ W2.heap.size := by omega
  have HW2 := Lib.hid hW2
  clear ht hk hbw hW2 hb2 hs2 k0 k1 k2 k0x k1x
  go_enter Tryd.func32, Tryd.ntmps32
  go_wp2_with fail
  rw [← HW2.out]
  refine (specCursorValid_c HT.out hw HK.out a W2 (BOX.out _ (Below.refl _ _)).2.2.2.1 hBle).mono ?_
  rintro e w3 ⟨rfl, hb3⟩
  have hs3 := hb3.size
  clear x1 x2 x3 x4 y1 y2 y3 y4
  obtain ⟨x1, x2, x3, x4⟩ := box2 (BOX.out w3 hb3).1
  obtain ⟨y1, y2, y3, y4⟩ := box2 (BOX.out w3 hb3).2.1
  obtain ⟨z1, z2, z3, z4⟩ := box2 (BOX.out w3 hb3).2.2.1
  have H3 := Lib.hid hb3
  clear hb3
  cases hv : Tr.curB t ks a with
  | false =>
    have hr : r = ([], 0, false) := by rw [HR.out, Tr.fromB, if_neg (by rw [hv]; simp)]
    have HN := Lib.hid hr
    clear hr hv
    go_wp2_with fail
    have d := set_blk (o := 1) (.int .i64 0) (set_blk (o := 0) (.slice none 0 0) (BOX.out w3 H3.out).2.2.1)
    obtain ⟨t1, t2, -, -⟩ := box2 d
    refine bodyPost_ret (v := .tuple #[.agg #[.slice none 0 0, .int .i64 0], .bool false]) (by simp [results, Tryd.results32, go_sem, t1, t2]) rfl ?_
    rw [HN.out]
    exact Told.none (((BOX.out w3 H3.out).2.2.2.2.setCell (by show w'.heap.size ≤ w'.heap.size + 1 + 1; omega) _).setCell (by show w'.heap.size ≤ w'.heap.size + 1 + 1; omega) _)
  | true =>
    obtain ⟨uk, uc, hn⟩ : ∃ uk uc, Tr.nodeTo ks t = some (.mk uk uc) := by
      cases hn : Tr.nodeTo ks t with
      | none => unfold Tr.curB at hv; rw [hn] at hv; cases hv
      | some u => obtain ⟨uk, uc⟩ := u; exact ⟨uk, uc, rfl⟩
    obtain ⟨-, ha1, ha2, hsb⟩ := curK_at hv hn
    obtain ⟨N, rfl⟩ : ∃ N : Nat, a = N := ⟨a.toNat, by omega⟩
    have hN : N < uk.length := by omega
    have hfew := Tr.nodeTo_few hsb hn
    have hwell := Tr.nodeTo_well ks (Tr.Well.of_some hsb) hn
    have hr : r = Tr.prevCur t ks N := by rw [HR.out, Tr.fromB, if_pos hv, Int.toNat_natCast]
    have HN := Lib.hid (And.intro hr (And.intro hn (And.intro hwell hsb)))
    clear hr hn hwell hv hsb ha1 ha2
    go_wp2_with fail
    refine (l8Node_c ((HT.out.later (BOX.out w3 H3.out).2.2.2.1 (Nat.le_refl _)).wider (by omega : B ≤ w3.heap.size)) ((HK.out.later (BOX.out w3 H3.out).2.2.2.1 (Nat.le_refl _)).wider (by omega : B ≤ w3.heap.size)) w3 (Below.refl _ _) (Nat.le_refl _)).mono ?_
    rintro e w4 ⟨hno, hb4⟩
    rcases hno with ⟨u1, ku, cu, hnd, rfl, hu⟩ | ⟨hnone, rfl⟩
    case inr => rw [HN.out.2.1] at hnone; cases hnone
    obtain rfl : u1 = .mk uk uc := by rw [HN.out.2.1] at hnd; exact (Option.some.inj hnd).symm
    have hs4 := hb4.size
    obtain ⟨ca, ccap, kvs, cvs, rfl, hik, hcl, hcc, -, -⟩ := hu.parts
    obtain ⟨ka, kcap, rfl, hk1, hk2, -⟩ := hik
    unfold maxLen at hk2 hcc
    obtain ⟨W5, hW5⟩ : ∃ W5, W5 = w4.alloc (.cells #[.slice ka uk.length kcap, .slice ca uc.length ccap] 33) := ⟨_, rfl⟩
    have hs5 : W5.heap.size = w4.heap.size + 1 := by rw [hW5]; simp
    have hb5 : Below w4.heap.size w4 W5 := by rw [hW5]; exact (Below.refl _ _).alloc (Nat.le_refl _) _
    have d2 : W5.heap[w4.heap.size]? = some (.cells #[.slice ka uk.length kcap, .slice ca uc.length ccap] 33 (0, 0)) := by rw [hW5, new_blk]
    have h25 : Below W2.heap.size W2 W5 := H3.out.trans ((hb4.mono (by omega)).trans (hb5.mono (by omega)))
    obtain ⟨q1, q2, q3, q4⟩ := box2 d2
    rw [hW5] at q1 q2 q3 q4
    have H5 := Lib.hid (And.intro h25 d2)
    have HW5 := Lib.hid hW5
    have hlt5 : w4.heap.size < W5.heap.size := by omega
    have HS5 := Lib.hid hs5
    clear hnd hu hb4 hW5 hb5 d2 h25 hs5 x1 x2 x3 x4 y1 y2 y3 y4 z1 z2 z3 z4
    obtain ⟨x1, x2, x3, x4⟩ := box2 (BOX.out W5 H5.out.1).1
    obtain ⟨y1, y2, y3, y4⟩ := box2 (BOX.out W5 H5.out.1).2.1
    obtain ⟨z1, z2, z3, z4⟩ := box2 (BOX.out W5 H5.out.1).2.2.1
    obtain ⟨q1', q2', q3', q4'⟩ := box2 H5.out.2
    rw [HW5.out] at x1 x2 x3 x4 y1 y2 y3 y4 z1 z2 z3 z4
    have HSRC : Hid (∀ W : World, Below W5.heap.size W5 W → IntsAt W (.slice va ks.length vcap) ks) := Lib.hid (fun W hb => IntsIn.at (HK.out.later ((BOX.out W (H5.out.1.trans (hb.mono (by omega)))).2.2.2.1) (Nat.le_refl _)))
    have HL0 : Hid (([] : List Int).length + ks.length ≤ 17592186044416) := Lib.hid (by simp; omega)
    have CEL : Hid (∀ x : World, Below W5.heap.size W5 x → x.cell? ⟨w'.heap.size, 0, none⟩ = some (.slice g1 g2 g3) ∧ x.cell? ⟨w'.heap.size, 1, none⟩ = some (.slice g4 g5 g6) ∧ x.cell? ⟨w'.heap.size + 1, 0, none⟩ = some (.slice va ks.length vcap) ∧ x.cell? ⟨w'.heap.size + 1, 1, none⟩ = some (.int .i64 (N : Int))) := Lib.hid (fun x hb => by
      have hW := BOX.out x (H5.out.1.trans (hb.mono (by omega)))
      obtain ⟨a1, a2, -, -⟩ := box2 hW.1
      obtain ⟨b1, b2, -, -⟩ := box2 hW.2.1
      obtain ⟨c1, c2, c3, c4⟩ := box2 hW.2.2.1
      exact ⟨a1, a2, b1, b2⟩)
    have HCS : Hid (∀ (x0 : World) (v1 v2 : Value), Below W5.heap.size W5 x0 → (fun x : World => x.cell? ⟨w'.heap.size, 0, none⟩ = some (.slice g1 g2 g3) ∧ x.cell? ⟨w'.heap.size, 1, none⟩ = some (.slice g4 g5 g6) ∧ x.cell? ⟨w'.heap.size + 1, 0, none⟩ = some (.slice va ks.length vcap) ∧ x.cell? ⟨w'.heap.size + 1, 1, none⟩ = some (.int .i64 (N : Int))) ((x0.setCell ⟨w'.heap.size + 1 + 1, 0, none⟩ v1).setCell ⟨w'.heap.size + 1 + 1, 1, none⟩ v2)) := Lib.hid (fun x0 v1 v2 hb => by
      have hW := BOX.out x0 (H5.out.1.trans (hb.mono (by omega)))
      have e0 : ((x0.setCell ⟨w'.heap.size + 1 + 1, 0, none⟩ v1).setCell ⟨w'.heap.size + 1 + 1, 1, none⟩ v2).heap[w'.heap.size]? = some (.cells #[.slice g1 g2 g3, .slice g4 g5 g6] 33 (0, 0)) := by rw [set_other _ _ _ _ _ (by omega), set_other _ _ _ _ _ (by omega)]; exact hW.1
      have e1 : ((x0.setCell ⟨w'.heap.size + 1 + 1, 0, none⟩ v1).setCell ⟨w'.heap.size + 1 + 1, 1, none⟩ v2).heap[w'.heap.size + 1]? = some (.cells #[.slice va ks.length vcap, .int .i64 (N : Int)] 28 (0, 0)) := by rw [set_other _ _ _ _ _ (by omega), set_other _ _ _ _ _ (by omega)]; exact hW.2.1
      obtain ⟨a1, a2, -, -⟩ := box2 e0
      obtain ⟨b1, b2, -, -⟩ := box2 e1
      exact ⟨a1, a2, b1, b2⟩)
    by_cases h0 : uc.length = 0
    · have hng : ¬ (0 : Int) < (uc.length : Int) := by omega
      have hr : r = if 0 < N then (ks, (N : Int) - 1, true) else Tr.upB ks := by
        rw [HN.out.1, Tr.prevCur, HN.out.2.1]
        show (if h : N < uc.length then _ else _) = _
        rw [dif_neg (by omega)]
      by_cases hlt : 0 < N
      · have hr2 : r = (ks, (N : Int) - 1, true) := by rw [hr, if_pos hlt]
        have HRR := Lib.hid hr2
        have hwx : IntKind.i64.wrap ((N : Int) - 1) = (N : Int) - 1 := by rw [IntKind.wrap_i64]; omega
        have hlti : (0 : Int) < (N : Int) := by omega
        clear hr hr2 h0
        go_wp2_with fail
        rw [← HW5.out]
        rw [← HW5.out] at x1 x2 x3 x4 y1 y2 y3 y4 z1 z2 z3 z4
        go_region_held3 (fun x => x.cell? ⟨w'.heap.size, 0, none⟩ = some (.slice g1 g2 g3) ∧ x.cell? ⟨w'.heap.size, 1, none⟩ = some (.slice g4 g5 g6) ∧ x.cell? ⟨w'.heap.size + 1, 0, none⟩ = some (.slice va ks.length vcap) ∧ x.cell? ⟨w'.heap.size + 1, 1, none⟩ = some (.int .i64 (N : Int)))
          (first | exact HCS.out _ _ _ H3A.out.2 | exact ⟨x1, x2, y1, y2⟩ | exact HC3.out | go_keep)
          (first
            | ((refine step_append_ints (by rfl) (.tmp 39) (.tmp 41) (by rfl) W5.heap.size (.slice (some ⟨_, 0, none⟩) 0 0) (.slice _ _ _) [] ks (by rfl) (by first | exact made1 W5 | exact made2 W5 _ | exact made3 W5 _) (by rfl) (HSRC.out _ (by first | exact ((Below.refl W5.heap.size W5).alloc (Nat.le_refl _) _).drew | exact (((Below.refl W5.heap.size W5).alloc (Nat.le_refl _) _).alloc (by simp <;> omega) _).drew)) HL0.out (by simp <;> omega) ?_; intro v3 w3' hown3 hbel3 hgrow3 hsh3; obtain ⟨a3, c3, rfl⟩ := hsh3; rw [List.nil_append] at hown3 ⊢; have hb123 : Below W5.heap.size W5 w3' := Below.trans (by first | exact ((Below.refl W5.heap.size W5).alloc (Nat.le_refl _) _).drew | exact (((Below.refl W5.heap.size W5).alloc (Nat.le_refl _) _).alloc (by simp <;> omega) _).drew) hbel3; have H3A := Lib.hid (And.intro hown3 hb123); have HC3 := Lib.hid (CEL.out w3' hb123); obtain ⟨e1, e2, e3, e4⟩ := box2 (BOX.out w3' (H5.out.1.trans (hb123.mono (by omega)))).2.2.1; clear hown3 hbel3 hgrow3 hb123))
            | fail)
        all_goals (
          go_wp2_with fail
          have d := set_blk (o := 1) (.int .i64 ((N : Int) - 1)) (set_blk (o := 0) (.slice a3 ks.length c3) (BOX.out w3' (H5.out.1.trans (H3A.out.2.mono (by omega)))).2.2.1)
          obtain ⟨t1, t2, -, -⟩ := box2 d
          have h3s := H3A.out.2.size
          refine bodyPost_ret (v := .tuple #[.agg #[.slice a3 ks.length c3, .int .i64 ((N : Int) - 1)], .bool true]) (by simp [results, Tryd.results32, go_sem, t1, t2]) rfl ⟨.slice a3 ks.length c3, by rw [HRR.out], ?_, ?_⟩
          · rw [HRR.out]
            exact (H3A.out.1.only (w' := (w3'.setCell ⟨w'.heap.size + 1 + 1, 0, none⟩ (.slice a3 ks.length c3)).setCell ⟨w'.heap.size + 1 + 1, 1, none⟩ (.int .i64 ((N : Int) - 1))) (C := w3'.heap.size) (r := w'.heap.size + 1 + 1) ⟨rfl, rfl, rfl, by simp, fun k _ hne => by rw [set_other _ _ _ _ _ hne, set_other _ _ _ _ _ hne]⟩ (Nat.le_refl _) (by omega)).lower (by omega)
          · exact ((BOX.out w3' (H5.out.1.trans (H3A.out.2.mono (by omega)))).2.2.2.2.setCell (by show w'.heap.size ≤ w'.heap.size + 1 + 1; omega) _).setCell (by show w'.heap.size ≤ w'.heap.size + 1 + 1; omega) _)
      · have hr2 : r = Tr.upB ks := by rw [hr, if_neg hlt]
        have HUP := Lib.hid (show Calls Tryd.prog 71 #[.agg #[.slice g1 g2 g3, .slice g4 g5 g6], .slice va ks.length vcap, .bool true] W5 (Told W5 r) by
          rw [hr2]
          exact l8UpB_c ((HT.out.later (BOX.out W5 H5.out.1).2.2.2.1 (Nat.le_refl _)).wider (by omega : B ≤ W5.heap.size)) ((HK.out.later (BOX.out W5 H5.out.1).2.2.2.1 (Nat.le_refl _)).wider (by omega : B ≤ W5.heap.size)) HN.out.2.1 hw (by omega) W5 (Below.refl _ _) (Nat.le_refl _))
        have hlti : ¬ (0 : Int) < (N : Int) := by omega
        clear hr hr2 h0
        go_wp2_with fail
        rw [← HW5.out]
        refine HUP.out.mono ?_
        rintro e w8 ⟨v8, rfl, hown8, hb8⟩
        obtain ⟨a8, c8, rfl⟩ := IntsOwn.shown hown8
        have hs8 := hb8.size
        have h28 : Below W2.heap.size W2 w8 := H5.out.1.trans (hb8.mono (by omega))
        clear x1 x2 x3 x4 y1 y2 y3 y4 z1 z2 z3 z4 q1 q2 q3 q4
        obtain ⟨y1, y2, y3, y4⟩ := box2 (BOX.out w8 h28).2.2.1
        obtain ⟨P8, A8, ok8⟩ := r
        have H8 := Lib.hid (And.intro h28 hown8)
        clear hb8 h28 hown8
        go_wp2_with fail
        have d := set_blk (o := 1) (.int .i64 A8) (set_blk (o := 0) (.slice a8 P8.length c8) (BOX.out w8 H8.out.1).2.2.1)
        obtain ⟨t1, t2, -, -⟩ := box2 d
        refine bodyPost_ret (v := .tuple #[.agg #[.slice a8 P8.length c8, .int .i64 A8], .bool ok8]) (by simp [results, Tryd.results32, go_sem, t1, t2]) rfl ⟨.slice a8 P8.length c8, rfl, ?_, ?_⟩
        · exact (H8.out.2.only (w' := (w8.setCell ⟨w'.heap.size + 1 + 1, 0, none⟩ (.slice a8 P8.length c8)).setCell ⟨w'.heap.size + 1 + 1, 1, none⟩ (.int .i64 A8)) (C := w8.heap.size) (r := w'.heap.size + 1 + 1) ⟨rfl, rfl, rfl, by simp, fun k _ hne => by rw [set_other _ _ _ _ _ hne, set_other _ _ _ _ _ hne]⟩ (Nat.le_refl _) (by omega)).lower (by omega)
        · exact ((BOX.out w8 H8.out.1).2.2.2.2.setCell (by show w'.heap.size ≤ w'.heap.size + 1 + 1; omega) _).setCell (by show w'.heap.size ≤ w'.heap.size + 1 + 1; omega) _
    · have hpos : (0 : Int) < (uc.length : Int) := by omega
      have hcl2 := Tr.Well.inner HN.out.2.2.1 h0
      have hi : N < uc.length := by omega
      obtain ⟨RP, hRP⟩ : ∃ l, l = ks ++ (N : Int) :: (Tr.downL uc[N].weight uc[N]).1 := ⟨_, rfl⟩
      obtain ⟨RA, hRA⟩ : ∃ x, x = ((Tr.downL uc[N].weight uc[N]).2 : Int) - 1 := ⟨_, rfl⟩
      have hr : r = (RP, RA, true) := by
        rw [hRP, hRA]
        rw [HN.out.1, Tr.prevCur, HN.out.2.1]
        show (if h : N < uc.length then _ else _) = _
        rw [dif_pos hi]
      have HRR := Lib.hid hr
      have HDN : Hid (∀ (W : World) (v : Value) (P : List Int), P = ks ++ [(N : Int)] → Below W5.heap.size W5 W → IntsOwn W W5.heap.size v P → Calls Tryd.prog 58 #[.agg #[.slice g1 g2 g3, .slice g4 g5 g6], v, .bool true] W (Stands W RP RA)) := Lib.hid (fun W v P hP hb ho => by
        rw [hRP, hRA]
        have hW := BOX.out W (H5.out.1.trans (hb.mono (by omega)))
        have hsz := hb.size
        have h := l8DownB_c (L := P) ((HT.out.later hW.2.2.2.1 (Nat.le_refl _)).wider (by omega : B ≤ W.heap.size)) ho.in (by rw [hP]; exact Tr.nodeTo_snoc HN.out.2.1 hi) hw (by rw [hP]; simp; omega) (HN.out.2.2.1.kid _ hi) W (Below.refl _ _) (Nat.le_refl _)
        subst hP
        simpa using h)
      clear hr hcl2 h0 hRP hRA
      go_wp2_with fail
      rw [← HW5.out]
      rw [← HW5.out] at x1 x2 x3 x4 y1 y2 y3 y4 z1 z2 z3 z4
      obtain ⟨lo, hlo⟩ : ∃ lo, lo = W5.heap.size := ⟨_, rfl⟩
      go_region_held3 (fun x => x.cell? ⟨w'.heap.size, 0, none⟩ = some (.slice g1 g2 g3) ∧ x.cell? ⟨w'.heap.size, 1, none⟩ = some (.slice g4 g5 g6) ∧ x.cell? ⟨w'.heap.size + 1, 0, none⟩ = some (.slice va ks.length vcap) ∧ x.cell? ⟨w'.heap.size + 1, 1, none⟩ = some (.int .i64 (N : Int)))
        (first | exact HCS.out _ _ _ H6.out.1 | exact ⟨x1, x2, y1, y2⟩ | exact HC6.out | exact HC4.out | exact HC3.out | go_keep)
        (first
          | (go_at_call 58; refine (HDN.out _ _ _ H4.out.2.1 H4.out.2.2 H4.out.1).mono ?_; rintro e w6 ⟨v6, rfl, hown6, hb6⟩; obtain ⟨a6, c6, rfl⟩ := IntsOwn.shown hown6; have H6 := Lib.hid (And.intro (H4.out.2.2.trans (hb6.mono H4.out.2.2.size)) hown6); have HC6 := Lib.hid (CEL.out w6 H6.out.1); obtain ⟨e1, e2, e3, e4⟩ := box2 (BOX.out w6 (H5.out.1.trans (H6.out.1.mono (by omega)))).2.2.1; clear hb6 hown6)
          | ((refine step_append_ints (by rfl) (.tmp 29) (.tmp 32) (by rfl) W5.heap.size (.slice a3 L3.length c3) (.slice (some ⟨_, 0, none⟩) 1 1) L3 [(N : Int)] (by rfl) (by first | exact H3A.out.1 | exact IntsOwn.alloc' H3A.out.1 _) (by rfl) (by first | exact IntsAt.one _ (N : Int) | exact key1 H3A.out.2.1 (by simp [Value.ownBlock]) | exact key2 H3A.out.2.1 (by simp [Value.ownBlock])) (by have := H3A.out.2.2.1; rw [← this]; simp; omega) (by have := H3A.out.2.2.2.size; first | exact this | (simp; omega)) ?_; intro v4 w4' hown4 hbel4 hgrow4 hsh4; obtain ⟨a4, c4, rfl⟩ := hsh4; generalize hL4 : L3 ++ [(N : Int)] = L4 at hown4 ⊢; have hb124 : Below W5.heap.size W5 w4' := (by first | exact H3A.out.2.2.2.trans hbel4 | exact (H3A.out.2.2.2.alloc (H3A.out.2.2.2.size) _).trans hbel4); have hp4 : L4 = ks ++ [(N : Int)] := (by rw [← hL4, ← H3A.out.2.2.1]; simp); have H4 := Lib.hid (And.intro hown4 (And.intro hp4 hb124)); have HC4 := Lib.hid (CEL.out w4' hb124); clear hown4 hbel4 hgrow4 hL4 hb124 hp4))
          | ((refine step_append_ints (by rfl) (.tmp 26) (.tmp 28) (by rfl) W5.heap.size (.slice (some ⟨_, 0, none⟩) 0 0) (.slice _ _ _) [] ks (by rfl) (by first | exact made1 W5 | exact made2 W5 _ | exact made3 W5 _) (by rfl) (HSRC.out _ (by first | exact ((Below.refl W5.heap.size W5).alloc (Nat.le_refl _) _).drew | exact (((Below.refl W5.heap.size W5).alloc (Nat.le_refl _) _).alloc (by simp <;> omega) _).drew)) HL0.out (by simp <;> omega) ?_; intro v3 w3' hown3 hbel3 hgrow3 hsh3; obtain ⟨a3, c3, rfl⟩ := hsh3; generalize hL3 : ([] : List Int) ++ ks = L3 at hown3 ⊢; have hb123 : Below W5.heap.size W5 w3' := Below.trans (by first | exact ((Below.refl W5.heap.size W5).alloc (Nat.le_refl _) _).drew | exact (((Below.refl W5.heap.size W5).alloc (Nat.le_refl _) _).alloc (by simp <;> omega) _).drew) hbel3; have H3A := Lib.hid (And.intro hown3 (And.intro hgrow3 (And.intro hL3 hb123))); have HC3 := Lib.hid (CEL.out w3' hb123); clear hown3 hbel3 hgrow3 hL3 hb123))
          | fail)
      all_goals (
        go_wp2_with fail
        have d := set_blk (o := 1) (.int .i64 RA) (set_blk (o := 0) (.slice a6 RP.length c6) (BOX.out w6 (H5.out.1.trans (H6.out.1.mono (by omega)))).2.2.1)
        obtain ⟨t1, t2, -, -⟩ := box2 d
        have hs6 := H6.out.1.size
        have h4s := H4.out.2.2.size
        refine bodyPost_ret (v := .tuple #[.agg #[.slice a6 RP.length c6, .int .i64 RA], .bool true]) (by simp [results, Tryd.results32, go_sem, t1, t2]) rfl ⟨.slice a6 RP.length c6, by rw [HRR.out], ?_, ?_⟩
        · rw [HRR.out]
          exact (H6.out.2.only (w' := (w6.setCell ⟨w'.heap.size + 1 + 1, 0, none⟩ (.slice a6 RP.length c6)).setCell ⟨w'.heap.size + 1 + 1, 1, none⟩ (.int .i64 RA)) (C := w6.heap.size) (r := w'.heap.size + 1 + 1) ⟨rfl, rfl, rfl, by simp, fun k _ hne => by rw [set_other _ _ _ _ _ hne, set_other _ _ _ _ _ hne]⟩ (Nat.le_refl _) (by omega)).lower (by omega)
        · exact ((BOX.out w6 (H5.out.1.trans (H6.out.1.mono (by omega)))).2.2.2.2.setCell (by show w'.heap.size ≤ w'.heap.size + 1 + 1; omega) _).setCell (by show w'.heap.size ≤ w'.heap.size + 1 + 1; omega) _)
end Go.Proofs.YticfkfjijnfcbaaDoor
