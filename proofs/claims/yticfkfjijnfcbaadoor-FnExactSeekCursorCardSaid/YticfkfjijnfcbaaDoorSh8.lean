/- Inserting: a tree whose nodes are as a valid tree's keeps such nodes. -/
import Derived.Test.YticfkfjijnfcbaaDoorProg
import Derived.Test.YticfkfjijnfcbaaDoorSh0
import Derived.Test.YticfkfjijnfcbaaDoorSh1
import Derived.Test.YticfkfjijnfcbaaDoorSh3
import Derived.Test.YticfkfjijnfcbaaDoorSh7
import Derived.Test.YticfkfjijnfcbaaDoorSh2
import Derived.Test.YticfkfjijnfcbaaDoorSh4

/- The node to which a path leads: plain data, and the model's l8Node. -/
namespace Go.Proofs.YticfkfjijnfcbaaDoor
open Go.RowKit

/-- The node to which a path leads, if there is one. -/
def Tr.nodeTo : List Int → Tr → Option Tr
  | [], t => some t
  | i :: p, .mk _ c => if 0 ≤ i ∧ i < c.length then nodeTo p (c.getD i.toNat (.mk [] [])) else none

theorem Tr.nodeTo_drop (ks : List Int) {j : Nat} (h : j < ks.length) (k : List Int) (c : List Tr) : Tr.nodeTo (ks.drop j) (.mk k c) = if 0 ≤ ks.getD j 0 ∧ ks.getD j 0 < c.length then Tr.nodeTo (ks.drop (j + 1)) (c.getD (ks.getD j 0).toNat (.mk [] [])) else none := by
  have e : ks.getD j 0 = ks[j] := by simp [List.getD_eq_getElem?_getD, h]
  rw [List.drop_eq_getElem_cons h, Tr.nodeTo, e]

/-- What l8Node returns. -/
def Nodes (w : World) (B : Nat) (ks : List Int) (t : Tr) (e : Ending) : Prop :=
  (∃ u ku cu, Tr.nodeTo ks t = some u ∧ e = .returned (.tuple #[.agg #[ku, cu], .bool true]) ∧ TreeIn w B ku cu u) ∨
  (Tr.nodeTo ks t = none ∧ e = .returned (.tuple #[.agg #[.slice none 0 0, .slice none 0 0], .bool false]))

set_option maxHeartbeats 2000000 in
set_option maxRecDepth 100000 in
theorem l8Node_c {w : World} {B : Nat} {kv cv v : Value} {t : Tr} {ks : List Int} (ht : TreeIn w B kv cv t) (hk : IntsIn w B v ks) (w' : World) (hbw : Below B w w') (hB : B ≤ w'.heap.size) :
    Calls Tryd.prog 69 #[.agg #[kv, cv], v] w' fun e w'' => Nodes w B ks t e ∧ Below w'.heap.size w' w'' := by
  have HT := Lib.hid ht
  obtain ⟨g1, g2, g3, g4, g5, g6, rfl, rfl⟩ := ht.slices
  obtain ⟨va, vcap, rfl, hv1, hv2, -, h3⟩ := hk
  unfold maxLen at hv2
  have HK := Lib.hid h3
  have HBW := Lib.hid hbw
  obtain ⟨W2, hW2⟩ : ∃ W2, W2 = (w'.alloc (.cells #[.slice g1 g2 g3, .slice g4 g5 g6] 33)).alloc (.cells #[.slice none 0 0, .slice none 0 0] 33) := ⟨_, rfl⟩
  have hb2 : Below w'.heap.size w' W2 := by rw [hW2]; exact ((Below.refl _ _).alloc (Nat.le_refl _) _).alloc (by simp) _
  have k0 : W2.heap[w'.heap.size]? = some (.cells #[.slice g1 g2 g3, .slice g4 g5 g6] 33 (0, 0)) := by rw [hW2, old_blk _ _ _ (by simp), new_blk]
  have k1 : W2.heap[w'.heap.size + 1]? = some (.cells #[.slice none 0 0, .slice none 0 0] 33 (0, 0)) := by
    rw [hW2, show w'.heap.size + 1 = (w'.alloc (.cells #[.slice g1 g2 g3, .slice g4 g5 g6] 33)).heap.size by simp, new_blk]
  have H2 := Lib.hid (And.intro hb2 (And.intro k0 k1))
  have HW2 := Lib.hid hW2
  clear ht h3 hbw hW2 hb2 k0 k1
  go_enter Tryd.func69, Tryd.ntmps69
  go_wp2_with fail
  rw [← HW2.out]
  go_loopw [7, 10] (fun _ i wr => ∃ (j : Nat) (u : Tr) (b1 : Option Addr) (b2 b3 : Nat) (b4 : Option Addr) (b5 b6 : Nat), j ≤ ks.length ∧ i = .int .i64 j ∧ Hid (Tr.nodeTo (ks.drop j) u = Tr.nodeTo ks t) ∧ Hid (TreeIn w B (.slice b1 b2 b3) (.slice b4 b5 b6) u) ∧
    wr.heap[w'.heap.size]? = some (.cells #[.slice b1 b2 b3, .slice b4 b5 b6] 33 (0, 0)) ∧ wr.heap[w'.heap.size + 1]? = some (.cells #[.slice none 0 0, .slice none 0 0] 33 (0, 0)) ∧ Below w'.heap.size w' wr) (fun _ i _ => ks.length - (intOf i).toNat)
  case atStart => exact ⟨0, t, _, _, _, _, _, _, Nat.zero_le _, rfl, Lib.hid rfl, HT, H2.out.2.1, H2.out.2.2, H2.out.1⟩
  case round =>
    obtain ⟨j, ⟨uk, uc⟩, b1, b2, b3, b4, b5, b6, hj, rfl, HN, HU, hx0, hx1, hbel⟩ := hrel
    obtain ⟨ca, ccap, kvs, cvs, hcv, -, hcl, hcc, hkat, hkk⟩ := HU.out.parts
    simp only [Value.slice.injEq] at hcv
    obtain ⟨rfl, rfl, rfl⟩ := hcv
    unfold maxLen at hcc
    obtain ⟨x1, x2, x3, x4⟩ := box2 hx0
    obtain ⟨y1, y2, y3, y4⟩ := box2 hx1
    have hsz := hbel.size
    have HX := Lib.hid (And.intro hx0 (And.intro hx1 hbel))
    have HKA := Lib.hid (And.intro hkat hkk)
    by_cases hlt : j < ks.length
    · rcases HK.out with h | ⟨b, off, rfl, hb, hat⟩
      · simp [h] at hlt
      have ha1 : wr.cell? ⟨b, off + j, none⟩ = some (.int .i64 (ks.getD j 0)) := by rw [below_cell (HBW.out.trans (hbel.mono hB)) (by omega)]; exact hat j hlt
      have hjl : (j : Int) < (ks.length : Int) := by omega
      have hst := Tr.nodeTo_drop ks hlt uk uc
      have HST := Lib.hid hst
      generalize hxe : ks.getD j 0 = x at ha1 HST
      have HXE := Lib.hid hxe
      clear hat hb hst hxe hkat hkk hx0 hx1 hbel
      go_wp2_with fail
      refine (l1In_c x 0 _ _).mono ?_
      rintro e w3 ⟨rfl, hw3⟩
      subst hw3
      by_cases hin : 0 ≤ x ∧ x < (uc.length : Int)
      · have hib : inB x 0 ((uc.length : Int) - 1) = true := inB_true hin.1 (by omega)
        rw [hib]
        have hst := HST.out
        rw [if_pos hin] at hst
        obtain ⟨N, rfl⟩ : ∃ N : Nat, x = N := ⟨x.toNat, by omega⟩
        have hN : N < uc.length := by omega
        rw [Int.toNat_natCast] at hst
        have hge : uc.getD N (.mk [] []) = uc[N] := by rw [List.getD_eq_getElem?_getD, List.getElem?_eq_getElem hN]; rfl
        rw [hge] at hst
        rcases HKA.out.1 with h | ⟨kb, ko, rfl, hkb, hkc⟩
        · omega
        obtain ⟨c1, c2⟩ := hkc N hN
        rw [← below_cell (HBW.out.trans (HX.out.2.2.mono hB)) hkb] at c1 c2
        have hu2 := HKA.out.2 N hN
        obtain ⟨q1, q2, q3, q4, q5, q6, e1, e2⟩ := hu2.slices
        rw [e1, e2] at hu2
        rw [e1] at c1
        rw [e2] at c2
        have HU2 := Lib.hid hu2
        have HN2 := Lib.hid (show Tr.nodeTo (ks.drop (j + 1)) uc[N] = Tr.nodeTo ks t by rw [← hst, HN.out])
        have HX0 := Lib.hid (set_blk (o := 1) (.slice q4 q5 q6) (set_blk (o := 0) (.slice q1 q2 q3) HX.out.1))
        have HX1 := Lib.hid (show ((wr.setCell ⟨w'.heap.size, 0, none⟩ (.slice q1 q2 q3)).setCell ⟨w'.heap.size, 1, none⟩ (.slice q4 q5 q6)).heap[w'.heap.size + 1]? = some (.cells #[.slice none 0 0, .slice none 0 0] 33 (0, 0)) by
          rw [set_other _ _ _ _ _ (by omega), set_other _ _ _ _ _ (by omega)]; exact HX.out.2.1)
        have HBF := Lib.hid ((HX.out.2.2.setCell (p := ⟨w'.heap.size, 0, none⟩) (Nat.le_refl _) (.slice q1 q2 q3)).setCell (p := ⟨w'.heap.size, 1, none⟩) (Nat.le_refl _) (.slice q4 q5 q6))
        have hNl : (N : Int) < (uc.length : Int) := by omega
        clear hst hge hkc hu2 e1 e2 hib hin
        go_wp2_with fail
        go_roundw
        case rel => exact ⟨j + 1, uc[N], q1, q2, q3, q4, q5, q6, by omega, by go_num, HN2, HU2, HX0.out, HX1.out, HBF.out⟩
        case measure => simp [intOf]; omega
      · have hib : inB x 0 ((uc.length : Int) - 1) = false := inB_false (by omega)
        rw [hib]
        have hst := HST.out
        rw [if_neg hin] at hst
        have HE := Lib.hid (show Tr.nodeTo ks t = none by rw [← HN.out, hst])
        have HWF := Lib.hid (set_blk (o := 1) (.slice none 0 0) (set_blk (o := 0) (.slice none 0 0) HX.out.2.1))
        have HBF := Lib.hid ((HX.out.2.2.setCell (p := ⟨w'.heap.size + 1, 0, none⟩) (by show w'.heap.size ≤ w'.heap.size + 1; omega) (.slice none 0 0)).setCell (p := ⟨w'.heap.size + 1, 1, none⟩) (by show w'.heap.size ≤ w'.heap.size + 1; omega) (.slice none 0 0))
        clear hst hib hin
        go_wp2_with fail
        obtain ⟨d1, d2, -, -⟩ := box2 HWF.out
        exact bodyPost_ret (v := .tuple #[.agg #[.slice none 0 0, .slice none 0 0], .bool false]) (by simp [results, Tryd.results69, go_sem, d1, d2]) rfl ⟨.inr ⟨HE.out, rfl⟩, HBF.out⟩
    · have hjl : ¬ (j : Int) < (ks.length : Int) := by omega
      have hje : j = ks.length := by omega
      have HE := Lib.hid (show Tr.nodeTo ks t = some (.mk uk uc) by rw [← HN.out, hje, List.drop_eq_nil_of_le (Nat.le_refl _)]; rfl)
      have HWF := Lib.hid (set_blk (o := 1) (.slice b4 uc.length b6) (set_blk (o := 0) (.slice b1 b2 b3) hx1))
      have HBF := Lib.hid ((hbel.setCell (p := ⟨w'.heap.size + 1, 0, none⟩) (by show w'.heap.size ≤ w'.heap.size + 1; omega) (.slice b1 b2 b3)).setCell (p := ⟨w'.heap.size + 1, 1, none⟩) (by show w'.heap.size ≤ w'.heap.size + 1; omega) (.slice b4 uc.length b6))
      clear hkat hkk hx0 hx1 hbel hje
      go_wp2_with fail
      obtain ⟨d1, d2, -, -⟩ := box2 HWF.out
      exact bodyPost_ret (v := .tuple #[.agg #[.slice b1 b2 b3, .slice b4 uc.length b6], .bool true]) (by simp [results, Tryd.results69, go_sem, d1, d2]) rfl ⟨.inl ⟨_, _, _, HE.out, rfl, HU.out⟩, HBF.out⟩
end Go.Proofs.YticfkfjijnfcbaaDoor

/- The model's CursorValid. -/
namespace Go.Proofs.YticfkfjijnfcbaaDoor
open Go.RowKit

/-- Whether a cursor stands at a key. -/
def Tr.curB (t : Tr) (ks : List Int) (a : Int) : Bool :=
  match Tr.nodeTo ks t with
  | some (.mk k _) => t.someB && inB a 0 ((k.length : Int) - 1)
  | none => false

set_option maxHeartbeats 2000000 in
set_option maxRecDepth 100000 in
theorem specCursorValid_c {w : World} {B : Nat} {kv cv v : Value} {t : Tr} {ks : List Int} (ht : TreeIn w B kv cv t) (hw : t.weight ≤ 1048576) (hk : IntsIn w B v ks) (a : Int) (w' : World) (hbw : Below B w w') (hB : B ≤ w'.heap.size) :
    Calls Tryd.prog 75 #[.agg #[kv, cv], .agg #[v, .int .i64 a]] w' fun e w'' => e = .returned (.bool (Tr.curB t ks a)) ∧ Below w'.heap.size w' w'' := by
  have HT := Lib.hid ht
  have HK := Lib.hid hk
  obtain ⟨g1, g2, g3, g4, g5, g6, rfl, rfl⟩ := ht.slices
  obtain ⟨va, vcap, rfl, -⟩ := hk
  obtain ⟨W2, hW2⟩ : ∃ W2, W2 = (w'.alloc (.cells #[.slice g1 g2 g3, .slice g4 g5 g6] 33)).alloc (.cells #[.slice va ks.length vcap, .int .i64 a] 28) := ⟨_, rfl⟩
  have hb2 : Below w'.heap.size w' W2 := by rw [hW2]; exact ((Below.refl _ _).alloc (Nat.le_refl _) _).alloc (by simp) _
  have hs2 : W2.heap.size = w'.heap.size + 2 := by rw [hW2]; simp
  have k0 : W2.heap[w'.heap.size]? = some (.cells #[.slice g1 g2 g3, .slice g4 g5 g6] 33 (0, 0)) := by rw [hW2, old_blk _ _ _ (by simp), new_blk]
  have k1 : W2.heap[w'.heap.size + 1]? = some (.cells #[.slice va ks.length vcap, .int .i64 a] 28 (0, 0)) := by
    rw [hW2, show w'.heap.size + 1 = (w'.alloc (.cells #[.slice g1 g2 g3, .slice g4 g5 g6] 33)).heap.size by simp, new_blk]
  have BOX : Hid (∀ wx : World, Below W2.heap.size W2 wx → wx.heap[w'.heap.size]? = some (.cells #[.slice g1 g2 g3, .slice g4 g5 g6] 33 (0, 0)) ∧ wx.heap[w'.heap.size + 1]? = some (.cells #[.slice va ks.length vcap, .int .i64 a] 28 (0, 0))) :=
    Lib.hid (fun wx hx => ⟨(hx.block _ (by omega)).trans k0, (hx.block _ (by omega)).trans k1⟩)
  have k0x := k0
  have k1x := k1
  rw [hW2] at k0x k1x
  obtain ⟨x1, x2, x3, x4⟩ := box2 k0x
  obtain ⟨y1, y2, y3, y4⟩ := box2 k1x
  have hlt2 : w'.heap.size < W2.heap.size := by omega
  have HB2 := Lib.hid (And.intro hb2 (hbw.trans (hb2.mono hB)))
  have HW2 := Lib.hid hW2
  have HS2 := Lib.hid hs2
  clear ht hbw hW2 hb2 k0 k1 k0x k1x hs2
  go_enter Tryd.func75, Tryd.ntmps75
  go_wp2_with fail
  rw [← HW2.out]
  refine (l8Node_c HT.out HK.out W2 HB2.out.2 (by omega)).mono ?_
  rintro e w3 ⟨hnode, hb3⟩
  have hs3 := hb3.size
  clear x1 x2 x3 x4 y1 y2 y3 y4
  obtain ⟨x1, x2, x3, x4⟩ := box2 (BOX.out w3 hb3).1
  obtain ⟨y1, y2, y3, y4⟩ := box2 (BOX.out w3 hb3).2
  rcases hnode with ⟨⟨uk, uc⟩, ku, cu, hn, rfl, hu⟩ | ⟨hn, rfl⟩
  case inr =>
    have HE := Lib.hid (show Tr.curB t ks a = false by unfold Tr.curB; rw [hn])
    have H3 := Lib.hid (HB2.out.1.trans (((hb3.alloc (Nat.le_trans (Nat.le_refl _) hs3) (.cells #[.slice none 0 0, .slice none 0 0] 33))).mono (by omega)))
    clear hn hb3
    go_wp2_with fail
    go_ret
    exact ⟨by rw [HE.out]; rfl, H3.out⟩
  case inl =>
    obtain ⟨ca, ccap, kvs, cvs, rfl, hik, -, -, -, -⟩ := hu.parts
    obtain ⟨ua, ucap, rfl, hu1, hu2, -⟩ := hik
    unfold maxLen at hu2
    have hul : uk.length ≤ 9223372036854775807 := by omega
    obtain ⟨W4, hW4⟩ : ∃ W4, W4 = w3.alloc (.cells #[.slice ua uk.length ucap, .slice ca uc.length ccap] 33) := ⟨_, rfl⟩
    have hs4 : w3.heap.size < W4.heap.size := by rw [hW4]; simp
    have hb4 : Below w3.heap.size w3 W4 := by rw [hW4]; exact (Below.refl _ _).alloc (Nat.le_refl _) _
    have hx4 : W4.heap[w3.heap.size]? = some (.cells #[.slice ua uk.length ucap, .slice ca uc.length ccap] 33 (0, 0)) := by rw [hW4, new_blk]
    have hb24 : Below W2.heap.size W2 W4 := hb3.trans (hb4.mono hs3)
    obtain ⟨⟨z1, z2, z3, z4⟩, z5, z6, z7, z8⟩ := (⟨box2 (BOX.out W4 hb24).1, box2 (BOX.out W4 hb24).2⟩ : _ ∧ _)
    rw [hW4] at z1 z2 z3 z4 z5 z6 z7 z8
    have HL2 := Lib.hid (l2Valid_c HT.out hw W4 (HB2.out.2.trans (hb24.mono (by omega))) (by omega))
    have H4 := Lib.hid (And.intro hb24 hx4)
    have HW4 := Lib.hid hW4
    have HN := Lib.hid hn
    clear hn hu hb3 hW4 hb4 hx4 hb24
    go_wp2_with fail
    rw [← HW4.out]
    refine HL2.out.mono ?_
    rintro e w5 ⟨rfl, hb5⟩
    have hs5 := hb5.size
    have hx5 := (hb5.block w3.heap.size (by omega)).trans H4.out.2
    have hb25 := H4.out.1.trans (hb5.mono H4.out.1.size)
    clear x1 x2 x3 x4 y1 y2 y3 y4 z1 z2 z3 z4 z5 z6 z7 z8
    obtain ⟨y1, y2, y3, y4⟩ := box2 (BOX.out w5 hb25).2
    obtain ⟨x1, x2, x3, x4⟩ := box2 hx5
    have H5 := Lib.hid (HB2.out.1.trans (hb25.mono (by omega)))
    cases hsb : t.someB with
    | false =>
      have HE := Lib.hid (show Tr.curB t ks a = false by unfold Tr.curB; rw [HN.out]; simp [hsb])
      clear hb5 hx5 hb25 hsb
      go_wp2_with fail
      go_ret
      exact ⟨by rw [HE.out]; rfl, H5.out⟩
    | true =>
      have HE := Lib.hid (show Tr.curB t ks a = inB a 0 ((uk.length : Int) - 1) by unfold Tr.curB; rw [HN.out]; simp [hsb])
      clear hb5 hx5 hb25 hsb
      go_wp2_with fail
      refine (l1In_c a 0 _ _).mono ?_
      rintro e w6 ⟨rfl, hw6⟩
      subst hw6
      obtain ⟨r, hr⟩ : ∃ r, r = inB a 0 ((uk.length : Int) - 1) := ⟨_, rfl⟩
      rw [← hr] at HE ⊢
      clear hr
      cases r <;> (go_wp2_with fail; go_ret; exact ⟨by rw [HE.out]; rfl, H5.out⟩)
end Go.Proofs.YticfkfjijnfcbaaDoor

/- Inserting a key, as plain data. -/
namespace Go.Proofs.YticfkfjijnfcbaaDoor
open Go.RowKit

/-- A list with one element more, at a place. -/
def putAt {α : Type} (k : List α) (i : Nat) (x : α) : List α := k.take i ++ x :: k.drop i
theorem putAt_length {α : Type} {k : List α} {i : Nat} {x : α} (h : i ≤ k.length) : (putAt k i x).length = k.length + 1 := by simp [putAt]; omega
theorem putAt_map {α β : Type} (f : α → β) (k : List α) (i : Nat) (x : α) : (putAt k i x).map f = putAt (k.map f) i (f x) := by simp [putAt, List.map_take, List.map_drop]

namespace Tr
def leftOf : Tr → Tr | .mk k c => .mk (k.take (k.length / 2)) (c.take (k.length / 2 + 1))
def rightOf : Tr → Tr | .mk k c => .mk (k.drop (k.length / 2 + 1)) (c.drop (k.length / 2 + 1))
def midOf : Tr → Int | .mk k _ => k.getD (k.length / 2) 0
/-- A node in which the kid at a place has been split. -/
def splitKid (k : List Int) (c : List Tr) (i : Nat) (u : Tr) : Tr := .mk (putAt k i u.midOf) (c.take i ++ u.leftOf :: u.rightOf :: c.drop (i + 1))
def setKid (c : List Tr) (i : Nat) (u : Tr) : List Tr := c.take i ++ u :: c.drop (i + 1)

/-- What a node becomes when the kid at a place has become another one, and how many have been split. -/
def growStep (wide : Int) (k : List Int) (c : List Tr) (i : Nat) (r : Tr × Nat) : Tr × Nat :=
  if wide < r.1.ks.length then (splitKid k c i r.1, r.2 + 1) else (.mk k (setKid c i r.1), r.2)
mutual
/-- What a node becomes by a key; it may have too many itself. -/
def grow (wide key : Int) : Tr → Tr × Nat
  | .mk k c => if c.length = 0 then (.mk (putAt k (place key k) key) [], 0) else growStep wide k c (place key k) ((grows wide key c).getD (place key k) (.mk [] [], 0))
def grows (wide key : Int) : List Tr → List (Tr × Nat)
  | [] => []
  | t :: r => grow wide key t :: grows wide key r
end
theorem grows_get (wide key : Int) (c : List Tr) (i : Nat) (h : i < c.length) : (grows wide key c).getD i (.mk [] [], 0) = grow wide key c[i] := by
  induction c generalizing i with
  | nil => simp at h
  | cons t r ih =>
    cases i with
    | zero => rfl
    | succ i => simpa [grows] using ih i (by simpa using h)
theorem grow_leaf {wide key : Int} {k : List Int} {c : List Tr} (h : c.length = 0) : grow wide key (.mk k c) = (.mk (putAt k (place key k) key) [], 0) := by rw [grow, if_pos h]
theorem grow_inner {wide key : Int} {k : List Int} {c : List Tr} (h : place key k < c.length) : grow wide key (.mk k c) = growStep wide k c (place key k) (grow wide key c[place key k]) := by
  rw [grow, if_neg (by omega), grows_get _ _ _ _ h]

theorem grow_keys_le (wide key : Int) (t : Tr) : (grow wide key t).1.ks.length ≤ t.ks.length + 1 := by
  cases t with
  | mk k c =>
    have hp := place_le key k
    by_cases h : c.length = 0
    · rw [grow_leaf h]; show (putAt k _ key).length ≤ k.length + 1; rw [putAt_length hp]; omega
    · rw [grow, if_neg h]
      unfold growStep
      split
      · show (putAt k _ _).length ≤ k.length + 1; rw [putAt_length hp]; omega
      · show k.length ≤ k.length + 1; omega

/-- The tree that is left when the top node has been split, too, if it has too many. -/
def insT (wide key : Int) (t : Tr) : Tr :=
  let u := (grow wide key t).1
  if wide < u.ks.length then .mk [u.midOf] [u.leftOf, u.rightOf] else u
def insN (wide key : Int) (t : Tr) : Nat :=
  let r := grow wide key t
  if wide < r.1.ks.length then r.2 + 1 else r.2
def insG (wide key : Int) (t : Tr) : Bool := decide (wide < ((grow wide key t).1.ks.length : Int))

theorem insT_step (wide key : Int) (t : Tr) : growStep wide [] [t] 0 (grow wide key t) = (if insG wide key t then (insT wide key t, insN wide key t) else (.mk [] [insT wide key t], insN wide key t)) := by
  unfold growStep insG insT insN
  by_cases h : wide < ((grow wide key t).1.ks.length : Int)
  · simp [h, splitKid, putAt]
  · simp [h, setKid]

theorem setKid_length {c : List Tr} {i : Nat} {u : Tr} (h : i < c.length) : (setKid c i u).length = c.length := by simp [setKid]; omega

mutual
/-- How many splits a key makes at most: as many as there are nodes. -/
theorem grow_count (wide key : Int) : ∀ t : Tr, (grow wide key t).2 ≤ t.weight
  | .mk k c => by
    rw [grow]
    split
    · simp
    · rename_i hc
      have h := grows_count wide key c (place key k) (by cases c <;> simp_all)
      unfold growStep
      simp only [weight]
      split <;> dsimp only <;> omega
theorem grows_count (wide key : Int) : ∀ (c : List Tr) (i : Nat), 0 < c.length → ((grows wide key c).getD i (.mk [] [], 0)).2 + 1 ≤ weights c
  | [], i, h => by simp at h
  | t :: r, i, _ => by
    have h1 := grow_count wide key t
    cases i with
    | zero => simp [grows, weights]; omega
    | succ i =>
      by_cases hr : 0 < r.length
      · have h2 := grows_count wide key r i hr
        simp only [grows, List.getD_cons_succ, weights]
        omega
      · have : r = [] := by cases r <;> simp_all
        subst this
        simp [grows, weights]
end
end Tr
end Go.Proofs.YticfkfjijnfcbaaDoor

/- Inserting: a tree whose nodes are as a valid tree's keeps such nodes. -/
namespace Go.Proofs.YticfkfjijnfcbaaDoor
open Go.RowKit

namespace Tr
/-- A node as a valid tree's, but for one key too many. -/
def Over (wide least d : Int) : Tr → Prop
  | .mk k c => (least ≤ (k.length : Int) ∧ (k.length : Int) ≤ wide + 1) ∧ ((c.length = 0 ∧ d = 1) ∨ (c.length ≠ 0 ∧ d ≠ 1 ∧ c.length = k.length + 1 ∧ k.length ≠ 0 ∧ ∀ x ∈ c, nodesB wide (wide / 2) (d - 1) x = true))
theorem nodes_mem {wide least d : Int} {k : List Int} {c : List Tr} (h : nodesB wide least d (.mk k c) = true) :
    (least ≤ (k.length : Int) ∧ (k.length : Int) ≤ wide) ∧ ((c.length = 0 ∧ d = 1) ∨ (c.length ≠ 0 ∧ d ≠ 1 ∧ c.length = k.length + 1 ∧ k.length ≠ 0 ∧ ∀ x ∈ c, nodesB wide (wide / 2) (d - 1) x = true)) := by
  obtain ⟨h1, h2⟩ := nodesB_parts h
  refine ⟨h1, h2.imp id (fun ⟨a, b, c', e, f⟩ => ⟨a, b, c', e, fun x hx => ?_⟩)⟩
  obtain ⟨i, hi, rfl⟩ := List.getElem_of_mem hx
  exact f i hi
theorem nodes_of {wide least d : Int} {k : List Int} {c : List Tr} (h : (least ≤ (k.length : Int) ∧ (k.length : Int) ≤ wide) ∧ ((c.length = 0 ∧ d = 1) ∨ (c.length ≠ 0 ∧ d ≠ 1 ∧ c.length = k.length + 1 ∧ k.length ≠ 0 ∧ ∀ x ∈ c, nodesB wide (wide / 2) (d - 1) x = true))) :
    nodesB wide least d (.mk k c) = true := by
  obtain ⟨⟨h1, h2⟩, ⟨h3, rfl⟩ | ⟨h3, h4, h5, h6, h7⟩⟩ := h
  · exact nodesB_leaf h1 h2 h3
  · exact nodesB_inner h1 h2 h4 h5 h6 (fun i hi => h7 _ (List.getElem_mem hi))
theorem Over.fits {wide least d : Int} {t : Tr} (h : Over wide least d t) (hl : (t.ks.length : Int) ≤ wide) : nodesB wide least d t = true := by
  cases t with
  | mk k c => exact nodes_of ⟨⟨h.1.1, hl⟩, h.2⟩
theorem Over.left {wide least d : Int} {t : Tr} (hw : 2 ≤ wide) (h : Over wide least d t) (hl : wide < (t.ks.length : Int)) : nodesB wide (wide / 2) d t.leftOf = true := by
  cases t with
  | mk k c =>
    obtain ⟨⟨h1, h2⟩, h3⟩ := h
    simp only [ks] at hl
    refine nodes_of ⟨⟨by simp; omega, by simp; omega⟩, ?_⟩
    rcases h3 with ⟨h3, h4⟩ | ⟨h3, h4, h5, h6, h7⟩
    · exact .inl ⟨by simp [h3], h4⟩
    · exact .inr ⟨by rw [List.length_take]; omega, h4, by rw [List.length_take, List.length_take]; omega, by rw [List.length_take]; omega, fun x hx => h7 x (List.mem_of_mem_take hx)⟩
theorem Over.right {wide least d : Int} {t : Tr} (hw : 2 ≤ wide) (h : Over wide least d t) (hl : wide < (t.ks.length : Int)) : nodesB wide (wide / 2) d t.rightOf = true := by
  cases t with
  | mk k c =>
    obtain ⟨⟨h1, h2⟩, h3⟩ := h
    simp only [ks] at hl
    refine nodes_of ⟨⟨by simp; omega, by simp; omega⟩, ?_⟩
    rcases h3 with ⟨h3, h4⟩ | ⟨h3, h4, h5, h6, h7⟩
    · exact .inl ⟨by simp [h3], h4⟩
    · exact .inr ⟨by simp; omega, h4, by simp; omega, by simp; omega, fun x hx => h7 x (List.mem_of_mem_drop hx)⟩

/-- A key more in a node as a valid tree's makes at most one too many. -/
theorem grow_over {wide : Int} (hw : 2 ≤ wide) (key : Int) : ∀ (n : Nat) (least d : Int) (t : Tr), t.weight ≤ n → nodesB wide least d t = true → Over wide least d (grow wide key t).1 := by
  intro n
  induction n with
  | zero =>
    rintro least d ⟨k, c⟩ hn h
    simp only [weight] at hn
    have hc : c.length = 0 := by have := length_le_weights c; omega
    obtain ⟨⟨h1, h2⟩, h3⟩ := nodes_mem h
    rw [grow_leaf hc]
    have hl := putAt_length (x := key) (place_le key k)
    refine ⟨⟨by rw [hl]; omega, by rw [hl]; omega⟩, .inl ⟨rfl, ?_⟩⟩
    rcases h3 with h3 | h3
    · exact h3.2
    · exact absurd hc h3.1
  | succ n ih =>
    rintro least d ⟨k, c⟩ hn h
    obtain ⟨⟨h1, h2⟩, h3⟩ := nodes_mem h
    have hl := fun x : Int => putAt_length (x := x) (place_le key k)
    rcases h3 with ⟨hc, hd⟩ | ⟨hc, hd, h5, h6, h7⟩
    · rw [grow_leaf hc]
      exact ⟨⟨by rw [hl]; omega, by rw [hl]; omega⟩, .inl ⟨rfl, hd⟩⟩
    · have hp := place_le key k
      have hi : place key k < c.length := by omega
      rw [grow_inner hi]
      have hwt := weight_get_le c _ hi
      simp only [weight] at hn
      have hu := ih (wide / 2) (d - 1) c[place key k] (by omega) (h7 _ (List.getElem_mem hi))
      generalize (grow wide key c[place key k]) = r at hu ⊢
      generalize place key k = i at *
      unfold growStep
      by_cases hs : wide < (r.1.ks.length : Int)
      · rw [if_pos hs]
        have hL := hu.left hw hs
        have hR := hu.right hw hs
        refine ⟨⟨by rw [hl]; omega, by rw [hl]; omega⟩, .inr ⟨by simp, hd, ?_, by rw [hl]; omega, fun x hx => ?_⟩⟩
        · rw [hl]; simp; omega
        · rcases List.mem_append.1 hx with hx | hx
          · exact h7 x (List.mem_of_mem_take hx)
          · rcases List.mem_cons.1 hx with rfl | hx
            · exact hL
            · rcases List.mem_cons.1 hx with rfl | hx
              · exact hR
              · exact h7 x (List.mem_of_mem_drop hx)
      · rw [if_neg hs]
        have hF := hu.fits (by omega)
        refine ⟨⟨h1, by omega⟩, .inr ⟨by simp [setKid], hd, by rw [setKid_length hi]; exact h5, h6, fun x hx => ?_⟩⟩
        rcases List.mem_append.1 hx with hx | hx
        · exact h7 x (List.mem_of_mem_take hx)
        · rcases List.mem_cons.1 hx with rfl | hx
          · exact hF
          · exact h7 x (List.mem_of_mem_drop hx)

/-- The tree that a key makes has nodes as a valid tree's. -/
theorem insT_nodes {wide : Int} (hw : 2 ≤ wide) (key : Int) {d : Int} {t : Tr} (h : nodesB wide 0 d t = true) : nodesB wide 0 (if insG wide key t then d + 1 else d) (insT wide key t) = true := by
  have hu := grow_over hw key t.weight 0 d t (Nat.le_refl _) h
  unfold insG insT
  dsimp only
  by_cases hs : wide < ((grow wide key t).1.ks.length : Int)
  · rw [if_pos hs, if_pos (by simpa using hs)]
    refine nodes_of ⟨⟨by simp, by simp; omega⟩, .inr ⟨by simp, ?_, by simp, by simp, fun x hx => ?_⟩⟩
    · have := nodesB_pos wide t.weight 0 d t (Nat.le_refl _) h
      omega
    · rw [show d + 1 - 1 = d by omega]
      simp only [List.mem_cons, List.not_mem_nil, or_false] at hx
      rcases hx with rfl | rfl
      · exact hu.left hw hs
      · exact hu.right hw hs
  · rw [if_neg hs, if_neg (by simpa using hs)]
    exact hu.fits (by omega)
/-- A tree with such nodes is as deep as told. -/
theorem nodes_depth (wide : Int) : ∀ (n : Nat) (least d : Int) (t : Tr), t.weight ≤ n → nodesB wide least d t = true → (t.depth : Int) = d := by
  intro n
  induction n with
  | zero =>
    rintro least d ⟨k, c⟩ hn h
    simp only [weight] at hn
    have hc : c.length = 0 := by have := length_le_weights c; omega
    obtain ⟨_, h3⟩ := nodesB_parts h
    rcases h3 with h3 | h3
    · rw [List.length_eq_zero_iff.1 hc, h3.2]; rfl
    · exact absurd hc h3.1
  | succ n ih =>
    rintro least d ⟨k, c⟩ hn h
    obtain ⟨_, h3⟩ := nodesB_parts h
    rcases h3 with ⟨hc, hd⟩ | ⟨hc, hd, h5, h6, h7⟩
    · rw [List.length_eq_zero_iff.1 hc, hd]; rfl
    · simp only [weight] at hn
      have hk : ∀ i (hi : i < c.length), (c[i].depth : Int) = d - 1 := fun i hi => by
        have := weight_get_le c i hi
        exact ih _ _ _ (by omega) (h7 i hi)
      have h0 := hk 0 (by omega)
      have hs := depths_same (D := (d - 1).toNat) hc (fun i hi => by have := hk i hi; omega)
      rw [depth, hs]
      omega
/-- The tree that a key makes of a valid one has a valid one's nodes, and the depth that is asked. -/
theorem insT_depth {wide : Int} (hw : 2 ≤ wide) (key : Int) {t : Tr} (h : nodesB wide 0 t.depth t = true) : nodesB wide 0 (insT wide key t).depth (insT wide key t) = true := by
  have h1 := insT_nodes hw key h
  have h2 := nodes_depth wide _ _ _ _ (Nat.le_refl _) h1
  rw [← h2] at h1
  exact h1
end Tr
end Go.Proofs.YticfkfjijnfcbaaDoor
