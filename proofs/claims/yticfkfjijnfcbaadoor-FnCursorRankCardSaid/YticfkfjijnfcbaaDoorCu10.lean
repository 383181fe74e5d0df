/- Finding: the nodes on the way to a number, as plain data. -/
import Derived.Test.YticfkfjijnfcbaaDoorCu9
/- The node to which a path leads: plain data, and the model's l8Node. -/
namespace Go.Proofs.YticfkfjijnfcbaaDoor
open Go.RowKit
def Tr.nodeTo : List Int → Tr → Option Tr
 | [], t => some t
 | i :: p, .mk _ c => if 0 ≤ i ∧ i < c.length then nodeTo p (c.getD i.toNat (.mk [] [])) else none
theorem Tr.nodeTo_drop (ks : List Int) {j : Nat} (h : j < ks.length) (k : List Int) (c : List Tr) : Tr.nodeTo (ks.drop j) (.mk k c) = if 0 ≤ ks.getD j 0 ∧ ks.getD j 0 < c.length then Tr.nodeTo (ks.drop (j + 1)) (c.getD (ks.getD j 0).toNat (.mk [] [])) else none := by
 have e : ks.getD j 0 = ks[j] := by simp [List.getD_eq_getElem?_getD, h]
 rw [List.drop_eq_getElem_cons h, Tr.nodeTo, e]
def Nodes (w : World) (B : Nat) (ks : List Int) (t : Tr) (e : Ending) : Prop :=
 (∃ u ku cu, Tr.nodeTo ks t = some u ∧ e = .returned (.tuple #[.agg #[ku, cu], .bool true]) ∧ TreeIn w B ku cu u) ∨
 (Tr.nodeTo ks t = none ∧ e = .returned (.tuple #[.agg #[.slice none 0 0, .slice none 0 0], .bool false]))
set_option maxHeartbeats 2000000 in
set_option maxRecDepth 100000 in
theorem l8Node_c {w : World} {B : Nat} {kv cv v : Value} {t : Tr} {ks : List Int} (ht : TreeIn w B kv cv t) (hk : IntsIn w B v ks) (w' : World) (hbw : Below B w w') (hB : B ≤ w'.heap.size) :
   Calls Tryd.prog 69 #[.agg #[kv, cv], v] w' fun e w'' => Nodes w B ks t e ∧ Below w'.heap.size w' w'' := by
 have HT := Lib.hid ht
 obtain ⟨g1, g2, g3, g4, g5, g6, rfl, rfl⟩ := ht.slices
 obtain ⟨va, vcap, rfl, hv1, hv2, -, h3⟩ := hk
 unfold maxLen at hv2
 have HK := Lib.hid h3
 have HBW := Lib.hid hbw
 obtain ⟨W2, hW2⟩ : ∃ W2, W2 = (w'.alloc (.cells #[.slice g1 g2 g3, .slice g4 g5 g6] 33)).alloc (.cells #[.slice none 0 0, .slice none 0 0] 33) := ⟨_, rfl⟩
 have hb2 : Below w'.heap.size w' W2 := by rw [hW2]; exact ((Below.refl _ _).alloc (Nat.le_refl _) _).alloc (by simp) _
 have k0 : W2.heap[w'.heap.size]? = some (.cells #[.slice g1 g2 g3, .slice g4 g5 g6] 33 (0, 0)) := by rw [hW2, old_blk _ _ _ (by simp), new_blk]
 have k1 : W2.heap[w'.heap.size + 1]? = some (.cells #[.slice none 0 0, .slice none 0 0] 33 (0, 0)) := by
   rw [hW2, show w'.heap.size + 1 = (w'.alloc (.cells #[.slice g1 g2 g3, .slice g4 g5 g6] 33)).heap.size by simp, new_blk]
 have H2 := Lib.hid (And.intro hb2 (And.intro k0 k1))
 have HW2 := Lib.hid hW2
 clear ht h3 hbw hW2 hb2 k0 k1
 go_enter Tryd.func69, Tryd.ntmps69
 go_wp2_with fail
 rw [← HW2.out]
 go_loopw [7, 10] (fun _ i wr => ∃ (j : Nat) (u : Tr) (b1 : Option Addr) (b2 b3 : Nat) (b4 : Option Addr) (b5 b6 : Nat), j ≤ ks.length ∧ i = .int .i64 j ∧ Hid (Tr.nodeTo (ks.drop j) u = Tr.nodeTo ks t) ∧ Hid (TreeIn w B (.slice b1 b2 b3) (.slice b4 b5 b6) u) ∧
   wr.heap[w'.heap.size]? = some (.cells #[.slice b1 b2 b3, .slice b4 b5 b6] 33 (0, 0)) ∧ wr.heap[w'.heap.size + 1]? = some (.cells #[.slice none 0 0, .slice none 0 0] 33 (0, 0)) ∧ Below w'.heap.size w' wr) (fun _ i _ => ks.length - (intOf i).toNat)
 case atStart => exact ⟨0, t, _, _, _, _, _, _, Nat.zero_le _, rfl, Lib.hid rfl, HT, H2.out.2.1, H2.out.2.2, H2.out.1⟩
 case round =>
   obtain ⟨j, ⟨uk, uc⟩, b1, b2, b3, b4, b5, b6, hj, rfl, HN, HU, hx0, hx1, hbel⟩ := hrel
   obtain ⟨ca, ccap, kvs, cvs, hcv, -, hcl, hcc, hkat, hkk⟩ := HU.out.parts
   simp only [Value.slice.injEq] at hcv
   obtain ⟨rfl, rfl, rfl⟩ := hcv
   unfold maxLen at hcc
   obtain ⟨x1, x2, x3, x4⟩ := box2 hx0
   obtain ⟨y1, y2, y3, y4⟩ := box2 hx1
   have hsz := hbel.size
   have HX := Lib.hid (And.intro hx0 (And.intro hx1 hbel))
   have HKA := Lib.hid (And.intro hkat hkk)
   by_cases hlt : j < ks.length
   · rcases HK.out with h | ⟨b, off, rfl, hb, hat⟩
     · simp [h] at hlt
     have ha1 : wr.cell? ⟨b, off + j, none⟩ = some (.int .i64 (ks.getD j 0)) := by rw [below_cell (HBW.out.trans (hbel.mono hB)) (by omega)]; exact hat j hlt
     have hjl : (j : Int) < (ks.length : Int) := by omega
     have hst := Tr.nodeTo_drop ks hlt uk uc
     have HST := Lib.hid hst
     generalize hxe : ks.getD j 0 = x at ha1 HST
     have HXE := Lib.hid hxe
     clear hat hb hst hxe hkat hkk hx0 hx1 hbel
     go_wp2_with fail
     refine (l1In_c x 0 _ _).mono ?_
     rintro e w3 ⟨rfl, hw3⟩
     subst hw3
     by_cases hin : 0 ≤ x ∧ x < (uc.length : Int)
     · have hib : inB x 0 ((uc.length : Int) - 1) = true := inB_true hin.1 (by omega)
       rw [hib]
       have hst := HST.out
       rw [if_pos hin] at hst
       obtain ⟨N, rfl⟩ : ∃ N : Nat, x = N := ⟨x.toNat, by omega⟩
       have hN : N < uc.length := by omega
       rw [Int.toNat_natCast] at hst
       have hge : uc.getD N (.mk [] []) = uc[N] := by rw [List.getD_eq_getElem?_getD, List.getElem?_eq_getElem hN]; rfl
       rw [hge] at hst
       rcases HKA.out.1 with h | ⟨kb, ko, rfl, hkb, hkc⟩
       · omega
       obtain ⟨c1, c2⟩ := hkc N hN
       rw [← below_cell (HBW.out.trans (HX.out.2.2.mono hB)) hkb] at c1 c2
       have hu2 := HKA.out.2 N hN
       obtain ⟨q1, q2, q3, q4, q5, q6, e1, e2⟩ := hu2.slices
       rw [e1, e2] at hu2
       rw [e1] at c1
       rw [e2] at c2
       have HU2 := Lib.hid hu2
       have HN2 := Lib.hid (show Tr.nodeTo (ks.drop (j + 1)) uc[N] = Tr.nodeTo ks t by rw [← hst, HN.out])
       have HX0 := Lib.hid (set_blk (o := 1) (.slice q4 q5 q6) (set_blk (o := 0) (.slice q1 q2 q3) HX.out.1))
       have HX1 := Lib.hid (show ((wr.setCell ⟨w'.heap.size, 0, none⟩ (.slice q1 q2 q3)).setCell ⟨w'.heap.size, 1, none⟩ (.slice q4 q5 q6)).heap[w'.heap.size + 1]? = some (.cells #[.slice none 0 0, .slice none 0 0] 33 (0, 0)) by
         rw [set_other _ _ _ _ _ (by omega), set_other _ _ _ _ _ (by omega)]; exact HX.out.2.1)
       have HBF := Lib.hid ((HX.out.2.2.setCell (p := ⟨w'.heap.size, 0, none⟩) (Nat.le_refl _) (.slice q1 q2 q3)).setCell (p := ⟨w'.heap.size, 1, none⟩) (Nat.le_refl _) (.slice q4 q5 q6))
       have hNl : (N : Int) < (uc.length : Int) := by omega
       clear hst hge hkc hu2 e1 e2 hib hin
       go_wp2_with fail
       go_roundw
       case rel => exact ⟨j + 1, uc[N], q1, q2, q3, q4, q5, q6, by omega, by go_num, HN2, HU2, HX0.out, HX1.out, HBF.out⟩
       case measure => simp [intOf]; omega
     · have hib : inB x 0 ((uc.length : Int) - 1) = false := inB_false (by omega)
       rw [hib]
       have hst := HST.out
       rw [if_neg hin] at hst
       have HE := Lib.hid (show Tr.nodeTo ks t = none by rw [← HN.out, hst])
       have HWF := Lib.hid (set_blk (o := 1) (.slice none 0 0) (set_blk (o := 0) (.slice none 0 0) HX.out.2.1))
       have HBF := Lib.hid ((HX.out.2.2.setCell (p := ⟨w'.heap.size + 1, 0, none⟩) (by show w'.heap.size ≤ w'.heap.size + 1; omega) (.slice none 0 0)).setCell (p := ⟨w'.heap.size + 1, 1, none⟩) (by show w'.heap.size ≤ w'.heap.size + 1; omega) (.slice none 0 0))
       clear hst hib hin
       go_wp2_with fail
       obtain ⟨d1, d2, -, -⟩ := box2 HWF.out
       exact bodyPost_ret (v := .tuple #[.agg #[.slice none 0 0, .slice none 0 0], .bool false]) (by simp [results, Tryd.results69, go_sem, d1, d2]) rfl ⟨.inr ⟨HE.out, rfl⟩, HBF.out⟩
   · have hjl : ¬ (j : Int) < (ks.length : Int) := by omega
     have hje : j = ks.length := by omega
     have HE := Lib.hid (show Tr.nodeTo ks t = some (.mk uk uc) by rw [← HN.out, hje, List.drop_eq_nil_of_le (Nat.le_refl _)]; rfl)
     have HWF := Lib.hid (set_blk (o := 1) (.slice b4 uc.length b6) (set_blk (o := 0) (.slice b1 b2 b3) hx1))
     have HBF := Lib.hid ((hbel.setCell (p := ⟨w'.heap.size + 1, 0, none⟩) (by show w'.heap.size ≤ w'.heap.size + 1; omega) (.slice b1 b2 b3)).setCell (p := ⟨w'.heap.size + 1, 1, none⟩) (by show w'.heap.size ≤ w'.heap.size + 1; omega) (.slice b4 uc.length b6))
     clear hkat hkk hx0 hx1 hbel hje
     go_wp2_with fail
     obtain ⟨d1, d2, -, -⟩ := box2 HWF.out
     exact bodyPost_ret (v := .tuple #[.agg #[.slice b1 b2 b3, .slice b4 uc.length b6], .bool true]) (by simp [results, Tryd.results69, go_sem, d1, d2]) rfl ⟨.inl ⟨_, _, _, HE.out, rfl, HU.out⟩, HBF.out⟩
end Go.Proofs.YticfkfjijnfcbaaDoor
/- Finding: the nodes on the way to a number, as plain data. -/
namespace Go.Proofs.YticfkfjijnfcbaaDoor
open Go.RowKit
namespace Tr
mutual
def way (c : Int) : Tr → List Tr
 | .mk k cs => .mk k cs :: (ways c cs).getD (place c k) []
def ways (c : Int) : List Tr → List (List Tr)
 | [] => []
 | t :: r => way c t :: ways c r
end
theorem ways_get (c : Int) (cs : List Tr) (i : Nat) (h : i < cs.length) : (ways c cs).getD i [] = cs[i].way c := by
 induction cs generalizing i with
 | nil => simp at h
 | cons t r ih =>
   cases i with
   | zero => simp [ways]
   | succ i => simpa [ways] using ih i (by simpa using h)
theorem ways_length (c : Int) (cs : List Tr) : (ways c cs).length = cs.length := by
 induction cs with
 | nil => rfl
 | cons t r ih => simp only [ways, List.length_cons, ih]
theorem way_leaf {c : Int} {k : List Int} {cs : List Tr} (h : cs.length = 0) : (Tr.mk k cs).way c = [.mk k cs] := by
 rw [way, List.getD_eq_getElem?_getD, List.getElem?_eq_none (by rw [ways_length]; omega)]; rfl
theorem way_inner {c : Int} {k : List Int} {cs : List Tr} (h : place c k < cs.length) : (Tr.mk k cs).way c = .mk k cs :: cs[place c k].way c := by
 rw [way, ways_get c cs _ h]
def hasAt (key : Int) (t : Tr) : Bool := decide (place key t.ks < t.ks.length ∧ t.ks.getD (place key t.ks) 0 = key)
def inner (t : Tr) : Bool := decide (t.cs.length ≠ 0)
def stepsOf (c : Int) (l : List Tr) : List Int := (l.filter inner).map (fun t => (place c t.ks : Int))
end Tr
end Go.Proofs.YticfkfjijnfcbaaDoor
