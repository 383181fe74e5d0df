/- The model's l8Down, both ways. -/
import Derived.Test.YticfkfjijnfcbaaDoorProg
import Derived.Test.YticfkfjijnfcbaaDoorSh0
import Derived.Test.YticfkfjijnfcbaaDoorSh8
import Derived.Test.YticfkfjijnfcbaaDoorSh9
import Derived.Test.YticfkfjijnfcbaaDoorCurWalk
import Derived.Test.YticfkfjijnfcbaaDoorSh12
import Derived.Test.YticfkfjijnfcbaaDoorSpecUp
namespace Go.Proofs.YticfkfjijnfcbaaDoor
open Go.RowKit

/-- What l8Down answers. -/
def Stands (w' : World) (P : List Int) (a : Int) (e : Ending) (w'' : World) : Prop :=
  ∃ v, e = .returned (.agg #[v, .int .i64 a]) ∧ IntsOwn w'' w'.heap.size v P ∧ Below w'.heap.size w' w''

set_option maxHeartbeats 2000000 in
set_option maxRecDepth 100000 in
theorem l8DownF_c {w : World} {B : Nat} {kv cv v : Value} {t u0 : Tr} {L : List Int} (ht : TreeIn w B kv cv t) (hk : IntsIn w B v L) (hn : Tr.nodeTo L t = some u0) (hsm : t.weight ≤ 1048576) (hlen : L.length ≤ 1048576) (hwell : Tr.Well u0) (w' : World) (hbw : Below B w w') (hB : B ≤ w'.heap.size) :
    Calls Tryd.prog 58 #[.agg #[kv, cv], v, .bool false] w' (Stands w' (L ++ Tr.downF u0.weight u0) 0) := by
  have HT := Lib.hid ht
  have HKK := Lib.hid hk
  have hNW : u0.weight ≤ 1048576 := Nat.le_trans (Tr.nodeTo_small L hn).1 hsm
  have HNW := Lib.hid hn
  have HWELL := Lib.hid hwell
  obtain ⟨g1, g2, g3, g4, g5, g6, rfl, rfl⟩ := ht.slices
  obtain ⟨va, vcap, rfl⟩ := hk.shown
  obtain ⟨W2, hW2⟩ : ∃ W2, W2 = (w'.alloc (.cells #[.slice g1 g2 g3, .slice g4 g5 g6] 33)).alloc (.cells #[.slice none 0 0, .int .i64 0] 28) := ⟨_, rfl⟩
  have hb2 : Below w'.heap.size w' W2 := by rw [hW2]; exact ((Below.refl _ _).alloc (Nat.le_refl _) _).alloc (by simp) _
  have hs2 : W2.heap.size = w'.heap.size + 2 := by rw [hW2]; simp
  have k0 : W2.heap[w'.heap.size]? = some (.cells #[.slice g1 g2 g3, .slice g4 g5 g6] 33 (0, 0)) := by rw [hW2, old_blk _ _ _ (by simp), new_blk]
  have k1 : W2.heap[w'.heap.size + 1]? = some (.cells #[.slice none 0 0, .int .i64 0] 28 (0, 0)) := by
    rw [hW2, show w'.heap.size + 1 = (w'.alloc (.cells #[.slice g1 g2 g3, .slice g4 g5 g6] 33)).heap.size by simp, new_blk]
  have k0x := k0
  rw [hW2] at k0x
  obtain ⟨x1, x2, x3, x4⟩ := box2 k0x
  have HB2 := Lib.hid (And.intro hb2 (And.intro k1 hs2))
  have HBW := Lib.hid hbw
  have HW2 := Lib.hid hW2
  clear ht hk hbw hW2 hb2 hs2 k0 k1 k0x hn hwell
  go_enter Tryd.func58, Tryd.ntmps58
  go_wp2_with fail
  rw [← HW2.out]
  refine (l8Node_c HT.out HKK.out W2 (HBW.out.trans (HB2.out.1.mono hB)) (by have := HB2.out.2.2; omega)).mono ?_
  rintro e w3 ⟨hno, hb3⟩
  rcases hno with ⟨u1, ku, cu, hnd, rfl, hu⟩ | ⟨hnone, rfl⟩
  case inr => rw [HNW.out] at hnone; cases hnone
  obtain rfl : u0 = u1 := by rw [HNW.out] at hnd; exact Option.some.inj hnd
  have hs3 := hb3.size
  obtain ⟨m1, m2, m3, m4, m5, m6, rfl, rfl⟩ := hu.slices
  -- the node's box, the empty slice
  obtain ⟨W4, hW4⟩ : ∃ W4, W4 = w3.alloc (.cells #[.slice m1 m2 m3, .slice m4 m5 m6] 33) := ⟨_, rfl⟩
  have hs4 : W4.heap.size = w3.heap.size + 1 := by rw [hW4]; simp
  have hb4 : Below w3.heap.size w3 W4 := by rw [hW4]; exact (Below.refl _ _).alloc (Nat.le_refl _) _
  have d4 : W4.heap[w3.heap.size]? = some (.cells #[.slice m1 m2 m3, .slice m4 m5 m6] 33 (0, 0)) := by rw [hW4, new_blk]
  obtain ⟨W5, hW5⟩ : ∃ W5, W5 = W4.alloc (.cells #[] 3) := ⟨_, rfl⟩
  have hs5 : W5.heap.size = W4.heap.size + 1 := by rw [hW5]; simp
  have hb5 : Below W4.heap.size W4 W5 := by rw [hW5]; exact (Below.refl _ _).alloc (Nat.le_refl _) _
  have h05 : IntsOwn (W4.alloc (.cells #[] 3)) (w3.heap.size + 1) (.slice (some ⟨w3.heap.size + 1, 0, none⟩) 0 0) [] := by
    rw [← hs4]; exact World.ownsRow_made W4 #[] 0 (Nat.le_refl _) (by unfold maxLen; omega) rfl
  have hsz2 := HB2.out.2.2
  have hbB5 : Below B w W5 := HBW.out.trans (((HB2.out.1.trans ((hb3.mono (by omega)).trans ((hb4.mono (by omega)).trans (hb5.mono (by omega))))).mono hB))
  have hsr5 : IntsAt (W4.alloc (.cells #[] 3)) (.slice va L.length vcap) L := by rw [← hW5]; exact IntsIn.at (HKK.out.later hbB5 (Nat.le_refl _))
  have hlo5 : w3.heap.size + 1 ≤ (W4.alloc (.cells #[] 3)).heap.size := by simp; omega
  have HLN5 : Hid (([] : List Int).length + L.length ≤ 17592186044416) := Lib.hid (by simp; omega)
  have HU := Lib.hid hu
  have e1 := (hb5.block (w'.heap.size + 1) (by omega)).trans ((hb4.block (w'.heap.size + 1) (by omega)).trans ((hb3.block (w'.heap.size + 1) (by omega)).trans HB2.out.2.1))
  have e4 := (hb5.block w3.heap.size (by omega)).trans d4
  have hbel5 : Below w'.heap.size w' W5 := HB2.out.1.trans ((hb3.mono (by omega)).trans ((hb4.mono (by omega)).trans (hb5.mono (by omega))))
  have HE5 := Lib.hid (And.intro e1 (And.intro e4 (And.intro hbel5 (And.intro hs4 (And.intro hs5 (And.intro hs3 hsz2))))))
  have H05 := Lib.hid h05
  have HSR5 := Lib.hid hsr5
  have HW5 := Lib.hid hW5
  have HW4 := Lib.hid hW4
  clear x1 x2 x3 x4 hb3 hnd hu hb4 hb5 d4 h05 hbB5 hsr5 e1 e4 hbel5 hsz2 hs5 hW5
  rw [hW4] at H05 HSR5 hlo5
  clear hW4
  go_wp2_with (at_builtin; refine wpList_append_ints rfl _ _ rfl (w3.heap.size + 1) _ _ [] L rfl H05.out rfl HSR5.out HLN5.out hlo5 ?_; intro v6 w6 hown6 hbel6 _ hsh6; obtain ⟨a6, c6, rfl⟩ := hsh6; rw [← HW4.out, ← HW5.out] at hbel6; rw [List.nil_append] at hown6; have hz6 : W5.heap.size ≤ w6.heap.size := hbel6.size; have H6 := Lib.hid (And.intro hown6 hbel6); clear hown6 hbel6)
  have hz5 := HE5.out.2.2.2.2.1
  have hz4 := HE5.out.2.2.2.1
  have hz3 := HE5.out.2.2.2.2.2.1
  have hz2 := HE5.out.2.2.2.2.2.2
  have hs6 : w3.heap.size + 2 ≤ w6.heap.size := by omega
  have f1 := (H6.out.2.block (w'.heap.size + 1) (by omega)).trans HE5.out.1
  have f4 := (H6.out.2.block w3.heap.size (by omega)).trans HE5.out.2.1
  have fb : Below w'.heap.size w' w6 := HE5.out.2.2.1.trans (H6.out.2.mono (by omega))
  have hw3 : w'.heap.size + 2 ≤ w3.heap.size := by omega
  have HF := Lib.hid (And.intro f1 (And.intro f4 fb))
  clear f1 f4 fb hz5 hz4 hz3 hz2 hs4 hlo5
  go_loopw [1, 9] (fun v1 _ wr => ∃ (pa : Option Addr) (pc : Nat) (P : List Int) (u' : Tr) (N : Nat) (b1 : Option Addr) (b2 b3 : Nat) (b4 : Option Addr) (b5 b6 : Nat), v1 = .slice pa P.length pc ∧ Hid (IntsOwn wr (w3.heap.size + 1) (.slice pa P.length pc) P) ∧
    Hid (u'.weight ≤ N ∧ P ++ Tr.downF N u' = L ++ Tr.downF u0.weight u0 ∧ Tr.Well u') ∧ u'.weight ≤ 1048576 ∧ Hid (TreeIn w B (.slice b1 b2 b3) (.slice b4 b5 b6) u') ∧ P.length ≤ 3000000 - u'.weight ∧
    wr.heap[w3.heap.size]? = some (.cells #[.slice b1 b2 b3, .slice b4 b5 b6] 33 (0, 0)) ∧ wr.heap[w'.heap.size + 1]? = some (.cells #[.slice none 0 0, .int .i64 0] 28 (0, 0)) ∧ Below w'.heap.size w' wr) (fun v1 _ _ => (L ++ Tr.downF u0.weight u0).length - (match v1 with | .slice _ n _ => n | _ => 0))
  case atStart => exact ⟨a6, c6, L, u0, u0.weight, m1, m2, m3, m4, m5, m6, rfl, Lib.hid H6.out.1, Lib.hid ⟨Nat.le_refl _, rfl, HWELL.out⟩, hNW, HU, by omega, HF.out.2.1, HF.out.1, HF.out.2.2⟩
  case round =>
    obtain ⟨pa, pc, P, ⟨k, cs⟩, N, b1, b2, b3, b4, b5, b6, rfl, HOWN, HREL, hwt, HUU, hPl, hx4, hx1, hbel⟩ := hrel
    have hszr : w3.heap.size < wr.heap.size := (Array.getElem?_eq_some_iff.1 hx4).1
    obtain ⟨ca, ccap, kvs, cvs, hcv, hik, hcl, hcc, hkat, hkk⟩ := HUU.out.parts
    simp only [Value.slice.injEq] at hcv
    obtain ⟨rfl, rfl, rfl⟩ := hcv
    obtain ⟨_, _, hkv, hk1, hk2, -⟩ := hik
    simp only [Value.slice.injEq] at hkv
    obtain ⟨rfl, rfl, rfl⟩ := hkv
    unfold maxLen at hcc hk2
    obtain ⟨z1, z2, z3, z4⟩ := box2 hx4
    obtain ⟨y1, y2, y3, y4⟩ := box2 hx1
    have HX := Lib.hid (And.intro hx4 (And.intro hx1 hbel))
    have HKA := Lib.hid (And.intro hkat hkk)
    clear hx4 hx1 hbel hkat hkk
    by_cases h0 : cs.length = 0
    · obtain rfl : cs = [] := List.length_eq_zero_iff.1 h0
      have hng : ¬ (0 : Int) < 0 := by omega
      have hrel : P = L ++ Tr.downF u0.weight u0 := by
        have := HREL.out.2.1
        cases N <;> simpa [Tr.downF] using this
      have HR := Lib.hid hrel
      clear hrel h0
      go_wp2_with fail
      have d := set_blk (o := 1) (.int .i64 0) (set_blk (o := 0) (.slice pa P.length pc) HX.out.2.1)
      obtain ⟨t1, t2, -, -⟩ := box2 d
      refine bodyPost_ret (v := .agg #[.slice pa P.length pc, .int .i64 0]) (by simp [results, Tryd.results58, go_sem, t1, t2]) rfl ⟨.slice pa P.length pc, rfl, ?_, ?_⟩
      · rw [← HR.out]
        exact (HOWN.out.only (w' := (wr.setCell ⟨w'.heap.size + 1, 0, none⟩ (.slice pa P.length pc)).setCell ⟨w'.heap.size + 1, 1, none⟩ (.int .i64 0)) (C := wr.heap.size) (r := w'.heap.size + 1) ⟨rfl, rfl, rfl, by simp, fun k _ hne => by rw [set_other _ _ _ _ _ hne, set_other _ _ _ _ _ hne]⟩ (Nat.le_refl _) (by omega)).lower (by omega)
      · exact (HX.out.2.2.setCell (by show w'.heap.size ≤ w'.heap.size + 1; omega) _).setCell (by show w'.heap.size ≤ w'.heap.size + 1; omega) _
    · have hpos : (0 : Int) < (cs.length : Int) := by omega
      obtain ⟨E, hE⟩ : ∃ E : Nat, E = 0 := ⟨_, rfl⟩
      have hEl : E < cs.length := by omega
      rcases HKA.out.1 with h | ⟨kb, ko, rfl, hkb, hkc⟩
      · exact absurd h h0
      obtain ⟨c1, c2⟩ := hkc E hEl
      have hbBr : Below B w wr := HBW.out.trans (HX.out.2.2.mono hB)
      have hu2 := HKA.out.2 E hEl
      obtain ⟨q1, q2, q3, q4, q5, q6, s1, s2⟩ := hu2.slices
      rw [s1, s2] at hu2
      rw [s1] at c1
      rw [s2] at c2
      have HU2 := Lib.hid hu2
      have hwk := Tr.weight_get_le cs E hEl
      have hwkid := HREL.out.2.2.kid E hEl
      have hrel2 : cs[E].weight ≤ N - 1 ∧ P ++ [(E : Int)] ++ Tr.downF (N - 1) cs[E] = L ++ Tr.downF u0.weight u0 ∧ Tr.Well cs[E] := by
        refine ⟨?_, ?_, hwkid⟩
        · have := HREL.out.1; simp only [Tr.weight] at this; omega
        · have h := HREL.out.2.1
          have hw0 := HREL.out.1
          simp only [Tr.weight] at hw0
          have hNN : N = (N - 1) + 1 := by omega
          rw [hNN] at h
          subst hE
          cases cs with
          | nil => exact absurd rfl h0
          | cons y r => rw [Tr.downF] at h; rw [← h]; simp
      have HR2 := Lib.hid hrel2
      have hTlt : P.length + 1 ≤ (L ++ Tr.downF u0.weight u0).length := by
        rw [← (by have := hrel2.2.1; exact this : P ++ [(E : Int)] ++ Tr.downF (N - 1) cs[E] = L ++ Tr.downF u0.weight u0)]
        simp
      have hwt2 : cs[E].weight + 1 ≤ (Tr.mk k cs).weight := by simp only [Tr.weight]; omega
      have HH := Lib.hid (And.intro hE (And.intro hTlt hwt2))
      have hlt9 : w3.heap.size + 1 ≤ (wr.alloc (.cells #[.int .i64 0] 3)).heap.size := by simp; omega
      have HO9 := Lib.hid (HOWN.out.alloc' (.cells #[.int .i64 0] 3))
      have HS9 := Lib.hid (IntsAt.one wr 0)
      have HLN9 : Hid (P.length + ([0] : List Int).length ≤ 17592186044416) := Lib.hid (by simp; omega)
      have HC := Lib.hid (fun (wx : World) (hb : Below B w wx) => (show wx.cell? ⟨kb, ko, none⟩ = some (.slice q1 q2 q3) ∧ wx.cell? ⟨kb, ko + 1, none⟩ = some (.slice q4 q5 q6) from ⟨by rw [below_cell hb hkb]; simpa [hE] using c1, by rw [below_cell hb hkb]; simpa [hE] using c2⟩))
      clear hrel2 hTlt hwt2 hwkid hu2 s1 s2 c1 c2 hkc hbBr hE
      go_wp2_with (at_builtin; refine wpList_append_ints rfl _ _ rfl (w3.heap.size + 1) _ _ P [0] rfl HO9.out rfl HS9.out HLN9.out hlt9 ?_; intro v9 w9 hown9 hbel9 _ hsh9; obtain ⟨a9, c9, rfl⟩ := hsh9; have g4 := (hbel9.block w3.heap.size (by omega)).trans ((old_blk _ _ _ hszr).trans HX.out.1); have g1' := (hbel9.block (w'.heap.size + 1) (by omega)).trans ((old_blk _ _ _ (by omega)).trans HX.out.2.1); have gb : Below w'.heap.size w' w9 := HX.out.2.2.trans (((Below.refl wr.heap.size wr).alloc (Nat.le_refl _) _ |>.mono (show w'.heap.size ≤ wr.heap.size by omega)).trans (hbel9.mono (by omega))); obtain ⟨p1, p2, p3, p4⟩ := box2 g4; obtain ⟨c1, c2⟩ := HC.out w9 (HBW.out.trans (gb.mono hB)); generalize hL9 : P ++ [0] = L9 at hown9 ⊢; have HL9 := Lib.hid hL9; have H9 := Lib.hid (And.intro hown9 (And.intro g4 (And.intro g1' gb))); clear hown9 hbel9 g4 g1' gb hL9 z1 z2 z3 z4 y1 y2 y3 y4)
      go_roundw
      case rel =>
        have hp9 : P ++ [(E : Int)] = L9 := by rw [← HL9.out, HH.out.1]; simp [HH.out.1]
        have hl9 : L9.length = P.length + 1 := by rw [← hp9]; simp
        have hne : w3.heap.size ≠ w'.heap.size + 1 := by omega
        have hr2 := HR2.out
        have hh3 := HH.out.2.2
        rw [hp9] at hr2
        refine ⟨a9, c9, L9, cs[E], N - 1, q1, q2, q3, q4, q5, q6, rfl, Lib.hid ?_, Lib.hid hr2, by omega, HU2, by omega, ?_, ?_, ?_⟩
        · exact H9.out.1.only (w' := (w9.setCell ⟨w3.heap.size, 0, none⟩ (.slice q1 q2 q3)).setCell ⟨w3.heap.size, 1, none⟩ (.slice q4 q5 q6)) (C := w9.heap.size) (r := w3.heap.size) ⟨rfl, rfl, rfl, by simp, fun k _ hne => by rw [set_other _ _ _ _ _ hne, set_other _ _ _ _ _ hne]⟩ (Nat.le_refl _) (by omega)
        · exact set_blk (o := 1) _ (set_blk (o := 0) _ H9.out.2.1)
        · rw [set_other _ _ _ _ _ (by omega), set_other _ _ _ _ _ (by omega)]; exact H9.out.2.2.1
        · exact (H9.out.2.2.2.setCell (by show w'.heap.size ≤ w3.heap.size; omega) _).setCell (by show w'.heap.size ≤ w3.heap.size; omega) _
      case measure =>
        have hp9 : P ++ [(E : Int)] = L9 := by rw [← HL9.out, HH.out.1]; simp [HH.out.1]
        have hl9 : L9.length = P.length + 1 := by rw [← hp9]; simp
        have := HH.out.2.1
        simp only
        omega

set_option maxHeartbeats 2000000 in
set_option maxRecDepth 100000 in
theorem l8DownB_c {w : World} {B : Nat} {kv cv v : Value} {t u0 : Tr} {L : List Int} (ht : TreeIn w B kv cv t) (hk : IntsIn w B v L) (hn : Tr.nodeTo L t = some u0) (hsm : t.weight ≤ 1048576) (hlen : L.length ≤ 1048576) (hwell : Tr.Well u0) (w' : World) (hbw : Below B w w') (hB : B ≤ w'.heap.size) :
    Calls Tryd.prog 58 #[.agg #[kv, cv], v, .bool true] w' (Stands w' (L ++ (Tr.downL u0.weight u0).1) (((Tr.downL u0.weight u0).2 : Int) - 1)) := by
  have HT := Lib.hid ht
  have HKK := Lib.hid hk
  have hNW : u0.weight ≤ 1048576 := Nat.le_trans (Tr.nodeTo_small L hn).1 hsm
  have HNW := Lib.hid hn
  have HWELL := Lib.hid hwell
  obtain ⟨g1, g2, g3, g4, g5, g6, rfl, rfl⟩ := ht.slices
  obtain ⟨va, vcap, rfl⟩ := hk.shown
  obtain ⟨W2, hW2⟩ : ∃ W2, W2 = (w'.alloc (.cells #[.slice g1 g2 g3, .slice g4 g5 g6] 33)).alloc (.cells #[.slice none 0 0, .int .i64 0] 28) := ⟨_, rfl⟩
  have hb2 : Below w'.heap.size w' W2 := by rw [hW2]; exact ((Below.refl _ _).alloc (Nat.le_refl _) _).alloc (by simp) _
  have hs2 : W2.heap.size = w'.heap.size + 2 := by rw [hW2]; simp
  have k0 : W2.heap[w'.heap.size]? = some (.cells #[.slice g1 g2 g3, .slice g4 g5 g6] 33 (0, 0)) := by rw [hW2, old_blk _ _ _ (by simp), new_blk]
  have k1 : W2.heap[w'.heap.size + 1]? = some (.cells #[.slice none 0 0, .int .i64 0] 28 (0, 0)) := by
    rw [hW2, show w'.heap.size + 1 = (w'.alloc (.cells #[.slice g1 g2 g3, .slice g4 g5 g6] 33)).heap.size by simp, new_blk]
  have k0x := k0
  rw [hW2] at k0x
  obtain ⟨x1, x2, x3, x4⟩ := box2 k0x
  have HB2 := Lib.hid (And.intro hb2 (And.intro k1 hs2))
  have HBW := Lib.hid hbw
  have HW2 := Lib.hid hW2
  clear ht hk hbw hW2 hb2 hs2 k0 k1 k0x hn hwell
  go_enter Tryd.func58, Tryd.ntmps58
  go_wp2_with fail
  rw [← HW2.out]
  refine (l8Node_c HT.out HKK.out W2 (HBW.out.trans (HB2.out.1.mono hB)) (by have := HB2.out.2.2; omega)).mono ?_
  rintro e w3 ⟨hno, hb3⟩
  rcases hno with ⟨u1, ku, cu, hnd, rfl, hu⟩ | ⟨hnone, rfl⟩
  case inr => rw [HNW.out] at hnone; cases hnone
  obtain rfl : u0 = u1 := by rw [HNW.out] at hnd; exact Option.some.inj hnd
  have hs3 := hb3.size
  obtain ⟨m1, m2, m3, m4, m5, m6, rfl, rfl⟩ := hu.slices
  -- the node's box, the empty slice
  obtain ⟨W4, hW4⟩ : ∃ W4, W4 = w3.alloc (.cells #[.slice m1 m2 m3, .slice m4 m5 m6] 33) := ⟨_, rfl⟩
  have hs4 : W4.heap.size = w3.heap.size + 1 := by rw [hW4]; simp
  have hb4 : Below w3.heap.size w3 W4 := by rw [hW4]; exact (Below.refl _ _).alloc (Nat.le_refl _) _
  have d4 : W4.heap[w3.heap.size]? = some (.cells #[.slice m1 m2 m3, .slice m4 m5 m6] 33 (0, 0)) := by rw [hW4, new_blk]
  obtain ⟨W5, hW5⟩ : ∃ W5, W5 = W4.alloc (.cells #[] 3) := ⟨_, rfl⟩
  have hs5 : W5.heap.size = W4.heap.size + 1 := by rw [hW5]; simp
  have hb5 : Below W4.heap.size W4 W5 := by rw [hW5]; exact (Below.refl _ _).alloc (Nat.le_refl _) _
  have h05 : IntsOwn (W4.alloc (.cells #[] 3)) (w3.heap.size + 1) (.slice (some ⟨w3.heap.size + 1, 0, none⟩) 0 0) [] := by
    rw [← hs4]; exact World.ownsRow_made W4 #[] 0 (Nat.le_refl _) (by unfold maxLen; omega) rfl
  have hsz2 := HB2.out.2.2
  have hbB5 : Below B w W5 := HBW.out.trans (((HB2.out.1.trans ((hb3.mono (by omega)).trans ((hb4.mono (by omega)).trans (hb5.mono (by omega))))).mono hB))
  have hsr5 : IntsAt (W4.alloc (.cells #[] 3)) (.slice va L.length vcap) L := by rw [← hW5]; exact IntsIn.at (HKK.out.later hbB5 (Nat.le_refl _))
  have hlo5 : w3.heap.size + 1 ≤ (W4.alloc (.cells #[] 3)).heap.size := by simp; omega
  have HLN5 : Hid (([] : List Int).length + L.length ≤ 17592186044416) := Lib.hid (by simp; omega)
  have HU := Lib.hid hu
  have e1 := (hb5.block (w'.heap.size + 1) (by omega)).trans ((hb4.block (w'.heap.size + 1) (by omega)).trans ((hb3.block (w'.heap.size + 1) (by omega)).trans HB2.out.2.1))
  have e4 := (hb5.block w3.heap.size (by omega)).trans d4
  have hbel5 : Below w'.heap.size w' W5 := HB2.out.1.trans ((hb3.mono (by omega)).trans ((hb4.mono (by omega)).trans (hb5.mono (by omega))))
  have HE5 := Lib.hid (And.intro e1 (And.intro e4 (And.intro hbel5 (And.intro hs4 (And.intro hs5 (And.intro hs3 hsz2))))))
  have H05 := Lib.hid h05
  have HSR5 := Lib.hid hsr5
  have HW5 := Lib.hid hW5
  have HW4 := Lib.hid hW4
  clear x1 x2 x3 x4 hb3 hnd hu hb4 hb5 d4 h05 hbB5 hsr5 e1 e4 hbel5 hsz2 hs5 hW5
  rw [hW4] at H05 HSR5 hlo5
  clear hW4
  go_wp2_with (at_builtin; refine wpList_append_ints rfl _ _ rfl (w3.heap.size + 1) _ _ [] L rfl H05.out rfl HSR5.out HLN5.out hlo5 ?_; intro v6 w6 hown6 hbel6 _ hsh6; obtain ⟨a6, c6, rfl⟩ := hsh6; rw [← HW4.out, ← HW5.out] at hbel6; rw [List.nil_append] at hown6; have hz6 : W5.heap.size ≤ w6.heap.size := hbel6.size; have H6 := Lib.hid (And.intro hown6 hbel6); clear hown6 hbel6)
  have hz5 := HE5.out.2.2.2.2.1
  have hz4 := HE5.out.2.2.2.1
  have hz3 := HE5.out.2.2.2.2.2.1
  have hz2 := HE5.out.2.2.2.2.2.2
  have hs6 : w3.heap.size + 2 ≤ w6.heap.size := by omega
  have f1 := (H6.out.2.block (w'.heap.size + 1) (by omega)).trans HE5.out.1
  have f4 := (H6.out.2.block w3.heap.size (by omega)).trans HE5.out.2.1
  have fb : Below w'.heap.size w' w6 := HE5.out.2.2.1.trans (H6.out.2.mono (by omega))
  have hw3 : w'.heap.size + 2 ≤ w3.heap.size := by omega
  have HF := Lib.hid (And.intro f1 (And.intro f4 fb))
  clear f1 f4 fb hz5 hz4 hz3 hz2 hs4 hlo5
  go_loopw [1, 9] (fun v1 _ wr => ∃ (pa : Option Addr) (pc : Nat) (P : List Int) (u' : Tr) (N : Nat) (b1 : Option Addr) (b2 b3 : Nat) (b4 : Option Addr) (b5 b6 : Nat), v1 = .slice pa P.length pc ∧ Hid (IntsOwn wr (w3.heap.size + 1) (.slice pa P.length pc) P) ∧
    Hid (u'.weight ≤ N ∧ (P ++ (Tr.downL N u').1 = L ++ (Tr.downL u0.weight u0).1 ∧ (Tr.downL N u').2 = (Tr.downL u0.weight u0).2) ∧ Tr.Well u') ∧ u'.weight ≤ 1048576 ∧ Hid (TreeIn w B (.slice b1 b2 b3) (.slice b4 b5 b6) u') ∧ P.length ≤ 3000000 - u'.weight ∧
    wr.heap[w3.heap.size]? = some (.cells #[.slice b1 b2 b3, .slice b4 b5 b6] 33 (0, 0)) ∧ wr.heap[w'.heap.size + 1]? = some (.cells #[.slice none 0 0, .int .i64 0] 28 (0, 0)) ∧ Below w'.heap.size w' wr) (fun v1 _ _ => (L ++ (Tr.downL u0.weight u0).1).length - (match v1 with | .slice _ n _ => n | _ => 0))
  case atStart => exact ⟨a6, c6, L, u0, u0.weight, m1, m2, m3, m4, m5, m6, rfl, Lib.hid H6.out.1, Lib.hid ⟨Nat.le_refl _, ⟨rfl, rfl⟩, HWELL.out⟩, hNW, HU, by omega, HF.out.2.1, HF.out.1, HF.out.2.2⟩
  case round =>
    obtain ⟨pa, pc, P, ⟨k, cs⟩, N, b1, b2, b3, b4, b5, b6, rfl, HOWN, HREL, hwt, HUU, hPl, hx4, hx1, hbel⟩ := hrel
    have hszr : w3.heap.size < wr.heap.size := (Array.getElem?_eq_some_iff.1 hx4).1
    obtain ⟨ca, ccap, kvs, cvs, hcv, hik, hcl, hcc, hkat, hkk⟩ := HUU.out.parts
    simp only [Value.slice.injEq] at hcv
    obtain ⟨rfl, rfl, rfl⟩ := hcv
    obtain ⟨_, _, hkv, hk1, hk2, -⟩ := hik
    simp only [Value.slice.injEq] at hkv
    obtain ⟨rfl, rfl, rfl⟩ := hkv
    unfold maxLen at hcc hk2
    obtain ⟨z1, z2, z3, z4⟩ := box2 hx4
    obtain ⟨y1, y2, y3, y4⟩ := box2 hx1
    have HX := Lib.hid (And.intro hx4 (And.intro hx1 hbel))
    have HKA := Lib.hid (And.intro hkat hkk)
    clear hx4 hx1 hbel hkat hkk
    by_cases h0 : cs.length = 0
    · obtain rfl : cs = [] := List.length_eq_zero_iff.1 h0
      have hng : ¬ (0 : Int) < 0 := by omega
      have hrel : P = L ++ (Tr.downL u0.weight u0).1 ∧ k.length = (Tr.downL u0.weight u0).2 := by
        have := HREL.out.2.1
        have e : Tr.downL N (.mk k []) = ([], k.length) := by
          cases N with
          | zero => rfl
          | succ n => rw [Tr.downL, dif_neg (by simp)]
        rw [e] at this
        simpa using this
      have HR := Lib.hid hrel
      have hwl : IntKind.i64.wrap ((k.length : Int) - 1) = (k.length : Int) - 1 := by rw [IntKind.wrap_i64]; omega
      clear hrel h0
      go_wp2_with fail
      have d := set_blk (o := 1) (.int .i64 ((k.length : Int) - 1)) (set_blk (o := 0) (.slice pa P.length pc) HX.out.2.1)
      obtain ⟨t1, t2, -, -⟩ := box2 d
      refine bodyPost_ret (v := .agg #[.slice pa P.length pc, .int .i64 ((k.length : Int) - 1)]) (by simp [results, Tryd.results58, go_sem, t1, t2]) rfl ⟨.slice pa P.length pc, by rw [← HR.out.2], ?_, ?_⟩
      · rw [← HR.out.1]
        exact (HOWN.out.only (w' := (wr.setCell ⟨w'.heap.size + 1, 0, none⟩ (.slice pa P.length pc)).setCell ⟨w'.heap.size + 1, 1, none⟩ (.int .i64 ((k.length : Int) - 1))) (C := wr.heap.size) (r := w'.heap.size + 1) ⟨rfl, rfl, rfl, by simp, fun k _ hne => by rw [set_other _ _ _ _ _ hne, set_other _ _ _ _ _ hne]⟩ (Nat.le_refl _) (by omega)).lower (by omega)
      · exact (HX.out.2.2.setCell (by show w'.heap.size ≤ w'.heap.size + 1; omega) _).setCell (by show w'.heap.size ≤ w'.heap.size + 1; omega) _
    · have hpos : (0 : Int) < (cs.length : Int) := by omega
      obtain ⟨E, hE⟩ : ∃ E : Nat, E = cs.length - 1 := ⟨_, rfl⟩
      have hEl : E < cs.length := by omega
      have hwE : IntKind.i64.wrap ((cs.length : Int) - 1) = (E : Int) := by rw [IntKind.wrap_i64]; omega
      have hEi : (cs.length : Int) - 1 = (E : Int) := by omega
      have hElt : (E : Int) < (cs.length : Int) := by omega
      have hE0 : (0 : Int) ≤ (E : Int) := by omega
      rcases HKA.out.1 with h | ⟨kb, ko, rfl, hkb, hkc⟩
      · exact absurd h h0
      obtain ⟨c1, c2⟩ := hkc E hEl
      have hbBr : Below B w wr := HBW.out.trans (HX.out.2.2.mono hB)
      have hu2 := HKA.out.2 E hEl
      obtain ⟨q1, q2, q3, q4, q5, q6, s1, s2⟩ := hu2.slices
      rw [s1, s2] at hu2
      rw [s1] at c1
      rw [s2] at c2
      have HU2 := Lib.hid hu2
      have hwk := Tr.weight_get_le cs E hEl
      have hwkid := HREL.out.2.2.kid E hEl
      have hrel2 : cs[E].weight ≤ N - 1 ∧ (P ++ [(E : Int)] ++ (Tr.downL (N - 1) cs[E]).1 = L ++ (Tr.downL u0.weight u0).1 ∧ (Tr.downL (N - 1) cs[E]).2 = (Tr.downL u0.weight u0).2) ∧ Tr.Well cs[E] := by
        refine ⟨?_, ?_, hwkid⟩
        · have := HREL.out.1; simp only [Tr.weight] at this; omega
        · have h := HREL.out.2.1
          have hw0 := HREL.out.1
          simp only [Tr.weight] at hw0
          have hNN : N = (N - 1) + 1 := by omega
          rw [hNN] at h
          rw [Tr.downL, dif_pos (show cs.length - 1 < cs.length by omega)] at h
          subst hE
          exact ⟨by rw [← h.1]; simp, h.2⟩
      have HR2 := Lib.hid hrel2
      have hTlt : P.length + 1 ≤ (L ++ (Tr.downL u0.weight u0).1).length := by
        rw [← (by have := hrel2.2.1; exact this.1 : P ++ [(E : Int)] ++ (Tr.downL (N - 1) cs[E]).1 = L ++ (Tr.downL u0.weight u0).1)]
        simp
      have hwt2 : cs[E].weight + 1 ≤ (Tr.mk k cs).weight := by simp only [Tr.weight]; omega
      have HH := Lib.hid (And.intro hE (And.intro hTlt hwt2))
      have hlt9 : w3.heap.size + 1 ≤ (wr.alloc (.cells #[.int .i64 (E : Int)] 3)).heap.size := by simp; omega
      have HO9 := Lib.hid (HOWN.out.alloc' (.cells #[.int .i64 (E : Int)] 3))
      have HS9 := Lib.hid (IntsAt.one wr (E : Int))
      have HLN9 : Hid (P.length + ([(E : Int)] : List Int).length ≤ 17592186044416) := Lib.hid (by simp; omega)
      have HC := Lib.hid (fun (wx : World) (hb : Below B w wx) => (show wx.cell? ⟨kb, ko + E * 2, none⟩ = some (.slice q1 q2 q3) ∧ wx.cell? ⟨kb, ko + E * 2 + 1, none⟩ = some (.slice q4 q5 q6) from ⟨by rw [below_cell hb hkb]; exact c1, by rw [below_cell hb hkb]; exact c2⟩))
      clear hrel2 hTlt hwt2 hwkid hu2 s1 s2 c1 c2 hkc hbBr hE
      go_wp2_with (at_builtin; refine wpList_append_ints rfl _ _ rfl (w3.heap.size + 1) _ _ P [(E : Int)] rfl HO9.out rfl HS9.out HLN9.out hlt9 ?_; intro v9 w9 hown9 hbel9 _ hsh9; obtain ⟨a9, c9, rfl⟩ := hsh9; have g4 := (hbel9.block w3.heap.size (by omega)).trans ((old_blk _ _ _ hszr).trans HX.out.1); have g1' := (hbel9.block (w'.heap.size + 1) (by omega)).trans ((old_blk _ _ _ (by omega)).trans HX.out.2.1); have gb : Below w'.heap.size w' w9 := HX.out.2.2.trans (((Below.refl wr.heap.size wr).alloc (Nat.le_refl _) _ |>.mono (show w'.heap.size ≤ wr.heap.size by omega)).trans (hbel9.mono (by omega))); obtain ⟨p1, p2, p3, p4⟩ := box2 g4; obtain ⟨c1, c2⟩ := HC.out w9 (HBW.out.trans (gb.mono hB)); generalize hL9 : P ++ [(E : Int)] = L9 at hown9 ⊢; have HL9 := Lib.hid hL9; have H9 := Lib.hid (And.intro hown9 (And.intro g4 (And.intro g1' gb))); clear hown9 hbel9 g4 g1' gb hL9 z1 z2 z3 z4 y1 y2 y3 y4)
      go_roundw
      case rel =>
        have hp9 : P ++ [(E : Int)] = L9 := by rw [← HL9.out]
        have hl9 : L9.length = P.length + 1 := by rw [← hp9]; simp
        have hne : w3.heap.size ≠ w'.heap.size + 1 := by omega
        have hr2 := HR2.out
        have hh3 := HH.out.2.2
        rw [hp9] at hr2
        refine ⟨a9, c9, L9, cs[E], N - 1, q1, q2, q3, q4, q5, q6, rfl, Lib.hid ?_, Lib.hid hr2, by omega, HU2, by omega, ?_, ?_, ?_⟩
        · exact H9.out.1.only (w' := (w9.setCell ⟨w3.heap.size, 0, none⟩ (.slice q1 q2 q3)).setCell ⟨w3.heap.size, 1, none⟩ (.slice q4 q5 q6)) (C := w9.heap.size) (r := w3.heap.size) ⟨rfl, rfl, rfl, by simp, fun k _ hne => by rw [set_other _ _ _ _ _ hne, set_other _ _ _ _ _ hne]⟩ (Nat.le_refl _) (by omega)
        · exact set_blk (o := 1) _ (set_blk (o := 0) _ H9.out.2.1)
        · rw [set_other _ _ _ _ _ (by omega), set_other _ _ _ _ _ (by omega)]; exact H9.out.2.2.1
        · exact (H9.out.2.2.2.setCell (by show w'.heap.size ≤ w3.heap.size; omega) _).setCell (by show w'.heap.size ≤ w3.heap.size; omega) _
      case measure =>
        have hp9 : P ++ [(E : Int)] = L9 := by rw [← HL9.out]
        have hl9 : L9.length = P.length + 1 := by rw [← hp9]; simp
        have := HH.out.2.1
        simp only
        omega
end Go.Proofs.YticfkfjijnfcbaaDoor
