/- The program's CursorKey. -/
import Derived.Test.YticfkfjijnfcbaaDoorProg
import Derived.Test.YticfkfjijnfcbaaDoorSh0
import Derived.Test.YticfkfjijnfcbaaDoorSh1
import Derived.Test.YticfkfjijnfcbaaDoorSh6
import Derived.Test.YticfkfjijnfcbaaDoorPlant
import Derived.Test.YticfkfjijnfcbaaDoorSh7
import Derived.Test.YticfkfjijnfcbaaDoorSh8
import Derived.Test.YticfkfjijnfcbaaDoorSh9
import Derived.Deep.RegionHeld3
import Derived.Deep.QuietTactic
import Derived.BigQuiet
import Derived.StillTailTactics
import Derived.Test.YticfkfjijnfcbaaDoorChecked
import Derived.WalkKit
import Derived.LaidEql
import Derived.Stop.Asserts
import Derived.RowKitTokens

/- A walker that stands where a cursor does. -/
namespace Go.Proofs.YticfkfjijnfcbaaDoor
open Go.RowKit

/-- The joints of a walker's stack: the nodes along a list of indices. -/
def Joints (w : World) (lo hi : Nat) (t : Tr) (L : List Int) (f : Nat → Value × Int) (D : Nat) : Prop :=
  ∀ i, i < D → ∃ (p : Nat) (u : Tr), f i = (.pointer (some ⟨p, 0, none⟩), L.getD i 0) ∧ Tr.nodeTo (L.take i) t = some u ∧ NodeAt w lo hi p u
theorem Joints.same {w w' : World} {lo hi : Nat} {t : Tr} {L : List Int} {f : Nat → Value × Int} {D : Nat} (h : Joints w lo hi t L f D) (hb : ∀ k, lo ≤ k → k < hi → w'.heap[k]? = w.heap[k]?) : Joints w' lo hi t L f D :=
  fun i hi => by obtain ⟨p, u, h1, h2, h3⟩ := h i hi; exact ⟨p, u, h1, h2, h3.same hb⟩
theorem Joints.snoc {w : World} {lo hi : Nat} {t : Tr} {L : List Int} {f : Nat → Value × Int} {D : Nat} (h : Joints w lo hi t L f D) {p : Nat} {u : Tr} {x : Int} (hx : L.getD D 0 = x) (hn : Tr.nodeTo (L.take D) t = some u) (hu : NodeAt w lo hi p u) :
    Joints w lo hi t L (fun i => if i = D then (.pointer (some ⟨p, 0, none⟩), x) else f i) (D + 1) := by
  intro i hi
  by_cases e : i = D
  · subst e
    exact ⟨p, u, by simp only [if_true, hx], hn, hu⟩
  · obtain ⟨p', u', h1, h2, h3⟩ := h i (by omega)
    exact ⟨p', u', by simp only [if_neg e]; exact h1, h2, h3⟩
theorem Joints.app {w : World} {lo hi : Nat} {t : Tr} {L M : List Int} {f : Nat → Value × Int} {D : Nat} (h : Joints w lo hi t L f D) (hD : D ≤ L.length) : Joints w lo hi t (L ++ M) f D := by
  intro i hi
  obtain ⟨p, u, h1, h2, h3⟩ := h i hi
  refine ⟨p, u, ?_, ?_, h3⟩
  · rw [h1, List.getD_eq_getElem?_getD, List.getD_eq_getElem?_getD, List.getElem?_append_left (by omega)]
  · rw [List.take_append_of_le_length (by omega)]; exact h2

/-- What walkerAt leaves. -/
def WalkAt (w' : World) (t : Tr) (ks : List Int) (a : Int) (V : Value) (e : Ending) (w'' : World) : Prop :=
  ((Tr.curB t ks a = false ∧ e = .returned (.tuple #[.pointer none, V])) ∨
   (Tr.curB t ks a = true ∧ ∃ (b : Nat) (f : Nat → Value × Int) (u : Tr) (p lo hi : Nat), e = .returned (.tuple #[.pointer (some ⟨b, 0, none⟩), .nilIface]) ∧ Walker w'' b f (ks.length + 1) ∧ f ks.length = (.pointer (some ⟨p, 0, none⟩), a) ∧ Tr.nodeTo ks t = some u ∧ NodeAt w'' lo hi p u ∧ hi ≤ w''.heap.size ∧ w'.heap.size ≤ b ∧ b < lo ∧ Joints w'' lo hi t (ks ++ [a]) f (ks.length + 1))) ∧
  Below w'.heap.size w' w''

theorem curB_of {t : Tr} {ks : List Int} {a : Int} (k : List Int) (c : List Tr) (hs : t.someB = true) (h : Tr.nodeTo ks t = some (.mk k c)) : Tr.curB t ks a = inB a 0 ((k.length : Int) - 1) := by
  unfold Tr.curB; rw [h]; simp [hs]
theorem curB_no {t : Tr} {ks : List Int} {a : Int} (h : t.someB = false ∨ Tr.nodeTo ks t = none) : Tr.curB t ks a = false := by
  unfold Tr.curB
  rcases h with h | h
  · split <;> simp [h]
  · rw [h]

theorem drewN_below (B : Nat) (w : World) (n : Nat) : Below B w (w.drewN n) := ⟨rfl, rfl, rfl, Nat.le_refl _, fun _ _ => rfl⟩

set_option maxHeartbeats 4000000 in
set_option maxRecDepth 100000 in
theorem walkerAt_c {w : World} {B : Nat} {kv cv v : Value} {t : Tr} {ks : List Int} (ht : TreeIn w B kv cv t) (hw : t.weight ≤ 1048576) (hk : IntsIn w B v ks) (a : Int) (s : Addr) (w' : World) (hbw : Below B w w') (hB : B ≤ w'.heap.size)
    (hV : ∀ wx, Below w'.heap.size w' wx → wx.cell? ⟨0, 0, none⟩ = some (.iface 174 (.pointer (some s)))) :
    Calls Tryd.prog 80 #[.agg #[kv, cv], .agg #[v, .int .i64 a]] w' (WalkAt w' t ks a (.iface 174 (.pointer (some s)))) := by
  have HT := Lib.hid ht
  obtain ⟨g1, g2, g3, g4, g5, g6, rfl, rfl⟩ := ht.slices
  obtain ⟨va, vcap, rfl, hv1, hv2, -, h3⟩ := hk
  unfold maxLen at hv2
  have HK := Lib.hid h3
  have HBW := Lib.hid hbw
  obtain ⟨W2, hW2⟩ : ∃ W2, W2 = (w'.alloc (.cells #[.slice g1 g2 g3, .slice g4 g5 g6] 33)).alloc (.cells #[.slice va ks.length vcap, .int .i64 a] 28) := ⟨_, rfl⟩
  have hb2 : Below w'.heap.size w' W2 := by rw [hW2]; exact ((Below.refl _ _).alloc (Nat.le_refl _) _).alloc (by simp) _
  have hs2 : W2.heap.size = w'.heap.size + 2 := by rw [hW2]; simp
  have k0 : W2.heap[w'.heap.size]? = some (.cells #[.slice g1 g2 g3, .slice g4 g5 g6] 33 (0, 0)) := by rw [hW2, old_blk _ _ _ (by simp), new_blk]
  have k1 : W2.heap[w'.heap.size + 1]? = some (.cells #[.slice va ks.length vcap, .int .i64 a] 28 (0, 0)) := by
    rw [hW2, show w'.heap.size + 1 = (w'.alloc (.cells #[.slice g1 g2 g3, .slice g4 g5 g6] 33)).heap.size by simp, new_blk]
  have BOX : Hid (∀ wx : World, Below W2.heap.size W2 wx → wx.heap[w'.heap.size]? = some (.cells #[.slice g1 g2 g3, .slice g4 g5 g6] 33 (0, 0)) ∧ wx.heap[w'.heap.size + 1]? = some (.cells #[.slice va ks.length vcap, .int .i64 a] 28 (0, 0)) ∧ wx.cell? ⟨0, 0, none⟩ = some (.iface 174 (.pointer (some s)))) :=
    Lib.hid (fun wx hx => ⟨(hx.block _ (by omega)).trans k0, (hx.block _ (by omega)).trans k1, hV wx (hb2.trans (hx.mono (by omega)))⟩)
  have k0x := k0
  rw [hW2] at k0x
  obtain ⟨x1, x2, x3, x4⟩ := box2 k0x
  have hlt2 : w'.heap.size < W2.heap.size := by omega
  have HB2 := Lib.hid (And.intro hb2 (hbw.trans (hb2.mono hB)))
  have HS2 := Lib.hid hs2
  have HW2 := Lib.hid hW2
  clear ht h3 hbw hW2 hb2 k0 k1 k0x hV hs2
  go_enter Tryd.func80, Tryd.ntmps80
  go_wp2_with fail
  rw [← HW2.out]
  refine (validForSome_c HT.out hw W2 HB2.out.2 (by omega)).mono ?_
  rintro e w3 ⟨rfl, hb3⟩
  have hs3 := hb3.size
  clear x1 x2 x3 x4
  obtain ⟨x1, x2, x3, x4⟩ := box2 (BOX.out w3 hb3).1
  have xv := (BOX.out w3 hb3).2.2
  have H3 := Lib.hid hb3
  clear hb3
  cases hsb : t.someB with
  | false =>
    have HE := Lib.hid (curB_no (ks := ks) (a := a) (.inl hsb))
    clear hsb
    go_wp2_with fail
    go_quiet (fail)
    go_wp2_with fail
    exact bodyPost_ret (v := .tuple #[.pointer none, .iface 174 (.pointer (some s))]) (by simp [results, Tryd.results80]) rfl ⟨.inl ⟨HE.out, rfl⟩, (HB2.out.1.trans (H3.out.mono (by omega))).trans (drewN_below _ _ _)⟩
  | true =>
    have HSB := Lib.hid hsb
    obtain ⟨C0, hC0⟩ : ∃ C0 : Array Value, C0 = #[.pointer none, .int .i64 0, .pointer none, .int .i64 0, .pointer none, .int .i64 0, .pointer none, .int .i64 0, .pointer none, .int .i64 0, .pointer none, .int .i64 0, .int .i64 0] := ⟨_, rfl⟩
    obtain ⟨W4, hW4⟩ : ∃ W4, W4 = w3.alloc (.cells C0 127) := ⟨_, rfl⟩
    have hs4 : W4.heap.size = w3.heap.size + 1 := by rw [hW4]; simp
    have hb4 : Below w3.heap.size w3 W4 := by rw [hW4]; exact (Below.refl _ _).alloc (Nat.le_refl _) _
    have hx4 : W4.heap[w3.heap.size]? = some (.cells C0 127 (0, 0)) := by rw [hW4, new_blk]
    have hb24 : Below W2.heap.size W2 W4 := H3.out.trans (hb4.mono hs3)
    have hwk : Walker W4 w3.heap.size (fun _ => (undef, 0)) 0 := ⟨⟨C0, hx4, by rw [hC0]; rfl, by rw [hC0]; rfl, fun i hi => by omega⟩⟩
    obtain ⟨z1, z2, z3, z4⟩ := box2 (BOX.out W4 hb24).1
    rw [hW4, hC0] at z1 z2 z3 z4
    have HPL := Lib.hid (plant_c HT.out hw W4 (HB2.out.2.trans (hb24.mono (by omega))) (by omega))
    have H4 := Lib.hid (And.intro hb24 (And.intro hwk hs4))
    have HW4 := Lib.hid (show W4 = w3.alloc (.cells #[.pointer none, .int .i64 0, .pointer none, .int .i64 0, .pointer none, .int .i64 0, .pointer none, .int .i64 0, .pointer none, .int .i64 0, .pointer none, .int .i64 0, .int .i64 0] 127) by rw [hW4, hC0])
    clear hsb xv x1 x2 x3 x4 hW4 hb4 hx4 hb24 hwk hC0 hs4
    go_wp2_with fail
    rw [← HW4.out]
    refine HPL.out.mono ?_
    rintro e w5 ⟨p0, rfl, hnd, hb5⟩
    have hs5 := hb5.size
    have hb25 : Below W2.heap.size W2 w5 := H4.out.1.trans (hb5.mono H4.out.1.size)
    have hwk5 : Walker w5 w3.heap.size (fun _ => (undef, 0)) 0 := by
      obtain ⟨C, h1, h2⟩ := H4.out.2.1.blk
      exact ⟨⟨C, (hb5.block w3.heap.size (by have := H4.out.2.2; omega)).trans h1, h2⟩⟩
    clear z1 z2 z3 z4
    obtain ⟨z1, z2, z3, z4⟩ := box2 (BOX.out w5 hb25).2.1
    have hlo : w3.heap.size < W4.heap.size := by have := H4.out.2.2; omega
    have H5 := Lib.hid (And.intro hb25 (And.intro hwk5 hnd.nodeAt))
    clear hnd hb5 hb25 hwk5
    go_wp2_with fail
    go_loopw [7, 9, 21] (fun s7 _ i wr => ∃ (j : Nat) (u : Tr) (p : Nat) (f : Nat → Value × Int), j ≤ ks.length ∧ i = .int .i64 j ∧ s7 = .pointer (some ⟨p, 0, none⟩) ∧ Hid (Tr.nodeTo (ks.take j) t = some u) ∧ Hid (NodeAt wr W4.heap.size w5.heap.size p u) ∧ Hid (Walker wr w3.heap.size f j) ∧ Hid (Joints wr W4.heap.size w5.heap.size t ks f j) ∧ Only w5.heap.size w3.heap.size w5 wr) (fun _ _ i _ => ks.length - (intOf i).toNat)
    case atStart => exact ⟨0, t, p0, _, Nat.zero_le _, rfl, rfl, Lib.hid rfl, Lib.hid H5.out.2.2, Lib.hid H5.out.2.1, Lib.hid (fun i h => absurd h (Nat.not_lt_zero i)), Only.refl _ _ _⟩
    case round =>
      obtain ⟨j, ⟨uk, uc⟩, p, f, hj, rfl, rfl, HN, HU, HWK, HJ, honly⟩ := hrel
      have hsz := honly.size
      have hb2r : Below W2.heap.size W2 wr := H5.out.1.trans (honly.below (by omega) (by omega))
      obtain ⟨ukv, ca, ccap, ps, hplo, hphi, hbox, hik, hcl, hcc, hptr, hkids⟩ := HU.out.parts
      unfold maxLen at hcc
      obtain ⟨y1, y2, y3, y4⟩ := box2 hbox
      have HO := Lib.hid (And.intro honly hb2r)
      have HP := Lib.hid (And.intro hptr hkids)
      have hpb : p ≠ w3.heap.size := by omega
      have hp5 : p < w5.heap.size := by omega
      obtain ⟨ka, kcap, rfl, hk1, hk2, -, -⟩ := hik
      unfold maxLen at hk2
      have hbelow : Below w'.heap.size w' wr := HB2.out.1.trans (hb2r.mono (by omega))
      have HBX := Lib.hid hbox
      by_cases hlt : j < ks.length
      · rcases HK.out with h | ⟨b, off, rfl, hb, hat⟩
        · simp [h] at hlt
        have ha1 : wr.cell? ⟨b, off + j, none⟩ = some (.int .i64 (ks.getD j 0)) := by rw [below_cell (HBW.out.trans (hbelow.mono hB)) (by omega)]; exact hat j hlt
        have hjl : (j : Int) < (ks.length : Int) := by omega
        have htk : ks.take (j + 1) = ks.take j ++ [ks.getD j 0] := by
          have e : ks.getD j 0 = ks[j] := by simp [List.getD_eq_getElem?_getD, hlt]
          rw [List.take_succ_eq_append_getElem hlt, e]
        have hfull : ks = ks.take j ++ ks.getD j 0 :: ks.drop (j + 1) := by
          have e : ks.getD j 0 = ks[j] := by simp [List.getD_eq_getElem?_getD, hlt]
          rw [e, ← List.drop_eq_getElem_cons hlt, List.take_append_drop]
        have HTK := Lib.hid (And.intro htk hfull)
        generalize hxe : ks.getD j 0 = x at ha1 HTK
        have HXE := Lib.hid hxe
        clear hxe
        have HBL := Lib.hid hbelow
        clear hat hb hbox hkids hptr honly hb2r htk hfull hbelow
        go_wp2_with fail
        refine (isIndex_c x uc.length _).mono ?_
        rintro e w6 ⟨rfl, hw6⟩
        have hw6' := hw6.symm
        subst hw6'
        by_cases hin : 0 ≤ x ∧ x < (uc.length : Int)
        · rw [inB_true hin.1 (show x ≤ (uc.length : Int) - 1 by omega)]
          obtain ⟨N, rfl⟩ : ∃ N : Nat, x = N := ⟨x.toNat, by omega⟩
          have hN : N < uc.length := by omega
          have hnext : Tr.nodeTo (ks.take (j + 1)) t = some uc[N] := by
            rw [HTK.out.1, Tr.nodeTo_append, HN.out]
            show Tr.nodeTo [(N : Int)] (.mk uk uc) = _
            simp only [Tr.nodeTo, Int.toNat_natCast]
            rw [if_pos hin, List.getD_eq_getElem?_getD, List.getElem?_eq_getElem hN]; rfl
          have hfew := Tr.nodeTo_few HSB.out hnext
          rw [List.length_take] at hfew
          have HPU := Lib.hid (push_c HWK.out (by omega) ⟨p, 0, none⟩ (N : Int))
          have HNX := Lib.hid hnext
          have hNl : (N : Int) < (uc.length : Int) := by omega
          clear hnext hin
          go_wp2_with fail
          refine HPU.out.mono ?_
          rintro e w7 ⟨rfl, hwk7, ho7⟩
          have hsz7 := ho7.size
          have hbox7 := (ho7.block p (by omega) hpb).trans HBX.out
          obtain ⟨q1, q2, q3, q4⟩ := box2 hbox7
          rcases HP.out.1 with h | ⟨kb, ko, rfl, hkb1, hkb2, hkc⟩
          · omega
          have hkp : w7.cell? ⟨kb, ko + N, none⟩ = some (.pointer (some ⟨ps N, 0, none⟩)) := by
            rw [show w7.cell? ⟨kb, ko + N, none⟩ = wr.cell? ⟨kb, ko + N, none⟩ from World.cell?_of_block (w := wr) (a := ⟨kb, ko + N, none⟩) (ho7.block kb (by omega) (by omega))]
            exact hkc N hN
          have HJ7 := Lib.hid ((HJ.out.same (w' := w7) (fun k h1 h2 => ho7.block k (by omega) (by omega))).snoc (p := p) (u := .mk uk uc) (x := (N : Int)) HXE.out HN.out (HU.out.same (fun k h1 h2 => ho7.block k (by omega) (by omega))))
          have H7 := Lib.hid (And.intro hwk7 (And.intro ho7 ((HP.out.2 N hN).same (fun k h1 h2 => ho7.block k (by omega) (by omega)))))
          clear hwk7 ho7 hbox7 hkc y1 y2 y3 y4
          go_wp2_with fail
          go_roundw
          case rel => exact ⟨j + 1, uc[N], ps N, _, by omega, by go_num, rfl, HNX, Lib.hid H7.out.2.2, Lib.hid H7.out.1, HJ7, HO.out.1.trans (H7.out.2.1.mono (by omega))⟩
          case measure => simp [intOf]; omega
        · rw [inB_false (n := x) (lo := 0) (hi := (uc.length : Int) - 1) (by omega)]
          have hnone : Tr.nodeTo ks t = none := by
            rw [HTK.out.2, Tr.nodeTo_append, HN.out]
            show Tr.nodeTo (x :: ks.drop (j + 1)) (.mk uk uc) = none
            simp only [Tr.nodeTo]
            rw [if_neg hin]
          have HE := Lib.hid (curB_no (a := a) (.inr hnone))
          have xv := (BOX.out wr HO.out.2).2.2
          clear hnone hin
          go_wp2_with fail
          go_quiet (fail)
          go_wp2_with fail
          exact bodyPost_ret (v := .tuple #[.pointer none, .iface 174 (.pointer (some s))]) (by simp [results, Tryd.results80]) rfl ⟨.inl ⟨HE.out, rfl⟩, HBL.out.trans (drewN_below _ _ _)⟩
      · have hjl : ¬ (j : Int) < (ks.length : Int) := by omega
        obtain rfl : j = ks.length := by omega
        have hnode : Tr.nodeTo ks t = some (.mk uk uc) := by have := HN.out; rwa [List.take_length] at this
        have hcur := curB_of (a := a) uk uc HSB.out hnode
        have hfew := Tr.nodeTo_few HSB.out hnode
        have HCU := Lib.hid (And.intro hcur hnode)
        have HBL := Lib.hid hbelow
        obtain ⟨z1, z2, z3, z4⟩ := box2 (BOX.out wr hb2r).2.1
        have xv := (BOX.out wr hb2r).2.2
        clear hbox hkids hptr honly hb2r hbelow hnode hcur
        go_wp2_with fail
        go_region_held3 (fun x => x.cell? ⟨w'.heap.size + 1, 1, none⟩ = some (.int .i64 a) ∧ x.cell? ⟨p, 0, none⟩ = some (.slice ka uk.length kcap))
          (first | exact ⟨z2, y1⟩ | go_keep)
          (first | (go_at_call 112; refine (isIndex_c a uk.length _).mono ?_; rintro e w6 ⟨rfl, hw6⟩; have hw6' := hw6.symm; subst hw6'))
        have z2' : (wr.drew).cell? ⟨w'.heap.size + 1, 1, none⟩ = some (.int .i64 a) := z2
        have xv' : (wr.drew).cell? ⟨0, 0, none⟩ = some (.iface 174 (.pointer (some s))) := xv
        obtain ⟨r, hr⟩ : ∃ r, r = inB a 0 ((uk.length : Int) - 1) := ⟨_, rfl⟩
        rw [← hr]
        have HRR := Lib.hid hr
        clear hr z1 z2 z3 z4 y1 y2 y3 y4
        cases r with
        | false =>
          have HE := Lib.hid (show Tr.curB t ks a = false by rw [HCU.out.1, ← HRR.out])
          go_wp2_with fail
          go_quiet (fail)
          go_wp2_with fail
          exact bodyPost_ret (v := .tuple #[.pointer none, .iface 174 (.pointer (some s))]) (by simp [results, Tryd.results80]) rfl ⟨.inl ⟨HE.out, rfl⟩, (HBL.out.drew).trans (drewN_below _ _ _)⟩
        | true =>
          have HE := Lib.hid (show Tr.curB t ks a = true by rw [HCU.out.1, ← HRR.out])
          have hwk' : Walker wr.drew w3.heap.size f ks.length := ⟨HWK.out.blk⟩
          have HPU := Lib.hid (push_c hwk' (by omega) ⟨p, 0, none⟩ a)
          have hnd : NodeAt wr.drew W4.heap.size w5.heap.size p (.mk uk uc) := HU.out.same (fun k h1 h2 => rfl)
          have HND := Lib.hid hnd
          have hsd : wr.drew.heap.size = wr.heap.size := rfl
          clear hwk' hnd xv' xv
          go_wp2_with fail
          refine HPU.out.mono ?_
          rintro e w7 ⟨rfl, hwk7, ho7⟩
          have hsz7 := ho7.size
          have HJ7 := Lib.hid ((((HJ.out.same (w' := w7) (fun k h1 h2 => ho7.block k (by omega) (by omega)))).app (M := [a]) (Nat.le_refl _)).snoc (p := p) (u := .mk uk uc) (x := a) (by simp) (by rw [List.take_left' rfl]; exact HCU.out.2) (HND.out.same (fun k h1 h2 => ho7.block k (by omega) (by omega))))
          have H7 := Lib.hid (And.intro hwk7 (And.intro (HND.out.same (fun k h1 h2 => ho7.block k (by omega) (by omega))) (HBL.out.drew.trans (ho7.below (B := w'.heap.size) (by have := HBL.out.size; omega) (by have := HB2.out.1.size; omega)))))
          clear hwk7 ho7
          go_wp2_with fail
          have hge : w'.heap.size ≤ w3.heap.size := by have := HB2.out.1.size; omega
          exact bodyPost_ret (v := .tuple #[.pointer (some ⟨w3.heap.size, 0, none⟩), .nilIface]) (by simp [results, Tryd.results80]) rfl
            ⟨.inr ⟨HE.out, w3.heap.size, _, _, p, W4.heap.size, w5.heap.size, rfl, H7.out.1, by rw [if_pos rfl], HCU.out.2, H7.out.2.1, by omega, hge, hlo, HJ7.out⟩, H7.out.2.2⟩
end Go.Proofs.YticfkfjijnfcbaaDoor

/- The library's errors.Is where it is asked of nil, or of the sentinel itself. -/
namespace Go.Proofs.YticfkfjijnfcbaaDoor
open Go.RowKit Go.Extern.Stop Go.Stop Go.Extern

theorem isTypeOf (v : Value) (w : World) : (Extern.ReflectliteType.typeOf #[.iface 174 v]).run Tryd.prog w = .ok (.iface 160 (.agg #[.pointer (some ⟨2, 174, none⟩)])) w := by kernel_rfl
def cmpF : Array Value → Sem Value := Extern.ReflectliteType.method fun t => do Go.Extern.Rtype.noPackHeld "Comparable" t; pure (.bool (← typeInfo t).comparable)
theorem isComparable (w : World) : (cmpF #[.agg #[.pointer (some ⟨2, 174, none⟩)]]).run Tryd.prog w = .ok (.bool true) w := by kernel_rfl
theorem isMethodComparable (v : Value) (w : World) : (Go.method 316 160 v "Comparable").run Tryd.prog w = .ok (161, v) w := by kernel_rfl
theorem isComp : (Tryd.prog.info? 174).map (·.comparable) = some true := by kernel_rfl
theorem isSize : (Tryd.prog.info? 202).map (·.size) = some 1 := by kernel_rfl

set_option maxRecDepth 100000 in
theorem is_nil (b : Addr) (w : World) :
    Calls Tryd.prog 81 #[.nilIface, .iface 174 (.pointer (some b))] w fun e w' => e = .returned (.bool false) ∧ w' = w := by
  have hn := run_eql_iface_nil_left (P := Tryd.prog) w 174 (.pointer (some b)) Tryd.underlying84
  go_enter Tryd.func81, Tryd.ntmps81
  go_wp2
  go_ret
  exact ⟨rfl, rfl⟩

set_option maxRecDepth 100000 in
theorem is_same (a : Addr) (w : World) :
    Calls Tryd.prog 81 #[.iface 174 (.pointer (some a)), .iface 174 (.pointer (some a))] w fun e w' => e = .returned (.bool true) ∧ w' = w := by
  obtain ⟨i, hi, hcmp⟩ := Option.map_eq_some_iff.1 isComp
  obtain ⟨j, hj, hjs⟩ := Option.map_eq_some_iff.1 isSize
  have h8 := @run_callFunc_extern Tryd.prog 114 _ Extern.ReflectliteType.typeOf Tryd.func114 (by kernel_rfl) (by kernel_rfl) (by kernel_rfl) (by kernel_rfl)
  have h32 := @run_callFunc_extern Tryd.prog 161 _ cmpF Tryd.func161 (by kernel_rfl) (by kernel_rfl) (by kernel_rfl) (by kernel_rfl)
  have tT := isTypeOf
  have cT := isComparable
  have mR := isMethodComparable
  have heq := run_eql_iface_ptr_same (P := Tryd.prog) w a Tryd.underlying84 Tryd.underlying174 hi hcmp hj
  go_enter Tryd.func81, Tryd.ntmps81
  go_wp2
  refine wp_loop_rounds 1 ?_
  rw [rounds_succ]
  go_wp2
  go_ret
  exact ⟨rfl, rfl⟩
end Go.Proofs.YticfkfjijnfcbaaDoor

/- The key at which a walker stands. -/
namespace Go.Proofs.YticfkfjijnfcbaaDoor
open Go.RowKit

set_option maxHeartbeats 1000000 in
set_option maxRecDepth 100000 in
theorem lowest_c {w : World} {b D : Nat} {f : Nat → Value × Int} (h : Walker w b f (D + 1)) (hD : D < 6) :
    Calls Tryd.prog 108 #[.pointer (some ⟨b, 0, none⟩)] w fun e w' => e = .returned (.pointer (some ⟨b, D * 2, none⟩)) ∧ Below w.heap.size w w' ∧ w'.heap = w.heap := by
  obtain ⟨C, hx, hC, h12, hat⟩ := h.blk
  have x1 : w.cell? ⟨b, 12, none⟩ = some (.int .i64 ((D : Int) + 1)) := by simp [World.cell?, hx, h12]
  have hDi : (D : Int) < 6 := by omega
  have hD0 : (0 : Int) ≤ (D : Int) := by omega
  have hwr : IntKind.i64.wrap ((D : Int) + 1 - 1) = (D : Int) := by rw [IntKind.wrap_i64]; omega
  have hsub : (D : Int) + 1 - 1 = (D : Int) := by omega
  clear h hx hC h12 hat
  go_enter Tryd.func108, Tryd.ntmps108
  go_wp2_with fail
  go_quiet (fail)
  go_wp2_with fail
  go_ret
  refine ⟨?_, ?_, ?_⟩
  · first | rfl | simp
  · first | exact drewN_below _ _ _ | exact Below.refl _ _
  · rfl

set_option maxHeartbeats 1000000 in
set_option maxRecDepth 100000 in
theorem key_c {w : World} {b D p lo hi : Nat} {f : Nat → Value × Int} {a : Int} {k : List Int} {c : List Tr} (h : Walker w b f (D + 1)) (hD : D < 6) (hf : f D = (.pointer (some ⟨p, 0, none⟩), a)) (hn : NodeAt w lo hi p (.mk k c)) (ha : 0 ≤ a ∧ a < (k.length : Int)) :
    Calls Tryd.prog 82 #[.pointer (some ⟨b, 0, none⟩)] w fun e w' => e = .returned (.int .i64 (k.getD a.toNat 0)) ∧ Below w.heap.size w w' := by
  have HLW := Lib.hid (lowest_c h hD)
  obtain ⟨C, hx, hC, h12, hat⟩ := h.blk
  obtain ⟨N, rfl⟩ : ∃ N : Nat, a = N := ⟨a.toNat, by omega⟩
  rw [Int.toNat_natCast]
  have hN : N < k.length := by omega
  have hd := hat D (by omega)
  rw [hf] at hd
  have hc1 : C[D * 2]? = some (.pointer (some ⟨p, 0, none⟩)) := by rw [show D * 2 = 2 * D by omega]; exact hd.1
  have hc2 : C[D * 2 + 1]? = some (.int .i64 (N : Int)) := by rw [show D * 2 + 1 = 2 * D + 1 by omega]; exact hd.2
  obtain ⟨ukv, ca, ccap, ps, -, -, hbox, hik, -, -, -, -⟩ := hn.parts
  obtain ⟨ka, kcap, rfl, hk1, hk2, -, hk3⟩ := hik
  unfold maxLen at hk2
  rcases hk3 with h0 | ⟨kb, ko, rfl, -, -, hkc⟩
  · simp [h0] at hN
  have hkN := hkc N hN
  have CE : Hid (∀ wx : World, wx.heap = w.heap → wx.cell? ⟨b, D * 2, none⟩ = some (.pointer (some ⟨p, 0, none⟩)) ∧ wx.cell? ⟨b, D * 2 + 1, none⟩ = some (.int .i64 (N : Int)) ∧ wx.cell? ⟨p, 0, none⟩ = some (.slice (some ⟨kb, ko, none⟩) k.length kcap) ∧ wx.cell? ⟨kb, ko + N, none⟩ = some (.int .i64 (k.getD N 0))) :=
    Lib.hid (fun wx he => by
      refine ⟨?_, ?_, ?_, ?_⟩
      · simp [World.cell?, he, hx, hc1]
      · simp [World.cell?, he, hx, hc2]
      · simp [World.cell?, he, hbox]
      · have e : wx.cell? ⟨kb, ko + N, none⟩ = w.cell? ⟨kb, ko + N, none⟩ := by simp [World.cell?, he]
        rw [e]; exact hkN)
  have hNl : (N : Int) < (k.length : Int) := by omega
  clear h hx hC h12 hat hd hc1 hc2 hbox hkc hkN ha hf hn
  obtain ⟨K, hK⟩ : ∃ K, K = k.getD N 0 := ⟨_, rfl⟩
  rw [← hK] at CE ⊢
  clear hK
  go_enter Tryd.func82, Tryd.ntmps82
  go_wp2_with fail
  refine HLW.out.mono ?_
  rintro e w2 ⟨rfl, hb2, hh⟩
  obtain ⟨x1, x2, x3, x4⟩ := CE.out w2 hh
  have H2 := Lib.hid hb2
  clear hb2 hh
  go_wp2_with fail
  go_quiet (fail)
  go_wp2_with fail
  go_ret
  exact ⟨rfl, H2.out.trans (drewN_below _ _ _)⟩
end Go.Proofs.YticfkfjijnfcbaaDoor

/- The program's CursorKey. -/
namespace Go.Proofs.YticfkfjijnfcbaaDoor
open Go.RowKit

/-- The key at which a cursor stands. -/
def Tr.curK (t : Tr) (ks : List Int) (a : Int) : Int :=
  if Tr.curB t ks a = true then (match Tr.nodeTo ks t with | some (.mk k _) => k.getD a.toNat 0 | none => 0) else 0
theorem curK_no {t : Tr} {ks : List Int} {a : Int} (h : Tr.curB t ks a = false) : Tr.curK t ks a = 0 := by simp [Tr.curK, h]
theorem curK_at {t : Tr} {ks : List Int} {a : Int} {k : List Int} {c : List Tr} (h : Tr.curB t ks a = true) (hn : Tr.nodeTo ks t = some (.mk k c)) : Tr.curK t ks a = k.getD a.toNat 0 ∧ 0 ≤ a ∧ a < (k.length : Int) ∧ t.someB = true := by
  refine ⟨by simp [Tr.curK, h, hn], ?_⟩
  unfold Tr.curB at h
  rw [hn] at h
  simp only [Bool.and_eq_true, inB, decide_eq_true_eq] at h
  exact ⟨h.2.1, by omega, h.1⟩

set_option maxHeartbeats 2000000 in
set_option maxRecDepth 100000 in
theorem impl_cursorKey {w : World} {B : Nat} {kv cv v : Value} {t : Tr} {ks : List Int} (ht : TreeIn w B kv cv t) (hw : t.weight ≤ 1048576) (hk : IntsIn w B v ks) (a : Int) (s : Addr) (w' : World) (hbw : Below B w w') (hB : B ≤ w'.heap.size)
    (hV : ∀ wx, Below w'.heap.size w' wx → wx.cell? ⟨0, 0, none⟩ = some (.iface 174 (.pointer (some s)))) :
    Calls Tryd.prog 37 #[.agg #[kv, cv], .agg #[v, .int .i64 a]] w' fun e w'' => e = .returned (.tuple #[.int .i64 (Tr.curK t ks a), .bool (Tr.curB t ks a)]) ∧ Below w'.heap.size w' w'' := by
  have HT := Lib.hid ht
  have HK := Lib.hid hk
  obtain ⟨g1, g2, g3, g4, g5, g6, rfl, rfl⟩ := ht.slices
  obtain ⟨va, vcap, rfl, -⟩ := hk
  obtain ⟨W2, hW2⟩ : ∃ W2, W2 = (w'.alloc (.cells #[.slice g1 g2 g3, .slice g4 g5 g6] 33)).alloc (.cells #[.slice va ks.length vcap, .int .i64 a] 28) := ⟨_, rfl⟩
  have hb2 : Below w'.heap.size w' W2 := by rw [hW2]; exact ((Below.refl _ _).alloc (Nat.le_refl _) _).alloc (by simp) _
  have hs2 : w'.heap.size ≤ W2.heap.size := hb2.size
  have k0 : W2.heap[w'.heap.size]? = some (.cells #[.slice g1 g2 g3, .slice g4 g5 g6] 33 (0, 0)) := by rw [hW2, old_blk _ _ _ (by simp), new_blk]
  have k1 : W2.heap[w'.heap.size + 1]? = some (.cells #[.slice va ks.length vcap, .int .i64 a] 28 (0, 0)) := by
    rw [hW2, show w'.heap.size + 1 = (w'.alloc (.cells #[.slice g1 g2 g3, .slice g4 g5 g6] 33)).heap.size by simp, new_blk]
  rw [hW2] at k0 k1
  obtain ⟨x1, x2, x3, x4⟩ := box2 k0
  obtain ⟨y1, y2, y3, y4⟩ := box2 k1
  have HWA := Lib.hid (walkerAt_c HT.out hw HK.out a s W2 (hbw.trans (hb2.mono hB)) (by omega) (fun wx hx => hV wx (hb2.trans (hx.mono hs2))))
  have HB2 := Lib.hid (And.intro hb2 hV)
  have HW2 := Lib.hid hW2
  clear ht hbw hW2 hb2 k0 k1 hV
  go_enter Tryd.func37, Tryd.ntmps37
  go_wp2_with fail
  rw [← HW2.out]
  refine HWA.out.mono ?_
  rintro e w3 ⟨hres, hb3⟩
  have H3 := Lib.hid (HB2.out.1.trans (hb3.mono hs2))
  have xv := HB2.out.2 w3 H3.out
  clear hb3 x1 x2 x3 x4 y1 y2 y3 y4
  rcases hres with ⟨hc, rfl⟩ | ⟨hc, b, f, ⟨uk, uc⟩, p, lo, hi, rfl, hwk, hfp, hnode, hnd, -⟩
  · have HC := Lib.hid (And.intro hc (curK_no hc))
    clear hc
    go_wp2_with fail
    refine (is_same s _).mono ?_
    rintro e w4 ⟨rfl, hw4⟩
    have hw4' := hw4.symm
    subst hw4'
    go_wp2_with fail
    exact bodyPost_ret (v := .tuple #[.int .i64 0, .bool false]) (by simp [results, Tryd.results37]) rfl ⟨by rw [HC.out.1, HC.out.2], H3.out⟩
  · obtain ⟨hk1, ha1, ha2, hsb⟩ := curK_at hc hnode
    have hfew := Tr.nodeTo_few hsb hnode
    have HC := Lib.hid (And.intro hc hk1)
    have HKY := Lib.hid (key_c hwk (by omega) hfp hnd ⟨ha1, ha2⟩)
    clear hc hwk hfp hnode hnd hk1 ha1 ha2 hsb hfew
    go_wp2_with fail
    refine (is_nil s _).mono ?_
    rintro e w4 ⟨rfl, hw4⟩
    have hw4' := hw4.symm
    subst hw4'
    go_wp2_with fail
    refine HKY.out.mono ?_
    rintro e w5 ⟨rfl, hb5⟩
    have H5 := Lib.hid (H3.out.trans (hb5.mono H3.out.size))
    obtain ⟨K, hK⟩ : ∃ K, K = uk.getD a.toNat 0 := ⟨_, rfl⟩
    rw [← hK]
    have HKK := Lib.hid hK
    clear hb5 hK
    go_wp2_with fail
    exact bodyPost_ret (v := .tuple #[.int .i64 K, .bool true]) (by simp [results, Tryd.results37]) rfl ⟨by rw [HC.out.1, HC.out.2, HKK.out], H5.out⟩
end Go.Proofs.YticfkfjijnfcbaaDoor
