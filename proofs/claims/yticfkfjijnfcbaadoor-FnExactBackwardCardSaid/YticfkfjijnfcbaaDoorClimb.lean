/- A walker goes up again: toBehind, toAhead. -/
import Derived.Test.YticfkfjijnfcbaaDoorProg
import Derived.Test.YticfkfjijnfcbaaDoorSh0
import Derived.Test.YticfkfjijnfcbaaDoorSh9
import Derived.Test.YticfkfjijnfcbaaDoorSh10
import Derived.Test.YticfkfjijnfcbaaDoorCurWalk
import Derived.Test.YticfkfjijnfcbaaDoorSh13
import Derived.Deep.QuietTactic
import Derived.BigQuiet
import Derived.StillTailTactics
namespace Go.Proofs.YticfkfjijnfcbaaDoor
open Go.RowKit

/-- A walker stands at a cursor. -/
def StandsAt (w : World) (b : Nat) (P : List Int) (a : Int) : Prop :=
  ∃ f, Walker w b f (P.length + 1) ∧ (∀ i, i < P.length → (f i).2 = P.getD i 0 ∧ ∃ p : Addr, (f i).1 = .pointer (some p)) ∧ (f P.length).2 = a

/-- What a move of a walker leaves. -/
def Moved (w : World) (b : Nat) (V : Value) (r : List Int × Int × Bool) (e : Ending) (w' : World) : Prop :=
  ((r.2.2 = true ∧ e = .returned .nilIface ∧ StandsAt w' b r.1 r.2.1) ∨ (r = ([], 0, false) ∧ e = .returned V)) ∧ Only w.heap.size b w w'

theorem only_below_trans {w1 w2 w3 : World} {b : Nat} (h : Only w1.heap.size b w1 w2) (h2 : Below w2.heap.size w2 w3) : Only w1.heap.size b w1 w3 :=
  ⟨h2.os.trans h.os, h2.tape.trans h.tape, h2.output.trans h.output, Nat.le_trans h.size h2.size, fun k h1 hne => (h2.block k (by have := h.size; omega)).trans (h.block k h1 hne)⟩
theorem Walker.blow {w w' : World} {b D : Nat} {f : Nat → Value × Int} (h : Walker w b f D) (hb : w'.heap[b]? = w.heap[b]?) : Walker w' b f D := by
  obtain ⟨C, h1, h2⟩ := h.blk
  exact ⟨C, hb.trans h1, h2⟩
theorem Walker.lt {w : World} {b D : Nat} {f : Nat → Value × Int} (h : Walker w b f D) : b < w.heap.size := by
  obtain ⟨C, h1, h2⟩ := h.blk
  exact (Array.getElem?_eq_some_iff.1 h1).1

/-- Where the climbing stands: all above the place has been passed by. -/
theorem climb_here {P : Nat → Bool} {n D : Nat} (h : D + 1 ≤ n) (hno : ∀ i, D + 1 ≤ i → i < n → P i = false) (hp : P D = true) : Tr.climb P n = D + 1 := by
  rw [Tr.climb_skip (D + 1) n h hno, Tr.climb, if_pos hp]
theorem climb_none {P : Nat → Bool} {n : Nat} (hno : ∀ i, 0 ≤ i → i < n → P i = false) : Tr.climb P n = 0 := by
  rw [Tr.climb_skip 0 n (Nat.zero_le _) hno]; rfl

set_option maxRecDepth 100000 in
set_option maxHeartbeats 4000000 in
theorem toBehind_c {w : World} {b p lo hi gf q : Nat} {f : Nat → Value × Int} {t u : Tr} {ks : List Int} {a n c : Int} {V : Value}
    (hW : Walker w b f (ks.length + 1)) (hJ : Joints w lo hi t ks f ks.length) (hfp : f ks.length = (.pointer (some ⟨p, 0, none⟩), a)) (hnd : NodeAt w lo hi p u) (hn : Tr.nodeTo ks t = some u)
    (hwell : Tr.Well u) (hwt : u.weight ≤ 1048576) (hsix : (ks ++ Tr.sink c u).length ≤ 6) (hblo : b < lo) (hhi : hi ≤ w.heap.size) (hg : Ahead gf n c)
    (hq : w.heap[q]? = some (.cells #[.int .i64 n] 3 (0, 0))) (hqb : q ≠ b)
    (hV : ∀ wx : World, Only w.heap.size b w wx → wx.cell? ⟨1, 0, none⟩ = some V) :
    Calls Tryd.prog 73 #[.pointer (some ⟨b, 0, none⟩), .func (.func gf) #[] #[.pointer (some ⟨q, 0, none⟩)]] w (Moved w b V (Tr.upF t (ks ++ Tr.sink c u))) := by
  have HSI := Lib.hid (sink_c hW hJ hfp hnd hn hwell hwt hsix hblo hhi hg hq hqb)
  obtain ⟨L, hL⟩ : ∃ L, L = ks ++ Tr.sink c u := ⟨_, rfl⟩
  rw [← hL] at HSI hsix ⊢
  have hb := hW.lt
  have HV := Lib.hid hV
  clear hW hJ hfp hnd hn hwell hwt hg hq hqb hL hV
  go_enter Tryd.func73, Tryd.ntmps73
  go_wp2_with fail
  refine HSI.out.mono ?_
  rintro e w1 ⟨rfl, ⟨f1, hw1, hj1⟩, ho1⟩
  have hs1 := ho1.size
  have HW1 := Lib.hid (And.intro hw1 (And.intro hj1 ho1))
  clear hw1 hj1 ho1 HSI
  go_wp2_with fail
  go_loopw [5] (fun s5 wr => ∃ D : Nat, D ≤ L.length ∧ Hid (Walker wr b f1 D) ∧ Hid (∀ i, D ≤ i → i < L.length → Tr.stopF t L i = false) ∧ Hid (Joints wr lo hi t L f1 L.length) ∧ Hid (Only w.heap.size b w wr)) (fun s5 wr => match wr.cell? ⟨b, 12, none⟩ with | some v => (intOf v).toNat | none => 0)
  case atStart => exact ⟨L.length, Nat.le_refl _, Lib.hid HW1.out.1, Lib.hid (fun i h1 h2 => by omega), Lib.hid HW1.out.2.1, Lib.hid HW1.out.2.2⟩
  case round =>
    obtain ⟨D, hDL, HWK, HNO, HJ, HO⟩ := hrel
    have hO := HO.out
    have hsz := hO.size
    obtain ⟨C, hx, hC, h12, hat⟩ := HWK.out.blk
    have x12 : wr.cell? ⟨b, 12, none⟩ = some (.int .i64 (D : Int)) := by simp [World.cell?, hx, h12]
    have f12 : wr.frozen? ⟨b, 12, none⟩ = false := by simp [World.frozen?, hx]
    cases D with
    | zero =>
      have xv := HV.out wr hO
      have x12' : wr.cell? ⟨b, 12, none⟩ = some (.int .i64 0) := x12
      have hup : Tr.upF t L = ([], 0, false) := by
        unfold Tr.upF Tr.upTo
        rw [climb_none (fun i _ h2 => HNO.out i (Nat.zero_le _) h2), if_pos rfl]
      have HU := Lib.hid hup
      clear x12 f12 hx hC h12 hat hup hO
      go_wp2_with fail
      exact bodyPost_ret (v := V) (by simp [results, Tryd.results73, go_sem]) rfl ⟨.inr ⟨HU.out, rfl⟩, HO.out⟩
    | succ D =>
      have HLW := Lib.hid (lowest_c HWK.out (by omega))
      obtain ⟨pp, ⟨uk, uc⟩, g1, g2, g3⟩ := HJ.out D (by omega)
      have hd := hat D (by omega)
      rw [g1] at hd
      obtain ⟨x, hxx⟩ : ∃ x, x = L.getD D 0 := ⟨_, rfl⟩
      rw [← hxx] at hd g1
      obtain ⟨ukv, ca, ccap, ps, hplo, hphi, hbox, hik, -, -, -, -⟩ := g3.parts
      obtain ⟨ka, kcap, rfl, hk1, hk2, -, hk3⟩ := hik
      unfold maxLen at hk2
      have CE : Hid (∀ wx : World, wx.heap = wr.heap → wx.cell? ⟨b, D * 2, none⟩ = some (.pointer (some ⟨pp, 0, none⟩)) ∧ wx.cell? ⟨b, D * 2 + 1, none⟩ = some (.int .i64 x) ∧ wx.frozen? ⟨b, D * 2 + 1, none⟩ = false ∧ wx.cell? ⟨pp, 0, none⟩ = some (.slice ka uk.length kcap) ∧ wx.cell? ⟨b, 12, none⟩ = some (.int .i64 ((D : Int) + 1)) ∧ wx.frozen? ⟨b, 12, none⟩ = false) :=
        Lib.hid (fun wx he => by
          have e1 : C[D * 2]? = some (.pointer (some ⟨pp, 0, none⟩)) := by rw [show D * 2 = 2 * D by omega]; exact hd.1
          have e2 : C[D * 2 + 1]? = some (.int .i64 x) := by rw [show D * 2 + 1 = 2 * D + 1 by omega]; exact hd.2
          have e3 : C[12]? = some (.int .i64 ((D : Int) + 1)) := by rw [h12]; simp
          refine ⟨?_, ?_, ?_, ?_, ?_, ?_⟩
          · simp [World.cell?, he, hx, e1]
          · simp [World.cell?, he, hx, e2]
          · simp [World.frozen?, he, hx]
          · simp [World.cell?, he, hbox]
          · simp [World.cell?, he, hx, e3]
          · simp [World.frozen?, he, hx])
      have x12' : wr.cell? ⟨b, 12, none⟩ = some (.int .i64 ((D : Int) + 1)) := (CE.out wr rfl).2.2.2.2.1
      have hpos : (0 : Int) < (D : Int) + 1 := by omega
      have hdec : IntKind.i64.wrap ((D : Int) + 1 - 1) = (D : Int) := by rw [IntKind.wrap_i64]; omega
      have hsub : (D : Int) + 1 - 1 = (D : Int) := by omega
      have HG := Lib.hid (And.intro g1 (And.intro g2 (And.intro hxx (And.intro hx (And.intro hC (And.intro h12 hat))))))
      clear x12 f12 hx hC h12 hat g1 g2 g3 hd hxx hbox hk3 hO
      go_wp2_with fail
      refine HLW.out.mono ?_
      rintro e w2 ⟨rfl, hb2, hh⟩
      obtain ⟨y1, y2, y3, y4, y5, y6⟩ := CE.out w2 hh
      have H2 := Lib.hid (And.intro hb2 hh)
      clear hb2 hh x12'
      by_cases hcond : x < (uk.length : Int)
      ·
        have hst : (Tr.stopF t L) D = true := by
          unfold Tr.stopF
          rw [HG.out.2.2.1.symm, Tr.lenAt_of HG.out.2.1]
          exact decide_eq_true hcond
        have hcl := climb_here (P := (Tr.stopF t L)) (n := L.length) (by omega) HNO.out hst
        have hup : Tr.upF t L = (L.take D, x - 0, true) := by
          unfold Tr.upF Tr.upTo
          rw [hcl, if_neg (by omega), Nat.add_sub_cancel, HG.out.2.2.1]
        have HU := Lib.hid hup
        clear hst hcl hup
        go_wp2_with fail
        go_quiet (fail)
        go_wp2_with fail
        have hh := H2.out.2
        refine bodyPost_ret (v := .nilIface) (by simp [results, Tryd.results73, go_sem]) rfl ⟨.inl ?_, ?_⟩
        · rw [HU.out]
          refine ⟨rfl, rfl, ?_⟩
          have hlt : (L.take D).length = D := by rw [List.length_take]; omega
          refine ⟨f1, ?_, ?_, ?_⟩
          · rw [hlt]; exact HWK.out.blow (show w2.heap[b]? = _ by rw [hh])
          · rw [hlt]; intro i hi
            obtain ⟨p', u', g, -, -⟩ := HJ.out i (by omega)
            rw [g]
            refine ⟨?_, _, rfl⟩
            rw [List.getD_eq_getElem?_getD, List.getD_eq_getElem?_getD, List.getElem?_take_of_lt hi]
          · rw [hlt]; rw [HG.out.1]; show x = x - 0; omega
        · exact only_below_trans HO.out (H2.out.1.trans (drewN_below _ _ _))
      · have hst : (Tr.stopF t L) D = false := by
          unfold Tr.stopF
          rw [HG.out.2.2.1.symm, Tr.lenAt_of HG.out.2.1]
          exact decide_eq_false hcond
        have HST := Lib.hid hst
        clear hst
        go_wp2_with fail
        go_quiet (fail)
        go_wp2_with fail
        go_roundw
        case rel =>
          have hh := H2.out.2
          refine ⟨D, by omega, Lib.hid ?_, Lib.hid (fun i h1 h2 => ?_), Lib.hid ?_, Lib.hid ?_⟩
          · refine ⟨_, set_blk (o := 12) _ (show (w2.drewN nq).heap[b]? = _ by show w2.heap[b]? = _; rw [hh]; exact HG.out.2.2.2.1), by simp [HG.out.2.2.2.2.1], ?_, fun i hi => ?_⟩
            · rw [Array.getElem?_setIfInBounds_self_of_lt (by have := HG.out.2.2.2.2.1; omega)]
            · rw [Array.getElem?_setIfInBounds_ne (by omega), Array.getElem?_setIfInBounds_ne (by omega)]; exact HG.out.2.2.2.2.2.2 i (by omega)
          · by_cases e : i = D
            · rw [e]; exact HST.out
            · exact HNO.out i (by omega) h2
          · exact HJ.out.same (fun k h1 h2 => by rw [set_other _ _ _ _ _ (by show k ≠ b; omega)]; show w2.heap[k]? = _; rw [hh])
          · have ho := HO.out
            exact ⟨H2.out.1.os.trans ho.os, H2.out.1.tape.trans ho.tape, H2.out.1.output.trans ho.output, by have := H2.out.1.size; simp; omega, fun k h1 hne => by
              rw [set_other _ _ _ _ _ hne]; show w2.heap[k]? = _; rw [hh]; exact ho.block k h1 hne⟩
        case measure =>
          have hlt12 : 12 < C.size := by have := HG.out.2.2.2.2.1; omega
          have hh := H2.out.2
          have e1 : ((w2.drewN nq).setCell ⟨b, 12, none⟩ (.int .i64 (D : Int))).cell? ⟨b, 12, none⟩ = some (.int .i64 (D : Int)) := by
            have := set_blk (w := w2.drewN nq) (o := 12) (.int .i64 (D : Int)) (show (w2.drewN nq).heap[b]? = _ by show w2.heap[b]? = _; rw [hh]; exact HG.out.2.2.2.1)
            simp only [World.cell?, this]
            show (C.setIfInBounds 12 _)[12]? = _
            rw [Array.getElem?_setIfInBounds_self_of_lt hlt12]
          have e2 := (CE.out wr rfl).2.2.2.2.1
          rw [e1, e2]
          simp [intOf]
set_option maxRecDepth 100000 in
set_option maxHeartbeats 4000000 in
theorem toAhead_c {w : World} {b p lo hi gf q : Nat} {f : Nat → Value × Int} {t u : Tr} {ks : List Int} {a n c : Int} {V : Value}
    (hW : Walker w b f (ks.length + 1)) (hJ : Joints w lo hi t ks f ks.length) (hfp : f ks.length = (.pointer (some ⟨p, 0, none⟩), a)) (hnd : NodeAt w lo hi p u) (hn : Tr.nodeTo ks t = some u)
    (hwell : Tr.Well u) (hwt : u.weight ≤ 1048576) (hsix : (ks ++ Tr.sink c u).length ≤ 6) (hblo : b < lo) (hhi : hi ≤ w.heap.size) (hg : Ahead gf n c)
    (hq : w.heap[q]? = some (.cells #[.int .i64 n] 3 (0, 0))) (hqb : q ≠ b)
    (hV : ∀ wx : World, Only w.heap.size b w wx → wx.cell? ⟨1, 0, none⟩ = some V)
    (hsm : ∀ i, i < (ks ++ Tr.sink c u).length → (ks ++ Tr.sink c u).getD i 0 ≤ 2000000) :
    Calls Tryd.prog 105 #[.pointer (some ⟨b, 0, none⟩), .func (.func gf) #[] #[.pointer (some ⟨q, 0, none⟩)]] w (Moved w b V (Tr.upB (ks ++ Tr.sink c u))) := by
  have HSI := Lib.hid (sink_c hW hJ hfp hnd hn hwell hwt hsix hblo hhi hg hq hqb)
  obtain ⟨L, hL⟩ : ∃ L, L = ks ++ Tr.sink c u := ⟨_, rfl⟩
  rw [← hL] at HSI hsix hsm ⊢
  have HSM := Lib.hid hsm
  clear hsm
  have hb := hW.lt
  have HV := Lib.hid hV
  clear hW hJ hfp hnd hn hwell hwt hg hq hqb hL hV
  go_enter Tryd.func105, Tryd.ntmps105
  go_wp2_with fail
  refine HSI.out.mono ?_
  rintro e w1 ⟨rfl, ⟨f1, hw1, hj1⟩, ho1⟩
  have hs1 := ho1.size
  have HW1 := Lib.hid (And.intro hw1 (And.intro hj1 ho1))
  clear hw1 hj1 ho1 HSI
  go_wp2_with fail
  go_loopw [5] (fun s5 wr => ∃ D : Nat, D ≤ L.length ∧ Hid (Walker wr b f1 D) ∧ Hid (∀ i, D ≤ i → i < L.length → Tr.stopB L i = false) ∧ Hid (Joints wr lo hi t L f1 L.length) ∧ Hid (Only w.heap.size b w wr)) (fun s5 wr => match wr.cell? ⟨b, 12, none⟩ with | some v => (intOf v).toNat | none => 0)
  case atStart => exact ⟨L.length, Nat.le_refl _, Lib.hid HW1.out.1, Lib.hid (fun i h1 h2 => by omega), Lib.hid HW1.out.2.1, Lib.hid HW1.out.2.2⟩
  case round =>
    obtain ⟨D, hDL, HWK, HNO, HJ, HO⟩ := hrel
    have hO := HO.out
    have hsz := hO.size
    obtain ⟨C, hx, hC, h12, hat⟩ := HWK.out.blk
    have x12 : wr.cell? ⟨b, 12, none⟩ = some (.int .i64 (D : Int)) := by simp [World.cell?, hx, h12]
    have f12 : wr.frozen? ⟨b, 12, none⟩ = false := by simp [World.frozen?, hx]
    cases D with
    | zero =>
      have xv := HV.out wr hO
      have x12' : wr.cell? ⟨b, 12, none⟩ = some (.int .i64 0) := x12
      have hup : Tr.upB L = ([], 0, false) := by
        unfold Tr.upB Tr.upTo
        rw [climb_none (fun i _ h2 => HNO.out i (Nat.zero_le _) h2), if_pos rfl]
      have HU := Lib.hid hup
      clear x12 f12 hx hC h12 hat hup hO
      go_wp2_with fail
      exact bodyPost_ret (v := V) (by simp [results, Tryd.results105, go_sem]) rfl ⟨.inr ⟨HU.out, rfl⟩, HO.out⟩
    | succ D =>
      have HLW := Lib.hid (lowest_c HWK.out (by omega))
      obtain ⟨pp, ⟨uk, uc⟩, g1, g2, g3⟩ := HJ.out D (by omega)
      have hd := hat D (by omega)
      rw [g1] at hd
      obtain ⟨x, hxx⟩ : ∃ x, x = L.getD D 0 := ⟨_, rfl⟩
      rw [← hxx] at hd g1
      obtain ⟨ukv, ca, ccap, ps, hplo, hphi, hbox, hik, -, -, -, -⟩ := g3.parts
      obtain ⟨ka, kcap, rfl, hk1, hk2, -, hk3⟩ := hik
      unfold maxLen at hk2
      have CE : Hid (∀ wx : World, wx.heap = wr.heap → wx.cell? ⟨b, D * 2, none⟩ = some (.pointer (some ⟨pp, 0, none⟩)) ∧ wx.cell? ⟨b, D * 2 + 1, none⟩ = some (.int .i64 x) ∧ wx.frozen? ⟨b, D * 2 + 1, none⟩ = false ∧ wx.cell? ⟨pp, 0, none⟩ = some (.slice ka uk.length kcap) ∧ wx.cell? ⟨b, 12, none⟩ = some (.int .i64 ((D : Int) + 1)) ∧ wx.frozen? ⟨b, 12, none⟩ = false) :=
        Lib.hid (fun wx he => by
          have e1 : C[D * 2]? = some (.pointer (some ⟨pp, 0, none⟩)) := by rw [show D * 2 = 2 * D by omega]; exact hd.1
          have e2 : C[D * 2 + 1]? = some (.int .i64 x) := by rw [show D * 2 + 1 = 2 * D + 1 by omega]; exact hd.2
          have e3 : C[12]? = some (.int .i64 ((D : Int) + 1)) := by rw [h12]; simp
          refine ⟨?_, ?_, ?_, ?_, ?_, ?_⟩
          · simp [World.cell?, he, hx, e1]
          · simp [World.cell?, he, hx, e2]
          · simp [World.frozen?, he, hx]
          · simp [World.cell?, he, hbox]
          · simp [World.cell?, he, hx, e3]
          · simp [World.frozen?, he, hx])
      have x12' : wr.cell? ⟨b, 12, none⟩ = some (.int .i64 ((D : Int) + 1)) := (CE.out wr rfl).2.2.2.2.1
      have hpos : (0 : Int) < (D : Int) + 1 := by omega
      have hdec : IntKind.i64.wrap ((D : Int) + 1 - 1) = (D : Int) := by rw [IntKind.wrap_i64]; omega
      have hsub : (D : Int) + 1 - 1 = (D : Int) := by omega
      have HG := Lib.hid (And.intro g1 (And.intro g2 (And.intro hxx (And.intro hx (And.intro hC (And.intro h12 hat))))))
      clear x12 f12 hx hC h12 hat g1 g2 g3 hd hxx hbox hk3 hO
      go_wp2_with fail
      refine HLW.out.mono ?_
      rintro e w2 ⟨rfl, hb2, hh⟩
      obtain ⟨y1, y2, y3, y4, y5, y6⟩ := CE.out w2 hh
      have H2 := Lib.hid (And.intro hb2 hh)
      clear hb2 hh x12'
      have hsm := HSM.out D (by omega)
      rw [← HG.out.2.2.1] at hsm
      by_cases hcond : 0 < x
      ·
        have hst : (Tr.stopB L) D = true := by
          unfold Tr.stopB
          rw [HG.out.2.2.1.symm]
          exact decide_eq_true hcond
        have hcl := climb_here (P := (Tr.stopB L)) (n := L.length) (by omega) HNO.out hst
        have hup : Tr.upB L = (L.take D, x - 1, true) := by
          unfold Tr.upB Tr.upTo
          rw [hcl, if_neg (by omega), Nat.add_sub_cancel, HG.out.2.2.1]
        have HU := Lib.hid hup
        clear hst hcl hup
        have hwx : IntKind.i64.wrap (x - 1) = x - 1 := by rw [IntKind.wrap_i64]; omega
        go_wp2_with fail
        have hh := H2.out.2
        have hxb : w2.heap[b]? = some (.cells C 127 (0, 0)) := by rw [hh]; exact HG.out.2.2.2.1
        refine bodyPost_ret (v := .nilIface) (by simp [results, Tryd.results105, go_sem]) rfl ⟨.inl ?_, ?_⟩
        · rw [HU.out]
          refine ⟨rfl, rfl, ?_⟩
          have hlt : (L.take D).length = D := by rw [List.length_take]; omega
          refine ⟨fun i => if i = D then ((f1 D).1, x - 1) else f1 i, ?_, ?_, ?_⟩
          · rw [hlt]; refine ⟨_, set_blk (o := D * 2 + 1) _ hxb, by simp [HG.out.2.2.2.2.1], ?_, fun i hi => ?_⟩
            · rw [Array.getElem?_setIfInBounds_ne (by omega)]; exact HG.out.2.2.2.2.2.1
            · have hCs := HG.out.2.2.2.2.1
              have hat := HG.out.2.2.2.2.2.2 i hi
              by_cases e : i = D
              · subst e
                simp only [if_true]
                exact ⟨by rw [Array.getElem?_setIfInBounds_ne (by omega)]; exact hat.1, by rw [show 2 * i + 1 = i * 2 + 1 by omega, Array.getElem?_setIfInBounds_self_of_lt (by omega)]⟩
              · simp only [if_neg e]
                rw [Array.getElem?_setIfInBounds_ne (by omega), Array.getElem?_setIfInBounds_ne (by omega)]; exact hat
          · rw [hlt]; intro i hi
            obtain ⟨p', u', g, -, -⟩ := HJ.out i (by omega)
            simp only [if_neg (show i ≠ D by omega)]; rw [g]
            refine ⟨?_, _, rfl⟩
            rw [List.getD_eq_getElem?_getD, List.getD_eq_getElem?_getD, List.getElem?_take_of_lt hi]
          · rw [hlt]; simp only [if_true]
        · have ho := only_below_trans HO.out H2.out.1
          exact ⟨ho.os, ho.tape, ho.output, by simp; exact ho.size, fun k h1 hne => by rw [set_other _ _ _ _ _ hne]; exact ho.block k h1 hne⟩
      · have hst : (Tr.stopB L) D = false := by
          unfold Tr.stopB
          rw [HG.out.2.2.1.symm]
          exact decide_eq_false hcond
        have HST := Lib.hid hst
        clear hst
        go_wp2_with fail
        
        go_roundw
        case rel =>
          have hh := H2.out.2
          refine ⟨D, by omega, Lib.hid ?_, Lib.hid (fun i h1 h2 => ?_), Lib.hid ?_, Lib.hid ?_⟩
          · refine ⟨_, set_blk (o := 12) _ (show (w2).heap[b]? = _ by rw [hh]; exact HG.out.2.2.2.1), by simp [HG.out.2.2.2.2.1], ?_, fun i hi => ?_⟩
            · rw [Array.getElem?_setIfInBounds_self_of_lt (by have := HG.out.2.2.2.2.1; omega)]
            · rw [Array.getElem?_setIfInBounds_ne (by omega), Array.getElem?_setIfInBounds_ne (by omega)]; exact HG.out.2.2.2.2.2.2 i (by omega)
          · by_cases e : i = D
            · rw [e]; exact HST.out
            · exact HNO.out i (by omega) h2
          · exact HJ.out.same (fun k h1 h2 => by rw [set_other _ _ _ _ _ (by show k ≠ b; omega)]; show w2.heap[k]? = _; rw [hh])
          · have ho := HO.out
            exact ⟨H2.out.1.os.trans ho.os, H2.out.1.tape.trans ho.tape, H2.out.1.output.trans ho.output, by have := H2.out.1.size; simp; omega, fun k h1 hne => by
              rw [set_other _ _ _ _ _ hne]; show w2.heap[k]? = _; rw [hh]; exact ho.block k h1 hne⟩
        case measure =>
          have hlt12 : 12 < C.size := by have := HG.out.2.2.2.2.1; omega
          have hh := H2.out.2
          have e1 : ((w2).setCell ⟨b, 12, none⟩ (.int .i64 (D : Int))).cell? ⟨b, 12, none⟩ = some (.int .i64 (D : Int)) := by
            have := set_blk (w := w2) (o := 12) (.int .i64 (D : Int)) (show (w2).heap[b]? = _ by rw [hh]; exact HG.out.2.2.2.1)
            simp only [World.cell?, this]
            show (C.setIfInBounds 12 _)[12]? = _
            rw [Array.getElem?_setIfInBounds_self_of_lt hlt12]
          have e2 := (CE.out wr rfl).2.2.2.2.1
          rw [e1, e2]
          simp [intOf]
end Go.Proofs.YticfkfjijnfcbaaDoor
