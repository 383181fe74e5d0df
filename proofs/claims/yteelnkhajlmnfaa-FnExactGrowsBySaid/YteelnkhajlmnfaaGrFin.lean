/- Merged by merge.py: Insert GrownBy SplitsSpec ExSplits ExGrows ImSplits RowGrows FinGrows -/
import Derived.Test.YteelnkhajlmnfaaProg
import Derived.Test.YteelnkhajlmnfaaBase
import Derived.Test.YteelnkhajlmnfaaPathTo
import Derived.Test.YteelnkhajlmnfaaInsBelow
import Derived.Deep.Cut
import Derived.Test.YteelnkhajlmnfaaImValid
import Derived.Test.YteelnkhajlmnfaaAscends
import Derived.Test.YteelnkhajlmnfaaHasSpec
import Derived.Test.YteelnkhajlmnfaaPlantNd
import Derived.Test.YteelnkhajlmnfaaSmallTree
import Derived.Test.YteelnkhajlmnfaaSorted
import Derived.Test.YteelnkhajlmnfaaInsSpec
import Derived.Test.YteelnkhajlmnfaaSz
import Derived.Test.YteelnkhajlmnfaaTo
import Derived.Test.YteelnkhajlmnfaaEq
import Derived.Deep.RegionHeld3
import Derived.Test.YteelnkhajlmnfaaRows
import Derived.Test.YteelnkhajlmnfaaFacts
import Derived.Test.YteelnkhajlmnfaaFrame
import Derived.WalkKit
import Derived.ProofKit
import Derived.OpenShut
import Derived.ChangeOld
import Derived.Below

/- The contract of insert. -/
namespace Go.Proofs.Yteelnkhajlmnfaa
open Go.RowKit

/-- A growing tree: its box, its node, apart. -/
structure Grow (w : World) (gb : Nat) (wide : Int) (s : Nat) (gr : Bool) (F : Cells) (b : Nat) (t : Tr) : Prop where
  box : GBox w gb (.pointer (some ⟨b, 0, none⟩)) wide s (.bool gr)
  node : Nd w F b t
  apart : ∀ o, ¬ F gb o

/-- What insert leaves. -/
def Inserted (w : World) (gb : Nat) (wide key : Int) (s : Nat) (gr : Bool) (F : Cells) (t : Tr) (e : Ending) (w' : World) : Prop :=
  ∃ (F' : Cells) (b' : Nat), e = .returned (.tuple #[]) ∧ Grow w' gb wide (if (t.path key).2 then s else s + Tr.insN wide key t) (if (t.path key).2 then gr else (gr || Tr.insG wide key t)) F' b' (if (t.path key).2 then t else Tr.insT wide key t) ∧
    (∀ x o, F' x o → F x o ∨ w.heap.size ≤ x) ∧ KeptF (fun x o => F x o ∨ x = gb) w w'

set_option maxRecDepth 100000 in
set_option maxHeartbeats 4000000 in
theorem insert_c (wide key : Int) (hwide : 2 ≤ wide ∧ wide ≤ 6) (w : World) (gb : Nat) (s : Nat) (gr : Bool) (F : Cells) (b : Nat) (t : Tr) (h : Grow w gb wide s gr F b t) (hwell : Tr.Well t) (hw : t.weight ≤ 90000) (hs9 : s ≤ 800000000) :
    Calls Try.prog 86 #[.pointer (some ⟨gb, 0, none⟩), .int .i64 key] w (Inserted w gb wide key s gr F t) := by
  obtain ⟨hbox, hnd, hgF⟩ := h
  have hglt := (Array.getElem?_eq_some_iff.1 hbox).1
  obtain ⟨g0, g1, g2, g3, g4, g5, g6⟩ := hbox.cells
  have hpath := pathTo_c hnd.nodeAt hwell (by omega) key w (Below.refl _ _) (Nat.le_refl _)
  have HP := Lib.hid hpath
  have HG := Lib.hid (And.intro hbox (And.intro hnd hgF))
  have HW := Lib.hid hwell
  clear hbox hnd hgF hpath hwell
  go_enter Try.func86, Try.ntmps86
  go_wp2_with fail
  refine HP.out.mono ?_
  rintro e w1 ⟨v, rfl, hown, hb1⟩
  obtain ⟨va, vc, rfl⟩ := IntsOwn.shown hown
  have hs1 := hb1.size
  have hk1 : KeptF (fun _ _ => False) w w1 := KeptF.of_below hb1 (Nat.le_refl _)
  have hg1 : GBox w1 gb (.pointer (some ⟨b, 0, none⟩)) wide s (.bool gr) := hk1.block' HG.out.1 (fun _ h => h)
  clear g0 g1 g2 g3 g4 g5 g6 hown hb1
  obtain ⟨g0, g1, g2, g3, g4, g5, g6⟩ := hg1.cells
  have hnd1 := HG.out.2.1.keep hk1 (fun _ _ _ h => h)
  have H1 := Lib.hid (And.intro hk1 (And.intro hg1 hnd1))
  clear hk1 hg1 hnd1
  cases hp : (t.path key).2 with
  | true =>
    have HPB := Lib.hid hp
    clear hp
    go_wp2_with fail
    refine bodyPost_ret (v := .tuple #[]) (by simp [results, Try.results86, go_sem]) rfl ?_
    refine ⟨F, b, rfl, ?_, fun x o h => .inl h, H1.out.1.mono (fun _ _ _ h => h.elim)⟩
    rw [HPB.out]
    exact ⟨H1.out.2.1, H1.out.2.2, HG.out.2.2⟩
  | false =>
    have HPB := Lib.hid hp
    obtain ⟨W2, hW2⟩ : ∃ W2, W2 = (w1.alloc (.cells #[.pointer (some ⟨b, 0, none⟩)] 62)).alloc (.cells #[.slice none 0 0, .slice (some ⟨w1.heap.size, 0, none⟩) 1 1] 100) := ⟨_, rfl⟩
    have hs2 : W2.heap.size = w1.heap.size + 2 := by rw [hW2]; simp
    have hb2 : Below w1.heap.size w1 W2 := by rw [hW2]; exact ((Below.refl _ _).alloc (Nat.le_refl _) _).alloc (by simp) _
    have kr : W2.heap[w1.heap.size]? = some (.cells #[.pointer (some ⟨b, 0, none⟩)] 62 (0, 0)) := by rw [hW2, old_blk _ _ _ (by simp), new_blk]
    have ka : W2.heap[w1.heap.size + 1]? = some (.cells #[.slice none 0 0, .slice (some ⟨w1.heap.size, 0, none⟩) 1 1] 100 (0, 0)) := by
      rw [hW2, show w1.heap.size + 1 = (w1.alloc (.cells #[.pointer (some ⟨b, 0, none⟩)] 62)).heap.size by simp, new_blk]
    have hk2 : KeptF (fun _ _ => False) w1 W2 := KeptF.of_below hb2 (Nat.le_refl _)
    have hFlt := HG.out.2.1.lt
    have hnda : Nd W2 (allOf (w1.heap.size + 1) (fun _ _ => False) (fun q _ => q = w1.heap.size) [⟨b, F, t⟩]) (w1.heap.size + 1) (.mk [] ([(⟨b, F, t⟩ : KidD)].map KidD.t)) := by
      refine Nd.intro ka (RowF.nil W2) ?_ (fun y hy => ?_) ⟨fun _ _ _ h => h, fun q r h g => by have : q = w1.heap.size + 1 := h; omega, fun y hy q r h g => ?_, fun _ _ h => h.elim, fun _ _ _ _ h => h.elim, fun y hy q r h g => ?_, List.pairwise_singleton _ _⟩
      · have hc := box1 kr
        exact RowF.intro (xs := [Value.pointer (some ⟨b, 0, none⟩)]) (b := w1.heap.size) (o := 0) (cap := 1) (fun x q h => by omega) (by simp) (by unfold maxLen; omega) (fun i hi => by
          have e : i = 0 := by omega
          subst e
          exact ⟨rfl, by rw [Nat.zero_add, hc.1]; rfl, hc.2⟩) (fun i hi => by
          have e : i = 0 := by simpa using hi
          subst e
          exact hc.1)
      · simp at hy; subst hy; exact H1.out.2.2.keep hk2 (fun _ _ _ h => h)
      · simp at hy; subst hy; have := hFlt _ _ g; have : q = w1.heap.size + 1 := h; omega
      · simp at hy; subst hy; have := hFlt _ _ g; omega
    have hg2 : GBox W2 gb (.pointer (some ⟨b, 0, none⟩)) wide s (.bool gr) := hk2.block' H1.out.2.1 (fun _ h => h)
    have hgrow : Tr.grow wide key (.mk [] ([(⟨b, F, t⟩ : KidD)].map KidD.t)) = (if Tr.insG wide key t then (Tr.insT wide key t, Tr.insN wide key t) else (.mk [] [Tr.insT wide key t], Tr.insN wide key t)) := by
      show Tr.grow wide key (.mk [] [t]) = _
      rw [Tr.grow_inner (show place key [] < [t].length by simp [place])]
      exact Tr.insT_step wide key t
    have hcall := insertBelow_c wide key hwide 90010 (.mk [] ([(⟨b, F, t⟩ : KidD)].map KidD.t)) (by simp [Tr.weight, Tr.weights]; omega) (by omega)
      ⟨List.Pairwise.nil, .inr (by simp), fun i hi => by simp at hi; subst hi; exact HW.out⟩ W2 _ (w1.heap.size + 1) gb _ _ s hnda hg2 (fun o h => by
        rcases h with h | h | h | ⟨y, hy, h⟩
        · omega
        · exact h
        · have : gb = w1.heap.size := h; omega
        · simp at hy; subst hy; exact HG.out.2.2 o h) (by simp [Tr.weight, Tr.weights]; omega)
    rw [hgrow] at hcall
    have HC := Lib.hid hcall
    have HW2 := Lib.hid hW2
    have H2 := Lib.hid (And.intro hk2 (And.intro kr (And.intro ka hs2)))
    clear hcall hgrow hW2 hk2 kr ka hs2 hb2 hnda hg2 hp
    go_upto_region 3 with (fail)
    rw [← HW2.out]
    clear g0 g1 g2 g3 g4 g5 g6
    go_wp2_with fail
    refine HC.out.mono ?_
    rintro e w3 ⟨F3, rfl, hnd3, hF3, hk3, hg3, hst3⟩
    have hs3 := hk3.size
    have hs2 := H2.out.2.2.2
    have hFA : ∀ q r, allOf (w1.heap.size + 1) (fun _ _ => False) (fun q _ => q = w1.heap.size) [⟨b, F, t⟩] q r → F q r ∨ w.heap.size ≤ q := by
      rintro q r (h | h | h | ⟨y, hy, h⟩)
      · right; omega
      · exact h.elim
      · right; have : q = w1.heap.size := h; omega
      · simp at hy; subst hy; exact .inl h
    have hF3' : ∀ q r, F3 q r → F q r ∨ w.heap.size ≤ q := fun q r h => (hF3 q r h).elim (hFA q r) (fun h => by right; omega)
    have hF3g : ∀ o, ¬ F3 gb o := fun o h => (hF3' gb o h).elim (HG.out.2.2 o) (fun h => by omega)
    have hkt : KeptF (fun q r => F q r ∨ q = gb) w w3 := by
      have a1 := H1.out.1.mono (G := fun q r => F q r ∨ q = gb) (fun _ _ _ h => h.elim)
      have a2 := a1.trans (H2.out.1.mono (fun _ _ _ h => h.elim))
      exact a2.trans (hk3.mono (fun q r _ h => h.elim (fun h => (hFA q r h).imp .inl id) (fun h => .inl (.inr h))))
    cases hG : Tr.insG wide key t with
    | true =>
      rw [hG] at hnd3 hg3
      simp only [if_true] at hnd3 hg3
      obtain ⟨g0, g1, g2, g3, g4, g5, g6⟩ := hg3.cells
      have hu : wide < ((Tr.grow wide key t).1.ks.length : Int) := of_decide_eq_true hG
      have hroot : Tr.insT wide key t = .mk [(Tr.grow wide key t).1.midOf] [(Tr.grow wide key t).1.leftOf, (Tr.grow wide key t).1.rightOf] := by unfold Tr.insT; exact if_pos hu
      have hnd3' := hnd3
      rw [hroot] at hnd3'
      obtain ⟨kidsR, FkR, FcR, kvR, cvR, _, hboxR, hkrR, _⟩ := hnd3'.parts
      obtain ⟨kaR, kcR, rfl⟩ := hkrR.shown
      simp only [List.length_map, List.length_cons, List.length_nil, Nat.zero_add] at hboxR
      obtain ⟨x1, x2, x3, x4⟩ := box2 hboxR
      have HX := Lib.hid (And.intro hnd3 (And.intro hF3' (And.intro hF3g (And.intro hkt hg3))))
      have HGG := Lib.hid hG
      clear hnd3 hnd3' hF3 hF3' hF3g hkt hg3 hk3 hst3 hFA hroot hu hG hboxR hkrR
      go_wp2_with fail
      obtain ⟨hnd3, hF3', hF3g, hkt, hg3⟩ := HX.out
      refine bodyPost_end (v := .tuple #[]) (by simp [results, Try.results86, go_sem]) rfl ?_
      have hk5 : KeptF (boxOf gb) w3 ((w3.setCell ⟨gb, 0, none⟩ (.pointer (some ⟨w1.heap.size + 1, 0, none⟩))).setCell ⟨gb, 3, none⟩ (.bool true)) :=
        (KeptF.setCell (F := boxOf gb) w3 gb 0 _ rfl).trans (KeptF.setCell _ _ _ _ (.inl rfl))
      refine ⟨F3, w1.heap.size + 1, rfl, ?_, hF3', hkt.trans (hk5.mono (fun q r _ h => .inl (.inr h)))⟩
      rw [HPB.out, HGG.out]
      simp only [Bool.false_eq_true, if_false, Bool.or_true]
      refine ⟨?_, hnd3.keep hk5 (fun q r h g => hF3g r (by have g' : q = gb := g; exact g' ▸ h)), hF3g⟩
      have e1 := set_blk (o := 0) (.pointer (some ⟨w1.heap.size + 1, 0, none⟩)) hg3
      have e2 := set_blk (o := 3) (.bool true) e1
      unfold GBox
      rw [e2]
      simp
    | false =>
      rw [hG] at hnd3 hg3 hst3
      simp only [Bool.false_eq_true, if_false] at hnd3 hg3 hst3
      obtain ⟨g0, g1, g2, g3, g4, g5, g6⟩ := hg3.cells
      obtain ⟨FX, hndX, hFX⟩ := hst3 _ _ _ _ _ _ _ rfl H2.out.2.2.1 (box1 H2.out.2.1).1
      obtain ⟨kidsR, FkR, FcR, kvR, cvR, _, hboxR, hkrR, _⟩ := hnd3.parts
      obtain ⟨kaR, kcR, rfl⟩ := hkrR.shown
      simp only [List.length_map, List.length_nil] at hboxR
      obtain ⟨x1, x2, x3, x4⟩ := box2 hboxR
      have hFX' : ∀ q r, FX q r → F q r ∨ w.heap.size ≤ q := fun q r h => (hFX q r h).elim (hFA q r) (fun h => by right; omega)
      have HX := Lib.hid (And.intro hndX (And.intro hFX' (And.intro hkt hg3)))
      have HGG := Lib.hid hG
      clear hnd3 hF3 hF3' hF3g hkt hg3 hk3 hst3 hFA hG hboxR hkrR hndX hFX hFX'
      go_wp2_with fail
      obtain ⟨hndX, hFX', hkt, hg3⟩ := HX.out
      refine bodyPost_end (v := .tuple #[]) (by simp [results, Try.results86, go_sem]) rfl ?_
      refine ⟨FX, b, rfl, ?_, hFX', hkt⟩
      rw [HPB.out, HGG.out]
      simp only [Bool.false_eq_true, if_false, Bool.or_false]
      exact ⟨hg3, hndX, fun o h => (hFX' gb o h).elim (HG.out.2.2 o) (fun h => by omega)⟩
end Go.Proofs.Yteelnkhajlmnfaa

/- The contract of grownBy. -/
namespace Go.Proofs.Yteelnkhajlmnfaa
open Go.RowKit

/-- Whether a key can be put into a tree. -/
def Tr.askedB (wide key : Int) (t : Tr) : Bool := Tr.validB wide t && (inB key 0 99 && !(t.pathB key).2)

theorem Tr.valid_some {wide : Int} {t : Tr} (h : Tr.validB wide t = true) : t.someB = true := by
  have hw := Tr.valid_wide h
  obtain ⟨q, hq⟩ : ∃ q : Nat, wide = (q : Int) := ⟨wide.toNat, by omega⟩
  subst hq
  exact (someB_of t).1 q (by omega) (by omega) h

theorem Tr.asked_path {wide key : Int} {t : Tr} (h : Tr.askedB wide key t = true) : Tr.validB wide t = true ∧ (t.path key).2 = false := by
  simp only [Tr.askedB, Bool.and_eq_true, Bool.not_eq_true'] at h
  refine ⟨h.1, ?_⟩
  have := (someB_path key t).1 (Tr.valid_some h.1)
  rw [← this]; exact h.2.2

/-- What grownBy leaves. -/
def GrownOf (w : World) (wide key : Int) (t : Tr) (e : Ending) (w' : World) : Prop :=
  (Tr.askedB wide key t = false ∧ e = .returned (.tuple #[.pointer none, .bool false]) ∧ Below w.heap.size w w') ∨
  (Tr.askedB wide key t = true ∧ ∃ (gb b : Nat) (F : Cells), e = .returned (.tuple #[.pointer (some ⟨gb, 0, none⟩), .bool true]) ∧ Grow w' gb wide (Tr.insN wide key t) (Tr.insG wide key t) F b (Tr.insT wide key t) ∧
    (∀ x o, F x o → w.heap.size ≤ x) ∧ Below w.heap.size w w')

set_option maxRecDepth 100000 in
set_option maxHeartbeats 4000000 in
theorem grownBy_c {w : World} {B : Nat} {kv cv : Value} {t : Tr} (ht : TreeIn w B kv cv t) (hw : t.weight ≤ 1048576) (wide key : Int) (hn1 : -9223372036854775808 ≤ wide) (hn2 : wide ≤ 9223372036854775807) (w' : World) (hbw : Below B w w') (hB : B ≤ w'.heap.size) :
    Calls Try.prog 61 #[.agg #[kv, cv], .int .i64 wide, .int .i64 key] w' (GrownOf w' wide key t) := by
  obtain ⟨a5, n5, m5, a6, n6, m6, rfl, rfl⟩ := ht.slices
  obtain ⟨W1, hW1⟩ : ∃ W1, W1 = w'.alloc (.cells #[.slice a5 n5 m5, .slice a6 n6 m6] 30) := ⟨_, rfl⟩
  have hs1 : W1.heap.size = w'.heap.size + 1 := by rw [hW1]; simp
  have hb1 : Below w'.heap.size w' W1 := by rw [hW1]; exact (Below.refl _ _).alloc (Nat.le_refl _) _
  have k0 : W1.heap[w'.heap.size]? = some (.cells #[.slice a5 n5 m5, .slice a6 n6 m6] 30 (0, 0)) := by rw [hW1, new_blk]
  obtain ⟨x1, x2, x3, x4⟩ := box2 k0
  have HT := Lib.hid ht
  have HBW := Lib.hid hbw
  have HW1 := Lib.hid hW1
  have H1 := Lib.hid (And.intro hb1 k0)
  clear ht hbw hW1 hb1 k0
  go_enter Try.func61, Try.ntmps61
  go_wp2_with fail
  rw [← HW1.out]
  refine (impl_valid _ _ _ _ _ wide HT.out hw hn1 hn2 W1 (HBW.out.trans (H1.out.1.mono hB)) (by omega)).mono ?_
  rintro e w2 ⟨rfl, hb2⟩
  have hs2 := hb2.size
  clear x1 x2 x3 x4
  have j0 := (hb2.block _ (by omega)).trans H1.out.2
  obtain ⟨x1, x2, x3, x4⟩ := box2 j0
  have hb2' := H1.out.1.trans (hb2.mono (by omega))
  have H2 := Lib.hid (And.intro hb2' j0)
  have HB2 := Lib.hid (HBW.out.trans (hb2'.mono hB))
  clear hb2 hb2' j0
  cases hv : Tr.validB wide t with
  | false =>
    have HA := Lib.hid (show Tr.askedB wide key t = false by simp [Tr.askedB, hv])
    clear hv
    go_wp2_with fail
    refine bodyPost_ret (v := .tuple #[.pointer none, .bool false]) (by simp [results, Try.results61, go_sem]) rfl (.inl ⟨HA.out, rfl, H2.out.1⟩)
  | true =>
  have HV := Lib.hid hv
  clear hv
  go_wp2_with fail
  refine (isKey_c key w2).mono ?_
  rintro e w3 ⟨rfl, rfl⟩
  cases hk : inB key 0 99 with
  | false =>
    have HA := Lib.hid (show Tr.askedB wide key t = false by simp [Tr.askedB, hk])
    clear hk
    go_wp2_with fail
    refine bodyPost_ret (v := .tuple #[.pointer none, .bool false]) (by simp [results, Try.results61, go_sem]) rfl (.inl ⟨HA.out, rfl, H2.out.1⟩)
  | true =>
  have HK := Lib.hid hk
  clear hk
  go_wp2_with fail
  refine (impl_has HT.out hw key _ HB2.out (by omega)).mono ?_
  rintro e w4 ⟨rfl, hb4⟩
  have hs4 := hb4.size
  clear x1 x2 x3 x4
  have j0 := (hb4.block _ (by omega)).trans H2.out.2
  obtain ⟨x1, x2, x3, x4⟩ := box2 j0
  have hb4' := H2.out.1.trans (hb4.mono (by omega))
  have H4 := Lib.hid (And.intro hb4' j0)
  have HB4 := Lib.hid (HBW.out.trans (hb4'.mono hB))
  clear hb4 hb4' j0
  cases hp : (t.pathB key).2 with
  | true =>
    have HA := Lib.hid (show Tr.askedB wide key t = false by simp [Tr.askedB, hp])
    clear hp
    go_wp2_with fail
    refine bodyPost_ret (v := .tuple #[.pointer none, .bool false]) (by simp [results, Try.results61, go_sem]) rfl (.inl ⟨HA.out, rfl, H4.out.1⟩)
  | false =>
  have hask : Tr.askedB wide key t = true := by simp [Tr.askedB, HV.out, HK.out, hp]
  have hpath := (Tr.asked_path hask).2
  have hsmall := Tr.valid_small HV.out
  have HASK := Lib.hid (And.intro hask hpath)
  clear hp hask hpath
  go_wp2_with fail
  refine (plant_nd HT.out hw w4 HB4.out (by omega)).mono ?_
  rintro e w5 ⟨b, rfl, hnd, hb5⟩
  have hs5 := hb5.size
  obtain ⟨W6, hW6⟩ : ∃ W6, W6 = w5.alloc (.cells #[.pointer (some ⟨b, 0, none⟩), .int .i64 wide, .int .i64 0, .bool false] 72) := ⟨_, rfl⟩
  have hs6 : W6.heap.size = w5.heap.size + 1 := by rw [hW6]; simp
  have hb6 : Below w5.heap.size w5 W6 := by rw [hW6]; exact (Below.refl _ _).alloc (Nat.le_refl _) _
  have hk6 : KeptF (fun _ _ => False) w5 W6 := KeptF.of_below hb6 (Nat.le_refl _)
  have hg6 : GBox W6 w5.heap.size (.pointer (some ⟨b, 0, none⟩)) wide 0 (.bool false) := by unfold GBox; rw [hW6, new_blk]; rfl
  have hgrow : Grow W6 w5.heap.size wide 0 false (span w4.heap.size w5.heap.size) b t := ⟨hg6, hnd.keep hk6 (fun _ _ _ h => h), fun o h => by have := h.2; omega⟩
  have hcall := insert_c wide key (Tr.valid_wide HV.out) W6 w5.heap.size 0 false _ b t hgrow (Tr.valid_well HV.out) (by omega) (by omega)
  have HC := Lib.hid hcall
  have HW6 := Lib.hid hW6
  have H6 := Lib.hid (H4.out.1.trans ((hb5.mono (by omega)).trans (hb6.mono (by omega))))
  clear hcall hgrow hg6 hk6 hb6 hW6 hnd hb5 x1 x2 x3 x4
  go_wp2_with fail
  rw [← HW6.out]
  refine HC.out.mono ?_
  rintro e w7 ⟨F', b', rfl, hgr, hF', hk7⟩
  rw [HASK.out.2] at hgr
  simp only [Bool.false_eq_true, if_false, Bool.false_or, Nat.zero_add] at hgr
  have H7 := Lib.hid (And.intro hgr (And.intro hF' hk7))
  clear hgr hF' hk7
  go_wp2_with fail
  refine bodyPost_ret (v := .tuple #[.pointer (some ⟨w5.heap.size, 0, none⟩), .bool true]) (by simp [results, Try.results61, go_sem]) rfl (.inr ⟨HASK.out.1, _, b', F', rfl, H7.out.1, fun x o h => ?_, ?_⟩)
  · rcases H7.out.2.1 x o h with h | h
    · have := h.1; omega
    · omega
  · exact H6.out.trans (H7.out.2.2.below (by omega) (fun x o h => by
      rcases h with h | h
      · have := h.1; omega
      · omega))
end Go.Proofs.Yteelnkhajlmnfaa

/- The model's SplitsBy and GrowsBy. -/
namespace Go.Proofs.Yteelnkhajlmnfaa
open Go.RowKit

/-- What SplitsBy and GrowsBy tell. -/
def Tr.splitsB (wide key : Int) (t : Tr) : Int := if Tr.askedB wide key t then (Tr.insN wide key t : Int) else -1
def Tr.growsB (wide key : Int) (t : Tr) : Bool := Tr.askedB wide key t && Tr.insG wide key t

theorem run_splits (w : World) (x0 x1 x2 x3 x4 x5 : Value) (n : Int) : Sem.run Try.prog (Instr.field 78 (.agg #[x0, x1, x2, x3, x4, x5, .int .i64 n]) 4) w = .ok (.int .i64 n) w := by
  first
    | kernel_rfl
    | rfl
    | (simp [Instr.field, Try.underlying78]; trace_state; done)
theorem run_splits2 (w : World) (x0 x1 x2 x3 x4 : Value) (g : Bool) (n : Value) : Sem.run Try.prog (Instr.field 78 (.agg #[x0, x1, x2, x3, x4, .bool g, n]) 3) w = .ok (.bool g) w := by
  first
    | kernel_rfl
    | rfl
    | (simp [Instr.field, Try.underlying78]; trace_state; done)
attribute [local go_sem] run_splits run_splits2

set_option maxRecDepth 100000 in
set_option maxHeartbeats 2000000 in
theorem specAsked_c {w : World} {B : Nat} {kv cv : Value} {t : Tr} (ht : TreeIn w B kv cv t) (hw : t.weight ≤ 1048576) (wide key : Int) (w' : World) (hbw : Below B w w') (hB : B ≤ w'.heap.size) :
    Calls Try.prog 59 #[.agg #[kv, cv], .int .i64 wide, .int .i64 key] w' fun e w'' => e = .returned (.bool (Tr.askedB wide key t)) ∧ Below w'.heap.size w' w'' := by
  obtain ⟨a5, n5, m5, a6, n6, m6, rfl, rfl⟩ := ht.slices
  obtain ⟨W1, hW1⟩ : ∃ W1, W1 = w'.alloc (.cells #[.slice a5 n5 m5, .slice a6 n6 m6] 30) := ⟨_, rfl⟩
  have hs1 : W1.heap.size = w'.heap.size + 1 := by rw [hW1]; simp
  have hb1 : Below w'.heap.size w' W1 := by rw [hW1]; exact (Below.refl _ _).alloc (Nat.le_refl _) _
  have k0 : W1.heap[w'.heap.size]? = some (.cells #[.slice a5 n5 m5, .slice a6 n6 m6] 30 (0, 0)) := by rw [hW1, new_blk]
  obtain ⟨x1, x2, x3, x4⟩ := box2 k0
  have HT := Lib.hid ht
  have HBW := Lib.hid hbw
  have HW1 := Lib.hid hW1
  have H1 := Lib.hid (And.intro hb1 k0)
  clear ht hbw hW1 hb1 k0
  go_enter Try.func59, Try.ntmps59
  go_wp2_with fail
  rw [← HW1.out]
  refine (specTreeValid_c HT.out hw wide W1 (HBW.out.trans (H1.out.1.mono hB)) (by omega)).mono ?_
  rintro e w2 ⟨rfl, hb2⟩
  have hs2 := hb2.size
  clear x1 x2 x3 x4
  have j0 := (hb2.block _ (by omega)).trans H1.out.2
  obtain ⟨x1, x2, x3, x4⟩ := box2 j0
  have hb2' := H1.out.1.trans (hb2.mono (by omega))
  have H2 := Lib.hid (And.intro hb2' j0)
  clear hb2 hb2' j0
  cases hv : Tr.validB wide t with
  | false =>
    have HA := Lib.hid (show Tr.askedB wide key t = false by simp [Tr.askedB, hv])
    clear hv
    go_wp2_with fail
    go_ret
    exact ⟨by rw [HA.out]; rfl, H2.out.1⟩
  | true =>
  have HV := Lib.hid hv
  clear hv
  go_wp2_with fail
  refine (l1In_c key 0 99 w2).mono ?_
  rintro e w3 ⟨rfl, rfl⟩
  cases hk : inB key 0 99 with
  | false =>
    have HA := Lib.hid (show Tr.askedB wide key t = false by simp [Tr.askedB, hk])
    clear hk
    go_wp2_with fail
    go_ret
    exact ⟨by rw [HA.out]; rfl, H2.out.1⟩
  | true =>
  have HK := Lib.hid hk
  clear hk
  go_wp2_with fail
  refine (specHasKey_c HT.out hw key _ (HBW.out.trans (H2.out.1.mono hB)) (by omega)).mono ?_
  rintro e w4 ⟨rfl, hb4⟩
  have HA := Lib.hid (show Tr.askedB wide key t = !(t.pathB key).2 by simp [Tr.askedB, HV.out, HK.out])
  have H4 := Lib.hid (H2.out.1.trans (hb4.mono (by omega)))
  clear hb4
  go_wp2_with fail
  go_ret
  exact ⟨by rw [HA.out]; rfl, H4.out⟩

theorem cut_tells {w w' : World} {P : Nat → Prop} {wide key : Int} {t : Tr} {e : Ending} (h : Cut w P wide (Tr.grow wide key t) e w') : ∃ (a1 a2 a3 a4 : Option Addr) (n1 c1 n2 c2 n3 c3 n4 c4 : Nat) (mid : Int),
    e = .returned (.agg #[.slice a1 n1 c1, .slice a2 n2 c2, .int .i64 mid, .slice a3 n3 c3, .slice a4 n4 c4, .bool (Tr.insG wide key t), .int .i64 (Tr.insN wide key t : Int)]) ∧ Below w.heap.size w w' := by
  obtain ⟨v, rfl, ⟨lk, lc, rk, rc, mid, cnt, hv, ⟨a1, n1, c1, a2, n2, c2, rfl, rfl⟩, ⟨a3, n3, c3, a4, n4, c4, rfl, rfl⟩, hyes, hno⟩, hb⟩ := h
  refine ⟨a1, a2, a3, a4, n1, c1, n2, c2, n3, c3, n4, c4, mid, ?_, hb⟩
  have hc : cnt = Tr.insN wide key t := by
    unfold Tr.insN
    by_cases hg : wide < ((Tr.grow wide key t).1.ks.length : Int)
    · rw [(hyes hg).2.2.2]; simp [hg]
    · rw [(hno hg).2]; simp [hg]
  rw [hv, hc]
  rfl

set_option maxRecDepth 100000 in
set_option maxHeartbeats 2000000 in
theorem specSplitsBy_c {w : World} {B : Nat} {kv cv : Value} {t : Tr} (ht : TreeIn w B kv cv t) (hw : t.weight ≤ 1048576) (wide key : Int) (w' : World) (hbw : Below B w w') (hB : B ≤ w'.heap.size) :
    Calls Try.prog 32 #[.agg #[kv, cv], .int .i64 wide, .int .i64 key] w' fun e w'' => e = .returned (.int .i64 (Tr.splitsB wide key t)) ∧ Below w'.heap.size w' w'' := by
  obtain ⟨a5, n5, m5, a6, n6, m6, rfl, rfl⟩ := ht.slices
  obtain ⟨W1, hW1⟩ : ∃ W1, W1 = w'.alloc (.cells #[.slice a5 n5 m5, .slice a6 n6 m6] 30) := ⟨_, rfl⟩
  have hs1 : W1.heap.size = w'.heap.size + 1 := by rw [hW1]; simp
  have hb1 : Below w'.heap.size w' W1 := by rw [hW1]; exact (Below.refl _ _).alloc (Nat.le_refl _) _
  have k0 : W1.heap[w'.heap.size]? = some (.cells #[.slice a5 n5 m5, .slice a6 n6 m6] 30 (0, 0)) := by rw [hW1, new_blk]
  obtain ⟨x1, x2, x3, x4⟩ := box2 k0
  have HT := Lib.hid ht
  have HBW := Lib.hid hbw
  have HW1 := Lib.hid hW1
  have H1 := Lib.hid (And.intro hb1 k0)
  clear ht hbw hW1 hb1 k0
  go_enter Try.func32, Try.ntmps32
  go_wp2_with fail
  rw [← HW1.out]
  refine (specAsked_c HT.out hw wide key W1 (HBW.out.trans (H1.out.1.mono hB)) (by omega)).mono ?_
  rintro e w2 ⟨rfl, hb2⟩
  have hs2 := hb2.size
  clear x1 x2 x3 x4
  have j0 := (hb2.block _ (by omega)).trans H1.out.2
  obtain ⟨x1, x2, x3, x4⟩ := box2 j0
  have hb2' := H1.out.1.trans (hb2.mono (by omega))
  have H2 := Lib.hid hb2'
  clear hb2 hb2' j0
  cases ha : Tr.askedB wide key t with
  | false =>
    have HA := Lib.hid (show Tr.splitsB wide key t = -1 by simp [Tr.splitsB, ha])
    clear ha
    go_wp2_with fail
    go_ret
    exact ⟨by rw [HA.out]; rfl, H2.out⟩
  | true =>
    have HA := Lib.hid (show Tr.splitsB wide key t = Tr.insN wide key t by simp [Tr.splitsB, ha])
    have hv := (Tr.asked_path ha).1
    have hsm := Tr.valid_small hv
    have hcall := l3Insert_c wide key (Tr.valid_wide hv) 200 t hsm (by omega) (Tr.valid_well hv) w2 (· < B) _ _ (fun q h => by omega) (HT.out.later (HBW.out.trans (H2.out.mono hB)) (Nat.le_refl _)).p
    have HC := Lib.hid hcall
    clear ha hv hsm hcall
    go_wp2_with fail
    refine HC.out.mono ?_
    intro e w3 hcut
    obtain ⟨b1, b2, b3, b4, d1, d2, d3, d4, d5, d6, d7, d8, mid, rfl, hb3⟩ := cut_tells hcut
    have H3 := Lib.hid (H2.out.trans (hb3.mono (by omega)))
    clear hcut hb3
    go_wp2_with fail
    go_ret
    exact ⟨by rw [HA.out]; rfl, H3.out⟩

set_option maxRecDepth 100000 in
set_option maxHeartbeats 2000000 in
theorem specGrowsBy_c {w : World} {B : Nat} {kv cv : Value} {t : Tr} (ht : TreeIn w B kv cv t) (hw : t.weight ≤ 1048576) (wide key : Int) (w' : World) (hbw : Below B w w') (hB : B ≤ w'.heap.size) :
    Calls Try.prog 34 #[.agg #[kv, cv], .int .i64 wide, .int .i64 key] w' fun e w'' => e = .returned (.bool (Tr.growsB wide key t)) ∧ Below w'.heap.size w' w'' := by
  obtain ⟨a5, n5, m5, a6, n6, m6, rfl, rfl⟩ := ht.slices
  obtain ⟨W1, hW1⟩ : ∃ W1, W1 = w'.alloc (.cells #[.slice a5 n5 m5, .slice a6 n6 m6] 30) := ⟨_, rfl⟩
  have hs1 : W1.heap.size = w'.heap.size + 1 := by rw [hW1]; simp
  have hb1 : Below w'.heap.size w' W1 := by rw [hW1]; exact (Below.refl _ _).alloc (Nat.le_refl _) _
  have k0 : W1.heap[w'.heap.size]? = some (.cells #[.slice a5 n5 m5, .slice a6 n6 m6] 30 (0, 0)) := by rw [hW1, new_blk]
  obtain ⟨x1, x2, x3, x4⟩ := box2 k0
  have HT := Lib.hid ht
  have HBW := Lib.hid hbw
  have HW1 := Lib.hid hW1
  have H1 := Lib.hid (And.intro hb1 k0)
  clear ht hbw hW1 hb1 k0
  go_enter Try.func34, Try.ntmps34
  go_wp2_with fail
  rw [← HW1.out]
  refine (specAsked_c HT.out hw wide key W1 (HBW.out.trans (H1.out.1.mono hB)) (by omega)).mono ?_
  rintro e w2 ⟨rfl, hb2⟩
  have hs2 := hb2.size
  clear x1 x2 x3 x4
  have j0 := (hb2.block _ (by omega)).trans H1.out.2
  obtain ⟨x1, x2, x3, x4⟩ := box2 j0
  have hb2' := H1.out.1.trans (hb2.mono (by omega))
  have H2 := Lib.hid hb2'
  clear hb2 hb2' j0
  cases ha : Tr.askedB wide key t with
  | false =>
    have HA := Lib.hid (show Tr.growsB wide key t = false by simp [Tr.growsB, ha])
    clear ha
    go_wp2_with fail
    go_ret
    exact ⟨by rw [HA.out]; rfl, H2.out⟩
  | true =>
    have HA := Lib.hid (show Tr.growsB wide key t = Tr.insG wide key t by simp [Tr.growsB, ha])
    have hv := (Tr.asked_path ha).1
    have hsm := Tr.valid_small hv
    have hcall := l3Insert_c wide key (Tr.valid_wide hv) 200 t hsm (by omega) (Tr.valid_well hv) w2 (· < B) _ _ (fun q h => by omega) (HT.out.later (HBW.out.trans (H2.out.mono hB)) (Nat.le_refl _)).p
    have HC := Lib.hid hcall
    clear ha hv hsm hcall
    go_wp2_with fail
    refine HC.out.mono ?_
    intro e w3 hcut
    obtain ⟨b1, b2, b3, b4, d1, d2, d3, d4, d5, d6, d7, d8, mid, rfl, hb3⟩ := cut_tells hcut
    have H3 := Lib.hid (H2.out.trans (hb3.mono (by omega)))
    clear hcut hb3
    go_wp2_with fail
    go_ret
    exact ⟨by rw [HA.out]; rfl, H3.out⟩
end Go.Proofs.Yteelnkhajlmnfaa

/- The law on SplitsBy: the walk over the contracts. -/
namespace Go.Proofs.Yteelnkhajlmnfaa
open Go.RowKit

/-- What the program's SplitsBy is to do. -/
def ImplSplitsBy : Prop := ∀ (w0 : World) (B : Nat) (kv cv : Value) (t : Tr) (n m : Int), TreeIn w0 B kv cv t → t.weight ≤ 1048576 → -9223372036854775808 ≤ n → n ≤ 9223372036854775807 → -9223372036854775808 ≤ m → m ≤ 9223372036854775807 → ∀ w', Below B w0 w' → B ≤ w'.heap.size →
  Calls Try.prog 33 #[.agg #[kv, cv], .int .i64 n, .int .i64 m] w' fun e w'' => e = .returned (.int .i64 (Tr.splitsB n m t)) ∧ Below w'.heap.size w' w''

set_option maxHeartbeats 2000000 in
set_option maxRecDepth 100000 in
theorem exSplitsBy_c {kv cv : Value} {t : Tr} (w : World) (ht : TreeIn w w.heap.size kv cv t) (n m : Int) (hd1 : -9223372036854775808 ≤ n) (hd2 : n ≤ 9223372036854775807) (hd3 : -9223372036854775808 ≤ m) (hd4 : m ≤ 9223372036854775807)
    (hI : ImplSplitsBy) :
    Calls Try.prog 7 #[.agg #[kv, cv], .int .i64 n, .int .i64 m] w fun e w' => e = .returned (.bool true) ∧ Below w.heap.size w w' := by
  obtain ⟨W1, hW1⟩ : ∃ W1, W1 = w.alloc (.cells #[kv, cv] 25) := ⟨_, rfl⟩
  have hs1 : W1.heap.size = w.heap.size + 1 := by rw [hW1]; simp
  have hb1 : Below w.heap.size w W1 := by rw [hW1]; exact (Below.refl _ _).alloc (Nat.le_refl _) _
  have kb : W1.heap[w.heap.size]? = some (.cells #[kv, cv] 25 (0, 0)) := by rw [hW1, new_blk]
  obtain ⟨x1, x2, x3, x4⟩ := box2 kb
  have HW1 := Lib.hid hW1
  have HT := Lib.hid ht
  have H1 := Lib.hid (And.intro hb1 kb)
  clear hW1 hb1 kb ht
  go_enter Try.func7, Try.ntmps7
  go_wp2_with fail
  rw [← HW1.out]
  refine (szTree_c HT.out W1 1048576 H1.out.1 (by omega) (by omega) (by omega)).mono ?_
  rintro e w2 ⟨rfl, hb2⟩
  have hs2 := hb2.size
  have kb2 := (hb2.block w.heap.size (by omega)).trans H1.out.2
  have hb2' := H1.out.1.trans (hb2.mono (by omega))
  clear x1 x2 x3 x4
  obtain ⟨x1, x2, x3, x4⟩ := box2 kb2
  have H2 := Lib.hid (And.intro hb2' kb2)
  clear hb2 hb2' kb2
  by_cases hwt : t.weight ≤ 1048576
  · rw [leftOf_ge (by omega)]
    have hnn : ¬ ((1048576 : Int) - (t.weight : Int) < 0) := by omega
    go_wp2_with fail
    -- the first copy, for the model
    refine (toTree_c HT.out hwt w2 H2.out.1 (by omega)).mono ?_
    rintro e w3 ⟨k3, c3, rfl, hn3, hb3⟩
    have hs3 := hb3.size
    have kb3 := (hb3.block w.heap.size (by omega)).trans H2.out.2
    have hb3' := H2.out.1.trans (hb3.mono (by omega))
    clear x1 x2 x3 x4
    obtain ⟨x1, x2, x3, x4⟩ := box2 kb3
    have H3 := Lib.hid (And.intro hb3' kb3)
    have HN3 := Lib.hid (hn3.tree hwt)
    clear hb3 hb3' kb3 hn3
    go_wp2_with fail
    refine (specSplitsBy_c HN3.out hwt n m w3 (Below.refl _ _) (Nat.le_refl _)).mono ?_
    rintro e w4 ⟨rfl, hb4⟩
    have hs4 := hb4.size
    have kb4 := (hb4.block w.heap.size (by omega)).trans H3.out.2
    have hb4' := H3.out.1.trans (hb4.mono (by omega))
    clear x1 x2 x3 x4
    obtain ⟨x1, x2, x3, x4⟩ := box2 kb4
    have H4 := Lib.hid (And.intro hb4' kb4)
    clear hb4 hb4' kb4
    go_wp2_with fail
    -- the second copy, for the program
    refine (toTree_c HT.out hwt w4 H4.out.1 (by omega)).mono ?_
    rintro e w5 ⟨k5, c5, rfl, hn5, hb5⟩
    obtain ⟨g5, h5, n5, m5, rfl, rfl⟩ := hn5.slices
    have hs5 := hb5.size
    have kb5 := (hb5.block w.heap.size (by omega)).trans H4.out.2
    have hb5' := H4.out.1.trans (hb5.mono (by omega))
    clear x1 x2 x3 x4
    obtain ⟨x1, x2, x3, x4⟩ := box2 kb5
    have H5 := Lib.hid (And.intro hb5' kb5)
    have HN5 := Lib.hid (hn5.tree hwt)
    clear hb5 hb5' kb5 hn5
    go_wp2_with fail
    obtain ⟨W6, hW6⟩ : ∃ W6, W6 = w5.alloc (.cells #[.slice (some ⟨g5, 0, none⟩) n5 n5, .slice (some ⟨h5, 0, none⟩) m5 m5] 30) := ⟨_, rfl⟩
    rw [← hW6]
    have hs6 : W6.heap.size = w5.heap.size + 1 := by rw [hW6]; simp
    have hb6 : Below w5.heap.size w5 W6 := by rw [hW6]; exact (Below.refl _ _).alloc (Nat.le_refl _) _
    have kx6 : W6.heap[w5.heap.size]? = some (.cells #[.slice (some ⟨g5, 0, none⟩) n5 n5, .slice (some ⟨h5, 0, none⟩) m5 m5] 30 (0, 0)) := by rw [hW6, new_blk]
    have kb6 := (hb6.block w.heap.size (by omega)).trans H5.out.2
    have hb6' := H5.out.1.trans (hb6.mono (by omega))
    clear x1 x2 x3 x4 hW6
    refine (hI _ _ _ _ _ n m HN5.out hwt hd1 hd2 hd3 hd4 W6 hb6 (by omega)).mono ?_
    rintro e w7 ⟨rfl, hb7⟩
    have hs7 := hb7.size
    have kb7 := (hb7.block w.heap.size (by omega)).trans kb6
    have kx7 := (hb7.block w5.heap.size (by omega)).trans kx6
    have hb7' := hb6'.trans (hb7.mono (by omega))
    have hb57 : Below w5.heap.size w5 w7 := hb6.trans (hb7.mono (by omega))
    obtain ⟨x1, x2, x3, x4⟩ := box2 kb7
    obtain ⟨y1, y2, y3, y4⟩ := box2 kx7
    have H7 := Lib.hid (And.intro hb7' (And.intro kb7 (And.intro kx7 hb57)))
    have hne : (Tr.splitsB n m t != Tr.splitsB n m t) = false := by simp
    clear hb7 hb7' kb7 kx7 kb6 kx6 hb6 hb6' hb57
    go_wp2_with fail
    go_region_held3 (fun x => x.cell? ⟨w.heap.size, 0, none⟩ = some kv ∧ x.cell? ⟨w.heap.size, 1, none⟩ = some cv ∧ x.cell? ⟨w5.heap.size, 0, none⟩ = some (.slice (some ⟨g5, 0, none⟩) n5 n5) ∧ x.cell? ⟨w5.heap.size, 1, none⟩ = some (.slice (some ⟨h5, 0, none⟩) m5 m5))
      (first | exact ⟨x1, x2, y1, y2⟩ | exact ⟨z1, z2, u1, u2⟩ | exact ⟨q1, q2, r1, r2⟩ | go_keep)
      (first
        | (go_at_call 17; refine (toTree_c HT.out hwt _ (H7.out.1.drew) (by simp; omega)).mono ?_; rintro e w8 ⟨k8, c8, rfl, hn8, hb8⟩; obtain ⟨g8, h8, n8, m8, rfl, rfl⟩ := hn8.slices; have hs8 := hb8.size; have HN8 := Lib.hid (hn8.tree hwt); have kb8 := (hb8.block w.heap.size (by simp; omega)).trans H7.out.2.1; have kx8 := (hb8.block w5.heap.size (by simp; omega)).trans H7.out.2.2.1; obtain ⟨z1, z2, z3, z4⟩ := box2 kb8; obtain ⟨u1, u2, u3, u4⟩ := box2 kx8; have H8 := Lib.hid (And.intro (H7.out.1.drew.trans (hb8.mono (by simp; omega))) (And.intro (H7.out.2.2.2.drew.trans (hb8.mono (by simp; omega))) (And.intro kb8 kx8))); clear hb8 hn8 kb8 kx8)
        | (go_at_call 19; refine (eqTree_c (TreeIn.wider (TreeIn.later HN5.out H8.out.2.1 (Nat.le_refl _)) (by simp at hs8; omega)) _ _ HN8.out _ (Below.refl _ _) (Nat.le_refl _)).mono ?_; rintro e w9 ⟨rfl, hb9⟩; have hs9 := hb9.size; obtain ⟨q1, q2, q3, q4⟩ := box2 ((hb9.block w.heap.size (by simp at hs8; omega)).trans H8.out.2.2.1); obtain ⟨r1, r2, r3, r4⟩ := box2 ((hb9.block w5.heap.size (by simp at hs8; omega)).trans H8.out.2.2.2); have H9 := Lib.hid (H8.out.1.trans (hb9.mono (by simp at hs8; omega))); clear hb9))
    go_wp2_with fail
    go_ret
    exact ⟨rfl, H9.out⟩
  · rw [leftOf_lt (by omega)]
    go_wp2_with fail
    go_ret
    exact ⟨rfl, H2.out.1⟩
end Go.Proofs.Yteelnkhajlmnfaa

/- The law on GrowsBy: the walk over the contracts. -/
namespace Go.Proofs.Yteelnkhajlmnfaa
open Go.RowKit

/-- What the program's GrowsBy is to do. -/
def ImplGrowsBy : Prop := ∀ (w0 : World) (B : Nat) (kv cv : Value) (t : Tr) (n m : Int), TreeIn w0 B kv cv t → t.weight ≤ 1048576 → -9223372036854775808 ≤ n → n ≤ 9223372036854775807 → -9223372036854775808 ≤ m → m ≤ 9223372036854775807 → ∀ w', Below B w0 w' → B ≤ w'.heap.size →
  Calls Try.prog 35 #[.agg #[kv, cv], .int .i64 n, .int .i64 m] w' fun e w'' => e = .returned (.bool (Tr.growsB n m t)) ∧ Below w'.heap.size w' w''

set_option maxHeartbeats 2000000 in
set_option maxRecDepth 100000 in
theorem exGrowsBy_c {kv cv : Value} {t : Tr} (w : World) (ht : TreeIn w w.heap.size kv cv t) (n m : Int) (hd1 : -9223372036854775808 ≤ n) (hd2 : n ≤ 9223372036854775807) (hd3 : -9223372036854775808 ≤ m) (hd4 : m ≤ 9223372036854775807)
    (hI : ImplGrowsBy) :
    Calls Try.prog 8 #[.agg #[kv, cv], .int .i64 n, .int .i64 m] w fun e w' => e = .returned (.bool true) ∧ Below w.heap.size w w' := by
  obtain ⟨W1, hW1⟩ : ∃ W1, W1 = w.alloc (.cells #[kv, cv] 25) := ⟨_, rfl⟩
  have hs1 : W1.heap.size = w.heap.size + 1 := by rw [hW1]; simp
  have hb1 : Below w.heap.size w W1 := by rw [hW1]; exact (Below.refl _ _).alloc (Nat.le_refl _) _
  have kb : W1.heap[w.heap.size]? = some (.cells #[kv, cv] 25 (0, 0)) := by rw [hW1, new_blk]
  obtain ⟨x1, x2, x3, x4⟩ := box2 kb
  have HW1 := Lib.hid hW1
  have HT := Lib.hid ht
  have H1 := Lib.hid (And.intro hb1 kb)
  clear hW1 hb1 kb ht
  go_enter Try.func8, Try.ntmps8
  go_wp2_with fail
  rw [← HW1.out]
  refine (szTree_c HT.out W1 1048576 H1.out.1 (by omega) (by omega) (by omega)).mono ?_
  rintro e w2 ⟨rfl, hb2⟩
  have hs2 := hb2.size
  have kb2 := (hb2.block w.heap.size (by omega)).trans H1.out.2
  have hb2' := H1.out.1.trans (hb2.mono (by omega))
  clear x1 x2 x3 x4
  obtain ⟨x1, x2, x3, x4⟩ := box2 kb2
  have H2 := Lib.hid (And.intro hb2' kb2)
  clear hb2 hb2' kb2
  by_cases hwt : t.weight ≤ 1048576
  · rw [leftOf_ge (by omega)]
    have hnn : ¬ ((1048576 : Int) - (t.weight : Int) < 0) := by omega
    go_wp2_with fail
    -- the first copy, for the model
    refine (toTree_c HT.out hwt w2 H2.out.1 (by omega)).mono ?_
    rintro e w3 ⟨k3, c3, rfl, hn3, hb3⟩
    have hs3 := hb3.size
    have kb3 := (hb3.block w.heap.size (by omega)).trans H2.out.2
    have hb3' := H2.out.1.trans (hb3.mono (by omega))
    clear x1 x2 x3 x4
    obtain ⟨x1, x2, x3, x4⟩ := box2 kb3
    have H3 := Lib.hid (And.intro hb3' kb3)
    have HN3 := Lib.hid (hn3.tree hwt)
    clear hb3 hb3' kb3 hn3
    go_wp2_with fail
    refine (specGrowsBy_c HN3.out hwt n m w3 (Below.refl _ _) (Nat.le_refl _)).mono ?_
    rintro e w4 ⟨rfl, hb4⟩
    have hs4 := hb4.size
    have kb4 := (hb4.block w.heap.size (by omega)).trans H3.out.2
    have hb4' := H3.out.1.trans (hb4.mono (by omega))
    clear x1 x2 x3 x4
    obtain ⟨x1, x2, x3, x4⟩ := box2 kb4
    have H4 := Lib.hid (And.intro hb4' kb4)
    clear hb4 hb4' kb4
    go_wp2_with fail
    -- the second copy, for the program
    refine (toTree_c HT.out hwt w4 H4.out.1 (by omega)).mono ?_
    rintro e w5 ⟨k5, c5, rfl, hn5, hb5⟩
    obtain ⟨g5, h5, n5, m5, rfl, rfl⟩ := hn5.slices
    have hs5 := hb5.size
    have kb5 := (hb5.block w.heap.size (by omega)).trans H4.out.2
    have hb5' := H4.out.1.trans (hb5.mono (by omega))
    clear x1 x2 x3 x4
    obtain ⟨x1, x2, x3, x4⟩ := box2 kb5
    have H5 := Lib.hid (And.intro hb5' kb5)
    have HN5 := Lib.hid (hn5.tree hwt)
    clear hb5 hb5' kb5 hn5
    go_wp2_with fail
    obtain ⟨W6, hW6⟩ : ∃ W6, W6 = w5.alloc (.cells #[.slice (some ⟨g5, 0, none⟩) n5 n5, .slice (some ⟨h5, 0, none⟩) m5 m5] 30) := ⟨_, rfl⟩
    rw [← hW6]
    have hs6 : W6.heap.size = w5.heap.size + 1 := by rw [hW6]; simp
    have hb6 : Below w5.heap.size w5 W6 := by rw [hW6]; exact (Below.refl _ _).alloc (Nat.le_refl _) _
    have kx6 : W6.heap[w5.heap.size]? = some (.cells #[.slice (some ⟨g5, 0, none⟩) n5 n5, .slice (some ⟨h5, 0, none⟩) m5 m5] 30 (0, 0)) := by rw [hW6, new_blk]
    have kb6 := (hb6.block w.heap.size (by omega)).trans H5.out.2
    have hb6' := H5.out.1.trans (hb6.mono (by omega))
    clear x1 x2 x3 x4 hW6
    refine (hI _ _ _ _ _ n m HN5.out hwt hd1 hd2 hd3 hd4 W6 hb6 (by omega)).mono ?_
    rintro e w7 ⟨rfl, hb7⟩
    have hs7 := hb7.size
    have kb7 := (hb7.block w.heap.size (by omega)).trans kb6
    have kx7 := (hb7.block w5.heap.size (by omega)).trans kx6
    have hb7' := hb6'.trans (hb7.mono (by omega))
    have hb57 : Below w5.heap.size w5 w7 := hb6.trans (hb7.mono (by omega))
    obtain ⟨x1, x2, x3, x4⟩ := box2 kb7
    obtain ⟨y1, y2, y3, y4⟩ := box2 kx7
    have H7 := Lib.hid (And.intro hb7' (And.intro kb7 (And.intro kx7 hb57)))
    have hne : (Tr.growsB n m t != Tr.growsB n m t) = false := by simp
    clear hb7 hb7' kb7 kx7 kb6 kx6 hb6 hb6' hb57
    go_wp2_with fail
    go_region_held3 (fun x => x.cell? ⟨w.heap.size, 0, none⟩ = some kv ∧ x.cell? ⟨w.heap.size, 1, none⟩ = some cv ∧ x.cell? ⟨w5.heap.size, 0, none⟩ = some (.slice (some ⟨g5, 0, none⟩) n5 n5) ∧ x.cell? ⟨w5.heap.size, 1, none⟩ = some (.slice (some ⟨h5, 0, none⟩) m5 m5))
      (first | exact ⟨x1, x2, y1, y2⟩ | exact ⟨z1, z2, u1, u2⟩ | exact ⟨q1, q2, r1, r2⟩ | go_keep)
      (first
        | (go_at_call 17; refine (toTree_c HT.out hwt _ (H7.out.1.drew) (by simp; omega)).mono ?_; rintro e w8 ⟨k8, c8, rfl, hn8, hb8⟩; obtain ⟨g8, h8, n8, m8, rfl, rfl⟩ := hn8.slices; have hs8 := hb8.size; have HN8 := Lib.hid (hn8.tree hwt); have kb8 := (hb8.block w.heap.size (by simp; omega)).trans H7.out.2.1; have kx8 := (hb8.block w5.heap.size (by simp; omega)).trans H7.out.2.2.1; obtain ⟨z1, z2, z3, z4⟩ := box2 kb8; obtain ⟨u1, u2, u3, u4⟩ := box2 kx8; have H8 := Lib.hid (And.intro (H7.out.1.drew.trans (hb8.mono (by simp; omega))) (And.intro (H7.out.2.2.2.drew.trans (hb8.mono (by simp; omega))) (And.intro kb8 kx8))); clear hb8 hn8 kb8 kx8)
        | (go_at_call 19; refine (eqTree_c (TreeIn.wider (TreeIn.later HN5.out H8.out.2.1 (Nat.le_refl _)) (by simp at hs8; omega)) _ _ HN8.out _ (Below.refl _ _) (Nat.le_refl _)).mono ?_; rintro e w9 ⟨rfl, hb9⟩; have hs9 := hb9.size; obtain ⟨q1, q2, q3, q4⟩ := box2 ((hb9.block w.heap.size (by simp at hs8; omega)).trans H8.out.2.2.1); obtain ⟨r1, r2, r3, r4⟩ := box2 ((hb9.block w5.heap.size (by simp at hs8; omega)).trans H8.out.2.2.2); have H9 := Lib.hid (H8.out.1.trans (hb9.mono (by simp at hs8; omega))); clear hb9))
    go_wp2_with fail
    go_ret
    exact ⟨rfl, H9.out⟩
  · rw [leftOf_lt (by omega)]
    go_wp2_with fail
    go_ret
    exact ⟨rfl, H2.out.1⟩
end Go.Proofs.Yteelnkhajlmnfaa

/- The contracts of the program's SplitsBy and GrowsBy. -/
namespace Go.Proofs.Yteelnkhajlmnfaa
open Go.RowKit

set_option maxRecDepth 100000 in
set_option maxHeartbeats 2000000 in
theorem impl_splits : ImplSplitsBy := by
  intro w B kv cv t wide key ht hw hn1 hn2 _ _ w' hbw hB
  obtain ⟨a5, n5, m5, a6, n6, m6, rfl, rfl⟩ := ht.slices
  obtain ⟨W1, hW1⟩ : ∃ W1, W1 = w'.alloc (.cells #[.slice a5 n5 m5, .slice a6 n6 m6] 30) := ⟨_, rfl⟩
  have hs1 : W1.heap.size = w'.heap.size + 1 := by rw [hW1]; simp
  have hb1 : Below w'.heap.size w' W1 := by rw [hW1]; exact (Below.refl _ _).alloc (Nat.le_refl _) _
  have k0 : W1.heap[w'.heap.size]? = some (.cells #[.slice a5 n5 m5, .slice a6 n6 m6] 30 (0, 0)) := by rw [hW1, new_blk]
  obtain ⟨x1, x2, x3, x4⟩ := box2 k0
  have HT := Lib.hid ht
  have HBW := Lib.hid hbw
  have HW1 := Lib.hid hW1
  have H1 := Lib.hid hb1
  clear ht hbw hW1 hb1 k0
  go_enter Try.func33, Try.ntmps33
  go_wp2_with fail
  rw [← HW1.out]
  refine (grownBy_c HT.out hw wide key hn1 hn2 W1 (HBW.out.trans (H1.out.mono hB)) (by omega)).mono ?_
  intro e w2 hgo
  rcases hgo with ⟨ha, rfl, hb2⟩ | ⟨ha, gb, b, F, rfl, hgr, hF, hb2⟩
  · have HA := Lib.hid (show Tr.splitsB wide key t = -1 by simp [Tr.splitsB, ha])
    have H2 := Lib.hid (H1.out.trans (hb2.mono (by omega)))
    clear ha hb2 x1 x2 x3 x4
    go_wp2_with fail
    go_ret
    exact ⟨by rw [HA.out]; rfl, H2.out⟩
  · have HA := Lib.hid (show Tr.splitsB wide key t = Tr.insN wide key t by simp [Tr.splitsB, ha])
    have H2 := Lib.hid (H1.out.trans (hb2.mono (by omega)))
    obtain ⟨y1, y2, y3, y4, y5, y6, y7⟩ := hgr.box.cells
    clear ha hb2 x1 x2 x3 x4 hgr hF
    go_wp2_with fail
    go_ret
    exact ⟨by rw [HA.out]; rfl, H2.out⟩

set_option maxRecDepth 100000 in
set_option maxHeartbeats 2000000 in
theorem impl_grows : ImplGrowsBy := by
  intro w B kv cv t wide key ht hw hn1 hn2 _ _ w' hbw hB
  obtain ⟨a5, n5, m5, a6, n6, m6, rfl, rfl⟩ := ht.slices
  obtain ⟨W1, hW1⟩ : ∃ W1, W1 = w'.alloc (.cells #[.slice a5 n5 m5, .slice a6 n6 m6] 30) := ⟨_, rfl⟩
  have hs1 : W1.heap.size = w'.heap.size + 1 := by rw [hW1]; simp
  have hb1 : Below w'.heap.size w' W1 := by rw [hW1]; exact (Below.refl _ _).alloc (Nat.le_refl _) _
  have k0 : W1.heap[w'.heap.size]? = some (.cells #[.slice a5 n5 m5, .slice a6 n6 m6] 30 (0, 0)) := by rw [hW1, new_blk]
  obtain ⟨x1, x2, x3, x4⟩ := box2 k0
  have HT := Lib.hid ht
  have HBW := Lib.hid hbw
  have HW1 := Lib.hid hW1
  have H1 := Lib.hid hb1
  clear ht hbw hW1 hb1 k0
  go_enter Try.func35, Try.ntmps35
  go_wp2_with fail
  rw [← HW1.out]
  refine (grownBy_c HT.out hw wide key hn1 hn2 W1 (HBW.out.trans (H1.out.mono hB)) (by omega)).mono ?_
  intro e w2 hgo
  rcases hgo with ⟨ha, rfl, hb2⟩ | ⟨ha, gb, b, F, rfl, hgr, hF, hb2⟩
  · have HA := Lib.hid (show Tr.growsB wide key t = false by simp [Tr.growsB, ha])
    have H2 := Lib.hid (H1.out.trans (hb2.mono (by omega)))
    clear ha hb2 x1 x2 x3 x4
    go_wp2_with fail
    go_ret
    exact ⟨by rw [HA.out]; rfl, H2.out⟩
  · have HA := Lib.hid (show Tr.growsB wide key t = Tr.insG wide key t by simp [Tr.growsB, ha])
    have H2 := Lib.hid (H1.out.trans (hb2.mono (by omega)))
    obtain ⟨y1, y2, y3, y4, y5, y6, y7⟩ := hgr.box.cells
    clear ha hb2 x1 x2 x3 x4 hgr hF
    go_wp2_with fail
    go_ret
    exact ⟨by rw [HA.out]; rfl, H2.out⟩
end Go.Proofs.Yteelnkhajlmnfaa

/- The statement on GrowsBy, from the walk of its law. -/
namespace Go.Proofs.Yteelnkhajlmnfaa.exGrowsBy
open Go.ChangeShapes Go.WideShapes Go.ChangeAt Go.RowKit
set_option linter.unusedVariables false

theorem own : ownKnob Try.prog.godebug = none := by kernel_rfl
theorem laidOut : laidOutB Try.prog = true := by kernel_rfl

theorem walk (hI : ImplGrowsBy) (kv cv : Value) (t : Tr) (w : World) (ht : TreeIn w w.heap.size kv cv t) (n m : Int) (hn1 : -9223372036854775808 ≤ n) (hn2 : n ≤ 9223372036854775807) (hm1 : -9223372036854775808 ≤ m) (hm2 : m ≤ 9223372036854775807) :
    Calls Try.prog 8 #[.agg #[kv, cv], .int .i64 n, .int .i64 m] w fun e w' => e = .returned (.bool true) ∧ Below w.heap.size w w' := exGrowsBy_c w ht n m hn1 hn2 hm1 hm2 hI

set_option maxRecDepth 100000 in
set_option maxHeartbeats 1000000 in
theorem lifted (hI : ImplGrowsBy) (os : Os) (started : os.Started) (H : Type) (enc : TypeId × Value → H) :
    ReturnsInHanded {} Try.checked os 8 .any (Rows.fnExactGrowsBySpec.pre6 enc Try.prog Try.f8 Rows.fnExactGrowsByRow.domain false) (Rows.fnExactGrowsBySpec.post enc Try.prog Try.f8 false true false false) := by
  refine returnsInHanded_of_change (C := Try.checked) own started (by kernel_rfl) Try.func8
    (ChangeSpec.witness6 (enc := enc) (C := Try.checked) false ⟨#[], #[.agg #[.slice none 0 0, .slice none 0 0], .int .i64 0, .int .i64 0], []⟩ 8 (by kernel_rfl) (by kernel_rfl) (by kernel_rfl) (by kernel_rfl)) ?_
  intro W base args ds gs before hval0 hW hcnd _
  have hval : ∀ (j : Nat) t v, Try.f8.params[j]? = some t → args[j]? = some v → Value.okWide Try.prog W .any base t v := hval0
  have hW' := hW
  obtain ⟨p, q, hA0, hV, rfl, hfz, hnd⟩ := hW
  have hA : DataW.TrodAll enc Try.prog W 0 (fun _ => true) true Try.f8.params.toList args.toList ds p := hA0
  rw [Try.params8] at hA hval
  obtain ⟨v0, vs0, d0, ds0, p0, q0, hargs, rfl, rfl, h0, r0⟩ := trodAll_cons hA
  obtain ⟨v1, vs1, d1, ds1, p1, q1, rfl, rfl, rfl, h1, r1⟩ := trodAll_cons r0
  obtain ⟨v2, vs2, d2, ds2, p2, q2, rfl, rfl, rfl, h2, r2⟩ := trodAll_cons r1
  obtain ⟨rfl, rfl, rfl⟩ := trodAll_nil r2
  obtain rfl : args = #[v0, v1, v2] := by cases args; simp_all
  obtain ⟨rfl, rfl⟩ := trodVars_none hV
  obtain ⟨cs, rfl, hcs⟩ := okWide_struct Try.underlying25 (hval 0 25 v0 rfl rfl)
  have k0 := h0
  have lt0 : ∀ x ∈ p0, x.block < W.heap.size := by obtain ⟨m, hm⟩ := k0; exact DataW.trod_lt m _ _ _ hm
  obtain ⟨kv, cv, t, hkc, ht, hf⟩ : ∃ kv cv t, cs = #[kv, cv] ∧ TreeIn W W.heap.size kv cv t ∧ Tr.Fit t := by
    obtain ⟨fuel, hf⟩ := h0
    obtain ⟨kv, cv, t, hcl, ht, hft⟩ := tree_of_trod fuel hf
    exact ⟨kv, cv, t, by cases cs; simp_all [Value.cells], ht, hft⟩
  subst hkc
  obtain ⟨n1, rfl, rfl, rfl, wn1⟩ := open_int Try.underlying3 (hval 1 3 v1 rfl rfl) h1
  have hfit1 : -9223372036854775808 ≤ n1 ∧ n1 ≤ 9223372036854775807 := by simpa [Lit.wf, IntKind.min, IntKind.max, IntKind.signed, IntKind.bits] using wn1
  obtain ⟨n2, rfl, rfl, rfl, wn2⟩ := open_int Try.underlying3 (hval 2 3 v2 rfl rfl) h2
  have hfit2 : -9223372036854775808 ≤ n2 ∧ n2 ≤ 9223372036854775807 := by simpa [Lit.wf, IntKind.min, IntKind.max, IntKind.signed, IntKind.bits] using wn2
  clear hA0 hval0
  refine (walk hI kv cv t W ht n1 n2 hfit1.1 hfit1.2 hfit2.1 hfit2.2).mono fun e W' ⟨he, bel⟩ => ?_
  subst he
  exact ⟨_, rfl, _, _, _, [], _, [], hW', trodAll_mk1 (shut_bool Try.underlying4 _), (trodAll_cons_mk (Below.trod laidOut (by kernel_rfl) (of_decide_eq_true (by kernel_rfl)) k0 bel lt0) (trodAll_cons_mk (shut_int Try.underlying3 wn1) (trodAll_cons_mk (shut_int Try.underlying3 wn2) trodAll_mk0))), rfl, bel.frame _, fun h => by cases h⟩

theorem closed : joinedFacts Try.prog 8 Try.f8 Rows.fnExactGrowsBySpec Rows.fnExactGrowsByRow = true := by
  unfold joinedFacts
  exact band (band (band (band (band (band (band (by kernel_rfl) fact_enter) fact_lifts) fact_make) (by kernel_rfl)) (by kernel_rfl)) (by kernel_rfl)) (by kernel_rfl)

theorem over (hI : ImplGrowsBy) : Rows.fnExactGrowsByRow.holds Try.pinned (OpenSpec.ofChange Rows.fnExactGrowsBySpec) :=
  OpenClaim.holds_of_wide 8 Try.f8 rfl rfl rfl rfl rfl rfl rfl ⟨rfl, rfl, rfl, rfl, rfl⟩ rfl rfl rfl rfl rfl (by kernel_rfl) Try.func8 closed
    (of_decide_eq_true (by kernel_rfl)) (by unfold Func.isWrapper; first | (rw [if_pos (by decide +kernel)]; kernel_rfl) | (rw [if_neg (by decide +kernel)]; exact ⟨rfl, rfl⟩))
    (fun os started H enc _ => lifted hI os started H enc)

theorem proved (hI : ImplGrowsBy) : Rows.FnExactGrowsBySaid := over hI
end Go.Proofs.Yteelnkhajlmnfaa.exGrowsBy

/- For every tree in memory and any two ints, the law on GrowsBy returns true and leaves its arguments as they were; no conditions. -/
namespace Go.Proofs.Yteelnkhajlmnfaa

theorem grows_by_said : Rows.FnExactGrowsBySaid := exGrowsBy.proved impl_grows
end Go.Proofs.Yteelnkhajlmnfaa
