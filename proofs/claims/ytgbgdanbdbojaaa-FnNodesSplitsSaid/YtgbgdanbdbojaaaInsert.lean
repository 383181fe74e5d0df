/- The contract of insert. -/
import Derived.Test.YtgbgdanbdbojaaaProg
import Derived.Test.YtgbgdanbdbojaaaNs0
import Derived.Test.YtgbgdanbdbojaaaPathTo
import Derived.Test.YtgbgdanbdbojaaaInsBelow
import Derived.Deep.Cut
namespace Go.Proofs.Ytgbgdanbdbojaaa
open Go.RowKit

/-- A growing tree: its box, its node, apart. -/
structure Grow (w : World) (gb : Nat) (wide : Int) (s : Nat) (gr : Bool) (F : Cells) (b : Nat) (t : Tr) : Prop where
  box : GBox w gb (.pointer (some ⟨b, 0, none⟩)) wide s (.bool gr)
  node : Nd w F b t
  apart : ∀ o, ¬ F gb o

/-- What insert leaves. -/
def Inserted (w : World) (gb : Nat) (wide key : Int) (s : Nat) (gr : Bool) (F : Cells) (t : Tr) (e : Ending) (w' : World) : Prop :=
  ∃ (F' : Cells) (b' : Nat), e = .returned (.tuple #[]) ∧ Grow w' gb wide (if (t.path key).2 then s else s + Tr.insN wide key t) (if (t.path key).2 then gr else (gr || Tr.insG wide key t)) F' b' (if (t.path key).2 then t else Tr.insT wide key t) ∧
    (∀ x o, F' x o → F x o ∨ w.heap.size ≤ x) ∧ KeptF (fun x o => F x o ∨ x = gb) w w'

set_option maxRecDepth 100000 in
set_option maxHeartbeats 4000000 in
theorem insert_c (wide key : Int) (hwide : 2 ≤ wide ∧ wide ≤ 6) (w : World) (gb : Nat) (s : Nat) (gr : Bool) (F : Cells) (b : Nat) (t : Tr) (h : Grow w gb wide s gr F b t) (hwell : Tr.Well t) (hw : t.weight ≤ 90000) (hs9 : s ≤ 800000000) :
    Calls Try.prog 75 #[.pointer (some ⟨gb, 0, none⟩), .int .i64 key] w (Inserted w gb wide key s gr F t) := by
  obtain ⟨hbox, hnd, hgF⟩ := h
  have hglt := (Array.getElem?_eq_some_iff.1 hbox).1
  obtain ⟨g0, g1, g2, g3, g4, g5, g6⟩ := hbox.cells
  have hpath := pathTo_c hnd.nodeAt hwell (by omega) key w (Below.refl _ _) (Nat.le_refl _)
  have HP := Lib.hid hpath
  have HG := Lib.hid (And.intro hbox (And.intro hnd hgF))
  have HW := Lib.hid hwell
  clear hbox hnd hgF hpath hwell
  go_enter Try.func75, Try.ntmps75
  go_wp2_with fail
  refine HP.out.mono ?_
  rintro e w1 ⟨v, rfl, hown, hb1⟩
  obtain ⟨va, vc, rfl⟩ := IntsOwn.shown hown
  have hs1 := hb1.size
  have hk1 : KeptF (fun _ _ => False) w w1 := KeptF.of_below hb1 (Nat.le_refl _)
  have hg1 : GBox w1 gb (.pointer (some ⟨b, 0, none⟩)) wide s (.bool gr) := hk1.block' HG.out.1 (fun _ h => h)
  clear g0 g1 g2 g3 g4 g5 g6 hown hb1
  obtain ⟨g0, g1, g2, g3, g4, g5, g6⟩ := hg1.cells
  have hnd1 := HG.out.2.1.keep hk1 (fun _ _ _ h => h)
  have H1 := Lib.hid (And.intro hk1 (And.intro hg1 hnd1))
  clear hk1 hg1 hnd1
  cases hp : (t.path key).2 with
  | true =>
    have HPB := Lib.hid hp
    clear hp
    go_wp2_with fail
    refine bodyPost_ret (v := .tuple #[]) (by simp [results, Try.results75, go_sem]) rfl ?_
    refine ⟨F, b, rfl, ?_, fun x o h => .inl h, H1.out.1.mono (fun _ _ _ h => h.elim)⟩
    rw [HPB.out]
    exact ⟨H1.out.2.1, H1.out.2.2, HG.out.2.2⟩
  | false =>
    have HPB := Lib.hid hp
    obtain ⟨W2, hW2⟩ : ∃ W2, W2 = (w1.alloc (.cells #[.pointer (some ⟨b, 0, none⟩)] 53)).alloc (.cells #[.slice none 0 0, .slice (some ⟨w1.heap.size, 0, none⟩) 1 1] 85) := ⟨_, rfl⟩
    have hs2 : W2.heap.size = w1.heap.size + 2 := by rw [hW2]; simp
    have hb2 : Below w1.heap.size w1 W2 := by rw [hW2]; exact ((Below.refl _ _).alloc (Nat.le_refl _) _).alloc (by simp) _
    have kr : W2.heap[w1.heap.size]? = some (.cells #[.pointer (some ⟨b, 0, none⟩)] 53 (0, 0)) := by rw [hW2, old_blk _ _ _ (by simp), new_blk]
    have ka : W2.heap[w1.heap.size + 1]? = some (.cells #[.slice none 0 0, .slice (some ⟨w1.heap.size, 0, none⟩) 1 1] 85 (0, 0)) := by
      rw [hW2, show w1.heap.size + 1 = (w1.alloc (.cells #[.pointer (some ⟨b, 0, none⟩)] 53)).heap.size by simp, new_blk]
    have hk2 : KeptF (fun _ _ => False) w1 W2 := KeptF.of_below hb2 (Nat.le_refl _)
    have hFlt := HG.out.2.1.lt
    have hnda : Nd W2 (allOf (w1.heap.size + 1) (fun _ _ => False) (fun q _ => q = w1.heap.size) [⟨b, F, t⟩]) (w1.heap.size + 1) (.mk [] ([(⟨b, F, t⟩ : KidD)].map KidD.t)) := by
      refine Nd.intro ka (RowF.nil W2) ?_ (fun y hy => ?_) ⟨fun _ _ _ h => h, fun q r h g => by have : q = w1.heap.size + 1 := h; omega, fun y hy q r h g => ?_, fun _ _ h => h.elim, fun _ _ _ _ h => h.elim, fun y hy q r h g => ?_, List.pairwise_singleton _ _⟩
      · have hc := box1 kr
        exact RowF.intro (xs := [Value.pointer (some ⟨b, 0, none⟩)]) (b := w1.heap.size) (o := 0) (cap := 1) (fun x q h => by omega) (by simp) (by unfold maxLen; omega) (fun i hi => by
          have e : i = 0 := by omega
          subst e
          exact ⟨rfl, by rw [Nat.zero_add, hc.1]; rfl, hc.2⟩) (fun i hi => by
          have e : i = 0 := by simpa using hi
          subst e
          exact hc.1)
      · simp at hy; subst hy; exact H1.out.2.2.keep hk2 (fun _ _ _ h => h)
      · simp at hy; subst hy; have := hFlt _ _ g; have : q = w1.heap.size + 1 := h; omega
      · simp at hy; subst hy; have := hFlt _ _ g; omega
    have hg2 : GBox W2 gb (.pointer (some ⟨b, 0, none⟩)) wide s (.bool gr) := hk2.block' H1.out.2.1 (fun _ h => h)
    have hgrow : Tr.grow wide key (.mk [] ([(⟨b, F, t⟩ : KidD)].map KidD.t)) = (if Tr.insG wide key t then (Tr.insT wide key t, Tr.insN wide key t) else (.mk [] [Tr.insT wide key t], Tr.insN wide key t)) := by
      show Tr.grow wide key (.mk [] [t]) = _
      rw [Tr.grow_inner (show place key [] < [t].length by simp [place])]
      exact Tr.insT_step wide key t
    have hcall := insertBelow_c wide key hwide 90010 (.mk [] ([(⟨b, F, t⟩ : KidD)].map KidD.t)) (by simp [Tr.weight, Tr.weights]; omega) (by omega)
      ⟨List.Pairwise.nil, .inr (by simp), fun i hi => by simp at hi; subst hi; exact HW.out⟩ W2 _ (w1.heap.size + 1) gb _ _ s hnda hg2 (fun o h => by
        rcases h with h | h | h | ⟨y, hy, h⟩
        · omega
        · exact h
        · have : gb = w1.heap.size := h; omega
        · simp at hy; subst hy; exact HG.out.2.2 o h) (by simp [Tr.weight, Tr.weights]; omega)
    rw [hgrow] at hcall
    have HC := Lib.hid hcall
    have HW2 := Lib.hid hW2
    have H2 := Lib.hid (And.intro hk2 (And.intro kr (And.intro ka hs2)))
    clear hcall hgrow hW2 hk2 kr ka hs2 hb2 hnda hg2 hp
    go_upto_region 3 with (fail)
    rw [← HW2.out]
    clear g0 g1 g2 g3 g4 g5 g6
    go_wp2_with fail
    refine HC.out.mono ?_
    rintro e w3 ⟨F3, rfl, hnd3, hF3, hk3, hg3, hst3⟩
    have hs3 := hk3.size
    have hs2 := H2.out.2.2.2
    have hFA : ∀ q r, allOf (w1.heap.size + 1) (fun _ _ => False) (fun q _ => q = w1.heap.size) [⟨b, F, t⟩] q r → F q r ∨ w.heap.size ≤ q := by
      rintro q r (h | h | h | ⟨y, hy, h⟩)
      · right; omega
      · exact h.elim
      · right; have : q = w1.heap.size := h; omega
      · simp at hy; subst hy; exact .inl h
    have hF3' : ∀ q r, F3 q r → F q r ∨ w.heap.size ≤ q := fun q r h => (hF3 q r h).elim (hFA q r) (fun h => by right; omega)
    have hF3g : ∀ o, ¬ F3 gb o := fun o h => (hF3' gb o h).elim (HG.out.2.2 o) (fun h => by omega)
    have hkt : KeptF (fun q r => F q r ∨ q = gb) w w3 := by
      have a1 := H1.out.1.mono (G := fun q r => F q r ∨ q = gb) (fun _ _ _ h => h.elim)
      have a2 := a1.trans (H2.out.1.mono (fun _ _ _ h => h.elim))
      exact a2.trans (hk3.mono (fun q r _ h => h.elim (fun h => (hFA q r h).imp .inl id) (fun h => .inl (.inr h))))
    cases hG : Tr.insG wide key t with
    | true =>
      rw [hG] at hnd3 hg3
      simp only [if_true] at hnd3 hg3
      obtain ⟨g0, g1, g2, g3, g4, g5, g6⟩ := hg3.cells
      have hu : wide < ((Tr.grow wide key t).1.ks.length : Int) := of_decide_eq_true hG
      have hroot : Tr.insT wide key t = .mk [(Tr.grow wide key t).1.midOf] [(Tr.grow wide key t).1.leftOf, (Tr.grow wide key t).1.rightOf] := by unfold Tr.insT; exact if_pos hu
      have hnd3' := hnd3
      rw [hroot] at hnd3'
      obtain ⟨kidsR, FkR, FcR, kvR, cvR, _, hboxR, hkrR, _⟩ := hnd3'.parts
      obtain ⟨kaR, kcR, rfl⟩ := hkrR.shown
      simp only [List.length_map, List.length_cons, List.length_nil, Nat.zero_add] at hboxR
      obtain ⟨x1, x2, x3, x4⟩ := box2 hboxR
      have HX := Lib.hid (And.intro hnd3 (And.intro hF3' (And.intro hF3g (And.intro hkt hg3))))
      have HGG := Lib.hid hG
      clear hnd3 hnd3' hF3 hF3' hF3g hkt hg3 hk3 hst3 hFA hroot hu hG hboxR hkrR
      go_wp2_with fail
      obtain ⟨hnd3, hF3', hF3g, hkt, hg3⟩ := HX.out
      refine bodyPost_end (v := .tuple #[]) (by simp [results, Try.results75, go_sem]) rfl ?_
      have hk5 : KeptF (boxOf gb) w3 ((w3.setCell ⟨gb, 0, none⟩ (.pointer (some ⟨w1.heap.size + 1, 0, none⟩))).setCell ⟨gb, 3, none⟩ (.bool true)) :=
        (KeptF.setCell (F := boxOf gb) w3 gb 0 _ rfl).trans (KeptF.setCell _ _ _ _ (.inl rfl))
      refine ⟨F3, w1.heap.size + 1, rfl, ?_, hF3', hkt.trans (hk5.mono (fun q r _ h => .inl (.inr h)))⟩
      rw [HPB.out, HGG.out]
      simp only [Bool.false_eq_true, if_false, Bool.or_true]
      refine ⟨?_, hnd3.keep hk5 (fun q r h g => hF3g r (by have g' : q = gb := g; exact g' ▸ h)), hF3g⟩
      have e1 := set_blk (o := 0) (.pointer (some ⟨w1.heap.size + 1, 0, none⟩)) hg3
      have e2 := set_blk (o := 3) (.bool true) e1
      unfold GBox
      rw [e2]
      simp
    | false =>
      rw [hG] at hnd3 hg3 hst3
      simp only [Bool.false_eq_true, if_false] at hnd3 hg3 hst3
      obtain ⟨g0, g1, g2, g3, g4, g5, g6⟩ := hg3.cells
      obtain ⟨FX, hndX, hFX⟩ := hst3 _ _ _ _ _ _ _ rfl H2.out.2.2.1 (box1 H2.out.2.1).1
      obtain ⟨kidsR, FkR, FcR, kvR, cvR, _, hboxR, hkrR, _⟩ := hnd3.parts
      obtain ⟨kaR, kcR, rfl⟩ := hkrR.shown
      simp only [List.length_map, List.length_nil] at hboxR
      obtain ⟨x1, x2, x3, x4⟩ := box2 hboxR
      have hFX' : ∀ q r, FX q r → F q r ∨ w.heap.size ≤ q := fun q r h => (hFX q r h).elim (hFA q r) (fun h => by right; omega)
      have HX := Lib.hid (And.intro hndX (And.intro hFX' (And.intro hkt hg3)))
      have HGG := Lib.hid hG
      clear hnd3 hF3 hF3' hF3g hkt hg3 hk3 hst3 hFA hG hboxR hkrR hndX hFX hFX'
      go_wp2_with fail
      obtain ⟨hndX, hFX', hkt, hg3⟩ := HX.out
      refine bodyPost_end (v := .tuple #[]) (by simp [results, Try.results75, go_sem]) rfl ?_
      refine ⟨FX, b, rfl, ?_, hFX', hkt⟩
      rw [HPB.out, HGG.out]
      simp only [Bool.false_eq_true, if_false, Bool.or_false]
      exact ⟨hg3, hndX, fun o h => (hFX' gb o h).elim (HG.out.2.2 o) (fun h => by omega)⟩
end Go.Proofs.Ytgbgdanbdbojaaa
