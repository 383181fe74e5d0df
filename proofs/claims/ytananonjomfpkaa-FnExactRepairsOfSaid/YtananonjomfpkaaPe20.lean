/- What is left behind a deletion is hardly larger. Plain data. -/
import Derived.Test.YtananonjomfpkaaProg
import Derived.Test.YtananonjomfpkaaPe0
import Derived.Test.YtananonjomfpkaaKeys
import Derived.Test.YtananonjomfpkaaPe2
import Derived.Test.YtananonjomfpkaaPe3
import Derived.Test.YtananonjomfpkaaPe17
import Derived.Test.YtananonjomfpkaaPe6
import Derived.Test.YtananonjomfpkaaPe9
import Derived.Test.YtananonjomfpkaaInsBelow
import Derived.Deep.Cut
import Derived.Test.YtananonjomfpkaaPe5
import Derived.Test.YtananonjomfpkaaPe18
import Derived.Test.YtananonjomfpkaaPe19
import Derived.Test.YtananonjomfpkaaPe10
import Derived.Test.YtananonjomfpkaaPe15

/- A tree that is valid for some width has few keys. -/
namespace Go.Proofs.Ytananonjomfpkaa
open Go.RowKit

namespace Tr
theorem keys_length (k : List Int) (c : List Tr) : (Tr.mk k c).keys.length = lens (keyss c) + k.length := by
  have hk := length_keyss c
  simp only [keys, upto_length]
  rw [List.take_of_length_le (by omega), List.take_of_length_le (by omega)]
mutual
theorem small {wide : Int} (h2 : 2 ≤ wide) : ∀ (t : Tr) (d : Int), nodesB wide (wide / 2) d t = true → t.weight + 1 ≤ 2 * t.keys.length
  | .mk k c, d, h => by
    simp only [nodesB, Bool.and_eq_true, Bool.or_eq_true] at h
    have h1 : wide / 2 ≤ (k.length : Int) := by have := h.1.1; simp [inB] at this; omega
    rw [keys_length]
    simp only [weight]
    rcases h.2 with h3 | h3
    · have hc : c = [] := by simpa using h3
      subst hc
      simp [weights, keyss, lens]; omega
    · have := smalls h2 c _ h3.2
      omega
theorem smalls {wide : Int} (h2 : 2 ≤ wide) : ∀ (c : List Tr) (d : Int), nodesAllB wide d c = true → weights c ≤ 2 * lens (keyss c)
  | [], d, _ => by simp [weights]
  | t :: r, d, h => by
    simp only [nodesAllB, Bool.and_eq_true] at h
    have h3 := small h2 t _ h.1
    have h4 := smalls h2 r _ h.2
    simp only [weights, keyss, lens]; omega
end
theorem few : ∀ (l : List Int) (lo : Int), l.Pairwise (· < ·) → (∀ x, x ∈ l → lo ≤ x ∧ x ≤ 99) → (l.length : Int) ≤ max 0 (100 - lo)
  | [], lo, _, _ => by simp; omega
  | a :: r, lo, hp, hm => by
    rw [List.pairwise_cons] at hp
    have h1 := hm a (by simp)
    have h2 := few r (a + 1) hp.2 (fun x hx => ⟨by have := hp.1 x hx; omega, (hm x (by simp [hx])).2⟩)
    simp only [List.length_cons]
    omega
theorem sorted_mem {ks : List Int} (h : sortedB ks = true) : ∀ x, x ∈ ks → 0 ≤ x ∧ x ≤ 99 := fun x hx => by
  obtain ⟨i, hi, rfl⟩ := List.mem_iff_getElem.1 hx
  simp only [sortedB, List.all_eq_true, List.mem_range] at h
  have h1 := h i hi
  simp only [okAt, Bool.and_eq_true, inB, decide_eq_true_eq] at h1
  have h2 := h1.1
  simpa [List.getD_eq_getElem?_getD, hi] using h2
theorem valid_keys {wide : Int} {t : Tr} (h : validB wide t = true) : sortedB t.keys = true := by
  simp only [validB, Bool.and_eq_true] at h; exact h.2.2
theorem valid_well {wide : Int} {t : Tr} (h : validB wide t = true) : Well t := by
  have h' := h
  simp only [validB, Bool.and_eq_true] at h'
  exact ⟨⟨wide, 0, _, h'.2.1⟩, pairwise_of_sorted h'.2.2⟩
theorem valid_small {wide : Int} {t : Tr} (h : validB wide t = true) : t.weight ≤ 200 := by
  have hk := valid_keys h
  have hf := few t.keys 0 (pairwise_of_sorted hk) (sorted_mem hk)
  have hw := valid_wide h
  simp only [validB, Bool.and_eq_true] at h
  cases t with
  | mk k c =>
    rw [keys_length] at hf
    have h' := h.2.1
    simp only [nodesB, Bool.and_eq_true, Bool.or_eq_true] at h'
    simp only [weight]
    rcases h'.2 with h3 | h3
    · have hc : c = [] := by simpa using h3
      subst hc
      simp [weights] at hf ⊢; omega
    · have := smalls hw.1 c _ h3.2
      omega
end Tr
end Go.Proofs.Ytananonjomfpkaa

/- The contract of insert. -/
namespace Go.Proofs.Ytananonjomfpkaa
open Go.RowKit

-- 114
/-- A growing tree: its box, its node, apart. -/
structure Grow (w : World) (gb : Nat) (wide : Int) (s : Nat) (gr : Bool) (F : Cells) (b : Nat) (t : Tr) : Prop where
  box : GBox w gb (.pointer (some ⟨b, 0, none⟩)) wide s (.bool gr)
  node : Nd w F b t
  apart : ∀ o, ¬ F gb o

/-- What insert leaves. -/
def Inserted (w : World) (gb : Nat) (wide key : Int) (s : Nat) (gr : Bool) (F : Cells) (t : Tr) (e : Ending) (w' : World) : Prop :=
  ∃ (F' : Cells) (b' : Nat), e = .returned (.tuple #[]) ∧ Grow w' gb wide (if (t.path key).2 then s else s + Tr.insN wide key t) (if (t.path key).2 then gr else (gr || Tr.insG wide key t)) F' b' (if (t.path key).2 then t else Tr.insT wide key t) ∧
    (∀ x o, F' x o → F x o ∨ w.heap.size ≤ x) ∧ KeptF (fun x o => F x o ∨ x = gb) w w'

set_option maxRecDepth 100000 in
set_option maxHeartbeats 4000000 in
theorem insert_c (wide key : Int) (hwide : 2 ≤ wide ∧ wide ≤ 6) (w : World) (gb : Nat) (s : Nat) (gr : Bool) (F : Cells) (b : Nat) (t : Tr) (h : Grow w gb wide s gr F b t) (hwell : Tr.Well t) (hw : t.weight ≤ 90000) (hs9 : s ≤ 800000000) :
    Calls Try.prog 114 #[.pointer (some ⟨gb, 0, none⟩), .int .i64 key] w (Inserted w gb wide key s gr F t) := by
  obtain ⟨hbox, hnd, hgF⟩ := h
  have hglt := (Array.getElem?_eq_some_iff.1 hbox).1
  obtain ⟨g0, g1, g2, g3, g4, g5, g6⟩ := hbox.cells
  have hpath := pathTo_c hnd.nodeAt hwell (by omega) key w (Below.refl _ _) (Nat.le_refl _)
  have HP := Lib.hid hpath
  have HG := Lib.hid (And.intro hbox (And.intro hnd hgF))
  have HW := Lib.hid hwell
  clear hbox hnd hgF hpath hwell
  go_enter Try.func114, Try.ntmps114
  go_wp2_with fail
  refine HP.out.mono ?_
  rintro e w1 ⟨v, rfl, hown, hb1⟩
  obtain ⟨va, vc, rfl⟩ := IntsOwn.shown hown
  have hs1 := hb1.size
  have hk1 : KeptF (fun _ _ => False) w w1 := KeptF.of_below hb1 (Nat.le_refl _)
  have hg1 : GBox w1 gb (.pointer (some ⟨b, 0, none⟩)) wide s (.bool gr) := hk1.block' HG.out.1 (fun _ h => h)
  clear g0 g1 g2 g3 g4 g5 g6 hown hb1
  obtain ⟨g0, g1, g2, g3, g4, g5, g6⟩ := hg1.cells
  have hnd1 := HG.out.2.1.keep hk1 (fun _ _ _ h => h)
  have H1 := Lib.hid (And.intro hk1 (And.intro hg1 hnd1))
  clear hk1 hg1 hnd1
  cases hp : (t.path key).2 with
  | true =>
    have HPB := Lib.hid hp
    clear hp
    go_wp2_with fail
    refine bodyPost_ret (v := .tuple #[]) (by simp [results, Try.results114, go_sem]) rfl ?_
    refine ⟨F, b, rfl, ?_, fun x o h => .inl h, H1.out.1.mono (fun _ _ _ h => h.elim)⟩
    rw [HPB.out]
    exact ⟨H1.out.2.1, H1.out.2.2, HG.out.2.2⟩
  | false =>
    have HPB := Lib.hid hp
    obtain ⟨W2, hW2⟩ : ∃ W2, W2 = (w1.alloc (.cells #[.pointer (some ⟨b, 0, none⟩)] 70)).alloc (.cells #[.slice none 0 0, .slice (some ⟨w1.heap.size, 0, none⟩) 1 1] 99) := ⟨_, rfl⟩
    have hs2 : W2.heap.size = w1.heap.size + 2 := by rw [hW2]; simp
    have hb2 : Below w1.heap.size w1 W2 := by rw [hW2]; exact ((Below.refl _ _).alloc (Nat.le_refl _) _).alloc (by simp) _
    have kr : W2.heap[w1.heap.size]? = some (.cells #[.pointer (some ⟨b, 0, none⟩)] 70 (0, 0)) := by rw [hW2, old_blk _ _ _ (by simp), new_blk]
    have ka : W2.heap[w1.heap.size + 1]? = some (.cells #[.slice none 0 0, .slice (some ⟨w1.heap.size, 0, none⟩) 1 1] 99 (0, 0)) := by
      rw [hW2, show w1.heap.size + 1 = (w1.alloc (.cells #[.pointer (some ⟨b, 0, none⟩)] 70)).heap.size by simp, new_blk]
    have hk2 : KeptF (fun _ _ => False) w1 W2 := KeptF.of_below hb2 (Nat.le_refl _)
    have hFlt := HG.out.2.1.lt
    have hnda : Nd W2 (allOf (w1.heap.size + 1) (fun _ _ => False) (fun q _ => q = w1.heap.size) [⟨b, F, t⟩]) (w1.heap.size + 1) (.mk [] ([(⟨b, F, t⟩ : KidD)].map KidD.t)) := by
      refine Nd.intro ka (RowF.nil W2) ?_ (fun y hy => ?_) ⟨fun _ _ _ h => h, fun q r h g => by have : q = w1.heap.size + 1 := h; omega, fun y hy q r h g => ?_, fun _ _ h => h.elim, fun _ _ _ _ h => h.elim, fun y hy q r h g => ?_, List.pairwise_singleton _ _⟩
      · have hc := box1 kr
        exact RowF.intro (xs := [Value.pointer (some ⟨b, 0, none⟩)]) (b := w1.heap.size) (o := 0) (cap := 1) (fun x q h => by omega) (by simp) (by unfold maxLen; omega) (fun i hi => by
          have e : i = 0 := by omega
          subst e
          exact ⟨rfl, by rw [Nat.zero_add, hc.1]; rfl, hc.2⟩) (fun i hi => by
          have e : i = 0 := by simpa using hi
          subst e
          exact hc.1)
      · simp at hy; subst hy; exact H1.out.2.2.keep hk2 (fun _ _ _ h => h)
      · simp at hy; subst hy; have := hFlt _ _ g; have : q = w1.heap.size + 1 := h; omega
      · simp at hy; subst hy; have := hFlt _ _ g; omega
    have hg2 : GBox W2 gb (.pointer (some ⟨b, 0, none⟩)) wide s (.bool gr) := hk2.block' H1.out.2.1 (fun _ h => h)
    have hgrow : Tr.grow wide key (.mk [] ([(⟨b, F, t⟩ : KidD)].map KidD.t)) = (if Tr.insG wide key t then (Tr.insT wide key t, Tr.insN wide key t) else (.mk [] [Tr.insT wide key t], Tr.insN wide key t)) := by
      show Tr.grow wide key (.mk [] [t]) = _
      rw [Tr.grow_inner (show place key [] < [t].length by simp [place])]
      exact Tr.insT_step wide key t
    have hcall := insertBelow_c wide key hwide 90010 (.mk [] ([(⟨b, F, t⟩ : KidD)].map KidD.t)) (by simp [Tr.weight, Tr.weights]; omega) (by omega)
      ⟨List.Pairwise.nil, .inr (by simp), fun i hi => by simp at hi; subst hi; exact HW.out⟩ W2 _ (w1.heap.size + 1) gb _ _ s hnda hg2 (fun o h => by
        rcases h with h | h | h | ⟨y, hy, h⟩
        · omega
        · exact h
        · have : gb = w1.heap.size := h; omega
        · simp at hy; subst hy; exact HG.out.2.2 o h) (by simp [Tr.weight, Tr.weights]; omega)
    rw [hgrow] at hcall
    have HC := Lib.hid hcall
    have HW2 := Lib.hid hW2
    have H2 := Lib.hid (And.intro hk2 (And.intro kr (And.intro ka hs2)))
    clear hcall hgrow hW2 hk2 kr ka hs2 hb2 hnda hg2 hp
    go_upto_region 3 with (fail)
    rw [← HW2.out]
    clear g0 g1 g2 g3 g4 g5 g6
    go_wp2_with fail
    refine HC.out.mono ?_
    rintro e w3 ⟨F3, rfl, hnd3, hF3, hk3, hg3, hst3⟩
    have hs3 := hk3.size
    have hs2 := H2.out.2.2.2
    have hFA : ∀ q r, allOf (w1.heap.size + 1) (fun _ _ => False) (fun q _ => q = w1.heap.size) [⟨b, F, t⟩] q r → F q r ∨ w.heap.size ≤ q := by
      rintro q r (h | h | h | ⟨y, hy, h⟩)
      · right; omega
      · exact h.elim
      · right; have : q = w1.heap.size := h; omega
      · simp at hy; subst hy; exact .inl h
    have hF3' : ∀ q r, F3 q r → F q r ∨ w.heap.size ≤ q := fun q r h => (hF3 q r h).elim (hFA q r) (fun h => by right; omega)
    have hF3g : ∀ o, ¬ F3 gb o := fun o h => (hF3' gb o h).elim (HG.out.2.2 o) (fun h => by omega)
    have hkt : KeptF (fun q r => F q r ∨ q = gb) w w3 := by
      have a1 := H1.out.1.mono (G := fun q r => F q r ∨ q = gb) (fun _ _ _ h => h.elim)
      have a2 := a1.trans (H2.out.1.mono (fun _ _ _ h => h.elim))
      exact a2.trans (hk3.mono (fun q r _ h => h.elim (fun h => (hFA q r h).imp .inl id) (fun h => .inl (.inr h))))
    cases hG : Tr.insG wide key t with
    | true =>
      rw [hG] at hnd3 hg3
      simp only [if_true] at hnd3 hg3
      obtain ⟨g0, g1, g2, g3, g4, g5, g6⟩ := hg3.cells
      have hu : wide < ((Tr.grow wide key t).1.ks.length : Int) := of_decide_eq_true hG
      have hroot : Tr.insT wide key t = .mk [(Tr.grow wide key t).1.midOf] [(Tr.grow wide key t).1.leftOf, (Tr.grow wide key t).1.rightOf] := by unfold Tr.insT; exact if_pos hu
      have hnd3' := hnd3
      rw [hroot] at hnd3'
      obtain ⟨kidsR, FkR, FcR, kvR, cvR, _, hboxR, hkrR, _⟩ := hnd3'.parts
      obtain ⟨kaR, kcR, rfl⟩ := hkrR.shown
      simp only [List.length_map, List.length_cons, List.length_nil, Nat.zero_add] at hboxR
      obtain ⟨x1, x2, x3, x4⟩ := box2 hboxR
      have HX := Lib.hid (And.intro hnd3 (And.intro hF3' (And.intro hF3g (And.intro hkt hg3))))
      have HGG := Lib.hid hG
      clear hnd3 hnd3' hF3 hF3' hF3g hkt hg3 hk3 hst3 hFA hroot hu hG hboxR hkrR
      go_wp2_with fail
      obtain ⟨hnd3, hF3', hF3g, hkt, hg3⟩ := HX.out
      refine bodyPost_end (v := .tuple #[]) (by simp [results, Try.results114, go_sem]) rfl ?_
      have hk5 : KeptF (boxOf gb) w3 ((w3.setCell ⟨gb, 0, none⟩ (.pointer (some ⟨w1.heap.size + 1, 0, none⟩))).setCell ⟨gb, 3, none⟩ (.bool true)) :=
        (KeptF.setCell (F := boxOf gb) w3 gb 0 _ rfl).trans (KeptF.setCell _ _ _ _ (.inl rfl))
      refine ⟨F3, w1.heap.size + 1, rfl, ?_, hF3', hkt.trans (hk5.mono (fun q r _ h => .inl (.inr h)))⟩
      rw [HPB.out, HGG.out]
      simp only [Bool.false_eq_true, if_false, Bool.or_true]
      refine ⟨?_, hnd3.keep hk5 (fun q r h g => hF3g r (by have g' : q = gb := g; exact g' ▸ h)), hF3g⟩
      have e1 := set_blk (o := 0) (.pointer (some ⟨w1.heap.size + 1, 0, none⟩)) hg3
      have e2 := set_blk (o := 3) (.bool true) e1
      unfold GBox
      rw [e2]
      simp
    | false =>
      rw [hG] at hnd3 hg3 hst3
      simp only [Bool.false_eq_true, if_false] at hnd3 hg3 hst3
      obtain ⟨g0, g1, g2, g3, g4, g5, g6⟩ := hg3.cells
      obtain ⟨FX, hndX, hFX⟩ := hst3 _ _ _ _ _ _ _ rfl H2.out.2.2.1 (box1 H2.out.2.1).1
      obtain ⟨kidsR, FkR, FcR, kvR, cvR, _, hboxR, hkrR, _⟩ := hnd3.parts
      obtain ⟨kaR, kcR, rfl⟩ := hkrR.shown
      simp only [List.length_map, List.length_nil] at hboxR
      obtain ⟨x1, x2, x3, x4⟩ := box2 hboxR
      have hFX' : ∀ q r, FX q r → F q r ∨ w.heap.size ≤ q := fun q r h => (hFX q r h).elim (hFA q r) (fun h => by right; omega)
      have HX := Lib.hid (And.intro hndX (And.intro hFX' (And.intro hkt hg3)))
      have HGG := Lib.hid hG
      clear hnd3 hF3 hF3' hF3g hkt hg3 hk3 hst3 hFA hG hboxR hkrR hndX hFX hFX'
      go_wp2_with fail
      obtain ⟨hndX, hFX', hkt, hg3⟩ := HX.out
      refine bodyPost_end (v := .tuple #[]) (by simp [results, Try.results114, go_sem]) rfl ?_
      refine ⟨FX, b, rfl, ?_, hFX', hkt⟩
      rw [HPB.out, HGG.out]
      simp only [Bool.false_eq_true, if_false, Bool.or_false]
      exact ⟨hg3, hndX, fun o h => (hFX' gb o h).elim (HG.out.2.2 o) (fun h => by omega)⟩

end Go.Proofs.Ytananonjomfpkaa

/- The contract of grownBy. -/
namespace Go.Proofs.Ytananonjomfpkaa
open Go.RowKit

/-- Whether a key can be put into a tree. -/
def Tr.askedB (wide key : Int) (t : Tr) : Bool := Tr.validB wide t && (inB key 0 99 && !(t.pathB key).2)

theorem Tr.valid_some {wide : Int} {t : Tr} (h : Tr.validB wide t = true) : t.someB = true := by
  have hw := Tr.valid_wide h
  obtain ⟨q, hq⟩ : ∃ q : Nat, wide = (q : Int) := ⟨wide.toNat, by omega⟩
  subst hq
  exact (someB_of t).1 q (by omega) (by omega) h

theorem Tr.asked_path {wide key : Int} {t : Tr} (h : Tr.askedB wide key t = true) : Tr.validB wide t = true ∧ (t.path key).2 = false := by
  simp only [Tr.askedB, Bool.and_eq_true, Bool.not_eq_true'] at h
  refine ⟨h.1, ?_⟩
  have := (someB_path key t).1 (Tr.valid_some h.1)
  rw [← this]; exact h.2.2

-- 89
/-- What grownBy leaves. -/
def GrownOf (w : World) (wide key : Int) (t : Tr) (e : Ending) (w' : World) : Prop :=
  (Tr.askedB wide key t = false ∧ e = .returned (.tuple #[.pointer none, .bool false]) ∧ Below w.heap.size w w') ∨
  (Tr.askedB wide key t = true ∧ ∃ (gb b : Nat) (F : Cells), e = .returned (.tuple #[.pointer (some ⟨gb, 0, none⟩), .bool true]) ∧ Grow w' gb wide (Tr.insN wide key t) (Tr.insG wide key t) F b (Tr.insT wide key t) ∧
    (∀ x o, F x o → w.heap.size ≤ x) ∧ Below w.heap.size w w')

set_option maxRecDepth 100000 in
set_option maxHeartbeats 4000000 in
theorem grownBy_c {w : World} {B : Nat} {kv cv : Value} {t : Tr} (ht : TreeIn w B kv cv t) (hw : t.weight ≤ 1048576) (wide key : Int) (hn1 : -9223372036854775808 ≤ wide) (hn2 : wide ≤ 9223372036854775807) (w' : World) (hbw : Below B w w') (hB : B ≤ w'.heap.size) :
    Calls Try.prog 89 #[.agg #[kv, cv], .int .i64 wide, .int .i64 key] w' (GrownOf w' wide key t) := by
  obtain ⟨a5, n5, m5, a6, n6, m6, rfl, rfl⟩ := ht.slices
  obtain ⟨W1, hW1⟩ : ∃ W1, W1 = w'.alloc (.cells #[.slice a5 n5 m5, .slice a6 n6 m6] 26) := ⟨_, rfl⟩
  have hs1 : W1.heap.size = w'.heap.size + 1 := by rw [hW1]; simp
  have hb1 : Below w'.heap.size w' W1 := by rw [hW1]; exact (Below.refl _ _).alloc (Nat.le_refl _) _
  have k0 : W1.heap[w'.heap.size]? = some (.cells #[.slice a5 n5 m5, .slice a6 n6 m6] 26 (0, 0)) := by rw [hW1, new_blk]
  obtain ⟨x1, x2, x3, x4⟩ := box2 k0
  have HT := Lib.hid ht
  have HBW := Lib.hid hbw
  have HW1 := Lib.hid hW1
  have H1 := Lib.hid (And.intro hb1 k0)
  clear ht hbw hW1 hb1 k0
  go_enter Try.func89, Try.ntmps89
  go_wp2_with fail
  rw [← HW1.out]
  refine (impl_valid _ _ _ _ _ wide HT.out hw hn1 hn2 W1 (HBW.out.trans (H1.out.1.mono hB)) (by omega)).mono ?_
  rintro e w2 ⟨rfl, hb2⟩
  have hs2 := hb2.size
  clear x1 x2 x3 x4
  have j0 := (hb2.block _ (by omega)).trans H1.out.2
  obtain ⟨x1, x2, x3, x4⟩ := box2 j0
  have hb2' := H1.out.1.trans (hb2.mono (by omega))
  have H2 := Lib.hid (And.intro hb2' j0)
  have HB2 := Lib.hid (HBW.out.trans (hb2'.mono hB))
  clear hb2 hb2' j0
  cases hv : Tr.validB wide t with
  | false =>
    have HA := Lib.hid (show Tr.askedB wide key t = false by simp [Tr.askedB, hv])
    clear hv
    go_wp2_with fail
    refine bodyPost_ret (v := .tuple #[.pointer none, .bool false]) (by simp [results, Try.results89, go_sem]) rfl (.inl ⟨HA.out, rfl, H2.out.1⟩)
  | true =>
  have HV := Lib.hid hv
  clear hv
  go_wp2_with fail
  refine (isKey_c key w2).mono ?_
  rintro e w3 ⟨rfl, rfl⟩
  cases hk : inB key 0 99 with
  | false =>
    have HA := Lib.hid (show Tr.askedB wide key t = false by simp [Tr.askedB, hk])
    clear hk
    go_wp2_with fail
    refine bodyPost_ret (v := .tuple #[.pointer none, .bool false]) (by simp [results, Try.results89, go_sem]) rfl (.inl ⟨HA.out, rfl, H2.out.1⟩)
  | true =>
  have HK := Lib.hid hk
  clear hk
  go_wp2_with fail
  refine (impl_has HT.out hw key _ HB2.out (by omega)).mono ?_
  rintro e w4 ⟨rfl, hb4⟩
  have hs4 := hb4.size
  clear x1 x2 x3 x4
  have j0 := (hb4.block _ (by omega)).trans H2.out.2
  obtain ⟨x1, x2, x3, x4⟩ := box2 j0
  have hb4' := H2.out.1.trans (hb4.mono (by omega))
  have H4 := Lib.hid (And.intro hb4' j0)
  have HB4 := Lib.hid (HBW.out.trans (hb4'.mono hB))
  clear hb4 hb4' j0
  cases hp : (t.pathB key).2 with
  | true =>
    have HA := Lib.hid (show Tr.askedB wide key t = false by simp [Tr.askedB, hp])
    clear hp
    go_wp2_with fail
    refine bodyPost_ret (v := .tuple #[.pointer none, .bool false]) (by simp [results, Try.results89, go_sem]) rfl (.inl ⟨HA.out, rfl, H4.out.1⟩)
  | false =>
  have hask : Tr.askedB wide key t = true := by simp [Tr.askedB, HV.out, HK.out, hp]
  have hpath := (Tr.asked_path hask).2
  have hsmall := Tr.valid_small HV.out
  have HASK := Lib.hid (And.intro hask hpath)
  clear hp hask hpath
  go_wp2_with fail
  refine (plant_nd HT.out hw w4 HB4.out (by omega)).mono ?_
  rintro e w5 ⟨b, rfl, hnd, hb5⟩
  have hs5 := hb5.size
  obtain ⟨W6, hW6⟩ : ∃ W6, W6 = w5.alloc (.cells #[.pointer (some ⟨b, 0, none⟩), .int .i64 wide, .int .i64 0, .bool false] 119) := ⟨_, rfl⟩
  have hs6 : W6.heap.size = w5.heap.size + 1 := by rw [hW6]; simp
  have hb6 : Below w5.heap.size w5 W6 := by rw [hW6]; exact (Below.refl _ _).alloc (Nat.le_refl _) _
  have hk6 : KeptF (fun _ _ => False) w5 W6 := KeptF.of_below hb6 (Nat.le_refl _)
  have hg6 : GBox W6 w5.heap.size (.pointer (some ⟨b, 0, none⟩)) wide 0 (.bool false) := by unfold GBox; rw [hW6, new_blk]; rfl
  have hgrow : Grow W6 w5.heap.size wide 0 false (span w4.heap.size w5.heap.size) b t := ⟨hg6, hnd.keep hk6 (fun _ _ _ h => h), fun o h => by have := h.2; omega⟩
  have hcall := insert_c wide key (Tr.valid_wide HV.out) W6 w5.heap.size 0 false _ b t hgrow (Tr.valid_well HV.out) (by omega) (by omega)
  have HC := Lib.hid hcall
  have HW6 := Lib.hid hW6
  have H6 := Lib.hid (H4.out.1.trans ((hb5.mono (by omega)).trans (hb6.mono (by omega))))
  clear hcall hgrow hg6 hk6 hb6 hW6 hnd hb5 x1 x2 x3 x4
  go_wp2_with fail
  rw [← HW6.out]
  refine HC.out.mono ?_
  rintro e w7 ⟨F', b', rfl, hgr, hF', hk7⟩
  rw [HASK.out.2] at hgr
  simp only [Bool.false_eq_true, if_false, Bool.false_or, Nat.zero_add] at hgr
  have H7 := Lib.hid (And.intro hgr (And.intro hF' hk7))
  clear hgr hF' hk7
  go_wp2_with fail
  refine bodyPost_ret (v := .tuple #[.pointer (some ⟨w5.heap.size, 0, none⟩), .bool true]) (by simp [results, Try.results89, go_sem]) rfl (.inr ⟨HASK.out.1, _, b', F', rfl, H7.out.1, fun x o h => ?_, ?_⟩)
  · rcases H7.out.2.1 x o h with h | h
    · have := h.1; omega
    · omega
  · exact H6.out.trans (H7.out.2.2.below (by omega) (fun x o h => by
      rcases h with h | h
      · have := h.1; omega
      · omega))

end Go.Proofs.Ytananonjomfpkaa

/- The contract of shrunkBy. -/
namespace Go.Proofs.Ytananonjomfpkaa
open Go.RowKit

/-- Whether a key can be deleted from a tree. -/
def Tr.lacksB (wide key : Int) (t : Tr) : Bool := Tr.validB wide t && (t.path key).2

/-- What shrunkBy leaves. -/
def ShrunkOf (w : World) (wide key : Int) (t : Tr) (e : Ending) (w' : World) : Prop :=
  (Tr.lacksB wide key t = false ∧ e = .returned (.tuple #[.pointer none, .bool false]) ∧ Below w.heap.size w w') ∨
  (Tr.lacksB wide key t = true ∧ ∃ (gb b : Nat) (F : Cells), e = .returned (.tuple #[.pointer (some ⟨gb, 0, none⟩), .bool true]) ∧
    Shrink w' gb wide (Tr.del (wide / 2) (t.weight + 1) key t).b (Tr.del (wide / 2) (t.weight + 1) key t).j (Tr.delShrinks wide key t) F b (Tr.delT wide key t) ∧
    (∀ x o, F x o → w.heap.size ≤ x) ∧ w.heap.size ≤ gb ∧ Below w.heap.size w w')

set_option maxRecDepth 100000 in
set_option maxHeartbeats 4000000 in
theorem shrunkBy_c {w : World} {B : Nat} {kv cv : Value} {t : Tr} (ht : TreeIn w B kv cv t) (hw : t.weight ≤ 1048576) (wide key : Int) (hn1 : -9223372036854775808 ≤ wide) (hn2 : wide ≤ 9223372036854775807) (w' : World) (hbw : Below B w w') (hB : B ≤ w'.heap.size) :
    Calls Try.prog 55 #[.agg #[kv, cv], .int .i64 wide, .int .i64 key] w' (ShrunkOf w' wide key t) := by
  obtain ⟨a5, n5, m5, a6, n6, m6, rfl, rfl⟩ := ht.slices
  obtain ⟨W1, hW1⟩ : ∃ W1, W1 = w'.alloc (.cells #[.slice a5 n5 m5, .slice a6 n6 m6] 26) := ⟨_, rfl⟩
  have hs1 : W1.heap.size = w'.heap.size + 1 := by rw [hW1]; simp
  have hb1 : Below w'.heap.size w' W1 := by rw [hW1]; exact (Below.refl _ _).alloc (Nat.le_refl _) _
  have k0 : W1.heap[w'.heap.size]? = some (.cells #[.slice a5 n5 m5, .slice a6 n6 m6] 26 (0, 0)) := by rw [hW1, new_blk]
  obtain ⟨x1, x2, x3, x4⟩ := box2 k0
  have HT := Lib.hid ht
  have HBW := Lib.hid hbw
  have HW1 := Lib.hid hW1
  have H1 := Lib.hid (And.intro hb1 k0)
  clear ht hbw hW1 hb1 k0
  go_enter Try.func55, Try.ntmps55
  go_wp2_with fail
  rw [← HW1.out]
  refine (impl_valid _ _ _ _ _ wide HT.out hw hn1 hn2 W1 (HBW.out.trans (H1.out.1.mono hB)) (by omega)).mono ?_
  rintro e w2 ⟨rfl, hb2⟩
  have hs2 := hb2.size
  clear x1 x2 x3 x4
  have j0 := (hb2.block _ (by omega)).trans H1.out.2
  obtain ⟨x1, x2, x3, x4⟩ := box2 j0
  have hb2' := H1.out.1.trans (hb2.mono (by omega))
  have H2 := Lib.hid (And.intro hb2' j0)
  have HB2 := Lib.hid (HBW.out.trans (hb2'.mono hB))
  clear hb2 hb2' j0
  cases hv : Tr.validB wide t with
  | false =>
    have HA := Lib.hid (show Tr.lacksB wide key t = false by simp [Tr.lacksB, hv])
    clear hv
    go_wp2_with fail
    refine bodyPost_ret (v := .tuple #[.pointer none, .bool false]) (by simp [results, Try.results55, go_sem]) rfl (.inl ⟨HA.out, rfl, H2.out.1⟩)
  | true =>
  have hsmall := Tr.valid_small hv
  have HV := Lib.hid hv
  clear hv
  go_wp2_with fail
  refine (plant_nd HT.out hw w2 HB2.out (by omega)).mono ?_
  rintro e w5 ⟨b, rfl, hnd, hb5⟩
  have hs5 := hb5.size
  obtain ⟨W6, hW6⟩ : ∃ W6, W6 = w5.alloc (.cells #[.pointer (some ⟨b, 0, none⟩), .int .i64 0, .int .i64 0, .bool false, .int .i64 wide] 72) := ⟨_, rfl⟩
  have hs6 : W6.heap.size = w5.heap.size + 1 := by rw [hW6]; simp
  have hb6 : Below w5.heap.size w5 W6 := by rw [hW6]; exact (Below.refl _ _).alloc (Nat.le_refl _) _
  have hk6 : KeptF (fun _ _ => False) w5 W6 := KeptF.of_below hb6 (Nat.le_refl _)
  have hg6 : SBox W6 w5.heap.size (.pointer (some ⟨b, 0, none⟩)) 0 0 (.bool false) wide := by unfold SBox; rw [hW6, new_blk]; rfl
  have hsh : Shrink W6 w5.heap.size wide 0 0 false (span w2.heap.size w5.heap.size) b t := ⟨hg6, hnd.keep hk6 (fun _ _ _ h => h), fun o h => by have := h.2; omega⟩
  have HS := Lib.hid hsh
  have HW6 := Lib.hid hW6
  have H6 := Lib.hid (H2.out.1.trans ((hb5.mono (by omega)).trans (hb6.mono (by omega))))
  clear hsh hg6 hk6 hb6 hW6 hnd hb5 x1 x2 x3 x4
  cases hp : (t.path key).2 with
  | false =>
    have hcall := remove_none_c wide key W6 w5.heap.size 0 0 false _ b t HS.out (Tr.valid_well HV.out) (by omega) hp
    have HC := Lib.hid hcall
    have HA := Lib.hid (show Tr.lacksB wide key t = false by simp [Tr.lacksB, hp])
    clear hcall hp
    go_wp2_with fail
    rw [← HW6.out]
    refine HC.out.mono ?_
    rintro e w7 ⟨F', b', rfl, hgr, hF', hk7⟩
    have H7 := Lib.hid (And.intro hgr (And.intro hF' hk7))
    clear hgr hF' hk7
    go_wp2_with fail
    refine bodyPost_ret (v := .tuple #[.pointer none, .bool false]) (by simp [results, Try.results55, go_sem]) rfl (.inl ⟨HA.out, rfl, ?_⟩)
    exact H6.out.trans (H7.out.2.2.below (by omega) (fun x o h => by
      rcases h with h | h
      · have := h.1; omega
      · omega))
  | true =>
    have hcall := remove_c wide key (Tr.valid_wide HV.out) W6 w5.heap.size 0 0 false _ b t HS.out (Tr.Lacks.of_tops (Tr.valid_well HV.out) (Tr.Tops.of_valid HV.out (Tr.valid_wide HV.out).1) hp) (by omega) (by omega) (by omega)
    have HC := Lib.hid hcall
    have HA := Lib.hid (show Tr.lacksB wide key t = true by simp [Tr.lacksB, hp, HV.out])
    clear hcall hp
    go_wp2_with fail
    rw [← HW6.out]
    refine HC.out.mono ?_
    rintro e w7 ⟨F', b', rfl, hgr, hF', hk7⟩
    simp only [Bool.false_or, Nat.zero_add] at hgr
    have H7 := Lib.hid (And.intro hgr (And.intro hF' hk7))
    clear hgr hF' hk7
    go_wp2_with fail
    refine bodyPost_ret (v := .tuple #[.pointer (some ⟨w5.heap.size, 0, none⟩), .bool true]) (by simp [results, Try.results55, go_sem]) rfl (.inr ⟨HA.out, _, b', F', rfl, H7.out.1, fun x o h => ?_, by omega, ?_⟩)
    · rcases H7.out.2.1 x o h with h | h
      · have := h.1; omega
      · omega
    · exact H6.out.trans (H7.out.2.2.below (by omega) (fun x o h => by
        rcases h with h | h
        · have := h.1; omega
        · omega))
end Go.Proofs.Ytananonjomfpkaa

/- What is left behind a deletion is hardly larger. Plain data. -/
namespace Go.Proofs.Ytananonjomfpkaa
open Go.RowKit

namespace Tr
theorem kidAt_nil (m : Nat) : kidAt [] m = .mk [] [] := by simp [kidAt]
theorem kidAt_zero (t : Tr) (r : List Tr) : kidAt (t :: r) 0 = t := by simp [kidAt]
theorem kidAt_succ (t : Tr) (r : List Tr) (m : Nat) : kidAt (t :: r) (m + 1) = kidAt r m := by simp [kidAt]
theorem weight_nil : (Tr.mk [] []).weight = 0 := by simp [weight, weights]

theorem take_kid (c : List Tr) (m : Nat) : weights (c.take m) + (kidAt c m).weight + weights (c.drop (m + 1)) ≤ weights c := by
  induction c generalizing m with
  | nil => rw [kidAt_nil, weight_nil]; simp [weights]
  | cons t r ih =>
    cases m with
    | zero => rw [kidAt_zero]; simp [weights]
    | succ m => rw [kidAt_succ]; have := ih m; simp only [List.take_succ_cons, List.drop_succ_cons, weights]; omega
theorem take_two (c : List Tr) (i : Nat) : weights (c.take i) + (kidAt c i).weight + (kidAt c (i + 1)).weight + weights (c.drop (i + 2)) ≤ weights c := by
  induction c generalizing i with
  | nil => rw [kidAt_nil, kidAt_nil, weight_nil]; simp [weights]
  | cons t r ih =>
    cases i with
    | zero =>
      rw [kidAt_zero, kidAt_succ]
      have := take_kid r 0
      simp only [List.take_zero, List.drop_succ_cons, weights, Nat.zero_add] at this ⊢
      omega
    | succ i => rw [kidAt_succ, kidAt_succ]; have := ih i; simp only [List.take_succ_cons, List.drop_succ_cons, weights]; omega

theorem setTwo_weights (c : List Tr) (i : Nat) (x y : Tr) : weights (setTwo c i x y) = weights (c.take i) + (1 + x.weight + (1 + y.weight + weights (c.drop (i + 2)))) := by
  unfold setTwo; rw [weights_append, weights, weights]
theorem setOne_weights (c : List Tr) (i : Nat) (x : Tr) : weights (setOne c i x) = weights (c.take i) + (1 + x.weight + weights (c.drop (i + 2))) := by
  unfold setOne; rw [weights_append, weights]
theorem weight_eq (t : Tr) : t.weight = t.ks.length + weights t.cs := by cases t; rfl

theorem ahead_weight (k : List Int) (c : List Tr) (i : Nat) : (ahead k c i).weight ≤ (Tr.mk k c).weight + 4 := by
  unfold ahead
  dsimp only
  simp only [weight, setTwo_weights, List.length_set]
  have h := take_two c i
  rw [weight_eq (kidAt c i), weight_eq (kidAt c (i + 1))] at h
  generalize kidAt c i = x at h ⊢
  generalize kidAt c (i + 1) = y at h ⊢
  have h2 := take_kid x.cs (x.ks.length - 1 + 1)
  simp only [List.length_take, List.length_cons]
  split
  · omega
  · simp only [weights]; omega
theorem behind_weight (k : List Int) (c : List Tr) (i : Nat) : (behind k c i).weight ≤ (Tr.mk k c).weight + 4 := by
  unfold behind
  dsimp only
  simp only [weight, setTwo_weights, List.length_set]
  have h := take_two c i
  rw [weight_eq (kidAt c i), weight_eq (kidAt c (i + 1))] at h
  generalize kidAt c i = x at h ⊢
  generalize kidAt c (i + 1) = y at h ⊢
  have h2 := take_kid y.cs 0
  simp only [List.take_zero, weights, Nat.zero_add] at h2
  simp only [List.length_append, List.length_drop, List.length_cons, List.length_nil]
  split
  · omega
  · rw [weights_append]; simp only [weights]; omega
theorem joined_weight (k : List Int) (c : List Tr) (i : Nat) : (joined k c i).weight ≤ (Tr.mk k c).weight + 4 := by
  unfold joined
  dsimp only
  simp only [weight, setOne_weights]
  have h := take_two c i
  rw [weight_eq (kidAt c i), weight_eq (kidAt c (i + 1))] at h
  generalize kidAt c i = x at h ⊢
  generalize kidAt c (i + 1) = y at h ⊢
  have h3 : (takeAt k i).length ≤ k.length := by simp [takeAt]; omega
  rw [weights_append]
  simp only [List.length_append, List.length_cons]
  omega
theorem repair_weight (half : Int) (k : List Int) (c : List Tr) (i b j : Nat) : (repair half k c i b j).t.weight ≤ (Tr.mk k c).weight + 4 := by
  unfold repair
  split
  · show (Tr.mk k c).weight ≤ _; omega
  · split
    · exact ahead_weight _ _ _
    · exact behind_weight _ _ _
    · exact joined_weight _ _ _
    · exact joined_weight _ _ _
theorem setKid_weights (c : List Tr) (i : Nat) (u : Tr) (n : Nat) (h : u.weight ≤ (kidAt c i).weight + n) : weights (setKid c i u) ≤ weights c + n + 1 := by
  unfold setKid
  rw [weights_append, weights]
  have := take_kid c i
  omega
theorem del_weight (half : Int) : ∀ (n : Nat) (key : Int) (t : Tr), (del half n key t).t.weight ≤ t.weight + 5 * n := by
  intro n
  induction n with
  | zero => rintro key ⟨k, c⟩; simp [del]
  | succ n ih =>
    rintro key ⟨k, c⟩
    by_cases h0 : c.length = 0
    · rw [del_leaf h0]
      have h3 : (takeAt k (place key k)).length ≤ k.length := by simp [takeAt]; omega
      simp only [weight, weights]
      omega
    · by_cases ho : ownKey key k
      · rw [del_hit h0 ho]
        have h1 := setKid_weights c (place key k) _ _ (ih (kidAt c (place key k)).greatest (kidAt c (place key k)))
        refine Nat.le_trans (repair_weight _ _ _ _ _ _) ?_
        simp only [weight, List.length_set]
        omega
      · rw [del_miss h0 ho]
        have h1 := setKid_weights c (place key k) _ _ (ih key (kidAt c (place key k)))
        refine Nat.le_trans (repair_weight _ _ _ _ _ _) ?_
        simp only [weight]
        omega
theorem kidAt_weight (c : List Tr) (m : Nat) : (kidAt c m).weight ≤ weights c := by have := take_kid c m; omega
theorem delT_weight (wide key : Int) (t : Tr) : (delT wide key t).weight ≤ 6 * t.weight + 5 := by
  have h := del_weight (wide / 2) (t.weight + 1) key t
  have h2 := weight_eq (del (wide / 2) (t.weight + 1) key t).t
  have h3 := kidAt_weight (del (wide / 2) (t.weight + 1) key t).t.cs 0
  unfold delT
  dsimp only
  split <;> omega
end Tr
end Go.Proofs.Ytananonjomfpkaa
