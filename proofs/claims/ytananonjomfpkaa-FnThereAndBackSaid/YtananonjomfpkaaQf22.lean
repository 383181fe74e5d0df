/- The model's l3Kids. -/
import Derived.Test.YtananonjomfpkaaQfS10
/- The contract of insert. -/
namespace Go.Proofs.Ytananonjomfpkaa
open Go.RowKit
-- 114
structure Grow (w : World) (gb : Nat) (wide : Int) (s : Nat) (gr : Bool) (F : Cells) (b : Nat) (t : Tr) : Prop where
 box : GBox w gb (.pointer (some ⟨b, 0, none⟩)) wide s (.bool gr)
 node : Nd w F b t
 apart : ∀ o, ¬ F gb o
def Inserted (w : World) (gb : Nat) (wide key : Int) (s : Nat) (gr : Bool) (F : Cells) (t : Tr) (e : Ending) (w' : World) : Prop :=
 ∃ (F' : Cells) (b' : Nat), e = .returned (.tuple #[]) ∧ Grow w' gb wide (if (t.path key).2 then s else s + Tr.insN wide key t) (if (t.path key).2 then gr else (gr || Tr.insG wide key t)) F' b' (if (t.path key).2 then t else Tr.insT wide key t) ∧
   (∀ x o, F' x o → F x o ∨ w.heap.size ≤ x) ∧ KeptF (fun x o => F x o ∨ x = gb) w w'
set_option maxRecDepth 100000 in
set_option maxHeartbeats 4000000 in
theorem insert_c (wide key : Int) (hwide : 2 ≤ wide ∧ wide ≤ 6) (w : World) (gb : Nat) (s : Nat) (gr : Bool) (F : Cells) (b : Nat) (t : Tr) (h : Grow w gb wide s gr F b t) (hwell : Tr.Well t) (hw : t.weight ≤ 90000) (hs9 : s ≤ 800000000) :
   Calls Try.prog 114 #[.pointer (some ⟨gb, 0, none⟩), .int .i64 key] w (Inserted w gb wide key s gr F t) := by
 obtain ⟨hbox, hnd, hgF⟩ := h
 have hglt := (Array.getElem?_eq_some_iff.1 hbox).1
 obtain ⟨g0, g1, g2, g3, g4, g5, g6⟩ := hbox.cells
 have hpath := pathTo_c hnd.nodeAt hwell (by omega) key w (Below.refl _ _) (Nat.le_refl _)
 have HP := Lib.hid hpath
 have HG := Lib.hid (And.intro hbox (And.intro hnd hgF))
 have HW := Lib.hid hwell
 clear hbox hnd hgF hpath hwell
 go_enter Try.func114, Try.ntmps114
 go_wp2_with fail
 refine HP.out.mono ?_
 rintro e w1 ⟨v, rfl, hown, hb1⟩
 obtain ⟨va, vc, rfl⟩ := IntsOwn.shown hown
 have hs1 := hb1.size
 have hk1 : KeptF (fun _ _ => False) w w1 := KeptF.of_below hb1 (Nat.le_refl _)
 have hg1 : GBox w1 gb (.pointer (some ⟨b, 0, none⟩)) wide s (.bool gr) := hk1.block' HG.out.1 (fun _ h => h)
 clear g0 g1 g2 g3 g4 g5 g6 hown hb1
 obtain ⟨g0, g1, g2, g3, g4, g5, g6⟩ := hg1.cells
 have hnd1 := HG.out.2.1.keep hk1 (fun _ _ _ h => h)
 have H1 := Lib.hid (And.intro hk1 (And.intro hg1 hnd1))
 clear hk1 hg1 hnd1
 cases hp : (t.path key).2 with
 | true =>
   have HPB := Lib.hid hp
   clear hp
   go_wp2_with fail
   refine bodyPost_ret (v := .tuple #[]) (by simp [results, Try.results114, go_sem]) rfl ?_
   refine ⟨F, b, rfl, ?_, fun x o h => .inl h, H1.out.1.mono (fun _ _ _ h => h.elim)⟩
   rw [HPB.out]
   exact ⟨H1.out.2.1, H1.out.2.2, HG.out.2.2⟩
 | false =>
   have HPB := Lib.hid hp
   obtain ⟨W2, hW2⟩ : ∃ W2, W2 = (w1.alloc (.cells #[.pointer (some ⟨b, 0, none⟩)] 70)).alloc (.cells #[.slice none 0 0, .slice (some ⟨w1.heap.size, 0, none⟩) 1 1] 99) := ⟨_, rfl⟩
   have hs2 : W2.heap.size = w1.heap.size + 2 := by rw [hW2]; simp
   have hb2 : Below w1.heap.size w1 W2 := by rw [hW2]; exact ((Below.refl _ _).alloc (Nat.le_refl _) _).alloc (by simp) _
   have kr : W2.heap[w1.heap.size]? = some (.cells #[.pointer (some ⟨b, 0, none⟩)] 70 (0, 0)) := by rw [hW2, old_blk _ _ _ (by simp), new_blk]
   have ka : W2.heap[w1.heap.size + 1]? = some (.cells #[.slice none 0 0, .slice (some ⟨w1.heap.size, 0, none⟩) 1 1] 99 (0, 0)) := by
     rw [hW2, show w1.heap.size + 1 = (w1.alloc (.cells #[.pointer (some ⟨b, 0, none⟩)] 70)).heap.size by simp, new_blk]
   have hk2 : KeptF (fun _ _ => False) w1 W2 := KeptF.of_below hb2 (Nat.le_refl _)
   have hFlt := HG.out.2.1.lt
   have hnda : Nd W2 (allOf (w1.heap.size + 1) (fun _ _ => False) (fun q _ => q = w1.heap.size) [⟨b, F, t⟩]) (w1.heap.size + 1) (.mk [] ([(⟨b, F, t⟩ : KidD)].map KidD.t)) := by
     refine Nd.intro ka (RowF.nil W2) ?_ (fun y hy => ?_) ⟨fun _ _ _ h => h, fun q r h g => by have : q = w1.heap.size + 1 := h; omega, fun y hy q r h g => ?_, fun _ _ h => h.elim, fun _ _ _ _ h => h.elim, fun y hy q r h g => ?_, List.pairwise_singleton _ _⟩
     · have hc := box1 kr
       exact RowF.intro (xs := [Value.pointer (some ⟨b, 0, none⟩)]) (b := w1.heap.size) (o := 0) (cap := 1) (fun x q h => by omega) (by simp) (by unfold maxLen; omega) (fun i hi => by
         have e : i = 0 := by omega
         subst e
         exact ⟨rfl, by rw [Nat.zero_add, hc.1]; rfl, hc.2⟩) (fun i hi => by
         have e : i = 0 := by simpa using hi
         subst e
         exact hc.1)
     · simp at hy; subst hy; exact H1.out.2.2.keep hk2 (fun _ _ _ h => h)
     · simp at hy; subst hy; have := hFlt _ _ g; have : q = w1.heap.size + 1 := h; omega
     · simp at hy; subst hy; have := hFlt _ _ g; omega
   have hg2 : GBox W2 gb (.pointer (some ⟨b, 0, none⟩)) wide s (.bool gr) := hk2.block' H1.out.2.1 (fun _ h => h)
   have hgrow : Tr.grow wide key (.mk [] ([(⟨b, F, t⟩ : KidD)].map KidD.t)) = (if Tr.insG wide key t then (Tr.insT wide key t, Tr.insN wide key t) else (.mk [] [Tr.insT wide key t], Tr.insN wide key t)) := by
     show Tr.grow wide key (.mk [] [t]) = _
     rw [Tr.grow_inner (show place key [] < [t].length by simp [place])]
     exact Tr.insT_step wide key t
   have hcall := insertBelow_c wide key hwide 90010 (.mk [] ([(⟨b, F, t⟩ : KidD)].map KidD.t)) (by simp [Tr.weight, Tr.weights]; omega) (by omega)
     ⟨List.Pairwise.nil, .inr (by simp), fun i hi => by simp at hi; subst hi; exact HW.out⟩ W2 _ (w1.heap.size + 1) gb _ _ s hnda hg2 (fun o h => by
       rcases h with h | h | h | ⟨y, hy, h⟩
       · omega
       · exact h
       · have : gb = w1.heap.size := h; omega
       · simp at hy; subst hy; exact HG.out.2.2 o h) (by simp [Tr.weight, Tr.weights]; omega)
   rw [hgrow] at hcall
   have HC := Lib.hid hcall
   have HW2 := Lib.hid hW2
   have H2 := Lib.hid (And.intro hk2 (And.intro kr (And.intro ka hs2)))
   clear hcall hgrow hW2 hk2 kr ka hs2 hb2 hnda hg2 hp
   go_upto_region 3 with (fail)
   rw [← HW2.out]
   clear g0 g1 g2 g3 g4 g5 g6
   go_wp2_with fail
   refine HC.out.mono ?_
   rintro e w3 ⟨F3, rfl, hnd3, hF3, hk3, hg3, hst3⟩
   have hs3 := hk3.size
   have hs2 := H2.out.2.2.2
   have hFA : ∀ q r, allOf (w1.heap.size + 1) (fun _ _ => False) (fun q _ => q = w1.heap.size) [⟨b, F, t⟩] q r → F q r ∨ w.heap.size ≤ q := by
     rintro q r (h | h | h | ⟨y, hy, h⟩)
     · right; omega
     · exact h.elim
     · right; have : q = w1.heap.size := h; omega
     · simp at hy; subst hy; exact .inl h
   have hF3' : ∀ q r, F3 q r → F q r ∨ w.heap.size ≤ q := fun q r h => (hF3 q r h).elim (hFA q r) (fun h => by right; omega)
   have hF3g : ∀ o, ¬ F3 gb o := fun o h => (hF3' gb o h).elim (HG.out.2.2 o) (fun h => by omega)
   have hkt : KeptF (fun q r => F q r ∨ q = gb) w w3 := by
     have a1 := H1.out.1.mono (G := fun q r => F q r ∨ q = gb) (fun _ _ _ h => h.elim)
     have a2 := a1.trans (H2.out.1.mono (fun _ _ _ h => h.elim))
     exact a2.trans (hk3.mono (fun q r _ h => h.elim (fun h => (hFA q r h).imp .inl id) (fun h => .inl (.inr h))))
   cases hG : Tr.insG wide key t with
   | true =>
     rw [hG] at hnd3 hg3
     simp only [if_true] at hnd3 hg3
     obtain ⟨g0, g1, g2, g3, g4, g5, g6⟩ := hg3.cells
     have hu : wide < ((Tr.grow wide key t).1.ks.length : Int) := of_decide_eq_true hG
     have hroot : Tr.insT wide key t = .mk [(Tr.grow wide key t).1.midOf] [(Tr.grow wide key t).1.leftOf, (Tr.grow wide key t).1.rightOf] := by unfold Tr.insT; exact if_pos hu
     have hnd3' := hnd3
     rw [hroot] at hnd3'
     obtain ⟨kidsR, FkR, FcR, kvR, cvR, _, hboxR, hkrR, _⟩ := hnd3'.parts
     obtain ⟨kaR, kcR, rfl⟩ := hkrR.shown
     simp only [List.length_map, List.length_cons, List.length_nil, Nat.zero_add] at hboxR
     obtain ⟨x1, x2, x3, x4⟩ := box2 hboxR
     have HX := Lib.hid (And.intro hnd3 (And.intro hF3' (And.intro hF3g (And.intro hkt hg3))))
     have HGG := Lib.hid hG
     clear hnd3 hnd3' hF3 hF3' hF3g hkt hg3 hk3 hst3 hFA hroot hu hG hboxR hkrR
     go_wp2_with fail
     obtain ⟨hnd3, hF3', hF3g, hkt, hg3⟩ := HX.out
     refine bodyPost_end (v := .tuple #[]) (by simp [results, Try.results114, go_sem]) rfl ?_
     have hk5 : KeptF (boxOf gb) w3 ((w3.setCell ⟨gb, 0, none⟩ (.pointer (some ⟨w1.heap.size + 1, 0, none⟩))).setCell ⟨gb, 3, none⟩ (.bool true)) :=
       (KeptF.setCell (F := boxOf gb) w3 gb 0 _ rfl).trans (KeptF.setCell _ _ _ _ (.inl rfl))
     refine ⟨F3, w1.heap.size + 1, rfl, ?_, hF3', hkt.trans (hk5.mono (fun q r _ h => .inl (.inr h)))⟩
     rw [HPB.out, HGG.out]
     simp only [Bool.false_eq_true, if_false, Bool.or_true]
     refine ⟨?_, hnd3.keep hk5 (fun q r h g => hF3g r (by have g' : q = gb := g; exact g' ▸ h)), hF3g⟩
     have e1 := set_blk (o := 0) (.pointer (some ⟨w1.heap.size + 1, 0, none⟩)) hg3
     have e2 := set_blk (o := 3) (.bool true) e1
     unfold GBox
     rw [e2]
     simp
   | false =>
     rw [hG] at hnd3 hg3 hst3
     simp only [Bool.false_eq_true, if_false] at hnd3 hg3 hst3
     obtain ⟨g0, g1, g2, g3, g4, g5, g6⟩ := hg3.cells
     obtain ⟨FX, hndX, hFX⟩ := hst3 _ _ _ _ _ _ _ rfl H2.out.2.2.1 (box1 H2.out.2.1).1
     obtain ⟨kidsR, FkR, FcR, kvR, cvR, _, hboxR, hkrR, _⟩ := hnd3.parts
     obtain ⟨kaR, kcR, rfl⟩ := hkrR.shown
     simp only [List.length_map, List.length_nil] at hboxR
     obtain ⟨x1, x2, x3, x4⟩ := box2 hboxR
     have hFX' : ∀ q r, FX q r → F q r ∨ w.heap.size ≤ q := fun q r h => (hFX q r h).elim (hFA q r) (fun h => by right; omega)
     have HX := Lib.hid (And.intro hndX (And.intro hFX' (And.intro hkt hg3)))
     have HGG := Lib.hid hG
     clear hnd3 hF3 hF3' hF3g hkt hg3 hk3 hst3 hFA hG hboxR hkrR hndX hFX hFX'
     go_wp2_with fail
     obtain ⟨hndX, hFX', hkt, hg3⟩ := HX.out
     refine bodyPost_end (v := .tuple #[]) (by simp [results, Try.results114, go_sem]) rfl ?_
     refine ⟨FX, b, rfl, ?_, hFX', hkt⟩
     rw [HPB.out, HGG.out]
     simp only [Bool.false_eq_true, if_false, Bool.or_false]
     exact ⟨hg3, hndX, fun o h => (hFX' gb o h).elim (HG.out.2.2 o) (fun h => by omega)⟩
end Go.Proofs.Ytananonjomfpkaa
/- The contract of grownBy. -/
namespace Go.Proofs.Ytananonjomfpkaa
open Go.RowKit
def Tr.askedB (wide key : Int) (t : Tr) : Bool := Tr.validB wide t && (inB key 0 99 && !(t.pathB key).2)
theorem Tr.valid_some {wide : Int} {t : Tr} (h : Tr.validB wide t = true) : t.someB = true := by
 have hw := Tr.valid_wide h
 obtain ⟨q, hq⟩ : ∃ q : Nat, wide = (q : Int) := ⟨wide.toNat, by omega⟩
 subst hq
 exact (someB_of t).1 q (by omega) (by omega) h
theorem Tr.asked_path {wide key : Int} {t : Tr} (h : Tr.askedB wide key t = true) : Tr.validB wide t = true ∧ (t.path key).2 = false := by
 simp only [Tr.askedB, Bool.and_eq_true, Bool.not_eq_true'] at h
 refine ⟨h.1, ?_⟩
 have := (someB_path key t).1 (Tr.valid_some h.1)
 rw [← this]; exact h.2.2
-- 89
def GrownOf (w : World) (wide key : Int) (t : Tr) (e : Ending) (w' : World) : Prop :=
 (Tr.askedB wide key t = false ∧ e = .returned (.tuple #[.pointer none, .bool false]) ∧ Below w.heap.size w w') ∨
 (Tr.askedB wide key t = true ∧ ∃ (gb b : Nat) (F : Cells), e = .returned (.tuple #[.pointer (some ⟨gb, 0, none⟩), .bool true]) ∧ Grow w' gb wide (Tr.insN wide key t) (Tr.insG wide key t) F b (Tr.insT wide key t) ∧
   (∀ x o, F x o → w.heap.size ≤ x) ∧ Below w.heap.size w w')
set_option maxRecDepth 100000 in
set_option maxHeartbeats 4000000 in
theorem grownBy_c {w : World} {B : Nat} {kv cv : Value} {t : Tr} (ht : TreeIn w B kv cv t) (hw : t.weight ≤ 1048576) (wide key : Int) (hn1 : -9223372036854775808 ≤ wide) (hn2 : wide ≤ 9223372036854775807) (w' : World) (hbw : Below B w w') (hB : B ≤ w'.heap.size) :
   Calls Try.prog 89 #[.agg #[kv, cv], .int .i64 wide, .int .i64 key] w' (GrownOf w' wide key t) := by
 obtain ⟨a5, n5, m5, a6, n6, m6, rfl, rfl⟩ := ht.slices
 obtain ⟨W1, hW1⟩ : ∃ W1, W1 = w'.alloc (.cells #[.slice a5 n5 m5, .slice a6 n6 m6] 26) := ⟨_, rfl⟩
 have hs1 : W1.heap.size = w'.heap.size + 1 := by rw [hW1]; simp
 have hb1 : Below w'.heap.size w' W1 := by rw [hW1]; exact (Below.refl _ _).alloc (Nat.le_refl _) _
 have k0 : W1.heap[w'.heap.size]? = some (.cells #[.slice a5 n5 m5, .slice a6 n6 m6] 26 (0, 0)) := by rw [hW1, new_blk]
 obtain ⟨x1, x2, x3, x4⟩ := box2 k0
 have HT := Lib.hid ht
 have HBW := Lib.hid hbw
 have HW1 := Lib.hid hW1
 have H1 := Lib.hid (And.intro hb1 k0)
 clear ht hbw hW1 hb1 k0
 go_enter Try.func89, Try.ntmps89
 go_wp2_with fail
 rw [← HW1.out]
 refine (impl_valid _ _ _ _ _ wide HT.out hw hn1 hn2 W1 (HBW.out.trans (H1.out.1.mono hB)) (by omega)).mono ?_
 rintro e w2 ⟨rfl, hb2⟩
 have hs2 := hb2.size
 clear x1 x2 x3 x4
 have j0 := (hb2.block _ (by omega)).trans H1.out.2
 obtain ⟨x1, x2, x3, x4⟩ := box2 j0
 have hb2' := H1.out.1.trans (hb2.mono (by omega))
 have H2 := Lib.hid (And.intro hb2' j0)
 have HB2 := Lib.hid (HBW.out.trans (hb2'.mono hB))
 clear hb2 hb2' j0
 cases hv : Tr.validB wide t with
 | false =>
   have HA := Lib.hid (show Tr.askedB wide key t = false by simp [Tr.askedB, hv])
   clear hv
   go_wp2_with fail
   refine bodyPost_ret (v := .tuple #[.pointer none, .bool false]) (by simp [results, Try.results89, go_sem]) rfl (.inl ⟨HA.out, rfl, H2.out.1⟩)
 | true =>
 have HV := Lib.hid hv
 clear hv
 go_wp2_with fail
 refine (isKey_c key w2).mono ?_
 rintro e w3 ⟨rfl, rfl⟩
 cases hk : inB key 0 99 with
 | false =>
   have HA := Lib.hid (show Tr.askedB wide key t = false by simp [Tr.askedB, hk])
   clear hk
   go_wp2_with fail
   refine bodyPost_ret (v := .tuple #[.pointer none, .bool false]) (by simp [results, Try.results89, go_sem]) rfl (.inl ⟨HA.out, rfl, H2.out.1⟩)
 | true =>
 have HK := Lib.hid hk
 clear hk
 go_wp2_with fail
 refine (impl_has HT.out hw key _ HB2.out (by omega)).mono ?_
 rintro e w4 ⟨rfl, hb4⟩
 have hs4 := hb4.size
 clear x1 x2 x3 x4
 have j0 := (hb4.block _ (by omega)).trans H2.out.2
 obtain ⟨x1, x2, x3, x4⟩ := box2 j0
 have hb4' := H2.out.1.trans (hb4.mono (by omega))
 have H4 := Lib.hid (And.intro hb4' j0)
 have HB4 := Lib.hid (HBW.out.trans (hb4'.mono hB))
 clear hb4 hb4' j0
 cases hp : (t.pathB key).2 with
 | true =>
   have HA := Lib.hid (show Tr.askedB wide key t = false by simp [Tr.askedB, hp])
   clear hp
   go_wp2_with fail
   refine bodyPost_ret (v := .tuple #[.pointer none, .bool false]) (by simp [results, Try.results89, go_sem]) rfl (.inl ⟨HA.out, rfl, H4.out.1⟩)
 | false =>
 have hask : Tr.askedB wide key t = true := by simp [Tr.askedB, HV.out, HK.out, hp]
 have hpath := (Tr.asked_path hask).2
 have hsmall := Tr.valid_small HV.out
 have HASK := Lib.hid (And.intro hask hpath)
 clear hp hask hpath
 go_wp2_with fail
 refine (plant_nd HT.out hw w4 HB4.out (by omega)).mono ?_
 rintro e w5 ⟨b, rfl, hnd, hb5⟩
 have hs5 := hb5.size
 obtain ⟨W6, hW6⟩ : ∃ W6, W6 = w5.alloc (.cells #[.pointer (some ⟨b, 0, none⟩), .int .i64 wide, .int .i64 0, .bool false] 119) := ⟨_, rfl⟩
 have hs6 : W6.heap.size = w5.heap.size + 1 := by rw [hW6]; simp
 have hb6 : Below w5.heap.size w5 W6 := by rw [hW6]; exact (Below.refl _ _).alloc (Nat.le_refl _) _
 have hk6 : KeptF (fun _ _ => False) w5 W6 := KeptF.of_below hb6 (Nat.le_refl _)
 have hg6 : GBox W6 w5.heap.size (.pointer (some ⟨b, 0, none⟩)) wide 0 (.bool false) := by unfold GBox; rw [hW6, new_blk]; rfl
 have hgrow : Grow W6 w5.heap.size wide 0 false (span w4.heap.size w5.heap.size) b t := ⟨hg6, hnd.keep hk6 (fun _ _ _ h => h), fun o h => by have := h.2; omega⟩
 have hcall := insert_c wide key (Tr.valid_wide HV.out) W6 w5.heap.size 0 false _ b t hgrow (Tr.valid_well HV.out) (by omega) (by omega)
 have HC := Lib.hid hcall
 have HW6 := Lib.hid hW6
 have H6 := Lib.hid (H4.out.1.trans ((hb5.mono (by omega)).trans (hb6.mono (by omega))))
 clear hcall hgrow hg6 hk6 hb6 hW6 hnd hb5 x1 x2 x3 x4
 go_wp2_with fail
 rw [← HW6.out]
 refine HC.out.mono ?_
 rintro e w7 ⟨F', b', rfl, hgr, hF', hk7⟩
 rw [HASK.out.2] at hgr
 simp only [Bool.false_eq_true, if_false, Bool.false_or, Nat.zero_add] at hgr
 have H7 := Lib.hid (And.intro hgr (And.intro hF' hk7))
 clear hgr hF' hk7
 go_wp2_with fail
 refine bodyPost_ret (v := .tuple #[.pointer (some ⟨w5.heap.size, 0, none⟩), .bool true]) (by simp [results, Try.results89, go_sem]) rfl (.inr ⟨HASK.out.1, _, b', F', rfl, H7.out.1, fun x o h => ?_, ?_⟩)
 · rcases H7.out.2.1 x o h with h | h
   · have := h.1; omega
   · omega
 · exact H6.out.trans (H7.out.2.2.below (by omega) (fun x o h => by
     rcases h with h | h
     · have := h.1; omega
     · omega))
end Go.Proofs.Ytananonjomfpkaa
/- The model's l3Put. -/
namespace Go.Proofs.Ytananonjomfpkaa
open Go.RowKit
theorem IntsAt.part {w : World} {b o n : Nat} {ks : List Int} (h : ∀ i, i < ks.length → w.cell? ⟨b, o + i, none⟩ = some (.int .i64 (ks.getD i 0))) (lo hi cap : Nat) (h1 : lo ≤ hi) (h2 : hi ≤ ks.length) (hn : n = hi - lo) :
   IntsAt w (.slice (some ⟨b, o + lo, none⟩) n cap) ((ks.drop lo).take (hi - lo)) := by
 have hl : ((ks.drop lo).take (hi - lo)).length = hi - lo := by simp; omega
 refine ⟨some ⟨b, o + lo, none⟩, cap, by rw [hl, hn], by simp, .inr ⟨b, o + lo, rfl, fun i hi' => ?_⟩⟩
 rw [hl] at hi'
 rw [show o + lo + i = o + (lo + i) by omega, h (lo + i) (by omega)]
 simp [List.getD_eq_getElem?_getD, hi']
theorem IntsAt.none' {w : World} (a : Option Addr) (cap : Nat) (h : a = none → cap = 0) : IntsAt w (.slice a 0 cap) [] := ⟨a, cap, rfl, h, .inl rfl⟩
set_option maxRecDepth 100000 in
set_option maxHeartbeats 2000000 in
theorem l3Put_c (w : World) (B : Nat) (v : Value) (k : List Int) (i : Nat) (key : Int) (hk : IntsIn w B v k) (hB : B ≤ w.heap.size) (hi : i ≤ k.length) (hn : k.length ≤ 1048576) :
   Calls Try.prog 136 #[v, .int .i64 i, .int .i64 key] w fun e w' => ∃ v', e = .returned v' ∧ IntsOwn w' w.heap.size v' (putAt k i key) ∧ Below w.heap.size w w' := by
 obtain ⟨a, cap, rfl, h1, h2, h3, h4⟩ := hk
 unfold maxLen at h2
 obtain ⟨W1, hW1⟩ : ∃ W1, W1 = w.alloc (.cells #[] 3) := ⟨_, rfl⟩
 have hs1 : W1.heap.size = w.heap.size + 1 := by rw [hW1]; simp
 have hb1 : Below w.heap.size w W1 := by rw [hW1]; exact (Below.refl _ _).alloc (Nat.le_refl _) _
 have h00 : IntsOwn W1 w.heap.size (.slice (some ⟨w.heap.size, 0, none⟩) 0 0) [] := by rw [hW1]; exact World.ownsRow_made w #[] 0 (Nat.le_refl _) (by unfold maxLen; omega) rfl
 have hfront : ∀ W, Below w.heap.size w W → IntsAt W (.slice a i cap) (k.take i) := fun W hb => by
   rcases h4 with h4 | ⟨b, o, rfl, h5, h6⟩
   · have e : i = 0 := by rw [h4] at hi; simpa using hi
     rw [e, List.take_zero]
     exact IntsAt.none' a cap h3
   · have h := IntsAt.part (w := W) (b := b) (o := o) (n := i) (ks := k) (fun j hj => by rw [below_cell hb (by omega)]; exact h6 j hj) 0 i cap (by omega) hi (by omega)
     simpa using h
 have hback : ∀ W, Below w.heap.size w W → ∀ a' c', (i < k.length → (∃ b o, a = some ⟨b, o, none⟩ ∧ a' = some ⟨b, o + i, none⟩)) → (a' = none → c' = 0) → IntsAt W (.slice a' (k.length - i) c') (k.drop i) := fun W hb a' c' ha hc => by
   by_cases hik : i < k.length
   · obtain ⟨b, o, rfl, rfl⟩ := ha hik
     rcases h4 with h4 | ⟨b', o', e, h5, h6⟩
     · rw [h4] at hik; simp at hik
     · simp only [Option.some.injEq, Addr.mk.injEq, and_true] at e
       obtain ⟨rfl, rfl⟩ := e
       have h := IntsAt.part (w := W) (b := b) (o := o) (n := k.length - i) (ks := k) (fun j hj => by rw [below_cell hb (by omega)]; exact h6 j hj) i k.length c' (by omega) (Nat.le_refl _) rfl
       rwa [List.take_of_length_le (by simp)] at h
   · rw [show k.length - i = 0 by omega, List.drop_eq_nil_of_le (by omega)]
     exact IntsAt.none' a' c' hc
 have hsome : i < k.length → ∃ b o, a = some ⟨b, o, none⟩ := fun h => by
   rcases h4 with h4 | ⟨b, o, e, _⟩
   · rw [h4] at h; simp at h
   · exact ⟨b, o, e⟩
 have HW1 := Lib.hid hW1
 have H1 := Lib.hid (And.intro hb1 (And.intro h00 hs1))
 have HF := Lib.hid hfront
 have HBK := Lib.hid hback
 have HS := Lib.hid (And.intro hsome h3)
 have hlen1 : (([] : List Int).length + (k.take i).length) ≤ 17592186044416 := by simp; omega
 have HLEN := Lib.hid hlen1
 clear hW1 hs1 hb1 h00 hfront hback h4 hsome hlen1 h3
 go_enter Try.func136, Try.ntmps136
 go_upto_region 1 with (fail)
 go_upto_region 2 with (at_builtin; rw [← HW1.out]; refine wpList_append_ints rfl _ _ rfl w.heap.size _ _ [] (k.take i) rfl H1.out.2.1 rfl (HF.out _ H1.out.1) HLEN.out (by have := H1.out.2.2; omega) ?_; intro v2 w2 hown2 hbel2 _ hsh2; obtain ⟨a2, c2, rfl⟩ := hsh2; generalize hL2 : ([] : List Int) ++ k.take i = L2 at hown2 ⊢; have H2 := Lib.hid (And.intro hown2 (And.intro (H1.out.1.trans hbel2) hL2)); clear hown2 hbel2 hL2)
 have hs2 := H2.out.2.1.size
 have hl2 : L2.length ≤ 1048576 := by rw [← H2.out.2.2]; simp; omega
 have HL2 := Lib.hid hl2
 clear hl2
 go_upto_region 3 with (at_builtin; refine wpList_append_ints rfl _ _ rfl w.heap.size _ _ L2 [key] rfl (IntsOwn.alloc' H2.out.1 _) rfl (IntsAt.one w2 key) (by have := HL2.out; simp; omega) (by simp; omega) ?_; intro v3 w3 hown3 hbel3 _ hsh3; obtain ⟨a3, c3, rfl⟩ := hsh3; generalize hL3 : L2 ++ [key] = L3 at hown3 ⊢; have H3 := Lib.hid (And.intro hown3 (And.intro ((H2.out.2.1.alloc hs2 _).trans hbel3) hL3)); clear hown3 hbel3 hL3)
 have hs3 := H3.out.2.1.size
 have hl3 : L3.length ≤ 1048577 := by rw [← H3.out.2.2]; have := HL2.out; simp; omega
 have HL3 := Lib.hid hl3
 clear hl3
 have hii : (i : Int) ≤ (k.length : Int) := by omega
 have hfin : ∀ v' w', IntsOwn w' w.heap.size v' (L3 ++ k.drop i) → IntsOwn w' w.heap.size v' (putAt k i key) := fun v' w' h => by
   rw [← H3.out.2.2, ← H2.out.2.2] at h
   simpa [putAt] using h
 have HFIN := Lib.hid hfin
 clear hfin
 by_cases hik : i < k.length
 · obtain ⟨b, o, rfl⟩ := HS.out.1 hik
   have hci : ¬ cap = i := by omega
   go_wp2_with (at_builtin; refine wpList_append_ints rfl _ _ rfl w.heap.size _ _ L3 (k.drop i) rfl H3.out.1 rfl (HBK.out _ H3.out.2.1 _ _ (fun h => ⟨b, o, rfl, rfl⟩) (fun h => by simp at h)) (by have := HL3.out; simp; omega) (by omega) ?_; intro v4 w4 hown4 hbel4 _ hsh4; obtain ⟨a4, c4, rfl⟩ := hsh4; generalize hL4 : L3 ++ k.drop i = L4 at hown4 ⊢; have H4 := Lib.hid (And.intro hown4 (And.intro (H3.out.2.1.trans hbel4) hL4)); clear hown4 hbel4 hL4)
   go_ret
   exact ⟨_, rfl, HFIN.out _ _ (by rw [H4.out.2.2]; exact H4.out.1), H4.out.2.1⟩
 · have hd : k.drop i = [] := List.drop_eq_nil_of_le (by omega)
   have HD := Lib.hid hd
   clear hd
   obtain rfl : i = k.length := by omega
   by_cases hci : cap = k.length
   · subst hci
     go_wp2_with (at_builtin; refine wpList_append_ints rfl _ _ rfl w.heap.size _ _ L3 [] rfl H3.out.1 rfl (IntsAt.none' _ _ (fun _ => rfl)) (by have := HL3.out; simp; omega) (by omega) ?_; intro v4 w4 hown4 hbel4 _ hsh4; obtain ⟨a4, c4, rfl⟩ := hsh4; generalize hL4 : L3 ++ ([] : List Int) = L4 at hown4 ⊢; have H4 := Lib.hid (And.intro hown4 (And.intro (H3.out.2.1.trans hbel4) hL4)); clear hown4 hbel4 hL4)
     go_ret
     exact ⟨_, rfl, HFIN.out _ _ (by rw [HD.out, H4.out.2.2]; exact H4.out.1), H4.out.2.1⟩
   · rcases a with _ | ⟨b, o, sp⟩
     · have := HS.out.2 rfl; omega
     · go_wp2_with (at_builtin; refine wpList_append_ints rfl _ _ rfl w.heap.size _ _ L3 [] rfl H3.out.1 rfl (IntsAt.none' _ _ (fun h => by simp at h)) (by have := HL3.out; simp; omega) (by omega) ?_; intro v4 w4 hown4 hbel4 _ hsh4; obtain ⟨a4, c4, rfl⟩ := hsh4; generalize hL4 : L3 ++ ([] : List Int) = L4 at hown4 ⊢; have H4 := Lib.hid (And.intro hown4 (And.intro (H3.out.2.1.trans hbel4) hL4)); clear hown4 hbel4 hL4)
       go_ret
       exact ⟨_, rfl, HFIN.out _ _ (by rw [HD.out, H4.out.2.2]; exact H4.out.1), H4.out.2.1⟩
end Go.Proofs.Ytananonjomfpkaa
/- The model's l3Kids. -/
namespace Go.Proofs.Ytananonjomfpkaa
open Go.RowKit
def splitV (lk lc : Value) (mid : Int) (rk rc : Value) (two : Bool) (cnt : Int) : Value := .agg #[lk, lc, .int .i64 mid, rk, rc, .bool two, .int .i64 cnt]
theorem box7 {w : World} {b : Nat} {a0 a1 a2 a3 a4 a5 a6 : Value} {t : TypeId} (h : w.heap[b]? = some (.cells #[a0, a1, a2, a3, a4, a5, a6] t (0, 0))) :
   w.cell? ⟨b, 0, none⟩ = some a0 ∧ w.cell? ⟨b, 1, none⟩ = some a1 ∧ w.cell? ⟨b, 2, none⟩ = some a2 ∧ w.cell? ⟨b, 3, none⟩ = some a3 ∧ w.cell? ⟨b, 4, none⟩ = some a4 ∧ w.cell? ⟨b, 5, none⟩ = some a5 ∧ w.cell? ⟨b, 6, none⟩ = some a6 := by
 refine ⟨?_, ?_, ?_, ?_, ?_, ?_, ?_⟩ <;> simp [World.cell?, h]
theorem TreesOwn.lower {w : World} {lo lo' : Nat} {v : Value} {K : List (Value × Value)} (h : TreesOwn w lo v K) (hl : lo' ≤ lo) : TreesOwn w lo' v K := by
 obtain ⟨h1, h2 | ⟨g, cap, cur, hv, hbb, hr⟩⟩ := h
 · exact ⟨h1, .inl h2⟩
 · exact ⟨h1, .inr ⟨g, cap, cur, hv, by omega, hr⟩⟩
def kidsV (K : List (Value × Value)) (i : Nat) (l r : Value × Value) (two : Bool) : List (Value × Value) := K.take i ++ [l] ++ (if two then [r] else []) ++ K.drop (i + 1)
set_option maxRecDepth 100000 in
set_option maxHeartbeats 2000000 in
theorem l3Kids_c (w : World) (v : Value) (K : List (Value × Value)) (i : Nat) (ka la : Option Addr) (kn kc ln lcp : Nat) (rk rc : Value) (mid : Int) (two : Bool) (cnt : Int)
   (hr : ∃ a n c a' n' c', rk = .slice a n c ∧ rc = .slice a' n' c')
   (hk : ∀ W, Below w.heap.size w W → KidsAt W v K) (hcap : ∃ a cap, v = .slice a K.length cap ∧ K.length ≤ cap ∧ cap ≤ maxLen) (h1 : ∀ u, u ∈ flatT K → u.oneCell' = true) (hi : i < K.length) (hn : K.length ≤ 1048576) :
   Calls Try.prog 137 #[v, .int .i64 i, splitV (.slice ka kn kc) (.slice la ln lcp) mid rk rc two cnt] w fun e w' => ∃ v', e = .returned v' ∧ TreesOwn w' w.heap.size v' (kidsV K i (.slice ka kn kc, .slice la ln lcp) (rk, rc) two) ∧ Below w.heap.size w w' := by
 obtain ⟨a, cap, rfl, hc1, hc2⟩ := hcap
 obtain ⟨ra, rn, rcc, ra', rn', rcc', rfl, rfl⟩ := hr
 unfold maxLen at hc2
 have hkw := hk w (Below.refl _ _)
 obtain ⟨a0, cap0, hv, hnl, hat⟩ := hkw
 simp only [Value.slice.injEq, true_and] at hv
 obtain ⟨rfl, rfl⟩ := hv
 rcases hat with hat | ⟨b, o, rfl, _⟩
 · rw [hat] at hi; simp at hi
 have hraw : ∀ W, Below w.heap.size w W → ∀ j u, (flatT K)[j]? = some u → W.cell? ⟨b, o + j, none⟩ = some u := fun W hb j u hj => by
   obtain ⟨a0, cap0, hv, _, hat⟩ := hk W hb
   simp only [Value.slice.injEq, true_and] at hv
   obtain ⟨rfl, rfl⟩ := hv
   rcases hat with hat | ⟨b', o', e, hat⟩
   · rw [hat] at hi; simp at hi
   · simp only [Option.some.injEq, Addr.mk.injEq, and_true] at e
     obtain ⟨rfl, rfl⟩ := e
     exact hat j u hj
 obtain ⟨W1, hW1⟩ : ∃ W1, W1 = (w.alloc (.cells #[.slice ka kn kc, .slice la ln lcp, .int .i64 mid, .slice ra rn rcc, .slice ra' rn' rcc', .bool two, .int .i64 cnt] 146)).alloc (.cells #[] 26) := ⟨_, rfl⟩
 have hs1 : W1.heap.size = w.heap.size + 2 := by rw [hW1]; simp
 have hb1 : Below w.heap.size w W1 := by rw [hW1]; exact ((Below.refl _ _).alloc (Nat.le_refl _) _).alloc (by simp) _
 have kb1 : W1.heap[w.heap.size]? = some (.cells #[.slice ka kn kc, .slice la ln lcp, .int .i64 mid, .slice ra rn rcc, .slice ra' rn' rcc', .bool two, .int .i64 cnt] 146 (0, 0)) := by rw [hW1, old_blk _ _ _ (by simp), new_blk]
 have h00 : TreesOwn W1 (w.heap.size + 1) (.slice (some ⟨w.heap.size + 1, 0, none⟩) 0 0) [] := by
   have h := World.ownsRow_made (base := w.heap.size + 1) (e := 26) (size := 2) (w.alloc (.cells #[.slice ka kn kc, .slice la ln lcp, .int .i64 mid, .slice ra rn rcc, .slice ra' rn' rcc', .bool two, .int .i64 cnt] 146)) #[] 0 (by simp) (by unfold maxLen; omega) rfl
   rw [World.size_alloc] at h
   rw [hW1]; exact h
 have h1t : ∀ u, u ∈ flatT (K.take i) → u.oneCell' = true := fun u hu => h1 u (by rw [flatT_take] at hu; exact List.mem_of_mem_take hu)
 have h1d : ∀ u, u ∈ flatT (K.drop (i + 1)) → u.oneCell' = true := fun u hu => h1 u (by rw [flatT_drop] at hu; exact List.mem_of_mem_drop hu)
 have hfr : ∀ W, Below w.heap.size w W → KidsAt W (.slice (some ⟨b, o, none⟩) i cap) (K.take i) := fun W hb => by
   have h := KidsAt.part (n := i) (hraw W hb) 0 i cap (by omega) (by omega) (by omega)
   simpa using h
 have hbk : ∀ W, Below w.heap.size w W → ∀ c', KidsAt W (.slice (some ⟨b, o + (i + 1) * 2, none⟩) (K.length - (i + 1)) c') (K.drop (i + 1)) := fun W hb c' => by
   have h := KidsAt.part (n := K.length - (i + 1)) (hraw W hb) (i + 1) K.length c' (by omega) (Nat.le_refl _) rfl
   rwa [List.take_of_length_le (by simp)] at h
 have HW1 := Lib.hid hW1
 have H1 := Lib.hid (And.intro hb1 (And.intro h00 (And.intro hs1 kb1)))
 have HF := Lib.hid (And.intro hfr h1t)
 have HBK := Lib.hid (And.intro hbk h1d)
 have hlen1 : (([] : List (Value × Value)).length + (K.take i).length) ≤ 100000000 := by simp; omega
 have HLEN := Lib.hid hlen1
 have hwr : IntKind.i64.wrap ((i : Int) + 1) = (i : Int) + 1 := IntWalk.i64_in _ (by omega)
 clear hW1 hs1 hb1 h00 hfr hbk h1t h1d hlen1 hraw hk h1 kb1 hnl
 unfold splitV
 go_enter Try.func137, Try.ntmps137
 go_upto_region 1 with (fail)
 go_upto_region 2 with (at_builtin; rw [← HW1.out]; refine wpList_append_trees rfl _ _ rfl (w.heap.size + 1) _ _ [] (K.take i) rfl H1.out.2.1 rfl (HF.out.1 _ H1.out.1) HF.out.2 HLEN.out (by have := H1.out.2.2.1; omega) ?_; intro v2 w2 hown2 hbel2 _ hsh2; obtain ⟨a2, c2, rfl⟩ := hsh2; generalize hL2 : ([] : List (Value × Value)) ++ K.take i = L2 at hown2 ⊢; have H2 := Lib.hid (And.intro hown2 (And.intro hbel2 hL2)); clear hown2 hbel2 hL2)
 have hlb2 : L2.length ≤ 1048576 := by rw [← H2.out.2.2]; simp; omega
 have HLB2 := Lib.hid hlb2
 have hs2 := H2.out.2.1.size
 have kb2 := (H2.out.2.1.block _ (by omega)).trans H1.out.2.2.2
 obtain ⟨x0, x1, x2, x3, x4, x5, x6⟩ := box7 kb2
 have hlo2 : w.heap.size + 1 ≤ w2.heap.size := by have := H1.out.2.2.1; omega
 have HLO2 := Lib.hid hlo2
 have hii : (i : Int) + 1 ≤ (K.length : Int) := by omega
 have KB2 := Lib.hid kb2
 clear hlb2 kb2 hlo2 hs2
 go_upto_region 3 with (at_builtin; refine wpList_append_trees rfl _ _ rfl (w.heap.size + 1) _ _ L2 [(.slice ka kn kc, .slice la ln lcp)] rfl (World.ownsRow.alloc H2.out.1 _) rfl (KidsAt.one w2 _ _) (fun u hu => by simp [flatT] at hu; rcases hu with rfl | rfl <;> rfl) (by have := HLB2.out; simp; omega) (by have := HLO2.out; simp; omega) ?_; intro v3 w3 hown3 hbel3 _ hsh3; obtain ⟨a3, c3, rfl⟩ := hsh3; generalize hL3 : L2 ++ [(Value.slice ka kn kc, Value.slice la ln lcp)] = L3 at hown3 ⊢; have kb3 := (hbel3.block w.heap.size (by omega)).trans ((old_blk w2 (.cells #[.slice ka kn kc, .slice la ln lcp] 26) _ (by have := HLO2.out; omega)).trans KB2.out); have H3 := Lib.hid (And.intro hown3 (And.intro (H2.out.2.1.trans (((Below.refl w2.heap.size w2).alloc (Nat.le_refl _) _).mono HLO2.out |>.trans hbel3)) (And.intro hL3 kb3))); clear hown3 hbel3 hL3 kb3)
 have hs1 := H1.out.2.2.1
 have hs3 := H3.out.2.1.size
 have hlb3 : L3.length ≤ 1048577 := by rw [← H3.out.2.2.1]; have := HLB2.out; simp; omega
 have HLB3 := Lib.hid hlb3
 clear hlb3 x0 x1 x2 x3 x4 x5 x6
 obtain ⟨x0, x1, x2, x3, x4, x5, x6⟩ := box7 H3.out.2.2.2
 have hlo3 : w.heap.size + 1 ≤ w3.heap.size := by omega
 have HLO3 := Lib.hid hlo3
 have HE3 := Lib.hid (show TreesOwn w3 (w.heap.size + 1) (.slice a3 L3.length c3) L3 ∧ Below (w.heap.size + 1) W1 w3 from ⟨H3.out.1, H3.out.2.1⟩)
 clear hlo3
 cases two with
 | false =>
   go_upto_region 5 with (fail)
   by_cases hci : cap = i + 1
   · have hd : K.drop (i + 1) = [] := List.drop_eq_nil_of_le (by omega)
     have HD := Lib.hid hd
     clear hd
     subst hci
     go_wp2_with (at_builtin; refine wpList_append_trees rfl _ _ rfl (w.heap.size + 1) _ _ L3 [] rfl HE3.out.1 rfl (KidsAt.none' _ _ (fun _ => rfl)) (fun u hu => by simp [flatT] at hu) (by have := HLB3.out; simp; omega) (by have := HE3.out.2.size; have := H1.out.2.2.1; omega) ?_; intro v6 w6 hown6 hbel6 _ hsh6; obtain ⟨a6, c6, rfl⟩ := hsh6; generalize hL6 : L3 ++ ([] : List (Value × Value)) = L6 at hown6 ⊢; have H6 := Lib.hid (And.intro hown6 (And.intro hbel6 hL6)); clear hown6 hbel6 hL6)
     go_ret
     refine ⟨_, rfl, ?_, ?_⟩
     · have e : L6 = kidsV K i (.slice ka kn kc, .slice la ln lcp) (.slice ra rn rcc, .slice ra' rn' rcc') false := by
         rw [← H6.out.2.2]; unfold kidsV; rw [HD.out]; rw [← H3.out.2.2.1, ← H2.out.2.2]; simp
       rw [← e]
       exact TreesOwn.lower H6.out.1 (by omega)
     · exact H1.out.1.trans (((HE3.out.2).trans H6.out.2.1).mono (by omega))
   · go_wp2_with (at_builtin; refine wpList_append_trees rfl _ _ rfl (w.heap.size + 1) _ _ L3 (K.drop (i + 1)) rfl HE3.out.1 rfl (HBK.out.1 _ (H1.out.1.trans ((HE3.out.2).mono (by omega))) _) HBK.out.2 (by have := HLB3.out; simp; omega) (by have := HE3.out.2.size; have := H1.out.2.2.1; omega) ?_; intro v6 w6 hown6 hbel6 _ hsh6; obtain ⟨a6, c6, rfl⟩ := hsh6; generalize hL6 : L3 ++ K.drop (i + 1) = L6 at hown6 ⊢; have H6 := Lib.hid (And.intro hown6 (And.intro hbel6 hL6)); clear hown6 hbel6 hL6)
     go_ret
     refine ⟨_, rfl, ?_, ?_⟩
     · have e : L6 = kidsV K i (.slice ka kn kc, .slice la ln lcp) (.slice ra rn rcc, .slice ra' rn' rcc') false := by
         rw [← H6.out.2.2]; unfold kidsV; rw [← H3.out.2.2.1, ← H2.out.2.2]; simp
       rw [← e]
       exact TreesOwn.lower H6.out.1 (by omega)
     · exact H1.out.1.trans (((HE3.out.2).trans H6.out.2.1).mono (by omega))
 | true =>
   go_upto_region 5 with (at_builtin; refine wpList_append_trees rfl _ _ rfl (w.heap.size + 1) _ _ L3 [(.slice ra rn rcc, .slice ra' rn' rcc')] rfl (World.ownsRow.alloc H3.out.1 _) rfl (KidsAt.one w3 _ _) (fun u hu => by simp [flatT] at hu; rcases hu with rfl | rfl <;> rfl) (by have := HLB3.out; simp; omega) (by have := HLO3.out; simp; omega) ?_; intro v4 w4 hown4 hbel4 _ hsh4; obtain ⟨a4, c4, rfl⟩ := hsh4; generalize hL4 : L3 ++ [(Value.slice ra rn rcc, Value.slice ra' rn' rcc')] = L4 at hown4 ⊢; have H4 := Lib.hid (And.intro hown4 (H3.out.2.1.trans (((Below.refl w3.heap.size w3).alloc (Nat.le_refl _) _).mono HLO3.out |>.trans hbel4))); have HL4 := Lib.hid hL4; clear hown4 hbel4 hL4)
   have hlb4 : L4.length ≤ 1048578 := by rw [← HL4.out]; have := HLB3.out; simp; omega
   have HLB4 := Lib.hid hlb4
   clear hlb4
   by_cases hci : cap = i + 1
   · have hd : K.drop (i + 1) = [] := List.drop_eq_nil_of_le (by omega)
     have HD := Lib.hid hd
     clear hd
     subst hci
     go_wp2_with (at_builtin; refine wpList_append_trees rfl _ _ rfl (w.heap.size + 1) _ _ L4 [] rfl H4.out.1 rfl (KidsAt.none' _ _ (fun _ => rfl)) (fun u hu => by simp [flatT] at hu) (by have := HLB4.out; simp; omega) (by have := H4.out.2.size; have := H1.out.2.2.1; omega) ?_; intro v6 w6 hown6 hbel6 _ hsh6; obtain ⟨a6, c6, rfl⟩ := hsh6; generalize hL6 : L4 ++ ([] : List (Value × Value)) = L6 at hown6 ⊢; have H6 := Lib.hid (And.intro hown6 (And.intro hbel6 hL6)); clear hown6 hbel6 hL6)
     go_ret
     refine ⟨_, rfl, ?_, ?_⟩
     · have e : L6 = kidsV K i (.slice ka kn kc, .slice la ln lcp) (.slice ra rn rcc, .slice ra' rn' rcc') true := by
         rw [← H6.out.2.2]; unfold kidsV; rw [HD.out]; rw [← HL4.out, ← H3.out.2.2.1, ← H2.out.2.2]; simp
       rw [← e]
       exact TreesOwn.lower H6.out.1 (by omega)
     · exact H1.out.1.trans (((H4.out.2).trans H6.out.2.1).mono (by omega))
   · go_wp2_with (at_builtin; refine wpList_append_trees rfl _ _ rfl (w.heap.size + 1) _ _ L4 (K.drop (i + 1)) rfl H4.out.1 rfl (HBK.out.1 _ (H1.out.1.trans ((H4.out.2).mono (by omega))) _) HBK.out.2 (by have := HLB4.out; simp; omega) (by have := H4.out.2.size; have := H1.out.2.2.1; omega) ?_; intro v6 w6 hown6 hbel6 _ hsh6; obtain ⟨a6, c6, rfl⟩ := hsh6; generalize hL6 : L4 ++ K.drop (i + 1) = L6 at hown6 ⊢; have H6 := Lib.hid (And.intro hown6 (And.intro hbel6 hL6)); clear hown6 hbel6 hL6)
     go_ret
     refine ⟨_, rfl, ?_, ?_⟩
     · have e : L6 = kidsV K i (.slice ka kn kc, .slice la ln lcp) (.slice ra rn rcc, .slice ra' rn' rcc') true := by
         rw [← H6.out.2.2]; unfold kidsV; rw [← HL4.out, ← H3.out.2.2.1, ← H2.out.2.2]; simp
       rw [← e]
       exact TreesOwn.lower H6.out.1 (by omega)
     · exact H1.out.1.trans (((H4.out.2).trans H6.out.2.1).mono (by omega))
end Go.Proofs.Ytananonjomfpkaa
