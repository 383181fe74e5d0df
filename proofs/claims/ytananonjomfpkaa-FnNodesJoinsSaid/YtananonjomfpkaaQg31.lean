/- The contract of the model's StandIn. -/
import Derived.Test.YtananonjomfpkaaQgS10
import Derived.Test.YtananonjomfpkaaQg28
/- The contract of removeBelow. -/
namespace Go.Proofs.Ytananonjomfpkaa
open Go.RowKit
theorem removeBelow_c (wide : Int) (hwide : 2 ≤ wide ∧ wide ≤ 6) : ∀ (n : Nat) (key : Int) (t : Tr), t.weight < n → t.weight ≤ 90000 → Tr.Lacks key t → ∀ (w : World) (F : Cells) (b gb : Nat) (gn sh : Value) (bo jo : Nat), Nd w F b t → SBox w gb gn bo jo sh wide → (∀ o, ¬ F gb o) → bo + n ≤ 800000000 → jo + n ≤ 800000000 →
   Calls Try.prog 121 #[.pointer (some ⟨gb, 0, none⟩), .pointer (some ⟨b, 0, none⟩), .int .i64 key] w (Repaired w F b gb gn (bo + (Tr.del (wide / 2) n key t).b) (jo + (Tr.del (wide / 2) n key t).j) sh wide (Tr.del (wide / 2) n key t).t) := by
 intro n
 induction n with
 | zero => intro key t ht; omega
 | succ n ih =>
   intro key t hn hw hl w F b gb gn sh bo jo h hg hgF hbo hjo
   obtain ⟨k, c⟩ := t
   by_cases h0 : c.length = 0
   · have hp := hl.leaf h0
     have hc : c = [] := List.length_eq_zero_iff.1 h0
     rw [Tr.del_leaf h0]
     subst hc
     have hk : k.length ≤ 100000 := by simp only [Tr.weight] at hw; omega
     exact removeLeaf_c key k hk (Tr.Well.keys hl.1) hp w F b gb gn sh bo jo wide h hg hgF
   · exact removeInner_c wide hwide n key k c hw hl h0 (fun key' u hu hlt => ih key' u (by omega) (by omega) hu) w F b gb gn sh bo jo h hg hgF hbo hjo
end Go.Proofs.Ytananonjomfpkaa
/- The contract of remove: a key is taken out of a shrinking tree. -/
namespace Go.Proofs.Ytananonjomfpkaa
open Go.RowKit
theorem Tr.Tops.full {k : List Int} {c : List Tr} (h : Tops (.mk k c)) (hk : k.length ≠ 0) : Full (.mk k c) := by
 obtain ⟨w, l, d, h1, h2⟩ := h
 refine ⟨w, 1, d, h1, Int.le_refl _, ?_⟩
 simp only [nodesB, Bool.and_eq_true, inB, decide_eq_true_eq] at h2 ⊢
 refine ⟨⟨?_, h2.1.2⟩, h2.2⟩
 have := h2.1.1
 omega
theorem Tr.Lacks.of_tops {key : Int} {t : Tr} (hw : Well t) (ht : Tops t) (hp : (t.path key).2 = true) : Lacks key t := by
 obtain ⟨k, c⟩ := t
 refine ⟨hw, Tops.full ht ?_, hp⟩
 intro hk
 obtain ⟨wide, l, d, h1, h2⟩ := ht
 have hk0 : k = [] := List.length_eq_zero_iff.1 hk
 subst hk0
 have hno : ¬ (place key [] < ([] : List Int).length ∧ ([] : List Int).getD (place key []) 0 = key) := by simp
 by_cases hc : c.length = 0
 · rw [path_leaf hno hc] at hp; cases hp
 · rcases (nodesB_parts h2).2 with ⟨h3, _⟩ | ⟨_, _, _, h4, _⟩
   · exact hc h3
   · simp at h4
structure Shrink (w : World) (gb : Nat) (wide : Int) (bo jo : Nat) (sh : Bool) (F : Cells) (b : Nat) (t : Tr) : Prop where
 box : SBox w gb (.pointer (some ⟨b, 0, none⟩)) bo jo (.bool sh) wide
 node : Nd w F b t
 apart : ∀ o, ¬ F gb o
def Removed (w : World) (gb : Nat) (wide : Int) (bo jo : Nat) (sh : Bool) (F : Cells) (t : Tr) (ok : Bool) (e : Ending) (w' : World) : Prop :=
 ∃ (F' : Cells) (b' : Nat), e = .returned (.bool ok) ∧ Shrink w' gb wide bo jo sh F' b' t ∧ (∀ x o, F' x o → F x o ∨ w.heap.size ≤ x) ∧ KeptF (fun x o => F x o ∨ x = gb) w w'
set_option maxRecDepth 100000 in
set_option maxHeartbeats 4000000 in
theorem remove_none_c (wide key : Int) (w : World) (gb : Nat) (bo jo : Nat) (sh : Bool) (F : Cells) (b : Nat) (t : Tr) (h : Shrink w gb wide bo jo sh F b t) (hwell : Tr.Well t) (hw : t.weight ≤ 90000) (hp : (t.path key).2 = false) :
   Calls Try.prog 96 #[.pointer (some ⟨gb, 0, none⟩), .int .i64 key] w (Removed w gb wide bo jo sh F t false) := by
 obtain ⟨hbox, hnd, hgF⟩ := h
 have hpath := pathTo_c hnd.nodeAt hwell (by omega) key w (Below.refl _ _) (Nat.le_refl _)
 rw [hp] at hpath
 obtain ⟨g0, g1, g2, g3, g4, g5, g6, g7, g8⟩ := hbox.cells
 have HP := Lib.hid hpath
 have HG := Lib.hid (And.intro hbox (And.intro hnd hgF))
 clear hbox hnd hgF hpath hwell hp
 go_enter Try.func96, Try.ntmps96
 go_wp2_with fail
 refine HP.out.mono ?_
 rintro e w1 ⟨v, rfl, hown, hb1⟩
 obtain ⟨va, vc, rfl⟩ := IntsOwn.shown hown
 have hk1 : KeptF (fun _ _ => False) w w1 := KeptF.of_below hb1 (Nat.le_refl _)
 have HK1 := Lib.hid hk1
 clear g0 g1 g2 g3 g4 g5 g6 g7 g8 hown hb1 hk1
 go_wp2_with fail
 refine bodyPost_ret (v := .bool false) (by simp [results, Try.results96, go_sem]) rfl ?_
 exact ⟨F, b, rfl, ⟨HK1.out.block' HG.out.1 (fun _ h => h), HG.out.2.1.keep HK1.out (fun _ _ _ h => h), HG.out.2.2⟩, fun x o h => .inl h, HK1.out.mono (fun _ _ _ h => h.elim)⟩
set_option maxRecDepth 100000 in
set_option maxHeartbeats 4000000 in
theorem remove_c (wide key : Int) (hwide : 2 ≤ wide ∧ wide ≤ 6) (w : World) (gb : Nat) (bo jo : Nat) (sh : Bool) (F : Cells) (b : Nat) (t : Tr) (h : Shrink w gb wide bo jo sh F b t) (hlack : Tr.Lacks key t) (hw : t.weight ≤ 90000) (hbo : bo + t.weight ≤ 700000000) (hjo : jo + t.weight ≤ 700000000) :
   Calls Try.prog 96 #[.pointer (some ⟨gb, 0, none⟩), .int .i64 key] w
     (Removed w gb wide (bo + (Tr.del (wide / 2) (t.weight + 1) key t).b) (jo + (Tr.del (wide / 2) (t.weight + 1) key t).j) (sh || Tr.delShrinks wide key t) F (Tr.delT wide key t) true) := by
 obtain ⟨hbox, hnd, hgF⟩ := h
 have hpath := pathTo_c hnd.nodeAt hlack.1 (by omega) key w (Below.refl _ _) (Nat.le_refl _)
 rw [hlack.2.2] at hpath
 have hglt := (Array.getElem?_eq_some_iff.1 hbox).1
 obtain ⟨g0, g1, g2, g3, g4, g5, g6, g7, g8⟩ := hbox.cells
 obtain ⟨⟨⟨uk, uc⟩, rb, rj⟩, hr⟩ : ∃ r, r = Tr.del (wide / 2) (t.weight + 1) key t := ⟨_, rfl⟩
 have hshr : Tr.delShrinks wide key t = decide (uk.length = 0 ∧ uc.length ≠ 0) := by unfold Tr.delShrinks; rw [← hr]; rfl
 have hdt : Tr.delT wide key t = if uk.length = 0 ∧ uc.length ≠ 0 then Tr.kidAt uc 0 else .mk uk uc := by unfold Tr.delT; rw [← hr]; rfl
 rw [← hr]
 dsimp only
 obtain ⟨SH, hSH⟩ : ∃ z, z = (sh || Tr.delShrinks wide key t) := ⟨_, rfl⟩
 obtain ⟨DT, hDT⟩ : ∃ z, z = Tr.delT wide key t := ⟨_, rfl⟩
 rw [← hSH, ← hDT]
 rw [hshr] at hSH
 rw [hdt] at hDT
 have HP := Lib.hid hpath
 have HG := Lib.hid (And.intro hbox (And.intro hnd hgF))
 have HL := Lib.hid hlack
 have HR := Lib.hid hr
 have HD := Lib.hid (And.intro hSH hDT)
 clear hbox hnd hgF hpath hlack hr hshr hdt hSH hDT
 go_enter Try.func96, Try.ntmps96
 go_wp2_with fail
 refine HP.out.mono ?_
 rintro e w1 ⟨v, rfl, hown, hb1⟩
 obtain ⟨va, vc, rfl⟩ := IntsOwn.shown hown
 have hk1 : KeptF (fun _ _ => False) w w1 := KeptF.of_below hb1 (Nat.le_refl _)
 have hs1 := hk1.size
 have hg1 : SBox w1 gb (.pointer (some ⟨b, 0, none⟩)) bo jo (.bool sh) wide := hk1.block' HG.out.1 (fun _ h => h)
 clear g0 g1 g2 g3 g4 g5 g6 g7 g8 hown hb1
 obtain ⟨g0, g1, g2, g3, g4, g5, g6, g7, g8⟩ := hg1.cells
 have hcall := removeBelow_c wide hwide (t.weight + 1) key t (by omega) hw HL.out w1 F b gb _ _ bo jo (HG.out.2.1.keep hk1 (fun _ _ _ h => h)) hg1 HG.out.2.2 (by omega) (by omega)
 rw [← HR.out] at hcall
 have HC := Lib.hid hcall
 have H1 := Lib.hid hk1
 clear hk1 hg1 hcall
 go_wp2_with fail
 refine HC.out.mono ?_
 rintro e w2 ⟨F2, rfl, hnd2, hF2, hk2, hg2⟩
 have hF2' : ∀ q r, F2 q r → F q r ∨ w.heap.size ≤ q := fun q r h => (hF2 q r h).imp id (fun h => by omega)
 have hkt : KeptF (fun q r => F q r ∨ q = gb) w w2 := (H1.out.mono (G := fun q r => F q r ∨ q = gb) (fun _ _ _ h => h.elim)).trans (hk2.mono (fun q r _ h => .inl h))
 have hgF2 : ∀ o, ¬ F2 gb o := fun o h => (hF2' gb o h).elim (HG.out.2.2 o) (fun h => by omega)
 obtain ⟨kidsR, FkR, FcR, kvR, cvR, rfl, hboxR, hkrR, hcrR, hkR, sbR, skR, scR, ssR, apR, ltR⟩ := hnd2.parts
 clear g0 g1 g2 g3 g4 g5 g6 g7 g8
 obtain ⟨g0, g1, g2, g3, g4, g5, g6, g7, g8⟩ := hg2.cells
 obtain ⟨_, kaR, kcR, rfl, k1, k2, k3, k4⟩ := id hkrR
 obtain ⟨_, caR, ccR, rfl, c1, c2, c3, c4⟩ := id hcrR
 simp only [List.length_map] at hboxR c1
 unfold maxLen at c2
 have hsepR := sep_iff.1 apR
 by_cases hA : uk.length = 0
 · by_cases hB : kidsR.length = 0
   · have hSH : SH = sh := by rw [HD.out.1]; simp [hB]
     have hDT : DT = .mk uk (kidsR.map KidD.t) := by rw [HD.out.2, if_neg (by simp [hB])]
     have HSD := Lib.hid (And.intro hSH hDT)
     rw [hA, hB] at hboxR
     obtain ⟨x1, x2, x3, x4⟩ := box2 hboxR
     have HX := Lib.hid (And.intro hnd2 (And.intro hF2' (And.intro hkt (And.intro hgF2 hg2))))
     clear hnd2 hF2 hF2' hkt hgF2 hg2 hk2 hboxR hkrR hcrR hkR sbR skR scR ssR apR ltR hsepR k1 k2 k3 k4 c1 c3 c4 hSH hDT hA hB
     go_wp2_with fail
     refine bodyPost_ret (v := .bool true) (by simp [results, Try.results96, go_sem]) rfl ?_
     rw [HSD.out.1, HSD.out.2]
     exact ⟨F2, b, rfl, ⟨HX.out.2.2.2.2, HX.out.1, HX.out.2.2.2.1⟩, HX.out.2.1, HX.out.2.2.1⟩
   · obtain ⟨m, hm⟩ : ∃ m, kidsR.length = m + 1 := ⟨kidsR.length - 1, by omega⟩
     rcases c4 with c4 | ⟨cb, co, rfl, c5, c6⟩
     · omega
     obtain ⟨x, xs, rfl⟩ : ∃ x xs, kidsR = x :: xs := by cases kidsR with | nil => simp at hm | cons x xs => exact ⟨x, xs, rfl⟩
     obtain ⟨p, FX, tx⟩ := x
     have hcell : w2.cell? ⟨cb, co, none⟩ = some (.pointer (some ⟨p, 0, none⟩)) := by
       have h := c6 0 (by simp)
       rw [Nat.add_zero] at h
       rw [h]; simp [KidD.ptr]
     have hSH : SH = true := by rw [HD.out.1, decide_eq_true ⟨hA, by simp⟩, Bool.or_true]
     have hDT : DT = tx := by rw [HD.out.2, if_pos ⟨hA, by simp⟩, Tr.kidAt_get (by simp)]; simp
     have HSD := Lib.hid (And.intro hSH hDT)
     rw [hA, hm] at hboxR
     obtain ⟨x1, x2, x3, x4⟩ := box2 hboxR
     have hm0 : ((m + 1 : Nat) : Int) > 0 := by omega
     have hm9 : ((m + 1 : Nat) : Int) ≤ 9223372036854775807 := by omega
     have hndX := hkR (⟨p, FX, tx⟩ : KidD) (by simp)
     have hFX : ∀ q r, FX q r → F2 q r := ssR (⟨p, FX, tx⟩ : KidD) (by simp)
     have HX := Lib.hid (And.intro hndX (And.intro hF2' (And.intro hkt (And.intro hgF2 (And.intro hg2 hFX)))))
     clear hnd2 hF2 hF2' hkt hgF2 hg2 hk2 hboxR hkrR hcrR hkR sbR skR scR ssR apR ltR hsepR k1 k2 k3 k4 c3 c5 c6 hSH hDT hA hB hndX hFX hm
     go_wp2_with fail
     obtain ⟨hndX, hF2', hkt, hgF2, hg2, hFX⟩ := HX.out
     refine bodyPost_ret (v := .bool true) (by simp [results, Try.results96, go_sem]) rfl ?_
     rw [HSD.out.1, HSD.out.2]
     have hk5 : KeptF (boxOf gb) w2 ((w2.setCell ⟨gb, 0, none⟩ (.pointer (some ⟨p, 0, none⟩))).setCell ⟨gb, 3, none⟩ (.bool true)) :=
       (KeptF.setCell (F := boxOf gb) w2 gb 0 _ rfl).trans (KeptF.setCell _ _ _ _ (.inl rfl))
     refine ⟨FX, p, rfl, ⟨?_, hndX.keep hk5 (fun q r h g => hgF2 r (by have g' : q = gb := g; exact g' ▸ hFX q r h)), fun o h => hgF2 o (hFX gb o h)⟩, fun q r h => hF2' q r (hFX q r h), hkt.trans (hk5.mono (fun q r _ h => .inl (.inr h)))⟩
     have e1 := set_blk (o := 0) (.pointer (some ⟨p, 0, none⟩)) hg2
     have e2 := set_blk (o := 3) (.bool true) e1
     unfold SBox
     rw [e2]
     simp
 · have hSH : SH = sh := by rw [HD.out.1]; simp [hA]
   have hDT : DT = .mk uk (kidsR.map KidD.t) := by rw [HD.out.2, if_neg (by simp [hA])]
   have HSD := Lib.hid (And.intro hSH hDT)
   obtain ⟨m, hm⟩ : ∃ m, uk.length = m + 1 := ⟨uk.length - 1, by omega⟩
   rw [hm] at hboxR
   obtain ⟨x1, x2, x3, x4⟩ := box2 hboxR
   have hm0 : (((m + 1 : Nat) : Int) == 0) = false := by rw [beq_eq_false_iff_ne]; omega
   have HX := Lib.hid (And.intro hnd2 (And.intro hF2' (And.intro hkt (And.intro hgF2 hg2))))
   clear hnd2 hF2 hF2' hkt hgF2 hg2 hk2 hboxR hkrR hcrR hkR sbR skR scR ssR apR ltR hsepR k1 k2 k3 k4 c3 c4 hSH hDT hA hm
   go_wp2_with fail
   refine bodyPost_ret (v := .bool true) (by simp [results, Try.results96, go_sem]) rfl ?_
   rw [HSD.out.1, HSD.out.2]
   exact ⟨F2, b, rfl, ⟨HX.out.2.2.2.2, HX.out.1, HX.out.2.2.2.1⟩, HX.out.2.1, HX.out.2.2.1⟩
end Go.Proofs.Ytananonjomfpkaa
/- The contract of shrunkBy. -/
namespace Go.Proofs.Ytananonjomfpkaa
open Go.RowKit
def Tr.lacksB (wide key : Int) (t : Tr) : Bool := Tr.validB wide t && (t.path key).2
def ShrunkOf (w : World) (wide key : Int) (t : Tr) (e : Ending) (w' : World) : Prop :=
 (Tr.lacksB wide key t = false ∧ e = .returned (.tuple #[.pointer none, .bool false]) ∧ Below w.heap.size w w') ∨
 (Tr.lacksB wide key t = true ∧ ∃ (gb b : Nat) (F : Cells), e = .returned (.tuple #[.pointer (some ⟨gb, 0, none⟩), .bool true]) ∧
   Shrink w' gb wide (Tr.del (wide / 2) (t.weight + 1) key t).b (Tr.del (wide / 2) (t.weight + 1) key t).j (Tr.delShrinks wide key t) F b (Tr.delT wide key t) ∧
   (∀ x o, F x o → w.heap.size ≤ x) ∧ w.heap.size ≤ gb ∧ Below w.heap.size w w')
end Go.Proofs.Ytananonjomfpkaa
/- The contract of the program's DeleteKey. -/
namespace Go.Proofs.Ytananonjomfpkaa
open Go.RowKit
def Tr.delKeyT (wide key : Int) (t : Tr) : Tr := if Tr.lacksB wide key t = true then Tr.delT wide key t else .mk [] []
end Go.Proofs.Ytananonjomfpkaa
/- The contract of the model's StandIn. -/
namespace Go.Proofs.Ytananonjomfpkaa
open Go.RowKit
end Go.Proofs.Ytananonjomfpkaa
