/- The contracts, over trees in memory, of the program's SplitsBy and GrowsBy. -/
import Derived.Test.YtananonjomfpkaaQfS16
import Derived.Test.YtananonjomfpkaaQf23
/- The contract of removeBelow. -/
namespace Go.Proofs.Ytananonjomfpkaa
open Go.RowKit
theorem removeBelow_c (wide : Int) (hwide : 2 ≤ wide ∧ wide ≤ 6) : ∀ (n : Nat) (key : Int) (t : Tr), t.weight < n → t.weight ≤ 90000 → Tr.Lacks key t → ∀ (w : World) (F : Cells) (b gb : Nat) (gn sh : Value) (bo jo : Nat), Nd w F b t → SBox w gb gn bo jo sh wide → (∀ o, ¬ F gb o) → bo + n ≤ 800000000 → jo + n ≤ 800000000 →
   Calls Try.prog 121 #[.pointer (some ⟨gb, 0, none⟩), .pointer (some ⟨b, 0, none⟩), .int .i64 key] w (Repaired w F b gb gn (bo + (Tr.del (wide / 2) n key t).b) (jo + (Tr.del (wide / 2) n key t).j) sh wide (Tr.del (wide / 2) n key t).t) := by
 intro n
 induction n with
 | zero => intro key t ht; omega
 | succ n ih =>
   intro key t hn hw hl w F b gb gn sh bo jo h hg hgF hbo hjo
   obtain ⟨k, c⟩ := t
   by_cases h0 : c.length = 0
   · have hp := hl.leaf h0
     have hc : c = [] := List.length_eq_zero_iff.1 h0
     rw [Tr.del_leaf h0]
     subst hc
     have hk : k.length ≤ 100000 := by simp only [Tr.weight] at hw; omega
     exact removeLeaf_c key k hk (Tr.Well.keys hl.1) hp w F b gb gn sh bo jo wide h hg hgF
   · exact removeInner_c wide hwide n key k c hw hl h0 (fun key' u hu hlt => ih key' u (by omega) (by omega) hu) w F b gb gn sh bo jo h hg hgF hbo hjo
end Go.Proofs.Ytananonjomfpkaa
/- The contract of remove: a key is taken out of a shrinking tree. -/
namespace Go.Proofs.Ytananonjomfpkaa
open Go.RowKit
theorem Tr.Tops.full {k : List Int} {c : List Tr} (h : Tops (.mk k c)) (hk : k.length ≠ 0) : Full (.mk k c) := by
 obtain ⟨w, l, d, h1, h2⟩ := h
 refine ⟨w, 1, d, h1, Int.le_refl _, ?_⟩
 simp only [nodesB, Bool.and_eq_true, inB, decide_eq_true_eq] at h2 ⊢
 refine ⟨⟨?_, h2.1.2⟩, h2.2⟩
 have := h2.1.1
 omega
theorem Tr.Lacks.of_tops {key : Int} {t : Tr} (hw : Well t) (ht : Tops t) (hp : (t.path key).2 = true) : Lacks key t := by
 obtain ⟨k, c⟩ := t
 refine ⟨hw, Tops.full ht ?_, hp⟩
 intro hk
 obtain ⟨wide, l, d, h1, h2⟩ := ht
 have hk0 : k = [] := List.length_eq_zero_iff.1 hk
 subst hk0
 have hno : ¬ (place key [] < ([] : List Int).length ∧ ([] : List Int).getD (place key []) 0 = key) := by simp
 by_cases hc : c.length = 0
 · rw [path_leaf hno hc] at hp; cases hp
 · rcases (nodesB_parts h2).2 with ⟨h3, _⟩ | ⟨_, _, _, h4, _⟩
   · exact hc h3
   · simp at h4
structure Shrink (w : World) (gb : Nat) (wide : Int) (bo jo : Nat) (sh : Bool) (F : Cells) (b : Nat) (t : Tr) : Prop where
 box : SBox w gb (.pointer (some ⟨b, 0, none⟩)) bo jo (.bool sh) wide
 node : Nd w F b t
 apart : ∀ o, ¬ F gb o
def Removed (w : World) (gb : Nat) (wide : Int) (bo jo : Nat) (sh : Bool) (F : Cells) (t : Tr) (ok : Bool) (e : Ending) (w' : World) : Prop :=
 ∃ (F' : Cells) (b' : Nat), e = .returned (.bool ok) ∧ Shrink w' gb wide bo jo sh F' b' t ∧ (∀ x o, F' x o → F x o ∨ w.heap.size ≤ x) ∧ KeptF (fun x o => F x o ∨ x = gb) w w'
set_option maxRecDepth 100000 in
set_option maxHeartbeats 4000000 in
theorem remove_none_c (wide key : Int) (w : World) (gb : Nat) (bo jo : Nat) (sh : Bool) (F : Cells) (b : Nat) (t : Tr) (h : Shrink w gb wide bo jo sh F b t) (hwell : Tr.Well t) (hw : t.weight ≤ 90000) (hp : (t.path key).2 = false) :
   Calls Try.prog 96 #[.pointer (some ⟨gb, 0, none⟩), .int .i64 key] w (Removed w gb wide bo jo sh F t false) := by
 obtain ⟨hbox, hnd, hgF⟩ := h
 have hpath := pathTo_c hnd.nodeAt hwell (by omega) key w (Below.refl _ _) (Nat.le_refl _)
 rw [hp] at hpath
 obtain ⟨g0, g1, g2, g3, g4, g5, g6, g7, g8⟩ := hbox.cells
 have HP := Lib.hid hpath
 have HG := Lib.hid (And.intro hbox (And.intro hnd hgF))
 clear hbox hnd hgF hpath hwell hp
 go_enter Try.func96, Try.ntmps96
 go_wp2_with fail
 refine HP.out.mono ?_
 rintro e w1 ⟨v, rfl, hown, hb1⟩
 obtain ⟨va, vc, rfl⟩ := IntsOwn.shown hown
 have hk1 : KeptF (fun _ _ => False) w w1 := KeptF.of_below hb1 (Nat.le_refl _)
 have HK1 := Lib.hid hk1
 clear g0 g1 g2 g3 g4 g5 g6 g7 g8 hown hb1 hk1
 go_wp2_with fail
 refine bodyPost_ret (v := .bool false) (by simp [results, Try.results96, go_sem]) rfl ?_
 exact ⟨F, b, rfl, ⟨HK1.out.block' HG.out.1 (fun _ h => h), HG.out.2.1.keep HK1.out (fun _ _ _ h => h), HG.out.2.2⟩, fun x o h => .inl h, HK1.out.mono (fun _ _ _ h => h.elim)⟩
set_option maxRecDepth 100000 in
set_option maxHeartbeats 4000000 in
theorem remove_c (wide key : Int) (hwide : 2 ≤ wide ∧ wide ≤ 6) (w : World) (gb : Nat) (bo jo : Nat) (sh : Bool) (F : Cells) (b : Nat) (t : Tr) (h : Shrink w gb wide bo jo sh F b t) (hlack : Tr.Lacks key t) (hw : t.weight ≤ 90000) (hbo : bo + t.weight ≤ 700000000) (hjo : jo + t.weight ≤ 700000000) :
   Calls Try.prog 96 #[.pointer (some ⟨gb, 0, none⟩), .int .i64 key] w
     (Removed w gb wide (bo + (Tr.del (wide / 2) (t.weight + 1) key t).b) (jo + (Tr.del (wide / 2) (t.weight + 1) key t).j) (sh || Tr.delShrinks wide key t) F (Tr.delT wide key t) true) := by
 obtain ⟨hbox, hnd, hgF⟩ := h
 have hpath := pathTo_c hnd.nodeAt hlack.1 (by omega) key w (Below.refl _ _) (Nat.le_refl _)
 rw [hlack.2.2] at hpath
 have hglt := (Array.getElem?_eq_some_iff.1 hbox).1
 obtain ⟨g0, g1, g2, g3, g4, g5, g6, g7, g8⟩ := hbox.cells
 obtain ⟨⟨⟨uk, uc⟩, rb, rj⟩, hr⟩ : ∃ r, r = Tr.del (wide / 2) (t.weight + 1) key t := ⟨_, rfl⟩
 have hshr : Tr.delShrinks wide key t = decide (uk.length = 0 ∧ uc.length ≠ 0) := by unfold Tr.delShrinks; rw [← hr]; rfl
 have hdt : Tr.delT wide key t = if uk.length = 0 ∧ uc.length ≠ 0 then Tr.kidAt uc 0 else .mk uk uc := by unfold Tr.delT; rw [← hr]; rfl
 rw [← hr]
 dsimp only
 obtain ⟨SH, hSH⟩ : ∃ z, z = (sh || Tr.delShrinks wide key t) := ⟨_, rfl⟩
 obtain ⟨DT, hDT⟩ : ∃ z, z = Tr.delT wide key t := ⟨_, rfl⟩
 rw [← hSH, ← hDT]
 rw [hshr] at hSH
 rw [hdt] at hDT
 have HP := Lib.hid hpath
 have HG := Lib.hid (And.intro hbox (And.intro hnd hgF))
 have HL := Lib.hid hlack
 have HR := Lib.hid hr
 have HD := Lib.hid (And.intro hSH hDT)
 clear hbox hnd hgF hpath hlack hr hshr hdt hSH hDT
 go_enter Try.func96, Try.ntmps96
 go_wp2_with fail
 refine HP.out.mono ?_
 rintro e w1 ⟨v, rfl, hown, hb1⟩
 obtain ⟨va, vc, rfl⟩ := IntsOwn.shown hown
 have hk1 : KeptF (fun _ _ => False) w w1 := KeptF.of_below hb1 (Nat.le_refl _)
 have hs1 := hk1.size
 have hg1 : SBox w1 gb (.pointer (some ⟨b, 0, none⟩)) bo jo (.bool sh) wide := hk1.block' HG.out.1 (fun _ h => h)
 clear g0 g1 g2 g3 g4 g5 g6 g7 g8 hown hb1
 obtain ⟨g0, g1, g2, g3, g4, g5, g6, g7, g8⟩ := hg1.cells
 have hcall := removeBelow_c wide hwide (t.weight + 1) key t (by omega) hw HL.out w1 F b gb _ _ bo jo (HG.out.2.1.keep hk1 (fun _ _ _ h => h)) hg1 HG.out.2.2 (by omega) (by omega)
 rw [← HR.out] at hcall
 have HC := Lib.hid hcall
 have H1 := Lib.hid hk1
 clear hk1 hg1 hcall
 go_wp2_with fail
 refine HC.out.mono ?_
 rintro e w2 ⟨F2, rfl, hnd2, hF2, hk2, hg2⟩
 have hF2' : ∀ q r, F2 q r → F q r ∨ w.heap.size ≤ q := fun q r h => (hF2 q r h).imp id (fun h => by omega)
 have hkt : KeptF (fun q r => F q r ∨ q = gb) w w2 := (H1.out.mono (G := fun q r => F q r ∨ q = gb) (fun _ _ _ h => h.elim)).trans (hk2.mono (fun q r _ h => .inl h))
 have hgF2 : ∀ o, ¬ F2 gb o := fun o h => (hF2' gb o h).elim (HG.out.2.2 o) (fun h => by omega)
 obtain ⟨kidsR, FkR, FcR, kvR, cvR, rfl, hboxR, hkrR, hcrR, hkR, sbR, skR, scR, ssR, apR, ltR⟩ := hnd2.parts
 clear g0 g1 g2 g3 g4 g5 g6 g7 g8
 obtain ⟨g0, g1, g2, g3, g4, g5, g6, g7, g8⟩ := hg2.cells
 obtain ⟨_, kaR, kcR, rfl, k1, k2, k3, k4⟩ := id hkrR
 obtain ⟨_, caR, ccR, rfl, c1, c2, c3, c4⟩ := id hcrR
 simp only [List.length_map] at hboxR c1
 unfold maxLen at c2
 have hsepR := sep_iff.1 apR
 by_cases hA : uk.length = 0
 · by_cases hB : kidsR.length = 0
   · have hSH : SH = sh := by rw [HD.out.1]; simp [hB]
     have hDT : DT = .mk uk (kidsR.map KidD.t) := by rw [HD.out.2, if_neg (by simp [hB])]
     have HSD := Lib.hid (And.intro hSH hDT)
     rw [hA, hB] at hboxR
     obtain ⟨x1, x2, x3, x4⟩ := box2 hboxR
     have HX := Lib.hid (And.intro hnd2 (And.intro hF2' (And.intro hkt (And.intro hgF2 hg2))))
     clear hnd2 hF2 hF2' hkt hgF2 hg2 hk2 hboxR hkrR hcrR hkR sbR skR scR ssR apR ltR hsepR k1 k2 k3 k4 c1 c3 c4 hSH hDT hA hB
     go_wp2_with fail
     refine bodyPost_ret (v := .bool true) (by simp [results, Try.results96, go_sem]) rfl ?_
     rw [HSD.out.1, HSD.out.2]
     exact ⟨F2, b, rfl, ⟨HX.out.2.2.2.2, HX.out.1, HX.out.2.2.2.1⟩, HX.out.2.1, HX.out.2.2.1⟩
   · obtain ⟨m, hm⟩ : ∃ m, kidsR.length = m + 1 := ⟨kidsR.length - 1, by omega⟩
     rcases c4 with c4 | ⟨cb, co, rfl, c5, c6⟩
     · omega
     obtain ⟨x, xs, rfl⟩ : ∃ x xs, kidsR = x :: xs := by cases kidsR with | nil => simp at hm | cons x xs => exact ⟨x, xs, rfl⟩
     obtain ⟨p, FX, tx⟩ := x
     have hcell : w2.cell? ⟨cb, co, none⟩ = some (.pointer (some ⟨p, 0, none⟩)) := by
       have h := c6 0 (by simp)
       rw [Nat.add_zero] at h
       rw [h]; simp [KidD.ptr]
     have hSH : SH = true := by rw [HD.out.1, decide_eq_true ⟨hA, by simp⟩, Bool.or_true]
     have hDT : DT = tx := by rw [HD.out.2, if_pos ⟨hA, by simp⟩, Tr.kidAt_get (by simp)]; simp
     have HSD := Lib.hid (And.intro hSH hDT)
     rw [hA, hm] at hboxR
     obtain ⟨x1, x2, x3, x4⟩ := box2 hboxR
     have hm0 : ((m + 1 : Nat) : Int) > 0 := by omega
     have hm9 : ((m + 1 : Nat) : Int) ≤ 9223372036854775807 := by omega
     have hndX := hkR (⟨p, FX, tx⟩ : KidD) (by simp)
     have hFX : ∀ q r, FX q r → F2 q r := ssR (⟨p, FX, tx⟩ : KidD) (by simp)
     have HX := Lib.hid (And.intro hndX (And.intro hF2' (And.intro hkt (And.intro hgF2 (And.intro hg2 hFX)))))
     clear hnd2 hF2 hF2' hkt hgF2 hg2 hk2 hboxR hkrR hcrR hkR sbR skR scR ssR apR ltR hsepR k1 k2 k3 k4 c3 c5 c6 hSH hDT hA hB hndX hFX hm
     go_wp2_with fail
     obtain ⟨hndX, hF2', hkt, hgF2, hg2, hFX⟩ := HX.out
     refine bodyPost_ret (v := .bool true) (by simp [results, Try.results96, go_sem]) rfl ?_
     rw [HSD.out.1, HSD.out.2]
     have hk5 : KeptF (boxOf gb) w2 ((w2.setCell ⟨gb, 0, none⟩ (.pointer (some ⟨p, 0, none⟩))).setCell ⟨gb, 3, none⟩ (.bool true)) :=
       (KeptF.setCell (F := boxOf gb) w2 gb 0 _ rfl).trans (KeptF.setCell _ _ _ _ (.inl rfl))
     refine ⟨FX, p, rfl, ⟨?_, hndX.keep hk5 (fun q r h g => hgF2 r (by have g' : q = gb := g; exact g' ▸ hFX q r h)), fun o h => hgF2 o (hFX gb o h)⟩, fun q r h => hF2' q r (hFX q r h), hkt.trans (hk5.mono (fun q r _ h => .inl (.inr h)))⟩
     have e1 := set_blk (o := 0) (.pointer (some ⟨p, 0, none⟩)) hg2
     have e2 := set_blk (o := 3) (.bool true) e1
     unfold SBox
     rw [e2]
     simp
 · have hSH : SH = sh := by rw [HD.out.1]; simp [hA]
   have hDT : DT = .mk uk (kidsR.map KidD.t) := by rw [HD.out.2, if_neg (by simp [hA])]
   have HSD := Lib.hid (And.intro hSH hDT)
   obtain ⟨m, hm⟩ : ∃ m, uk.length = m + 1 := ⟨uk.length - 1, by omega⟩
   rw [hm] at hboxR
   obtain ⟨x1, x2, x3, x4⟩ := box2 hboxR
   have hm0 : (((m + 1 : Nat) : Int) == 0) = false := by rw [beq_eq_false_iff_ne]; omega
   have HX := Lib.hid (And.intro hnd2 (And.intro hF2' (And.intro hkt (And.intro hgF2 hg2))))
   clear hnd2 hF2 hF2' hkt hgF2 hg2 hk2 hboxR hkrR hcrR hkR sbR skR scR ssR apR ltR hsepR k1 k2 k3 k4 c3 c4 hSH hDT hA hm
   go_wp2_with fail
   refine bodyPost_ret (v := .bool true) (by simp [results, Try.results96, go_sem]) rfl ?_
   rw [HSD.out.1, HSD.out.2]
   exact ⟨F2, b, rfl, ⟨HX.out.2.2.2.2, HX.out.1, HX.out.2.2.2.1⟩, HX.out.2.1, HX.out.2.2.1⟩
end Go.Proofs.Ytananonjomfpkaa
/- The contract of shrunkBy. -/
namespace Go.Proofs.Ytananonjomfpkaa
open Go.RowKit
def Tr.lacksB (wide key : Int) (t : Tr) : Bool := Tr.validB wide t && (t.path key).2
def ShrunkOf (w : World) (wide key : Int) (t : Tr) (e : Ending) (w' : World) : Prop :=
 (Tr.lacksB wide key t = false ∧ e = .returned (.tuple #[.pointer none, .bool false]) ∧ Below w.heap.size w w') ∨
 (Tr.lacksB wide key t = true ∧ ∃ (gb b : Nat) (F : Cells), e = .returned (.tuple #[.pointer (some ⟨gb, 0, none⟩), .bool true]) ∧
   Shrink w' gb wide (Tr.del (wide / 2) (t.weight + 1) key t).b (Tr.del (wide / 2) (t.weight + 1) key t).j (Tr.delShrinks wide key t) F b (Tr.delT wide key t) ∧
   (∀ x o, F x o → w.heap.size ≤ x) ∧ w.heap.size ≤ gb ∧ Below w.heap.size w w')
set_option maxRecDepth 100000 in
set_option maxHeartbeats 4000000 in
theorem shrunkBy_c {w : World} {B : Nat} {kv cv : Value} {t : Tr} (ht : TreeIn w B kv cv t) (hw : t.weight ≤ 1048576) (wide key : Int) (hn1 : -9223372036854775808 ≤ wide) (hn2 : wide ≤ 9223372036854775807) (w' : World) (hbw : Below B w w') (hB : B ≤ w'.heap.size) :
   Calls Try.prog 55 #[.agg #[kv, cv], .int .i64 wide, .int .i64 key] w' (ShrunkOf w' wide key t) := by
 obtain ⟨a5, n5, m5, a6, n6, m6, rfl, rfl⟩ := ht.slices
 obtain ⟨W1, hW1⟩ : ∃ W1, W1 = w'.alloc (.cells #[.slice a5 n5 m5, .slice a6 n6 m6] 26) := ⟨_, rfl⟩
 have hs1 : W1.heap.size = w'.heap.size + 1 := by rw [hW1]; simp
 have hb1 : Below w'.heap.size w' W1 := by rw [hW1]; exact (Below.refl _ _).alloc (Nat.le_refl _) _
 have k0 : W1.heap[w'.heap.size]? = some (.cells #[.slice a5 n5 m5, .slice a6 n6 m6] 26 (0, 0)) := by rw [hW1, new_blk]
 obtain ⟨x1, x2, x3, x4⟩ := box2 k0
 have HT := Lib.hid ht
 have HBW := Lib.hid hbw
 have HW1 := Lib.hid hW1
 have H1 := Lib.hid (And.intro hb1 k0)
 clear ht hbw hW1 hb1 k0
 go_enter Try.func55, Try.ntmps55
 go_wp2_with fail
 rw [← HW1.out]
 refine (impl_valid _ _ _ _ _ wide HT.out hw hn1 hn2 W1 (HBW.out.trans (H1.out.1.mono hB)) (by omega)).mono ?_
 rintro e w2 ⟨rfl, hb2⟩
 have hs2 := hb2.size
 clear x1 x2 x3 x4
 have j0 := (hb2.block _ (by omega)).trans H1.out.2
 obtain ⟨x1, x2, x3, x4⟩ := box2 j0
 have hb2' := H1.out.1.trans (hb2.mono (by omega))
 have H2 := Lib.hid (And.intro hb2' j0)
 have HB2 := Lib.hid (HBW.out.trans (hb2'.mono hB))
 clear hb2 hb2' j0
 cases hv : Tr.validB wide t with
 | false =>
   have HA := Lib.hid (show Tr.lacksB wide key t = false by simp [Tr.lacksB, hv])
   clear hv
   go_wp2_with fail
   refine bodyPost_ret (v := .tuple #[.pointer none, .bool false]) (by simp [results, Try.results55, go_sem]) rfl (.inl ⟨HA.out, rfl, H2.out.1⟩)
 | true =>
 have hsmall := Tr.valid_small hv
 have HV := Lib.hid hv
 clear hv
 go_wp2_with fail
 refine (plant_nd HT.out hw w2 HB2.out (by omega)).mono ?_
 rintro e w5 ⟨b, rfl, hnd, hb5⟩
 have hs5 := hb5.size
 obtain ⟨W6, hW6⟩ : ∃ W6, W6 = w5.alloc (.cells #[.pointer (some ⟨b, 0, none⟩), .int .i64 0, .int .i64 0, .bool false, .int .i64 wide] 72) := ⟨_, rfl⟩
 have hs6 : W6.heap.size = w5.heap.size + 1 := by rw [hW6]; simp
 have hb6 : Below w5.heap.size w5 W6 := by rw [hW6]; exact (Below.refl _ _).alloc (Nat.le_refl _) _
 have hk6 : KeptF (fun _ _ => False) w5 W6 := KeptF.of_below hb6 (Nat.le_refl _)
 have hg6 : SBox W6 w5.heap.size (.pointer (some ⟨b, 0, none⟩)) 0 0 (.bool false) wide := by unfold SBox; rw [hW6, new_blk]; rfl
 have hsh : Shrink W6 w5.heap.size wide 0 0 false (span w2.heap.size w5.heap.size) b t := ⟨hg6, hnd.keep hk6 (fun _ _ _ h => h), fun o h => by have := h.2; omega⟩
 have HS := Lib.hid hsh
 have HW6 := Lib.hid hW6
 have H6 := Lib.hid (H2.out.1.trans ((hb5.mono (by omega)).trans (hb6.mono (by omega))))
 clear hsh hg6 hk6 hb6 hW6 hnd hb5 x1 x2 x3 x4
 cases hp : (t.path key).2 with
 | false =>
   have hcall := remove_none_c wide key W6 w5.heap.size 0 0 false _ b t HS.out (Tr.valid_well HV.out) (by omega) hp
   have HC := Lib.hid hcall
   have HA := Lib.hid (show Tr.lacksB wide key t = false by simp [Tr.lacksB, hp])
   clear hcall hp
   go_wp2_with fail
   rw [← HW6.out]
   refine HC.out.mono ?_
   rintro e w7 ⟨F', b', rfl, hgr, hF', hk7⟩
   have H7 := Lib.hid (And.intro hgr (And.intro hF' hk7))
   clear hgr hF' hk7
   go_wp2_with fail
   refine bodyPost_ret (v := .tuple #[.pointer none, .bool false]) (by simp [results, Try.results55, go_sem]) rfl (.inl ⟨HA.out, rfl, ?_⟩)
   exact H6.out.trans (H7.out.2.2.below (by omega) (fun x o h => by
     rcases h with h | h
     · have := h.1; omega
     · omega))
 | true =>
   have hcall := remove_c wide key (Tr.valid_wide HV.out) W6 w5.heap.size 0 0 false _ b t HS.out (Tr.Lacks.of_tops (Tr.valid_well HV.out) (Tr.Tops.of_valid HV.out (Tr.valid_wide HV.out).1) hp) (by omega) (by omega) (by omega)
   have HC := Lib.hid hcall
   have HA := Lib.hid (show Tr.lacksB wide key t = true by simp [Tr.lacksB, hp, HV.out])
   clear hcall hp
   go_wp2_with fail
   rw [← HW6.out]
   refine HC.out.mono ?_
   rintro e w7 ⟨F', b', rfl, hgr, hF', hk7⟩
   simp only [Bool.false_or, Nat.zero_add] at hgr
   have H7 := Lib.hid (And.intro hgr (And.intro hF' hk7))
   clear hgr hF' hk7
   go_wp2_with fail
   refine bodyPost_ret (v := .tuple #[.pointer (some ⟨w5.heap.size, 0, none⟩), .bool true]) (by simp [results, Try.results55, go_sem]) rfl (.inr ⟨HA.out, _, b', F', rfl, H7.out.1, fun x o h => ?_, by omega, ?_⟩)
   · rcases H7.out.2.1 x o h with h | h
     · have := h.1; omega
     · omega
   · exact H6.out.trans (H7.out.2.2.below (by omega) (fun x o h => by
       rcases h with h | h
       · have := h.1; omega
       · omega))
end Go.Proofs.Ytananonjomfpkaa
/- What is left behind a deletion is hardly larger. Plain data. -/
namespace Go.Proofs.Ytananonjomfpkaa
open Go.RowKit
namespace Tr
theorem kidAt_nil (m : Nat) : kidAt [] m = .mk [] [] := by simp [kidAt]
theorem kidAt_zero (t : Tr) (r : List Tr) : kidAt (t :: r) 0 = t := by simp [kidAt]
theorem kidAt_succ (t : Tr) (r : List Tr) (m : Nat) : kidAt (t :: r) (m + 1) = kidAt r m := by simp [kidAt]
theorem weight_nil : (Tr.mk [] []).weight = 0 := by simp [weight, weights]
theorem take_kid (c : List Tr) (m : Nat) : weights (c.take m) + (kidAt c m).weight + weights (c.drop (m + 1)) ≤ weights c := by
 induction c generalizing m with
 | nil => rw [kidAt_nil, weight_nil]; simp [weights]
 | cons t r ih =>
   cases m with
   | zero => rw [kidAt_zero]; simp [weights]
   | succ m => rw [kidAt_succ]; have := ih m; simp only [List.take_succ_cons, List.drop_succ_cons, weights]; omega
theorem take_two (c : List Tr) (i : Nat) : weights (c.take i) + (kidAt c i).weight + (kidAt c (i + 1)).weight + weights (c.drop (i + 2)) ≤ weights c := by
 induction c generalizing i with
 | nil => rw [kidAt_nil, kidAt_nil, weight_nil]; simp [weights]
 | cons t r ih =>
   cases i with
   | zero =>
     rw [kidAt_zero, kidAt_succ]
     have := take_kid r 0
     simp only [List.take_zero, List.drop_succ_cons, weights, Nat.zero_add] at this ⊢
     omega
   | succ i => rw [kidAt_succ, kidAt_succ]; have := ih i; simp only [List.take_succ_cons, List.drop_succ_cons, weights]; omega
theorem setTwo_weights (c : List Tr) (i : Nat) (x y : Tr) : weights (setTwo c i x y) = weights (c.take i) + (1 + x.weight + (1 + y.weight + weights (c.drop (i + 2)))) := by
 unfold setTwo; rw [weights_append, weights, weights]
theorem setOne_weights (c : List Tr) (i : Nat) (x : Tr) : weights (setOne c i x) = weights (c.take i) + (1 + x.weight + weights (c.drop (i + 2))) := by
 unfold setOne; rw [weights_append, weights]
theorem weight_eq (t : Tr) : t.weight = t.ks.length + weights t.cs := by cases t; rfl
theorem ahead_weight (k : List Int) (c : List Tr) (i : Nat) : (ahead k c i).weight ≤ (Tr.mk k c).weight + 4 := by
 unfold ahead
 dsimp only
 simp only [weight, setTwo_weights, List.length_set]
 have h := take_two c i
 rw [weight_eq (kidAt c i), weight_eq (kidAt c (i + 1))] at h
 generalize kidAt c i = x at h ⊢
 generalize kidAt c (i + 1) = y at h ⊢
 have h2 := take_kid x.cs (x.ks.length - 1 + 1)
 simp only [List.length_take, List.length_cons]
 split
 · omega
 · simp only [weights]; omega
theorem behind_weight (k : List Int) (c : List Tr) (i : Nat) : (behind k c i).weight ≤ (Tr.mk k c).weight + 4 := by
 unfold behind
 dsimp only
 simp only [weight, setTwo_weights, List.length_set]
 have h := take_two c i
 rw [weight_eq (kidAt c i), weight_eq (kidAt c (i + 1))] at h
 generalize kidAt c i = x at h ⊢
 generalize kidAt c (i + 1) = y at h ⊢
 have h2 := take_kid y.cs 0
 simp only [List.take_zero, weights, Nat.zero_add] at h2
 simp only [List.length_append, List.length_drop, List.length_cons, List.length_nil]
 split
 · omega
 · rw [weights_append]; simp only [weights]; omega
theorem joined_weight (k : List Int) (c : List Tr) (i : Nat) : (joined k c i).weight ≤ (Tr.mk k c).weight + 4 := by
 unfold joined
 dsimp only
 simp only [weight, setOne_weights]
 have h := take_two c i
 rw [weight_eq (kidAt c i), weight_eq (kidAt c (i + 1))] at h
 generalize kidAt c i = x at h ⊢
 generalize kidAt c (i + 1) = y at h ⊢
 have h3 : (takeAt k i).length ≤ k.length := by simp [takeAt]; omega
 rw [weights_append]
 simp only [List.length_append, List.length_cons]
 omega
theorem repair_weight (half : Int) (k : List Int) (c : List Tr) (i b j : Nat) : (repair half k c i b j).t.weight ≤ (Tr.mk k c).weight + 4 := by
 unfold repair
 split
 · show (Tr.mk k c).weight ≤ _; omega
 · split
   · exact ahead_weight _ _ _
   · exact behind_weight _ _ _
   · exact joined_weight _ _ _
   · exact joined_weight _ _ _
theorem setKid_weights (c : List Tr) (i : Nat) (u : Tr) (n : Nat) (h : u.weight ≤ (kidAt c i).weight + n) : weights (setKid c i u) ≤ weights c + n + 1 := by
 unfold setKid
 rw [weights_append, weights]
 have := take_kid c i
 omega
theorem del_weight (half : Int) : ∀ (n : Nat) (key : Int) (t : Tr), (del half n key t).t.weight ≤ t.weight + 5 * n := by
 intro n
 induction n with
 | zero => rintro key ⟨k, c⟩; simp [del]
 | succ n ih =>
   rintro key ⟨k, c⟩
   by_cases h0 : c.length = 0
   · rw [del_leaf h0]
     have h3 : (takeAt k (place key k)).length ≤ k.length := by simp [takeAt]; omega
     simp only [weight, weights]
     omega
   · by_cases ho : ownKey key k
     · rw [del_hit h0 ho]
       have h1 := setKid_weights c (place key k) _ _ (ih (kidAt c (place key k)).greatest (kidAt c (place key k)))
       refine Nat.le_trans (repair_weight _ _ _ _ _ _) ?_
       simp only [weight, List.length_set]
       omega
     · rw [del_miss h0 ho]
       have h1 := setKid_weights c (place key k) _ _ (ih key (kidAt c (place key k)))
       refine Nat.le_trans (repair_weight _ _ _ _ _ _) ?_
       simp only [weight]
       omega
theorem kidAt_weight (c : List Tr) (m : Nat) : (kidAt c m).weight ≤ weights c := by have := take_kid c m; omega
theorem delT_weight (wide key : Int) (t : Tr) : (delT wide key t).weight ≤ 6 * t.weight + 5 := by
 have h := del_weight (wide / 2) (t.weight + 1) key t
 have h2 := weight_eq (del (wide / 2) (t.weight + 1) key t).t
 have h3 := kidAt_weight (del (wide / 2) (t.weight + 1) key t).t.cs 0
 unfold delT
 dsimp only
 split <;> omega
end Tr
end Go.Proofs.Ytananonjomfpkaa
/- The contract of the program's DeleteKey. -/
namespace Go.Proofs.Ytananonjomfpkaa
open Go.RowKit
def Tr.delKeyT (wide key : Int) (t : Tr) : Tr := if Tr.lacksB wide key t = true then Tr.delT wide key t else .mk [] []
set_option maxRecDepth 100000 in
set_option maxHeartbeats 2000000 in
theorem impl_delete {w : World} {B : Nat} {kv cv : Value} {t : Tr} (ht : TreeIn w B kv cv t) (hw : t.weight ≤ 1048576) (wide key : Int) (hn1 : -9223372036854775808 ≤ wide) (hn2 : wide ≤ 9223372036854775807) (w' : World) (hbw : Below B w w') (hB : B ≤ w'.heap.size) :
   Calls Try.prog 16 #[.agg #[kv, cv], .int .i64 wide, .int .i64 key] w' fun e w'' => ∃ kv' cv' P, e = .returned (.tuple #[.agg #[kv', cv'], .bool (Tr.lacksB wide key t)]) ∧ TreeO w'' w'.heap.size P kv' cv' (Tr.delKeyT wide key t) ∧ Below w'.heap.size w' w'' := by
 obtain ⟨a5, n5, m5, a6, n6, m6, rfl, rfl⟩ := ht.slices
 obtain ⟨W1, hW1⟩ : ∃ W1, W1 = (w'.alloc (.cells #[.slice a5 n5 m5, .slice a6 n6 m6] 26)).alloc (.cells #[.slice none 0 0, .slice none 0 0] 26) := ⟨_, rfl⟩
 have hs1 : W1.heap.size = w'.heap.size + 2 := by rw [hW1]; simp
 have hb1 : Below w'.heap.size w' W1 := by rw [hW1]; exact ((Below.refl _ _).alloc (Nat.le_refl _) _).alloc (by simp) _
 have k0 : W1.heap[w'.heap.size]? = some (.cells #[.slice a5 n5 m5, .slice a6 n6 m6] 26 (0, 0)) := by rw [hW1, old_blk _ _ _ (by simp), new_blk]
 have kb : W1.heap[w'.heap.size + 1]? = some (.cells #[.slice none 0 0, .slice none 0 0] 26 (0, 0)) := by
   rw [hW1, show w'.heap.size + 1 = (w'.alloc (.cells #[.slice a5 n5 m5, .slice a6 n6 m6] 26)).heap.size by simp, new_blk]
 have k0x := k0
 rw [hW1] at k0x
 obtain ⟨x1, x2, x3, x4⟩ := box2 k0x
 have HT := Lib.hid ht
 have HBW := Lib.hid hbw
 have HW1 := Lib.hid hW1
 have H1 := Lib.hid (And.intro hb1 kb)
 clear ht hbw hW1 hb1 k0 kb k0x
 go_enter Try.func16, Try.ntmps16
 go_wp2_with fail
 rw [← HW1.out]
 refine (shrunkBy_c HT.out hw wide key hn1 hn2 W1 (HBW.out.trans (H1.out.1.mono hB)) (by omega)).mono ?_
 intro e w2 hgo
 rcases hgo with ⟨ha, rfl, hb2⟩ | ⟨ha, gb, b, F, rfl, hgr, hF, -, hb2⟩
 · have HA := Lib.hid (show Tr.delKeyT wide key t = .mk [] [] by simp [Tr.delKeyT, ha])
   have HAB := Lib.hid ha
   have hs2 := hb2.size
   have hrb := (hb2.block (w'.heap.size + 1) (by omega)).trans H1.out.2
   obtain ⟨r1, r2, r3, r4⟩ := box2 hrb
   have H2 := Lib.hid (And.intro (H1.out.1.trans (hb2.mono (by omega))) hrb)
   clear ha hb2 hrb x1 x2 x3 x4
   go_wp2_with fail
   obtain ⟨wf, hwf⟩ : ∃ wf, wf = (w2.setCell ⟨w'.heap.size + 1, 0, none⟩ (.slice none 0 0)).setCell ⟨w'.heap.size + 1, 1, none⟩ (.slice none 0 0) := ⟨_, rfl⟩
   have hfb : wf.heap[w'.heap.size + 1]? = some (.cells #[.slice none 0 0, .slice none 0 0] 26 (0, 0)) := by
     rw [hwf]; exact set_blk (o := 1) _ (set_blk (o := 0) _ H2.out.2)
   obtain ⟨d1, d2, d3, d4⟩ := box2 hfb
   rw [← hwf]
   refine bodyPost_ret (v := .tuple #[.agg #[.slice none 0 0, .slice none 0 0], .bool false]) (by simp [results, Try.results16, go_sem, d1, d2]) rfl ⟨_, _, _, by rw [HAB.out], by rw [HA.out]; exact TreeO.nil _ _, ?_⟩
   rw [hwf]; exact (H2.out.1.setCell (by show w'.heap.size ≤ w'.heap.size + 1; omega) _).setCell (by show w'.heap.size ≤ w'.heap.size + 1; omega) _
 · have HA := Lib.hid (show Tr.delKeyT wide key t = Tr.delT wide key t by simp [Tr.delKeyT, ha])
   have HAB := Lib.hid ha
   have hs2 := hb2.size
   have hiw := Tr.delT_weight wide key t
   have hsm := Tr.valid_small (by simp only [Tr.lacksB, Bool.and_eq_true] at ha; exact ha.1)
   have htc := tree_c hgr.node (by omega) w2 (Below.refl _ _)
   have HTC := Lib.hid htc
   have HB2 := Lib.hid hb2
   obtain ⟨y1, y2, y3, y4, y5, y6, y7, y8, y9⟩ := hgr.box.cells
   clear ha hb2 x1 x2 x3 x4 hgr hF htc hiw
   go_wp2_with fail
   refine HTC.out.mono ?_
   rintro e w4 ⟨k4, c4, P, rfl, ht4, hb4⟩
   obtain ⟨q1, q2, q3, q4, q5, q6, rfl, rfl⟩ := ht4.tree.slices
   have hs4 := hb4.size
   have hbr : Below W1.heap.size W1 w4 := HB2.out.trans (hb4.mono (by omega))
   have hrb := (hbr.block (w'.heap.size + 1) (by omega)).trans H1.out.2
   obtain ⟨r1, r2, r3, r4⟩ := box2 hrb
   have HZ := Lib.hid (And.intro ht4 (And.intro hbr hrb))
   clear ht4 hb4 hrb hbr y1 y2 y3 y4 y5 y6 y7 y8 y9
   go_wp2_with fail
   obtain ⟨wf, hwf⟩ : ∃ wf, wf = (w4.setCell ⟨w'.heap.size + 1, 0, none⟩ (.slice q1 q2 q3)).setCell ⟨w'.heap.size + 1, 1, none⟩ (.slice q4 q5 q6) := ⟨_, rfl⟩
   have hfb : wf.heap[w'.heap.size + 1]? = some (.cells #[.slice q1 q2 q3, .slice q4 q5 q6] 26 (0, 0)) := by
     rw [hwf]; exact set_blk (o := 1) _ (set_blk (o := 0) _ HZ.out.2.2)
   obtain ⟨d1, d2, d3, d4⟩ := box2 hfb
   rw [← hwf]
   refine bodyPost_ret (v := .tuple #[.agg #[.slice q1 q2 q3, .slice q4 q5 q6], .bool true]) (by simp [results, Try.results16, go_sem, d1, d2]) rfl ⟨_, _, P, by rw [HAB.out], ?_, ?_⟩
   · rw [HA.out]
     exact (HZ.out.1.same (w' := wf) (by rw [hwf]; simp) (fun q e => by have := (HZ.out.1.lt q e).1; rw [hwf, set_other _ _ _ _ _ (by omega), set_other _ _ _ _ _ (by omega)])).lower (by omega)
   · rw [hwf]; exact ((H1.out.1.trans (HZ.out.2.1.mono (by omega))).setCell (by show w'.heap.size ≤ w'.heap.size + 1; omega) _).setCell (by show w'.heap.size ≤ w'.heap.size + 1; omega) _
end Go.Proofs.Ytananonjomfpkaa
/- The contracts, over trees in memory, of the program's SplitsBy and GrowsBy. -/
namespace Go.Proofs.Ytananonjomfpkaa
open Go.RowKit
set_option maxRecDepth 100000 in
set_option maxHeartbeats 2000000 in
theorem impl_splits_a {w : World} {B : Nat} {kv cv : Value} {t : Tr} (ht : TreeIn w B kv cv t) (hw : t.weight ≤ 1048576) (wide key : Int) (hn1 : -9223372036854775808 ≤ wide) (hn2 : wide ≤ 9223372036854775807) (w' : World) (hbw : Below B w w') (hB : B ≤ w'.heap.size) :
   Calls Try.prog 43 #[.agg #[kv, cv], .int .i64 wide, .int .i64 key] w' fun e w'' => e = .returned (.int .i64 (Tr.splitsB wide key t)) ∧ Below w'.heap.size w' w'' := by
 obtain ⟨a5, n5, m5, a6, n6, m6, rfl, rfl⟩ := ht.slices
 obtain ⟨W1, hW1⟩ : ∃ W1, W1 = w'.alloc (.cells #[.slice a5 n5 m5, .slice a6 n6 m6] 26) := ⟨_, rfl⟩
 have hs1 : W1.heap.size = w'.heap.size + 1 := by rw [hW1]; simp
 have hb1 : Below w'.heap.size w' W1 := by rw [hW1]; exact (Below.refl _ _).alloc (Nat.le_refl _) _
 have k0 : W1.heap[w'.heap.size]? = some (.cells #[.slice a5 n5 m5, .slice a6 n6 m6] 26 (0, 0)) := by rw [hW1, new_blk]
 obtain ⟨x1, x2, x3, x4⟩ := box2 k0
 have HT := Lib.hid ht
 have HBW := Lib.hid hbw
 have HW1 := Lib.hid hW1
 have H1 := Lib.hid hb1
 clear ht hbw hW1 hb1 k0
 go_enter Try.func43, Try.ntmps43
 go_wp2_with fail
 rw [← HW1.out]
 refine (grownBy_c HT.out hw wide key hn1 hn2 W1 (HBW.out.trans (H1.out.mono hB)) (by omega)).mono ?_
 intro e w2 hgo
 rcases hgo with ⟨ha, rfl, hb2⟩ | ⟨ha, gb, b, F, rfl, hgr, hF, hb2⟩
 · have HA := Lib.hid (show Tr.splitsB wide key t = -1 by simp [Tr.splitsB, ha])
   have H2 := Lib.hid (H1.out.trans (hb2.mono (by omega)))
   clear ha hb2 x1 x2 x3 x4
   go_wp2_with fail
   go_ret
   exact ⟨by rw [HA.out]; rfl, H2.out⟩
 · have HA := Lib.hid (show Tr.splitsB wide key t = Tr.insN wide key t by simp [Tr.splitsB, ha])
   have H2 := Lib.hid (H1.out.trans (hb2.mono (by omega)))
   obtain ⟨y1, y2, y3, y4, y5, y6, y7⟩ := hgr.box.cells
   clear ha hb2 x1 x2 x3 x4 hgr hF
   go_wp2_with fail
   go_ret
   exact ⟨by rw [HA.out]; rfl, H2.out⟩
end Go.Proofs.Ytananonjomfpkaa
