/- The model's l3Insert. -/
import Derived.Test.YtananonjomfpkaaQfS11
namespace Go.Proofs.Ytananonjomfpkaa
open Go.RowKit
theorem SplitIn.same {w w' : World} {P Q : Nat → Prop} {v : Value} {wide : Int} {u : Tr} {n : Nat} (h : SplitIn w P v wide u n) (hb : ∀ q, P q → w'.heap[q]? = w.heap[q]?) (hq : ∀ q, P q → Q q) : SplitIn w' Q v wide u n := by
 obtain ⟨lk, lc, rk, rc, mid, cnt, h1, h2, h3, h4, h5⟩ := h
 exact ⟨lk, lc, rk, rc, mid, cnt, h1, h2, h3, fun hh => by
   obtain ⟨g1, g2, g3, g4⟩ := h4 hh
   exact ⟨g1.same hb hq, g2.same hb hq, g3, g4⟩, fun hh => by
   obtain ⟨g1, g2⟩ := h5 hh
   exact ⟨g1.same hb hq, g2⟩⟩
theorem seven' {w : World} {b : Nat} {o0 o1 o2 o3 o4 o5 o6 : Value} {t : TypeId} (h : w.heap[b]? = some (.cells #[o0, o1, o2, o3, o4, o5, o6] t (0, 0))) (v0 v1 v2 v3 v4 v5 v6 : Value) :
   (((((((w.setCell ⟨b, 0, none⟩ v0).setCell ⟨b, 1, none⟩ v1).setCell ⟨b, 2, none⟩ v2).setCell ⟨b, 3, none⟩ v3).setCell ⟨b, 4, none⟩ v4).setCell ⟨b, 5, none⟩ v5).setCell ⟨b, 6, none⟩ v6).heap[b]? = some (.cells #[v0, v1, v2, v3, v4, v5, v6] t (0, 0)) := by
 have := seven h v0 v1 v2 v3 v4 v5 v6
 rwa [drew_heap] at this
theorem seven_other' {w : World} {b : Nat} (v0 v1 v2 v3 v4 v5 v6 : Value) : ∀ q, q ≠ b →
   (((((((w.setCell ⟨b, 0, none⟩ v0).setCell ⟨b, 1, none⟩ v1).setCell ⟨b, 2, none⟩ v2).setCell ⟨b, 3, none⟩ v3).setCell ⟨b, 4, none⟩ v4).setCell ⟨b, 5, none⟩ v5).setCell ⟨b, 6, none⟩ v6).heap[q]? = w.heap[q]? := fun q h => by
 have := seven_other (w := w) v0 v1 v2 v3 v4 v5 v6 q h
 rwa [drew_heap] at this
theorem seven_below' {w0 w : World} {B b : Nat} (h : Below B w0 w) (hb : B ≤ b) (v0 v1 v2 v3 v4 v5 v6 : Value) :
   Below B w0 (((((((w.setCell ⟨b, 0, none⟩ v0).setCell ⟨b, 1, none⟩ v1).setCell ⟨b, 2, none⟩ v2).setCell ⟨b, 3, none⟩ v3).setCell ⟨b, 4, none⟩ v4).setCell ⟨b, 5, none⟩ v5).setCell ⟨b, 6, none⟩ v6) :=
 ((((((h.setCell (p := ⟨b, 0, none⟩) hb _).setCell (p := ⟨b, 1, none⟩) hb _).setCell (p := ⟨b, 2, none⟩) hb _).setCell (p := ⟨b, 3, none⟩) hb _).setCell (p := ⟨b, 4, none⟩) hb _).setCell (p := ⟨b, 5, none⟩) hb _).setCell (p := ⟨b, 6, none⟩) hb _
theorem intsOwn_at {w : World} {lo : Nat} {v : Value} {ks : List Int} (h : IntsOwn w lo v ks) : ∀ w', Below w.heap.size w w' → IntsAt w' v ks := fun _ hb => (IntsIn.at ((IntsOwn.in h).later hb (Nat.le_refl _)))
def Rel (R : Value × Value → Tr → Prop) (L : List (Value × Value)) (T : List Tr) : Prop := L.length = T.length ∧ ∀ (j : Nat) (p : Value × Value) (t : Tr), L[j]? = some p → T[j]? = some t → R p t
theorem Rel.append {R : Value × Value → Tr → Prop} {L1 L2 : List (Value × Value)} {T1 T2 : List Tr} (h1 : Rel R L1 T1) (h2 : Rel R L2 T2) : Rel R (L1 ++ L2) (T1 ++ T2) := by
 refine ⟨by simp [h1.1, h2.1], fun j p t hp ht => ?_⟩
 rw [List.getElem?_append] at hp ht
 rw [h1.1] at hp
 split at hp
 · rename_i hj
   rw [if_pos hj] at ht
   exact h1.2 j p t hp ht
 · rename_i hj
   rw [if_neg hj] at ht
   exact h2.2 _ p t hp ht
theorem Rel.one {R : Value × Value → Tr → Prop} {p : Value × Value} {t : Tr} (h : R p t) : Rel R [p] [t] := by
 refine ⟨rfl, fun j p' t' hp ht => ?_⟩
 cases j with
 | zero => simp at hp ht; subst hp; subst ht; exact h
 | succ j => simp at hp
theorem Rel.nil {R : Value × Value → Tr → Prop} : Rel R [] [] := ⟨rfl, fun j p t hp _ => by simp at hp⟩
theorem Rel.take {R : Value × Value → Tr → Prop} {L : List (Value × Value)} {T : List Tr} (h : Rel R L T) (i : Nat) : Rel R (L.take i) (T.take i) := by
 refine ⟨by simp [h.1], fun j p t hp ht => ?_⟩
 rw [List.getElem?_take] at hp ht
 split at hp
 · rename_i hj
   rw [if_pos hj] at ht
   exact h.2 j p t hp ht
 · cases hp
theorem Rel.drop {R : Value × Value → Tr → Prop} {L : List (Value × Value)} {T : List Tr} (h : Rel R L T) (i : Nat) : Rel R (L.drop i) (T.drop i) := by
 refine ⟨by simp [h.1], fun j p t hp ht => ?_⟩
 rw [List.getElem?_drop] at hp ht
 exact h.2 _ p t hp ht
set_option maxRecDepth 100000 in
set_option maxHeartbeats 4000000 in
theorem l3Insert_c (wide key : Int) (hwide : 2 ≤ wide ∧ wide ≤ 6) : ∀ (N : Nat) (t : Tr), t.weight ≤ N → N ≤ 100000 → Tr.Well t → ∀ (w : World) (P : Nat → Prop) (kv cv : Value), (∀ q, P q → q < w.heap.size) → TreeP w P kv cv t →
   Calls Try.prog 116 #[.agg #[kv, cv], .int .i64 wide, .int .i64 key] w (Cut w P wide (Tr.grow wide key t)) := by
 intro N
 induction N using Nat.strongRecOn with
 | _ N ih =>
   intro t hw hN hwell w P kv cv hP htp
   obtain ⟨k, c⟩ := t
   obtain ⟨hsort, hshape, hkw⟩ := hwell.fits
   obtain ⟨ca, ccap, kvs, cvs, rfl, hkP, hlen, hcap, hatP, hkidsP⟩ := htp.parts
   have hk := hkP.in hP
   obtain ⟨ka, kcap, rfl, k1, k2, k3, k4⟩ := id hk
   have hkn : k.length + c.length ≤ N := by
     have := Tr.length_le_weights c
     simp only [Tr.weight] at hw
     omega
   have hple := place_le key k
   obtain ⟨i, hi⟩ : ∃ i, i = place key k := ⟨_, rfl⟩
   rw [← hi] at hple
   obtain ⟨W1, hW1⟩ : ∃ W1, W1 = (w.alloc (.cells #[.slice ka k.length kcap, .slice ca c.length ccap] 26)).alloc (.cells #[.slice none 0 0, .slice none 0 0, .int .i64 0, .slice none 0 0, .slice none 0 0, .bool false, .int .i64 0] 146) := ⟨_, rfl⟩
   have hs1 : W1.heap.size = w.heap.size + 2 := by rw [hW1]; simp
   have hb1 : Below w.heap.size w W1 := by rw [hW1]; exact ((Below.refl _ _).alloc (Nat.le_refl _) _).alloc (by simp) _
   have kt : W1.heap[w.heap.size]? = some (.cells #[.slice ka k.length kcap, .slice ca c.length ccap] 26 (0, 0)) := by rw [hW1, old_blk _ _ _ (by simp), new_blk]
   have kr : W1.heap[w.heap.size + 1]? = some (.cells #[.slice none 0 0, .slice none 0 0, .int .i64 0, .slice none 0 0, .slice none 0 0, .bool false, .int .i64 0] 146 (0, 0)) := by
     rw [hW1, show w.heap.size + 1 = (w.alloc (.cells #[.slice ka k.length kcap, .slice ca c.length ccap] 26)).heap.size by simp, new_blk]
   obtain ⟨x1, x2, x3, x4⟩ := box2 kt
   have hpl := l2Place_c W1 w.heap.size (hk.later hb1 (Nat.le_refl _)) key
   rw [← hi] at hpl
   have HPL := Lib.hid hpl
   have HP := Lib.hid (And.intro hP (And.intro htp (And.intro hatP (And.intro hkidsP hk))))
   have HW1 := Lib.hid hW1
   have H1 := Lib.hid (And.intro hb1 (And.intro kt (And.intro kr hs1)))
   have HI := Lib.hid hi
   have HSH := Lib.hid hshape
   have HKW := Lib.hid hkw
   have HIH := Lib.hid ih
   have HWT := Lib.hid hw
   clear hsort hshape hkw hkP hatP hkidsP hk k4 hi hW1 hs1 hb1 kt kr hpl ih hw htp hwell k3
   go_enter Try.func116, Try.ntmps116
   go_upto_region 1 with (fail)
   rw [← HW1.out]
   go_wp2_with fail
   refine HPL.out.mono ?_
   rintro e w2 ⟨rfl, hb2⟩
   have hs2 := hb2.size
   have hs1 := H1.out.2.2.2
   have kt2 := (hb2.block w.heap.size (by omega)).trans H1.out.2.1
   have kr2 := (hb2.block (w.heap.size + 1) (by omega)).trans H1.out.2.2.1
   have hbw2 : Below w.heap.size w w2 := H1.out.1.trans (hb2.mono (by omega))
   clear x1 x2 x3 x4
   obtain ⟨x1, x2, x3, x4⟩ := box2 kt2
   have hsz2 : w.heap.size + 2 ≤ w2.heap.size := by omega
   have H2 := Lib.hid (And.intro hbw2 (And.intro kt2 kr2))
   clear hb2 kt2 kr2 hbw2 hs1 hs2
   by_cases hleaf : c.length = 0
   · have hl' : ((c.length : Int) == 0) = true := by simp [hleaf]
     have hc0 : c = [] := List.length_eq_zero_iff.1 hleaf
     have HC0 := Lib.hid hc0
     have hput := l3Put_c w2 w.heap.size (.slice ka k.length kcap) k i key (HP.out.2.2.2.2.later H2.out.1 (Nat.le_refl _)) (by omega) hple (by omega)
     have HPUT := Lib.hid hput
     clear hc0 hleaf hput
     go_wp2_with fail
     refine HPUT.out.mono ?_
     rintro e w3 ⟨v3, rfl, hown3, hb3⟩
     obtain ⟨a3, c3, rfl⟩ := IntsOwn.shown hown3
     have hs3 := hb3.size
     have hpl3 : (putAt k i key).length ≤ 200000 := by rw [putAt_length hple]; omega
     have hleafc := leaf_c w3 _ _ (intsOwn_at hown3) (by omega)
     generalize hL3 : (putAt k i key).length = L3 at hleafc ⊢
     have HLC := Lib.hid hleafc
     have H3 := Lib.hid (And.intro hb3 hL3)
     clear hleafc hown3 hb3 hL3 hpl3
     go_wp2_with fail
     refine HLC.out.mono ?_
     rintro e w4 ⟨kv4, g4, rfl, hown4, _, _, _, hb4⟩
     obtain ⟨a4, c4, rfl⟩ := IntsOwn.shown hown4
     have hs4 := hb4.size
     have hbw4 : Below w.heap.size w w4 := H2.out.1.trans ((H3.out.1.mono (by omega)).trans (hb4.mono (by omega)))
     have kr4 := (hb4.block (w.heap.size + 1) (by omega)).trans ((H3.out.1.block _ (by omega)).trans H2.out.2.2)
     have htree4 : TreeP w4 (fun q => w3.heap.size + 1 ≤ q ∧ q < w4.heap.size) (.slice a4 (putAt k i key).length c4) (.slice (some ⟨g4, 0, none⟩) 0 0) (.mk (putAt k i key) []) := (IntsOwn.p hown4).leaf
     have hcut := l3Cut_c w4 _ (fun q h => h.2) _ _ (putAt k i key) [] wide 0 htree4 hwide (by omega) (by rw [putAt_length hple]; omega) (by simp) (.inl rfl)
     generalize hL4 : (putAt k i key).length = L4 at hcut ⊢
     have HCUT := Lib.hid hcut
     have H4 := Lib.hid (And.intro hbw4 kr4)
     clear hcut htree4 hown4 hb4 hbw4 kr4 hL4
     go_wp2_with fail
     refine HCUT.out.mono ?_
     rintro e w5 ⟨v5, rfl, hsp5, hb5⟩
     obtain ⟨lk, lc, rk, rc, mid, cnt, hv5, ⟨e1, e2, e3, e4, e5, e6, rfl, rfl⟩, ⟨f1, f2, f3, f4, f5, f6, rfl, rfl⟩, _, _⟩ := id hsp5
     generalize decide (wide < _) = tw at hv5
     have kr9 := (hb5.block (w.heap.size + 1) (by omega)).trans H4.out.2
     have hbw9 : Below w.heap.size w w5 := H4.out.1.trans (hb5.mono (by omega))
     have hsz9 := hb5.size
     obtain ⟨q0, q1, q2, q3, q4, q5, q6⟩ := box7 kr9
     have hfz : ∀ j, w5.frozen? ⟨w.heap.size + 1, j, none⟩ = false := fun j => by simp [World.frozen?, kr9]
     have H9 := Lib.hid (And.intro hsp5 (And.intro kr9 (And.intro hbw9 hv5)))
     rw [hv5]
     clear hsp5 kr9 hbw9 hb5 hv5 x1 x2 x3 x4
     unfold splitV
     go_wp2_with fail
     obtain ⟨hsp, kr9, hbw9, hv5⟩ := H9.out
     have p1 := seven' kr9 (.slice e1 e2 e3) (.slice e4 e5 e6) (.int .i64 mid) (.slice f1 f2 f3) (.slice f4 f5 f6) (.bool tw) (.int .i64 (cnt : Int))
     have p2 := seven_other' (w := w5) (b := w.heap.size + 1) (.slice e1 e2 e3) (.slice e4 e5 e6) (.int .i64 mid) (.slice f1 f2 f3) (.slice f4 f5 f6) (.bool tw) (.int .i64 (cnt : Int))
     have p3 := seven_below' hbw9 (show w.heap.size ≤ w.heap.size + 1 by omega) (.slice e1 e2 e3) (.slice e4 e5 e6) (.int .i64 mid) (.slice f1 f2 f3) (.slice f4 f5 f6) (.bool tw) (.int .i64 (cnt : Int))
     generalize hW8 : World.setCell _ _ _ = W8 at p1 p2 p3 ⊢
     have hs8 : W8.heap.size = w5.heap.size := by rw [← hW8]; simp
     clear q0 q1 q2 q3 q4 q5 q6
     obtain ⟨q0, q1, q2, q3, q4, q5, q6⟩ := box7 p1
     refine bodyPost_ret (v := splitV (.slice e1 e2 e3) (.slice e4 e5 e6) mid (.slice f1 f2 f3) (.slice f4 f5 f6) tw (cnt : Int)) (by simp [results, Try.results116, go_sem, splitV, q0, q1, q2, q3, q4, q5, q6]) rfl ?_
     rw [← hv5]
     refine ⟨_, rfl, ?_, p3⟩
     have hc0 := HC0.out
     subst hc0
     rw [show Tr.grow wide key (.mk k []) = (.mk (putAt k i key) [], 0) by rw [HI.out]; exact Tr.grow_leaf rfl]
     exact hsp.same (fun q h => p2 q (by rcases h with h | h <;> omega)) (fun q h => .inr (by rcases h with h | h <;> exact ⟨by omega, by omega⟩))
   · have hl' : ((c.length : Int) == 0) = false := by simpa using hleaf
     have hpos : ¬ c.length = 0 := hleaf
     have hcl : c.length = k.length + 1 := HSH.out.resolve_left hleaf
     have hil : i < c.length := by omega
     have hii : (i : Int) < (c.length : Int) := by omega
     have HCL := Lib.hid hcl
     clear hcl
     obtain ⟨hP, htp, hatP, hkidsP, hk⟩ := HP.out
     rcases hatP with hh | ⟨cb, co, rfl, hPb, hcc⟩
     · exact absurd hh hleaf
     obtain ⟨K, hK⟩ : ∃ K, K = (List.range c.length).map (fun i => (kvs i, cvs i)) := ⟨_, rfl⟩
     have hKl : K.length = c.length := by rw [hK]; simp
     have hkat : ∀ W, Below w.heap.size w W → KidsAt W (.slice (some ⟨cb, co, none⟩) c.length ccap) K := fun W hb => by
       rw [hK]
       exact KidsIn.at (KidsIn.later (B := w.heap.size) (.inr ⟨cb, co, rfl, hP cb hPb, hcc⟩) hb (Nat.le_refl _)) (fun h => by cases h)
     have hone : ∀ u, u ∈ flatT K → u.oneCell' = true := fun u hu => by
       rw [hK] at hu
       simp only [flatT, List.mem_flatMap, List.mem_map, List.mem_range] at hu
       obtain ⟨q, ⟨j, hj, rfl⟩, hu⟩ := hu
       obtain ⟨a1, n1, c1, a2, n2, c2, e1, e2⟩ := (hkidsP j hj).slices
       simp only [List.mem_cons, List.not_mem_nil, or_false] at hu
       rcases hu with rfl | rfl
       · rw [e1]; rfl
       · rw [e2]; rfl
     have hrelK : ∀ W (Q : Nat → Prop), (∀ q, P q → W.heap[q]? = w.heap[q]?) → (∀ q, P q → Q q) → Rel (fun p t => TreeP W Q p.1 p.2 t) K c := fun W Q hb hq => by
       refine ⟨hKl, fun j p t hp ht => ?_⟩
       obtain ⟨hj, rfl⟩ := List.getElem?_eq_some_iff.1 ht
       rw [hK] at hp
       simp [hj] at hp
       subst hp
       exact (hkidsP j hj).same hb hq
     have hka : ∀ W, Below w.heap.size w W → IntsAt W (.slice ka k.length kcap) k := fun W hb => IntsIn.at (hk.later hb (Nat.le_refl _))
     obtain ⟨a1, n1, c1, a2, n2, c2, ek, ec⟩ := (hkidsP i hil).slices
     have hc1 : w2.cell? ⟨cb, co + i * 2, none⟩ = some (.slice a1 n1 c1) := by rw [← ek, below_cell H2.out.1 (hP cb hPb)]; exact (hcc i hil).1
     have hc2 : w2.cell? ⟨cb, co + i * 2 + 1, none⟩ = some (.slice a2 n2 c2) := by rw [← ec, below_cell H2.out.1 (hP cb hPb)]; exact (hcc i hil).2
     have hwi : c[i].weight + 1 ≤ N := by
       have h1 := Tr.weight_get_le c i hil
       have h2 := HWT.out
       simp only [Tr.weight] at h2
       omega
     have hcall := HIH.out c[i].weight (by omega) c[i] (Nat.le_refl _) (by omega) (HKW.out i hil) w2 P (kvs i) (cvs i) (fun q h => by have := hP q h; omega) ((hkidsP i hil).same (fun q h => H2.out.1.block q (hP q h)) (fun _ h => h))
     rw [ek, ec] at hcall
     have hcnt := Tr.grow_count wide key c[i]
     have hgrow : Tr.grow wide key (.mk k c) = Tr.growStep wide k c i (Tr.grow wide key c[i]) := by
       have e : ∀ (j : Nat) (hj : j < c.length), j = i → Tr.growStep wide k c j (Tr.grow wide key c[j]) = Tr.growStep wide k c i (Tr.grow wide key c[i]) := by
         rintro j hj rfl
         rfl
       rw [Tr.grow_inner (by rw [← HI.out]; exact hil)]
       exact e _ _ HI.out.symm
     generalize Tr.grow wide key c[i] = un at hcall hcnt hgrow
     obtain ⟨u, n⟩ := un
     have HC3 := Lib.hid hcall
     have HKS := Lib.hid (And.intro hkat (And.intro hone (And.intro hKl (And.intro hrelK hka))))
     have HGR := Lib.hid hgrow
     have HPP := Lib.hid hP
     have HKP := Lib.hid hk
     clear hcall hkat hone hKl hrelK hka hgrow hP htp hkidsP hk hcc hPb hleaf hK ek ec
     go_wp2_with fail
     refine HC3.out.mono ?_
     rintro e w3 ⟨v3, rfl, hsp3, hb3⟩
     obtain ⟨lk, lc, rk, rc, mid, cnt, hv3, ⟨e1, e2, e3, e4, e5, e6, rfl, rfl⟩, ⟨f1, f2, f3, f4, f5, f6, rfl, rfl⟩, hyes, hno⟩ := hsp3
     dsimp only at hv3 hyes hno hcnt
     generalize htw : decide (wide < (u.ks.length : Int)) = tw at hv3
     have hs3 := hb3.size
     have hbw3 : Below w.heap.size w w3 := H2.out.1.trans (hb3.mono (by omega))
     obtain ⟨W4, hW4⟩ : ∃ W4, W4 = w3.alloc (.cells #[.slice e1 e2 e3, .slice e4 e5 e6, .int .i64 mid, .slice f1 f2 f3, .slice f4 f5 f6, .bool tw, .int .i64 (cnt : Int)] 146) := ⟨_, rfl⟩
     have hs4 : W4.heap.size = w3.heap.size + 1 := by rw [hW4]; simp
     have hb4 : Below w3.heap.size w3 W4 := by rw [hW4]; exact (Below.refl _ _).alloc (Nat.le_refl _) _
     have ks4 : W4.heap[w3.heap.size]? = some (.cells #[.slice e1 e2 e3, .slice e4 e5 e6, .int .i64 mid, .slice f1 f2 f3, .slice f4 f5 f6, .bool tw, .int .i64 (cnt : Int)] 146 (0, 0)) := by rw [hW4, new_blk]
     have kt4 := (hb4.block w.heap.size (by omega)).trans ((hb3.block _ (by omega)).trans H2.out.2.1)
     have kr4 := (hb4.block (w.heap.size + 1) (by omega)).trans ((hb3.block _ (by omega)).trans H2.out.2.2)
     have hbw4 : Below w.heap.size w W4 := hbw3.trans (hb4.mono (by omega))
     have hleafc := leaf_c W4 (.slice ka k.length kcap) k (fun w' hb => HKS.out.2.2.2.2 w' (hbw4.trans (hb.mono (by omega)))) (by omega)
     clear x1 x2 x3 x4
     obtain ⟨x1, x2, x3, x4⟩ := box2 kt4
     have HLC := Lib.hid hleafc
     have HW4 := Lib.hid hW4
     have H4 := Lib.hid (And.intro hbw4 (And.intro kt4 (And.intro kr4 ks4)))
     have HSP := Lib.hid (And.intro hyes (And.intro hno htw))
     have HB3 := Lib.hid (And.intro hbw3 hb4)
     have HS4 := Lib.hid hs4
     rw [hv3]
     clear hleafc hW4 hbw4 kt4 kr4 ks4 hyes hno htw hb3 hbw3 hb4 hv3 hc1 hc2 hs4
     unfold splitV
     go_upto_region 5 with (fail)
     rw [← HW4.out]
     clear x1 x2 x3 x4
     obtain ⟨x1, x2, x3, x4⟩ := box2 H4.out.2.1
     go_wp2_with fail
     refine HLC.out.mono ?_
     rintro e w5 ⟨kv5, g5, rfl, hown5, _, _, _, hb5⟩
     obtain ⟨a5, c5, rfl⟩ := IntsOwn.shown hown5
     have hs5 := hb5.size
     have hs4 := HS4.out
     obtain ⟨W6, hW6⟩ : ∃ W6, W6 = w5.alloc (.cells #[.slice a5 k.length c5, .slice (some ⟨g5, 0, none⟩) 0 0] 26) := ⟨_, rfl⟩
     have hs6 : W6.heap.size = w5.heap.size + 1 := by rw [hW6]; simp
     have hb6 : Below w5.heap.size w5 W6 := by rw [hW6]; exact (Below.refl _ _).alloc (Nat.le_refl _) _
     have ko6 : W6.heap[w5.heap.size]? = some (.cells #[.slice a5 k.length c5, .slice (some ⟨g5, 0, none⟩) 0 0] 26 (0, 0)) := by rw [hW6, new_blk]
     have kt6 := (hb6.block w.heap.size (by omega)).trans ((hb5.block _ (by omega)).trans H4.out.2.1)
     have kr6 := (hb6.block (w.heap.size + 1) (by omega)).trans ((hb5.block _ (by omega)).trans H4.out.2.2.1)
     have ks6 := (hb6.block w3.heap.size (by omega)).trans ((hb5.block _ (by omega)).trans H4.out.2.2.2)
     have hbw6 : Below w.heap.size w W6 := H4.out.1.trans ((hb5.mono (by omega)).trans (hb6.mono (by omega)))
     have hb36 : Below w3.heap.size w3 W6 := HB3.out.2.trans ((hb5.mono (by omega)).trans (hb6.mono (by omega)))
     clear x1 x2 x3 x4
     obtain ⟨x1, x2, x3, x4⟩ := box2 kt6
     obtain ⟨q0, q1, q2, q3, q4, q5, q6⟩ := box7 ks6
     obtain ⟨z1, z2, z3, z4⟩ := box2 ko6
     have hg1 : w3.heap.size + 1 ≤ w5.heap.size := by omega
     have hg2 : w.heap.size + 2 ≤ w3.heap.size := by omega
     have hkey5 : IntsP W6 (fun q => w3.heap.size + 2 ≤ q ∧ q < w5.heap.size) (.slice a5 k.length c5) k := (IntsOwn.p hown5).same (fun q h => hb6.block q h.2) (fun q h => ⟨by omega, h.2⟩)
     have HW6 := Lib.hid hW6
     have H6 := Lib.hid (And.intro hbw6 (And.intro kt6 (And.intro kr6 (And.intro ks6 (And.intro ko6 (And.intro hb36 hkey5))))))
     have HS6 := Lib.hid hs6
     clear hW6 hbw6 kt6 kr6 ks6 ko6 hb6 hb36 hkey5 hown5 hb5 hs6 hs4
     cases tw with
     | false =>
       go_upto_region 6 with (fail)
       rw [← HW6.out]
       have hs6 := HS6.out
       have hcut9 := l3Kids_c W6 (.slice (some ⟨cb, co, none⟩) c.length ccap) K i e1 e4 e2 e3 e5 e6 (.slice f1 f2 f3) (.slice f4 f5 f6) mid false cnt ⟨_, _, _, _, _, _, rfl, rfl⟩ (fun W hb => HKS.out.1 W (H6.out.1.trans (hb.mono (by omega)))) ⟨_, _, by rw [HKS.out.2.2.1], by rw [HKS.out.2.2.1]; exact hlen, hcap⟩ HKS.out.2.1 (by rw [HKS.out.2.2.1]; exact hil) (by rw [HKS.out.2.2.1]; omega)
       unfold splitV at hcut9
       generalize hKV : kidsV K i (.slice e1 e2 e3, .slice e4 e5 e6) (.slice f1 f2 f3, .slice f4 f5 f6) false = KV at hcut9
       have HCUT9 := Lib.hid hcut9
       have HKV := Lib.hid hKV
       clear hcut9 hKV
       go_wp2_with fail
       refine HCUT9.out.mono ?_
       rintro e w9 ⟨v9, rfl, hown9, hb9⟩
       obtain ⟨a9, c9, rfl⟩ := TreesOwn.shown hown9
       have hs9 := hb9.size
       have kt9 := (hb9.block w.heap.size (by omega)).trans H6.out.2.1
       have kr9' := (hb9.block (w.heap.size + 1) (by omega)).trans H6.out.2.2.1
       have ks9 := (hb9.block w3.heap.size (by omega)).trans H6.out.2.2.2.1
       have ko9 := (hb9.block w5.heap.size (by omega)).trans H6.out.2.2.2.2.1
       have hbw9' : Below w.heap.size w w9 := H6.out.1.trans (hb9.mono (by omega))
       obtain ⟨W10, hW10⟩ : ∃ W10, W10 = w9.setCell ⟨w5.heap.size, 1, none⟩ (.slice a9 KV.length c9) := ⟨_, rfl⟩
       have hs10 : W10.heap.size = w9.heap.size := by rw [hW10]; simp
       have hoth10 : ∀ q, q ≠ w5.heap.size → W10.heap[q]? = w9.heap[q]? := fun q h => by rw [hW10]; exact set_other _ _ _ _ _ h
       have hbw10 : Below w.heap.size w W10 := by rw [hW10]; exact hbw9'.setCell (by show w.heap.size ≤ w5.heap.size; omega) _
       have kr10 := (hoth10 (w.heap.size + 1) (by omega)).trans kr9'
       have hb3x := H6.out.2.2.2.2.2.1
       obtain ⟨P10, hP10⟩ : ∃ P10 : Nat → Prop, P10 = fun q => P q ∨ (w.heap.size + 2 ≤ q ∧ q < W10.heap.size) := ⟨_, rfl⟩
       have hin10 : ∀ q, w.heap.size + 2 ≤ q → q < W10.heap.size → P10 q := fun q h1 h2 => by rw [hP10]; exact .inr ⟨h1, h2⟩
       have hold10 : ∀ q, P q → P10 q := fun q h => by rw [hP10]; exact .inl h
       have hkeys10 : IntsP W10 P10 (.slice a5 k.length c5) k := H6.out.2.2.2.2.2.2.same (fun q h => (hoth10 q (by omega)).trans (hb9.block q (by omega))) (fun q h => hin10 q (by omega) (by omega))
       have hsp10 : ∀ {x y : Value} {tt : Tr}, TreeP w3 (fun q => P q ∨ (w2.heap.size + 2 ≤ q ∧ q < w3.heap.size)) x y tt → TreeP W10 P10 x y tt := fun h => h.same (fun q hq => by
         have hq3 : q < w3.heap.size := by
           rcases hq with hq | hq
           · have := HPP.out q hq; omega
           · exact hq.2
         exact (hoth10 q (by omega)).trans ((hb9.block q (by omega)).trans (hb3x.block q hq3))) (fun q hq => by
         rcases hq with hq | hq
         · exact hold10 q hq
         · exact hin10 q (by omega) (by omega))
       have hK10 := HKS.out.2.2.2.1 W10 P10 (fun q h => hbw10.block q (HPP.out q h)) hold10
       have hno := HSP.out.2.1 (by have := of_decide_eq_false HSP.out.2.2; omega)
       have hrel : Rel (fun p t => TreeP W10 P10 p.1 p.2 t) KV (c.take i ++ [u] ++ [] ++ c.drop (i + 1)) := by
         rw [← HKV.out]
         exact (((hK10.take i).append (Rel.one (hsp10 hno.1))).append Rel.nil).append (hK10.drop (i + 1))
       have hrow10 : TreesOwn W10 W6.heap.size (.slice a9 KV.length c9) KV := ownsRow_held hown9 (fun q e => hoth10 q (by have := hown9.lt q e; omega))
       have htree10 : TreeP W10 P10 (.slice a5 k.length c5) (.slice a9 KV.length c9) (.mk k (c.take i ++ [u] ++ [] ++ c.drop (i + 1))) := treeP_row hkeys10 hrow10 (fun q h1 h2 => hin10 q (by omega) h2) hrel.1 (fun j hj => by
         have hj' : j < KV.length := by rw [hrel.1]; exact hj
         exact hrel.2 j _ _ (by rw [List.getD_eq_getElem?_getD, List.getElem?_eq_getElem hj']; rfl) (List.getElem?_eq_getElem hj))
       have hcut := l3Cut_c W10 P10 (fun q h => by rw [hP10] at h; rcases h with h | h; have := HPP.out q h; omega; exact h.2) (.slice a5 k.length c5) _ k (c.take i ++ [u] ++ [] ++ c.drop (i + 1)) wide cnt htree10 hwide (by omega) (by omega) (by simp; omega) (.inr (by have := HCL.out; simp; omega))
       have hstep : Tr.growStep wide k c i (u, n) = (.mk k (c.take i ++ [u] ++ [] ++ c.drop (i + 1)), cnt) := by
         unfold Tr.growStep Tr.setKid
         rw [if_neg (by have := of_decide_eq_false HSP.out.2.2; show ¬ (wide < (u.ks.length : Int)); omega), hno.2]
         simp
       have HCUT := Lib.hid hcut
       have H10 := Lib.hid (And.intro hbw10 kr10)
       have HW10 := Lib.hid hW10
       have HP10 := Lib.hid hP10
       have HST := Lib.hid hstep
       clear x1 x2 x3 x4 q0 q1 q2 q3 q4 q5 q6 z1 z2 z3 z4
       obtain ⟨x1, x2, x3, x4⟩ := box2 kt9
       obtain ⟨q0, q1, q2, q3, q4, q5, q6⟩ := box7 ks9
       obtain ⟨z1, z2, z3, z4⟩ := box2 ko9
       clear hno hcut hstep hW10 hP10 hrel hrow10 htree10 hkeys10 hsp10 hK10 hin10 hold10 hoth10 hbw10 kr10 hbw9' kt9 kr9' ks9 ko9 hb9 hown9 hb3x
       go_wp2_with fail
       rw [← HW10.out]
       refine HCUT.out.mono ?_
       rintro e w11 ⟨v11, rfl, hsp11, hb11⟩
       have g10 := Nat.le_of_eq hs10
       have g11 := Nat.le_of_eq hs10.symm
       clear hs10
       clear x1 x2 x3 x4 q0 q1 q2 q3 q4 q5 q6 z1 z2 z3 z4
       obtain ⟨lk, lc, rk, rc, mid', cnt', hv5, ⟨E1, E2, E3, E4, E5, E6, rfl, rfl⟩, ⟨F1, F2, F3, F4, F5, F6, rfl, rfl⟩, _, _⟩ := id hsp11
       generalize decide (wide < _) = tw' at hv5
       have kr9 := (hb11.block (w.heap.size + 1) (by omega)).trans H10.out.2
       have hbw9 : Below w.heap.size w w11 := H10.out.1.trans (hb11.mono (by omega))
       have hsz9 := hb11.size
       obtain ⟨q0, q1, q2, q3, q4, q5, q6⟩ := box7 kr9
       have hfz : ∀ j, w11.frozen? ⟨w.heap.size + 1, j, none⟩ = false := fun j => by simp [World.frozen?, kr9]
       have H9 := Lib.hid (And.intro hsp11 (And.intro kr9 (And.intro hbw9 hv5)))
       rw [hv5]
       clear hsp11 kr9 hbw9 hb11 hv5
       unfold splitV
       go_wp2_with fail
       obtain ⟨hsp, kr9, hbw9, hv5⟩ := H9.out
       have p1 := seven' kr9 (.slice E1 E2 E3) (.slice E4 E5 E6) (.int .i64 mid') (.slice F1 F2 F3) (.slice F4 F5 F6) (.bool tw') (.int .i64 (cnt' : Int))
       have p2 := seven_other' (w := w11) (b := w.heap.size + 1) (.slice E1 E2 E3) (.slice E4 E5 E6) (.int .i64 mid') (.slice F1 F2 F3) (.slice F4 F5 F6) (.bool tw') (.int .i64 (cnt' : Int))
       have p3 := seven_below' hbw9 (show w.heap.size ≤ w.heap.size + 1 by omega) (.slice E1 E2 E3) (.slice E4 E5 E6) (.int .i64 mid') (.slice F1 F2 F3) (.slice F4 F5 F6) (.bool tw') (.int .i64 (cnt' : Int))
       generalize hW8 : World.setCell _ _ _ = W8 at p1 p2 p3 ⊢
       have hs8 : W8.heap.size = w11.heap.size := by rw [← hW8]; simp
       clear q0 q1 q2 q3 q4 q5 q6
       obtain ⟨q0, q1, q2, q3, q4, q5, q6⟩ := box7 p1
       refine bodyPost_ret (v := splitV (.slice E1 E2 E3) (.slice E4 E5 E6) mid' (.slice F1 F2 F3) (.slice F4 F5 F6) tw' (cnt' : Int)) (by simp [results, Try.results116, go_sem, splitV, q0, q1, q2, q3, q4, q5, q6]) rfl ?_
       rw [← hv5]
       refine ⟨_, rfl, ?_, p3⟩
       rw [HGR.out, HST.out]
       exact hsp.same (fun q h => p2 q (by
         rcases h with h | h
         · rw [HP10.out] at h
           rcases h with h | h
           · have := HPP.out q h; omega
           · omega
         · omega)) (fun q h => by
         rcases h with h | h
         · rw [HP10.out] at h
           rcases h with h | h
           · exact .inl h
           · exact .inr ⟨h.1, by omega⟩
         · exact .inr ⟨by omega, by omega⟩)
     | true =>
       have hput := l3Put_c W6 w.heap.size (.slice ka k.length kcap) k i mid (HKP.out.later H6.out.1 (Nat.le_refl _)) (by have := HS6.out; omega) hple (by omega)
       have HPUT := Lib.hid hput
       clear hput
       go_upto_region 6 with (fail)
       rw [← HW6.out]
       go_wp2_with fail
       refine HPUT.out.mono ?_
       rintro e w7 ⟨v7, rfl, hown7, hb7⟩
       obtain ⟨a7, c7, rfl⟩ := IntsOwn.shown hown7
       have hs7 := hb7.size
       have hs6 := HS6.out
       have hpl7 : (putAt k i mid).length = k.length + 1 := putAt_length hple
       generalize hL7 : (putAt k i mid).length = L7 at hown7 hpl7 ⊢
       obtain ⟨W8, hW8'⟩ : ∃ W8, W8 = w7.setCell ⟨w5.heap.size, 0, none⟩ (.slice a7 L7 c7) := ⟨_, rfl⟩
       have hs8' : W8.heap.size = w7.heap.size := by rw [hW8']; simp
       have hoth8 : ∀ q, q ≠ w5.heap.size → W8.heap[q]? = w7.heap[q]? := fun q h => by rw [hW8']; exact set_other _ _ _ _ _ h
       have ko7 := (hb7.block w5.heap.size (by omega)).trans H6.out.2.2.2.2.1
       have ko8 : W8.heap[w5.heap.size]? = some (.cells #[.slice a7 L7 c7, .slice (some ⟨g5, 0, none⟩) 0 0] 26 (0, 0)) := by rw [hW8']; exact set_blk (o := 0) _ ko7
       have kt8 := (hoth8 w.heap.size (by omega)).trans ((hb7.block _ (by omega)).trans H6.out.2.1)
       have kr8 := (hoth8 (w.heap.size + 1) (by omega)).trans ((hb7.block _ (by omega)).trans H6.out.2.2.1)
       have ks8 := (hoth8 w3.heap.size (by omega)).trans ((hb7.block _ (by omega)).trans H6.out.2.2.2.1)
       have hbw8 : Below w.heap.size w W8 := by rw [hW8']; exact (H6.out.1.trans (hb7.mono (by omega))).setCell (by show w.heap.size ≤ w5.heap.size; omega) _
       have hb38 : Below w3.heap.size w3 W8 := by rw [hW8']; exact (H6.out.2.2.2.2.2.1.trans (hb7.mono (by omega))).setCell (by show w3.heap.size ≤ w5.heap.size; omega) _
       have hkey8 : IntsP W8 (fun q => W6.heap.size ≤ q ∧ q < w7.heap.size) (.slice a7 L7 c7) (putAt k i mid) := by
         have h := hown7
         rw [← hL7] at h ⊢
         exact (IntsOwn.p h).same (fun q h => hoth8 q (by omega)) (fun q h => h)
       have HW8 := Lib.hid hW8'
       have H8 := Lib.hid (And.intro hbw8 (And.intro kt8 (And.intro kr8 (And.intro ks8 (And.intro ko8 hb38)))))
       have HK8 := Lib.hid hkey8
       have HL7 := Lib.hid (And.intro hL7 hpl7)
       have ko7' := ko7
       clear x1 x2 x3 x4 q0 q1 q2 q3 q4 q5 q6 z1 z2 z3 z4
       obtain ⟨z1, z2, z3, z4⟩ := box2 ko7'
       clear hW8' hoth8 ko7 ko7' ko8 kt8 kr8 ks8 hbw8 hb38 hkey8 hown7 hb7 hL7 hpl7
       go_upto_region 8 with (fail)
       rw [← HW8.out]
       clear z1 z2 z3 z4
       obtain ⟨x1, x2, x3, x4⟩ := box2 H8.out.2.1
       obtain ⟨q0, q1, q2, q3, q4, q5, q6⟩ := box7 H8.out.2.2.2.1
       obtain ⟨z1, z2, z3, z4⟩ := box2 H8.out.2.2.2.2.1
       have hcut9 := l3Kids_c W8 (.slice (some ⟨cb, co, none⟩) c.length ccap) K i e1 e4 e2 e3 e5 e6 (.slice f1 f2 f3) (.slice f4 f5 f6) mid true cnt ⟨_, _, _, _, _, _, rfl, rfl⟩ (fun W hb => HKS.out.1 W (H8.out.1.trans (hb.mono (by omega)))) ⟨_, _, by rw [HKS.out.2.2.1], by rw [HKS.out.2.2.1]; exact hlen, hcap⟩ HKS.out.2.1 (by rw [HKS.out.2.2.1]; exact hil) (by rw [HKS.out.2.2.1]; omega)
       unfold splitV at hcut9
       generalize hKV : kidsV K i (.slice e1 e2 e3, .slice e4 e5 e6) (.slice f1 f2 f3, .slice f4 f5 f6) true = KV at hcut9
       have HCUT9 := Lib.hid hcut9
       have HKV := Lib.hid hKV
       clear hcut9 hKV
       go_wp2_with fail
       refine HCUT9.out.mono ?_
       rintro e w9 ⟨v9, rfl, hown9, hb9⟩
       obtain ⟨a9, c9, rfl⟩ := TreesOwn.shown hown9
       have hs9 := hb9.size
       have kt9 := (hb9.block w.heap.size (by omega)).trans H8.out.2.1
       have kr9' := (hb9.block (w.heap.size + 1) (by omega)).trans H8.out.2.2.1
       have ks9 := (hb9.block w3.heap.size (by omega)).trans H8.out.2.2.2.1
       have ko9 := (hb9.block w5.heap.size (by omega)).trans H8.out.2.2.2.2.1
       have hbw9' : Below w.heap.size w w9 := H8.out.1.trans (hb9.mono (by omega))
       obtain ⟨W10, hW10⟩ : ∃ W10, W10 = w9.setCell ⟨w5.heap.size, 1, none⟩ (.slice a9 KV.length c9) := ⟨_, rfl⟩
       have hs10 : W10.heap.size = w9.heap.size := by rw [hW10]; simp
       have hoth10 : ∀ q, q ≠ w5.heap.size → W10.heap[q]? = w9.heap[q]? := fun q h => by rw [hW10]; exact set_other _ _ _ _ _ h
       have hbw10 : Below w.heap.size w W10 := by rw [hW10]; exact hbw9'.setCell (by show w.heap.size ≤ w5.heap.size; omega) _
       have kr10 := (hoth10 (w.heap.size + 1) (by omega)).trans kr9'
       have hb3x := H8.out.2.2.2.2.2
       obtain ⟨P10, hP10⟩ : ∃ P10 : Nat → Prop, P10 = fun q => P q ∨ (w.heap.size + 2 ≤ q ∧ q < W10.heap.size) := ⟨_, rfl⟩
       have hin10 : ∀ q, w.heap.size + 2 ≤ q → q < W10.heap.size → P10 q := fun q h1 h2 => by rw [hP10]; exact .inr ⟨h1, h2⟩
       have hold10 : ∀ q, P q → P10 q := fun q h => by rw [hP10]; exact .inl h
       have hkeys10 : IntsP W10 P10 (.slice a7 L7 c7) (putAt k i mid) := HK8.out.same (fun q h => (hoth10 q (by omega)).trans (hb9.block q (by omega))) (fun q h => hin10 q (by omega) (by omega))
       have hsp10 : ∀ {x y : Value} {tt : Tr}, TreeP w3 (fun q => P q ∨ (w2.heap.size + 2 ≤ q ∧ q < w3.heap.size)) x y tt → TreeP W10 P10 x y tt := fun h => h.same (fun q hq => by
         have hq3 : q < w3.heap.size := by
           rcases hq with hq | hq
           · have := HPP.out q hq; omega
           · exact hq.2
         exact (hoth10 q (by omega)).trans ((hb9.block q (by omega)).trans (hb3x.block q hq3))) (fun q hq => by
         rcases hq with hq | hq
         · exact hold10 q hq
         · exact hin10 q (by omega) (by omega))
       have hK10 := HKS.out.2.2.2.1 W10 P10 (fun q h => hbw10.block q (HPP.out q h)) hold10
       have hyes := HSP.out.1 (by have := of_decide_eq_true HSP.out.2.2; omega)
       have hrel : Rel (fun p t => TreeP W10 P10 p.1 p.2 t) KV (c.take i ++ [u.leftOf] ++ [u.rightOf] ++ c.drop (i + 1)) := by
         rw [← HKV.out]
         exact (((hK10.take i).append (Rel.one (hsp10 hyes.1))).append (Rel.one (hsp10 hyes.2.1))).append (hK10.drop (i + 1))
       have hrow10 : TreesOwn W10 W8.heap.size (.slice a9 KV.length c9) KV := ownsRow_held hown9 (fun q e => hoth10 q (by have := hown9.lt q e; omega))
       have htree10 : TreeP W10 P10 (.slice a7 L7 c7) (.slice a9 KV.length c9) (.mk (putAt k i mid) (c.take i ++ [u.leftOf] ++ [u.rightOf] ++ c.drop (i + 1))) := treeP_row hkeys10 hrow10 (fun q h1 h2 => hin10 q (by omega) h2) hrel.1 (fun j hj => by
         have hj' : j < KV.length := by rw [hrel.1]; exact hj
         exact hrel.2 j _ _ (by rw [List.getD_eq_getElem?_getD, List.getElem?_eq_getElem hj']; rfl) (List.getElem?_eq_getElem hj))
       have hcut := l3Cut_c W10 P10 (fun q h => by rw [hP10] at h; rcases h with h | h; have := HPP.out q h; omega; exact h.2) (.slice a7 L7 c7) _ (putAt k i mid) (c.take i ++ [u.leftOf] ++ [u.rightOf] ++ c.drop (i + 1)) wide cnt htree10 hwide (by omega) (by rw [putAt_length hple]; omega) (by simp; omega) (.inr (by rw [putAt_length hple]; have := HCL.out; simp; omega))
       have hstep : Tr.growStep wide k c i (u, n) = (.mk (putAt k i mid) (c.take i ++ [u.leftOf] ++ [u.rightOf] ++ c.drop (i + 1)), cnt) := by
         unfold Tr.growStep Tr.splitKid
         rw [if_pos (by have := of_decide_eq_true HSP.out.2.2; show wide < (u.ks.length : Int); omega), hyes.2.2.2, hyes.2.2.1]
         simp
       have HCUT := Lib.hid hcut
       have H10 := Lib.hid (And.intro hbw10 kr10)
       have HW10 := Lib.hid hW10
       have HP10 := Lib.hid hP10
       have HST := Lib.hid hstep
       clear x1 x2 x3 x4 q0 q1 q2 q3 q4 q5 q6 z1 z2 z3 z4
       obtain ⟨x1, x2, x3, x4⟩ := box2 kt9
       obtain ⟨q0, q1, q2, q3, q4, q5, q6⟩ := box7 ks9
       obtain ⟨z1, z2, z3, z4⟩ := box2 ko9
       clear hyes hcut hstep hW10 hP10 hrel hrow10 htree10 hkeys10 hsp10 hK10 hin10 hold10 hoth10 hbw10 kr10 hbw9' kt9 kr9' ks9 ko9 hb9 hown9 hb3x
       go_wp2_with fail
       rw [← HW10.out]
       refine HCUT.out.mono ?_
       rintro e w11 ⟨v11, rfl, hsp11, hb11⟩
       have g10 := Nat.le_of_eq hs10
       have g11 := Nat.le_of_eq hs10.symm
       clear hs10
       clear x1 x2 x3 x4 q0 q1 q2 q3 q4 q5 q6 z1 z2 z3 z4
       obtain ⟨lk, lc, rk, rc, mid', cnt', hv5, ⟨E1, E2, E3, E4, E5, E6, rfl, rfl⟩, ⟨F1, F2, F3, F4, F5, F6, rfl, rfl⟩, _, _⟩ := id hsp11
       generalize decide (wide < _) = tw' at hv5
       have kr9 := (hb11.block (w.heap.size + 1) (by omega)).trans H10.out.2
       have hbw9 : Below w.heap.size w w11 := H10.out.1.trans (hb11.mono (by omega))
       have hsz9 := hb11.size
       obtain ⟨q0, q1, q2, q3, q4, q5, q6⟩ := box7 kr9
       have hfz : ∀ j, w11.frozen? ⟨w.heap.size + 1, j, none⟩ = false := fun j => by simp [World.frozen?, kr9]
       have H9 := Lib.hid (And.intro hsp11 (And.intro kr9 (And.intro hbw9 hv5)))
       rw [hv5]
       clear hsp11 kr9 hbw9 hb11 hv5
       unfold splitV
       go_wp2_with fail
       obtain ⟨hsp, kr9, hbw9, hv5⟩ := H9.out
       have p1 := seven' kr9 (.slice E1 E2 E3) (.slice E4 E5 E6) (.int .i64 mid') (.slice F1 F2 F3) (.slice F4 F5 F6) (.bool tw') (.int .i64 (cnt' : Int))
       have p2 := seven_other' (w := w11) (b := w.heap.size + 1) (.slice E1 E2 E3) (.slice E4 E5 E6) (.int .i64 mid') (.slice F1 F2 F3) (.slice F4 F5 F6) (.bool tw') (.int .i64 (cnt' : Int))
       have p3 := seven_below' hbw9 (show w.heap.size ≤ w.heap.size + 1 by omega) (.slice E1 E2 E3) (.slice E4 E5 E6) (.int .i64 mid') (.slice F1 F2 F3) (.slice F4 F5 F6) (.bool tw') (.int .i64 (cnt' : Int))
       generalize hW8 : World.setCell _ _ _ = W8 at p1 p2 p3 ⊢
       have hs8 : W8.heap.size = w11.heap.size := by rw [← hW8]; simp
       clear q0 q1 q2 q3 q4 q5 q6
       obtain ⟨q0, q1, q2, q3, q4, q5, q6⟩ := box7 p1
       refine bodyPost_ret (v := splitV (.slice E1 E2 E3) (.slice E4 E5 E6) mid' (.slice F1 F2 F3) (.slice F4 F5 F6) tw' (cnt' : Int)) (by simp [results, Try.results116, go_sem, splitV, q0, q1, q2, q3, q4, q5, q6]) rfl ?_
       rw [← hv5]
       refine ⟨_, rfl, ?_, p3⟩
       rw [HGR.out, HST.out]
       exact hsp.same (fun q h => p2 q (by
         rcases h with h | h
         · rw [HP10.out] at h
           rcases h with h | h
           · have := HPP.out q h; omega
           · omega
         · omega)) (fun q h => by
         rcases h with h | h
         · rw [HP10.out] at h
           rcases h with h | h
           · exact .inl h
           · exact .inr ⟨h.1, by omega⟩
         · exact .inr ⟨by omega, by omega⟩)
end Go.Proofs.Ytananonjomfpkaa
