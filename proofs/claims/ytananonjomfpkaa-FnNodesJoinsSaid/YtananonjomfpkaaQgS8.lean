/- The model's l4Repair: a kid that has too few keys gets some, or is joined. -/
import Derived.Test.YtananonjomfpkaaQg27
namespace Go.Proofs.Ytananonjomfpkaa
open Go.RowKit
theorem Node4.len {w : World} {F Fk Fc : Cells} {kv cv : Value} {k : List Int} {kids : List KidT} (h : Node4 w F Fk Fc kv cv k kids) {b o n cap : Nat} (hv : cv = .slice (some ⟨b, o, none⟩) n cap) (j : Nat) (hj : j < kids.length) :
   ∃ a c, w.cell? ⟨b, o + j * 2, none⟩ = some (.slice a (Tr.kidAt (kids.map KidT.t) j).ks.length c) := by
 subst hv
 obtain ⟨_, a, cap', hv, h1, h2, h3, h4⟩ := h.hc
 simp only [Value.slice.injEq] at hv
 rcases h4 with h4 | ⟨b', o', h5, h6, h7⟩
 · rw [List.length_map] at h1; omega
 · rw [← hv.1] at h5
   injection h5 with h5
   simp only [Addr.mk.injEq, and_true] at h5
   obtain ⟨rfl, rfl⟩ := h5
   have hc := (h7 j (by simpa using hj)).1
   obtain ⟨⟨kv, cv, F, ⟨kx, cx⟩⟩, hx⟩ : ∃ x, x = kids[j] := ⟨_, rfl⟩
   have ht := h.hkids kids[j] (List.getElem_mem hj)
   rw [← hx] at ht
   obtain ⟨_, _, _, _, hkr, _⟩ := ht.parts
   obtain ⟨a, c, e⟩ := hkr.shown
   refine ⟨a, c, ?_⟩
   rw [hc, List.getElem_map, ← hx, Tr.kidAt_get (by simpa using hj), List.getElem_map, ← hx]
   dsimp only [KidT.pair]
   dsimp only at e
   rw [e]
   simp [Tr.ks]
set_option maxRecDepth 100000 in
set_option maxHeartbeats 4000000 in
theorem l4Repair_c (wide : Int) (hwide : 2 ≤ wide ∧ wide ≤ 6) (w : World) (F Fk Fc : Cells) (kv cv : Value) (k : List Int) (kids : List KidT) (hnode : Node4 w F Fk Fc kv cv k kids) (i : Nat) (hi : i < kids.length) (hkc : kids.length = k.length + 1) (hk1 : 1 ≤ k.length) (hn : kids.length ≤ 100000)
   (hsz : ∀ z, z ∈ kids → z.t.ks.length ≤ 100000 ∧ z.t.cs.length ≤ 100000 ∧ Tr.Shaped z.t) (bo jo : Nat) (hbo : bo ≤ 900000000) (hjo : jo ≤ 900000000) (sh : Bool) :
   Calls Try.prog 126 #[.agg #[kv, cv], .int .i64 wide, .int .i64 (i : Int), .agg #[.int .i64 (bo : Int), .int .i64 (jo : Int), .bool sh]] w (Restored w F (Tr.repair (wide / 2) k (kids.map KidT.t) i bo jo) sh) := by
 have hkn : ∀ j, (Tr.kidAt (kids.map KidT.t) j).ks.length ≤ 100000 := fun j => by
   by_cases h : j < kids.length
   · rw [Tr.kidAt_get (by simpa using h), List.getElem_map]; exact (hsz _ (List.getElem_mem h)).1
   · unfold Tr.kidAt; rw [List.getD_eq_getElem?_getD, List.getElem?_eq_none (by simpa using h)]; simp [Tr.ks]
 obtain ⟨ca, ccap, hcv⟩ : ∃ ca ccap, cv = .slice ca kids.length ccap := by
   obtain ⟨_, a, c, hv, _⟩ := hnode.hc
   rw [List.length_map] at hv
   exact ⟨a, c, hv⟩
 obtain ⟨cb, co, rfl⟩ : ∃ cb co, ca = some ⟨cb, co, none⟩ := by
   obtain ⟨_, a, c, hv, h1, _, _, h4⟩ := hnode.hc
   rw [hcv, List.length_map] at hv
   rw [List.length_map] at h1
   simp only [Value.slice.injEq, true_and] at hv
   rcases h4 with h4 | ⟨b, o, h5, _⟩
   · omega
   · exact ⟨b, o, hv.1.trans h5⟩
 obtain ⟨ka, kcap, hkv⟩ : ∃ ka kcap, kv = .slice ka k.length kcap := by
   obtain ⟨a, c, e⟩ := hnode.hk.shown
   rw [List.length_map] at e
   exact ⟨a, c, e⟩
 have hcells : ∀ j, j < kids.length → ∃ a c, w.cell? ⟨cb, co + j * 2, none⟩ = some (.slice a (Tr.kidAt (kids.map KidT.t) j).ks.length c) ∧ cb < w.heap.size := fun j hj => by
   obtain ⟨a, c, e⟩ := hnode.len hcv j hj
   exact ⟨a, c, e, World.block_lt_of_cell? w _ e⟩
 obtain ⟨n, hnl⟩ : ∃ n, n = kids.length := ⟨_, rfl⟩
 rw [← hnl] at hcells hi hkc hn hcv
 obtain ⟨half, hhalf⟩ : ∃ half, half = wide / 2 := ⟨_, rfl⟩
 have hh1 : 1 ≤ half ∧ half ≤ 3 := by omega
 have hd : Int.tdiv wide 2 = half := by rw [Int.tdiv_eq_ediv_of_nonneg (by omega), hhalf]
 have hwm : IntKind.i64.wrap (Int.tdiv wide 2) = half := by rw [hd, IntKind.wrap_i64]; omega
 subst hcv hkv
 obtain ⟨W1, hW1⟩ : ∃ W1, W1 = (((w.alloc (.cells #[.slice ka k.length kcap, .slice (some ⟨cb, co, none⟩) n ccap] 26)).alloc (.cells #[.int .i64 (bo : Int), .int .i64 (jo : Int), .bool sh] 52)).alloc (.cells #[.slice none 0 0, .slice none 0 0] 26)).alloc (.cells #[.int .i64 0, .int .i64 0, .bool false] 52) := ⟨_, rfl⟩
 have hf1 := Four.made w (.slice ka k.length kcap) (.slice (some ⟨cb, co, none⟩) n ccap) (bo : Int) (jo : Int) sh
 have hb1 : Below w.heap.size w W1 := by
   rw [hW1]
   exact ((((Below.refl _ _).alloc (Nat.le_refl _) _).alloc (by simp) _).alloc (by simp <;> omega) _).alloc (by simp <;> omega) _
 rw [← hW1] at hf1
 have hs1 : W1.heap.size = w.heap.size + 4 := by rw [hW1]; simp
 have cell1 : ∀ j, j < n → ∃ a c, W1.cell? ⟨cb, co + j * 2, none⟩ = some (.slice a (Tr.kidAt (kids.map KidT.t) j).ks.length c) := fun j hj => by
   obtain ⟨a, c, e, hlt⟩ := hcells j hj
   exact ⟨a, c, by rw [below_cell hb1 hlt]; exact e⟩
 obtain ⟨ia, ic, ci⟩ := cell1 i hi
 have hmend : Tr.mend half (kids.map KidT.t) i = if 0 < i ∧ half < ((Tr.kidAt (kids.map KidT.t) (i - 1)).ks.length : Int) then 0 else if i + 1 < n ∧ half < ((Tr.kidAt (kids.map KidT.t) (i + 1)).ks.length : Int) then 1 else if 0 < i then 2 else 3 := by
   unfold Tr.mend; rw [List.length_map, ← hnl]
 obtain ⟨li, hli⟩ : ∃ li, li = (Tr.kidAt (kids.map KidT.t) i).ks.length := ⟨_, rfl⟩
 rw [← hli] at ci
 have hli9 : li ≤ 100000 := by rw [hli]; exact hkn _
 obtain ⟨x1, x2, x3, x4⟩ := box2 hf1.node
 obtain ⟨y1, y2, y3, y4, y5, y6⟩ := box3 hf1.rep
 obtain ⟨z1, z2, z3, z4⟩ := box2 hf1.out
 obtain ⟨v1, v2, v3, v4, v5, v6⟩ := box3 hf1.outr
 obtain ⟨D, hD⟩ : ∃ D, D = Tr.repair half k (kids.map KidT.t) i bo jo := ⟨_, rfl⟩
 rw [← hhalf, ← hD]
 have hin : (i : Int) < (n : Int) := by omega
 have hi0 : (0 : Int) ≤ (i : Int) := by omega
 have HW1 := Lib.hid hW1
 have HN := Lib.hid (And.intro hnode (And.intro hnl (And.intro hsz hkn)))
 have HKC := Lib.hid hkc
 have H1 := Lib.hid (And.intro hf1 (And.intro hb1 hs1))
 have HH := Lib.hid (And.intro hd hhalf)
 have HLI := Lib.hid hli
 have HD := Lib.hid hD
 have HC := Lib.hid cell1
 have HM := Lib.hid hmend
 clear hW1 hnode hnl hsz hkn hf1 hb1 hs1 hd hhalf hli hD cell1 hcells hmend hkc
 go_enter Try.func126, Try.ntmps126
 go_upto_region 1 with (fail)
 rw [← HW1.out]
 by_cases hA : half ≤ (li : Int)
 · go_wp2_with fail
   go_region_law (fail)
   all_goals (
     go_wp2_with fail
     clear x1 x2 x3 x4 y1 y2 y3 y4 y5 y6 z1 z2 z3 z4 v1 v2 v3 v4 v5 v6
     generalize hW : World.drew _ = W8
     have he : Ends W1 W8 w.heap.size (.slice ka k.length kcap) (.slice (some ⟨cb, co, none⟩) n ccap) (bo : Int) (jo : Int) sh := by
       rw [← hW]
       first
         | exact (ends_a H1.out.1.out H1.out.1.outr _ _ _ _ _).drew
         | exact (ends_b H1.out.1.out H1.out.1.outr _ _ _ _ _).drew
     obtain ⟨q1, q2, q3, q4, q5, hk⟩ := he
     have HK := Lib.hid hk
     clear hk hW
     refine bodyPost_ret (v := .tuple #[.agg #[.slice ka k.length kcap, .slice (some ⟨cb, co, none⟩) n ccap], .agg #[.int .i64 (bo : Int), .int .i64 (jo : Int), .bool sh]]) (by simp [results, Try.results126, go_sem, q1, q2, q3, q4, q5]) rfl ?_
     have hDe : D = ⟨.mk k (kids.map KidT.t), bo, jo⟩ := by rw [HD.out]; exact Tr.repair_none (by rw [← HLI.out]; omega)
     rw [hDe]
     have hs1 := H1.out.2.2
     have hk2 : KeptF (fun _ _ => False) w W8 := KeptF.of_below (B := w.heap.size) (H1.out.2.1.trans (HK.out.below (B := w.heap.size) (by omega) (fun x o e => by omega))) (Nat.le_refl _)
     have hn8 := HN.out.1.keep hk2
     exact ⟨_, _, F, rfl, .mk k kids F Fk Fc _ _ hn8.hk hn8.hc hn8.hkids hn8.sk hn8.sc hn8.ss hn8.ap hn8.lt, fun x o e => .inl e, hk2.mono (fun _ _ _ e => e.elim)⟩)
 · have hA' : (li : Int) < half := by omega
   by_cases ha : 0 < i
   · obtain ⟨j, rfl⟩ : ∃ j, i = j + 1 := ⟨i - 1, by omega⟩
     have hp1 : ((j + 1 : Nat) : Int) > 0 := by omega
     obtain ⟨pa, pc, pl⟩ := HC.out j (by omega)
     obtain ⟨la, hla⟩ : ∃ la, la = (Tr.kidAt (kids.map KidT.t) j).ks.length := ⟨_, rfl⟩
     rw [← hla] at pl
     have hla9 : la ≤ 100000 := by rw [hla]; exact HN.out.2.2.2 _
     have HLA := Lib.hid hla
     have hwj : IntKind.i64.wrap (((j + 1 : Nat) : Int) - 1) = (j : Int) := by rw [IntKind.wrap_i64]; omega
     have hwj3 : IntKind.i64.wrap ((j : Int) + 1 - 1) = (j : Int) := by rw [IntKind.wrap_i64]; omega
     have hwj2 : IntKind.i64.wrap (j : Int) = (j : Int) := by rw [IntKind.wrap_i64]; omega
     have hjn : (j : Int) < (n : Int) := by omega
     have hj0 : (0 : Int) ≤ (j : Int) := by omega
     clear hla
     by_cases hha : half < (la : Int)
     · have hha' : (la : Int) > half := hha
       have hm : Tr.mend half (kids.map KidT.t) (j + 1) = 0 := by rw [HM.out, Nat.add_sub_cancel, ← HLA.out, if_pos ⟨ha, hha⟩]
       have HMM := Lib.hid hm
       clear hm
       go_upto_region 6 with (fail)
       obtain ⟨W5, hW5⟩ : ∃ W5, W5 = W1.setCell ⟨w.heap.size + 1, 0, none⟩ (.int .i64 ((bo : Int) + 1)) := ⟨_, rfl⟩
       rw [← hW5]
       have hf5 : Four W5 w.heap.size (.slice ka k.length kcap) (.slice (some ⟨cb, co, none⟩) n ccap) ((bo : Int) + 1) (jo : Int) sh := by
         have h := H1.out.1
         refine ⟨by rw [hW5, set_other _ _ _ _ _ (by omega)]; exact h.node, ?_, by rw [hW5, set_other _ _ _ _ _ (by omega)]; exact h.out, by rw [hW5, set_other _ _ _ _ _ (by omega)]; exact h.outr⟩
         have := set_blk (o := 0) (.int .i64 ((bo : Int) + 1)) h.rep
         rw [hW5, this]; simp
       have hs5 : W5.heap.size = w.heap.size + 4 := by rw [hW5]; simp [H1.out.2.2]
       have hb5 : Below w.heap.size w W5 := by rw [hW5]; exact H1.out.2.1.setCell (by show w.heap.size ≤ w.heap.size + 1; omega) _
       have hk5 : KeptF (fun _ _ => False) w W5.drew := (KeptF.of_below hb5 (Nat.le_refl _)).trans ((KeptF.drew _ _).mono (fun _ _ _ e => .inl e))
       have hcall : Calls Try.prog 144 #[.agg #[.slice ka k.length kcap, .slice (some ⟨cb, co, none⟩) n ccap], .int .i64 ((j + 1 : Nat) : Int)] W5.drew (Wrought W5.drew F (Tr.ahead k (kids.map KidT.t) j)) := callRight (HN.out.1.keep hk5) j (by have := HN.out.2.1; omega) (by rw [← HN.out.2.1]; exact HKC.out) (by rw [← HN.out.2.1]; exact hn) HN.out.2.2.1 (by rw [← HLA.out]; omega)
       have HCALL := Lib.hid hcall
       have H5 := Lib.hid (And.intro hf5 (And.intro hs5 hk5))
       have hs5' : W5.heap.size = w.heap.size + 4 := hs5
       clear x1 x2 x3 x4 y1 y2 y3 y4 y5 y6 z1 z2 z3 z4 v1 v2 v3 v4 v5 v6
       obtain ⟨x1, x2, x3, x4⟩ := box2 hf5.node
       obtain ⟨y1, y2, y3, y4, y5, y6⟩ := box3 hf5.rep
       clear hcall hf5 hs5 hb5 hk5 hW5 hs5'
       go_region_law
         (first
           | (go_simp; go_at_call 144; refine HCALL.out.mono ?_; rintro e w6 ⟨kv6, cv6, F6, rfl, ht6, hF6, hk6⟩; obtain ⟨e1, e2, e3, e4, e5, e6, rfl, rfl⟩ := ht6.slices; have hf6 := H5.out.1.keep ((KeptF.drew F W5).trans (hk6.mono (fun _ _ _ e => .inl e))) (fun q o e => .inl (HN.out.1.lt q o e)); obtain ⟨f1, f2, f3, f4, f5, f6⟩ := box3 hf6.rep; obtain ⟨g1, g2, g3, g4⟩ := box2 hf6.out; obtain ⟨h1, h2, h3, h4, h5, h6⟩ := box3 hf6.outr; have H6 := Lib.hid (And.intro ht6 (And.intro hF6 (And.intro hk6 hf6))); clear ht6 hF6 hk6 hf6)
           | fail)
       all_goals (
         go_wp2_with fail
         clear x1 x2 x3 x4 y1 y2 y3 y4 y5 y6 f1 f2 f3 f4 f5 f6 g1 g2 g3 g4 h1 h2 h3 h4 h5 h6
         generalize hW : World.setCell _ _ _ = W8
         have he : Ends w6 W8 w.heap.size (.slice e1 e2 e3) (.slice e4 e5 e6) ((bo : Int) + 1) (jo : Int) sh := by
           rw [← hW]
           first
             | exact ends_a H6.out.2.2.2.out H6.out.2.2.2.outr _ _ _ _ _
             | exact ends_b H6.out.2.2.2.out H6.out.2.2.2.outr _ _ _ _ _
         obtain ⟨q1, q2, q3, q4, q5, hk⟩ := he
         have HK := Lib.hid hk
         clear hk hW
         refine bodyPost_ret (v := .tuple #[.agg #[.slice e1 e2 e3, .slice e4 e5 e6], .agg #[.int .i64 ((bo : Int) + 1), .int .i64 (jo : Int), .bool sh]]) (by simp [results, Try.results126, go_sem, q1, q2, q3, q4, q5]) rfl ?_
         have hDe : D = ⟨Tr.ahead k (kids.map KidT.t) j, bo + 1, jo⟩ := by
           rw [HD.out, Tr.repair_eq (by rw [← HLI.out]; exact hA'), HMM.out]; rfl
         rw [hDe]
         obtain ⟨ht6, hF6, hk6, hf6⟩ := H6.out
         have hs5 := H5.out.2.1
         have hdz : W5.drew.heap.size = W5.heap.size := rfl
         refine ⟨_, _, F6, rfl, ht6.keep HK.out (fun q o a e => ?_), fun q o a => ?_, ?_⟩
         · rcases hF6 q o a with h | h
           · have := HN.out.1.lt q o h; omega
           · omega
         · exact (hF6 q o a).imp id (fun h => by omega)
         · have a1 := H5.out.2.2.mono (G := F) (fun _ _ _ e => e.elim)
           have a2 := a1.trans (hk6.mono (fun q o _ e => .inl e))
           exact a2.trans (HK.out.mono (fun q o _ e => .inr (by omega))))
     · have hha' : ¬ (la : Int) > half := hha
       by_cases hb : j + 1 + 1 < n
       · obtain ⟨qa, qc, ql⟩ := HC.out (j + 1 + 1) hb
         obtain ⟨lb, hlb⟩ : ∃ lb, lb = (Tr.kidAt (kids.map KidT.t) (j + 1 + 1)).ks.length := ⟨_, rfl⟩
         rw [← hlb] at ql
         have hlb9 : lb ≤ 100000 := by rw [hlb]; exact HN.out.2.2.2 _
         have HLB := Lib.hid hlb
         have hb' : ((j + 1 : Nat) : Int) + 1 < (n : Int) := by omega
         have hbk : ((j + 1 : Nat) : Int) < (k.length : Int) := by have := HKC.out; omega
         have hwb : IntKind.i64.wrap (((j + 1 : Nat) : Int) + 1) = ((j + 1 + 1 : Nat) : Int) := by rw [IntKind.wrap_i64]; omega
         have hwb2 : IntKind.i64.wrap ((j : Int) + 1 + 1) = (j : Int) + 1 + 1 := by rw [IntKind.wrap_i64]; omega
         clear hlb
         by_cases hhb : half < (lb : Int)
         · have hhb' : (lb : Int) > half := hhb
           have hm : Tr.mend half (kids.map KidT.t) (j + 1) = 1 := by rw [HM.out, Nat.add_sub_cancel, ← HLA.out, if_neg (fun h => hha h.2), ← HLB.out, if_pos ⟨hb, hhb⟩]
           have HMM := Lib.hid hm
           clear hm
           go_upto_region 9 with (fail)
           obtain ⟨W5, hW5⟩ : ∃ W5, W5 = W1.setCell ⟨w.heap.size + 1, 0, none⟩ (.int .i64 ((bo : Int) + 1)) := ⟨_, rfl⟩
           rw [← hW5]
           have hf5 : Four W5 w.heap.size (.slice ka k.length kcap) (.slice (some ⟨cb, co, none⟩) n ccap) ((bo : Int) + 1) (jo : Int) sh := by
             have h := H1.out.1
             refine ⟨by rw [hW5, set_other _ _ _ _ _ (by omega)]; exact h.node, ?_, by rw [hW5, set_other _ _ _ _ _ (by omega)]; exact h.out, by rw [hW5, set_other _ _ _ _ _ (by omega)]; exact h.outr⟩
             have := set_blk (o := 0) (.int .i64 ((bo : Int) + 1)) h.rep
             rw [hW5, this]; simp
           have hs5 : W5.heap.size = w.heap.size + 4 := by rw [hW5]; simp [H1.out.2.2]
           have hb5 : Below w.heap.size w W5 := by rw [hW5]; exact H1.out.2.1.setCell (by show w.heap.size ≤ w.heap.size + 1; omega) _
           have hk5 : KeptF (fun _ _ => False) w W5.drew := (KeptF.of_below hb5 (Nat.le_refl _)).trans ((KeptF.drew _ _).mono (fun _ _ _ e => .inl e))
           have hcall : Calls Try.prog 145 #[.agg #[.slice ka k.length kcap, .slice (some ⟨cb, co, none⟩) n ccap], .int .i64 ((j + 1 : Nat) : Int)] W5.drew (Wrought W5.drew F (Tr.behind k (kids.map KidT.t) (j + 1))) := callLeft (HN.out.1.keep hk5) (j + 1) (by have := HN.out.2.1; omega) (by rw [← HN.out.2.1]; exact HKC.out) (by rw [← HN.out.2.1]; exact hn) HN.out.2.2.1 (by rw [← HLB.out]; omega)
           have HCALL := Lib.hid hcall
           have H5 := Lib.hid (And.intro hf5 (And.intro hs5 hk5))
           have hs5' : W5.heap.size = w.heap.size + 4 := hs5
           clear x1 x2 x3 x4 y1 y2 y3 y4 y5 y6 z1 z2 z3 z4 v1 v2 v3 v4 v5 v6
           obtain ⟨x1, x2, x3, x4⟩ := box2 hf5.node
           obtain ⟨y1, y2, y3, y4, y5, y6⟩ := box3 hf5.rep
           clear hcall hf5 hs5 hb5 hk5 hW5 hs5'
           go_region_law
             (first
               | (go_simp; go_at_call 145; refine HCALL.out.mono ?_; rintro e w6 ⟨kv6, cv6, F6, rfl, ht6, hF6, hk6⟩; obtain ⟨e1, e2, e3, e4, e5, e6, rfl, rfl⟩ := ht6.slices; have hf6 := H5.out.1.keep ((KeptF.drew F W5).trans (hk6.mono (fun _ _ _ e => .inl e))) (fun q o e => .inl (HN.out.1.lt q o e)); obtain ⟨f1, f2, f3, f4, f5, f6⟩ := box3 hf6.rep; obtain ⟨g1, g2, g3, g4⟩ := box2 hf6.out; obtain ⟨h1, h2, h3, h4, h5, h6⟩ := box3 hf6.outr; have H6 := Lib.hid (And.intro ht6 (And.intro hF6 (And.intro hk6 hf6))); clear ht6 hF6 hk6 hf6)
               | fail)
           all_goals (
             go_wp2_with fail
             clear x1 x2 x3 x4 y1 y2 y3 y4 y5 y6 f1 f2 f3 f4 f5 f6 g1 g2 g3 g4 h1 h2 h3 h4 h5 h6
             generalize hW : World.setCell _ _ _ = W8
             have he : Ends w6 W8 w.heap.size (.slice e1 e2 e3) (.slice e4 e5 e6) ((bo : Int) + 1) (jo : Int) sh := by
               rw [← hW]
               first
                 | exact ends_a H6.out.2.2.2.out H6.out.2.2.2.outr _ _ _ _ _
                 | exact ends_b H6.out.2.2.2.out H6.out.2.2.2.outr _ _ _ _ _
             obtain ⟨q1, q2, q3, q4, q5, hk⟩ := he
             have HK := Lib.hid hk
             clear hk hW
             refine bodyPost_ret (v := .tuple #[.agg #[.slice e1 e2 e3, .slice e4 e5 e6], .agg #[.int .i64 ((bo : Int) + 1), .int .i64 (jo : Int), .bool sh]]) (by simp [results, Try.results126, go_sem, q1, q2, q3, q4, q5]) rfl ?_
             have hDe : D = ⟨Tr.behind k (kids.map KidT.t) (j + 1), bo + 1, jo⟩ := by
               rw [HD.out, Tr.repair_eq (by rw [← HLI.out]; exact hA'), HMM.out]; rfl
             rw [hDe]
             obtain ⟨ht6, hF6, hk6, hf6⟩ := H6.out
             have hs5 := H5.out.2.1
             have hdz : W5.drew.heap.size = W5.heap.size := rfl
             refine ⟨_, _, F6, rfl, ht6.keep HK.out (fun q o a e => ?_), fun q o a => ?_, ?_⟩
             · rcases hF6 q o a with h | h
               · have := HN.out.1.lt q o h; omega
               · omega
             · exact (hF6 q o a).imp id (fun h => by omega)
             · have a1 := H5.out.2.2.mono (G := F) (fun _ _ _ e => e.elim)
               have a2 := a1.trans (hk6.mono (fun q o _ e => .inl e))
               exact a2.trans (HK.out.mono (fun q o _ e => .inr (by omega))))
         · have hhb' : ¬ (lb : Int) > half := hhb
           have hm : Tr.mend half (kids.map KidT.t) (j + 1) = 2 := by rw [HM.out, Nat.add_sub_cancel, ← HLA.out, if_neg (fun h => hha h.2), ← HLB.out, if_neg (fun h => hhb h.2), if_pos ha]
           have HMM := Lib.hid hm
           clear hm
           go_upto_region 12 with (fail)
           obtain ⟨W5, hW5⟩ : ∃ W5, W5 = W1.setCell ⟨w.heap.size + 1, 1, none⟩ (.int .i64 ((jo : Int) + 1)) := ⟨_, rfl⟩
           rw [← hW5]
           have hf5 : Four W5 w.heap.size (.slice ka k.length kcap) (.slice (some ⟨cb, co, none⟩) n ccap) (bo : Int) ((jo : Int) + 1) sh := by
             have h := H1.out.1
             refine ⟨by rw [hW5, set_other _ _ _ _ _ (by omega)]; exact h.node, ?_, by rw [hW5, set_other _ _ _ _ _ (by omega)]; exact h.out, by rw [hW5, set_other _ _ _ _ _ (by omega)]; exact h.outr⟩
             have := set_blk (o := 1) (.int .i64 ((jo : Int) + 1)) h.rep
             rw [hW5, this]; simp
           have hs5 : W5.heap.size = w.heap.size + 4 := by rw [hW5]; simp [H1.out.2.2]
           have hb5 : Below w.heap.size w W5 := by rw [hW5]; exact H1.out.2.1.setCell (by show w.heap.size ≤ w.heap.size + 1; omega) _
           have hk5 : KeptF (fun _ _ => False) w W5.drew := (KeptF.of_below hb5 (Nat.le_refl _)).trans ((KeptF.drew _ _).mono (fun _ _ _ e => .inl e))
           have hcall : Calls Try.prog 146 #[.agg #[.slice ka k.length kcap, .slice (some ⟨cb, co, none⟩) n ccap], .int .i64 (j : Int)] W5.drew (Wrought W5.drew F (Tr.joined k (kids.map KidT.t) j)) := callJoin (HN.out.1.keep hk5) j (by have := HN.out.2.1; omega) (by rw [← HN.out.2.1]; exact HKC.out) (by rw [← HN.out.2.1]; exact hn) HN.out.2.2.1
           have HCALL := Lib.hid hcall
           have H5 := Lib.hid (And.intro hf5 (And.intro hs5 hk5))
           have hs5' : W5.heap.size = w.heap.size + 4 := hs5
           clear x1 x2 x3 x4 y1 y2 y3 y4 y5 y6 z1 z2 z3 z4 v1 v2 v3 v4 v5 v6
           obtain ⟨x1, x2, x3, x4⟩ := box2 hf5.node
           obtain ⟨y1, y2, y3, y4, y5, y6⟩ := box3 hf5.rep
           clear hcall hf5 hs5 hb5 hk5 hW5 hs5'
           go_region_law
             (first
               | (go_simp; go_at_call 146; refine HCALL.out.mono ?_; rintro e w6 ⟨kv6, cv6, F6, rfl, ht6, hF6, hk6⟩; obtain ⟨e1, e2, e3, e4, e5, e6, rfl, rfl⟩ := ht6.slices; have hf6 := H5.out.1.keep ((KeptF.drew F W5).trans (hk6.mono (fun _ _ _ e => .inl e))) (fun q o e => .inl (HN.out.1.lt q o e)); obtain ⟨f1, f2, f3, f4, f5, f6⟩ := box3 hf6.rep; obtain ⟨g1, g2, g3, g4⟩ := box2 hf6.out; obtain ⟨h1, h2, h3, h4, h5, h6⟩ := box3 hf6.outr; have H6 := Lib.hid (And.intro ht6 (And.intro hF6 (And.intro hk6 hf6))); clear ht6 hF6 hk6 hf6)
               | fail)
           all_goals (
             go_wp2_with fail
             clear x1 x2 x3 x4 y1 y2 y3 y4 y5 y6 f1 f2 f3 f4 f5 f6 g1 g2 g3 g4 h1 h2 h3 h4 h5 h6
             generalize hW : World.setCell _ _ _ = W8
             have he : Ends w6 W8 w.heap.size (.slice e1 e2 e3) (.slice e4 e5 e6) (bo : Int) ((jo : Int) + 1) sh := by
               rw [← hW]
               first
                 | exact ends_a H6.out.2.2.2.out H6.out.2.2.2.outr _ _ _ _ _
                 | exact ends_b H6.out.2.2.2.out H6.out.2.2.2.outr _ _ _ _ _
             obtain ⟨q1, q2, q3, q4, q5, hk⟩ := he
             have HK := Lib.hid hk
             clear hk hW
             refine bodyPost_ret (v := .tuple #[.agg #[.slice e1 e2 e3, .slice e4 e5 e6], .agg #[.int .i64 (bo : Int), .int .i64 ((jo : Int) + 1), .bool sh]]) (by simp [results, Try.results126, go_sem, q1, q2, q3, q4, q5]) rfl ?_
             have hDe : D = ⟨Tr.joined k (kids.map KidT.t) j, bo, jo + 1⟩ := by
               rw [HD.out, Tr.repair_eq (by rw [← HLI.out]; exact hA'), HMM.out]; rfl
             rw [hDe]
             obtain ⟨ht6, hF6, hk6, hf6⟩ := H6.out
             have hs5 := H5.out.2.1
             have hdz : W5.drew.heap.size = W5.heap.size := rfl
             refine ⟨_, _, F6, rfl, ht6.keep HK.out (fun q o a e => ?_), fun q o a => ?_, ?_⟩
             · rcases hF6 q o a with h | h
               · have := HN.out.1.lt q o h; omega
               · omega
             · exact (hF6 q o a).imp id (fun h => by omega)
             · have a1 := H5.out.2.2.mono (G := F) (fun _ _ _ e => e.elim)
               have a2 := a1.trans (hk6.mono (fun q o _ e => .inl e))
               exact a2.trans (HK.out.mono (fun q o _ e => .inr (by omega))))
       · have hbk : ¬ ((j + 1 : Nat) : Int) < (k.length : Int) := by have := HKC.out; omega
         have hm : Tr.mend half (kids.map KidT.t) (j + 1) = 2 := by rw [HM.out, Nat.add_sub_cancel, ← HLA.out, if_neg (fun h => hha h.2), if_neg (fun h => hb h.1), if_pos ha]
         have HMM := Lib.hid hm
         clear hm
         go_upto_region 12 with (fail)
         obtain ⟨W5, hW5⟩ : ∃ W5, W5 = W1.setCell ⟨w.heap.size + 1, 1, none⟩ (.int .i64 ((jo : Int) + 1)) := ⟨_, rfl⟩
         rw [← hW5]
         have hf5 : Four W5 w.heap.size (.slice ka k.length kcap) (.slice (some ⟨cb, co, none⟩) n ccap) (bo : Int) ((jo : Int) + 1) sh := by
           have h := H1.out.1
           refine ⟨by rw [hW5, set_other _ _ _ _ _ (by omega)]; exact h.node, ?_, by rw [hW5, set_other _ _ _ _ _ (by omega)]; exact h.out, by rw [hW5, set_other _ _ _ _ _ (by omega)]; exact h.outr⟩
           have := set_blk (o := 1) (.int .i64 ((jo : Int) + 1)) h.rep
           rw [hW5, this]; simp
         have hs5 : W5.heap.size = w.heap.size + 4 := by rw [hW5]; simp [H1.out.2.2]
         have hb5 : Below w.heap.size w W5 := by rw [hW5]; exact H1.out.2.1.setCell (by show w.heap.size ≤ w.heap.size + 1; omega) _
         have hk5 : KeptF (fun _ _ => False) w W5.drew := (KeptF.of_below hb5 (Nat.le_refl _)).trans ((KeptF.drew _ _).mono (fun _ _ _ e => .inl e))
         have hcall : Calls Try.prog 146 #[.agg #[.slice ka k.length kcap, .slice (some ⟨cb, co, none⟩) n ccap], .int .i64 (j : Int)] W5.drew (Wrought W5.drew F (Tr.joined k (kids.map KidT.t) j)) := callJoin (HN.out.1.keep hk5) j (by have := HN.out.2.1; omega) (by rw [← HN.out.2.1]; exact HKC.out) (by rw [← HN.out.2.1]; exact hn) HN.out.2.2.1
         have HCALL := Lib.hid hcall
         have H5 := Lib.hid (And.intro hf5 (And.intro hs5 hk5))
         have hs5' : W5.heap.size = w.heap.size + 4 := hs5
         clear x1 x2 x3 x4 y1 y2 y3 y4 y5 y6 z1 z2 z3 z4 v1 v2 v3 v4 v5 v6
         obtain ⟨x1, x2, x3, x4⟩ := box2 hf5.node
         obtain ⟨y1, y2, y3, y4, y5, y6⟩ := box3 hf5.rep
         clear hcall hf5 hs5 hb5 hk5 hW5 hs5'
         go_region_law
           (first
             | (go_simp; go_at_call 146; refine HCALL.out.mono ?_; rintro e w6 ⟨kv6, cv6, F6, rfl, ht6, hF6, hk6⟩; obtain ⟨e1, e2, e3, e4, e5, e6, rfl, rfl⟩ := ht6.slices; have hf6 := H5.out.1.keep ((KeptF.drew F W5).trans (hk6.mono (fun _ _ _ e => .inl e))) (fun q o e => .inl (HN.out.1.lt q o e)); obtain ⟨f1, f2, f3, f4, f5, f6⟩ := box3 hf6.rep; obtain ⟨g1, g2, g3, g4⟩ := box2 hf6.out; obtain ⟨h1, h2, h3, h4, h5, h6⟩ := box3 hf6.outr; have H6 := Lib.hid (And.intro ht6 (And.intro hF6 (And.intro hk6 hf6))); clear ht6 hF6 hk6 hf6)
             | fail)
         all_goals (
           go_wp2_with fail
           clear x1 x2 x3 x4 y1 y2 y3 y4 y5 y6 f1 f2 f3 f4 f5 f6 g1 g2 g3 g4 h1 h2 h3 h4 h5 h6
           generalize hW : World.setCell _ _ _ = W8
           have he : Ends w6 W8 w.heap.size (.slice e1 e2 e3) (.slice e4 e5 e6) (bo : Int) ((jo : Int) + 1) sh := by
             rw [← hW]
             first
               | exact ends_a H6.out.2.2.2.out H6.out.2.2.2.outr _ _ _ _ _
               | exact ends_b H6.out.2.2.2.out H6.out.2.2.2.outr _ _ _ _ _
           obtain ⟨q1, q2, q3, q4, q5, hk⟩ := he
           have HK := Lib.hid hk
           clear hk hW
           refine bodyPost_ret (v := .tuple #[.agg #[.slice e1 e2 e3, .slice e4 e5 e6], .agg #[.int .i64 (bo : Int), .int .i64 ((jo : Int) + 1), .bool sh]]) (by simp [results, Try.results126, go_sem, q1, q2, q3, q4, q5]) rfl ?_
           have hDe : D = ⟨Tr.joined k (kids.map KidT.t) j, bo, jo + 1⟩ := by
             rw [HD.out, Tr.repair_eq (by rw [← HLI.out]; exact hA'), HMM.out]; rfl
           rw [hDe]
           obtain ⟨ht6, hF6, hk6, hf6⟩ := H6.out
           have hs5 := H5.out.2.1
           have hdz : W5.drew.heap.size = W5.heap.size := rfl
           refine ⟨_, _, F6, rfl, ht6.keep HK.out (fun q o a e => ?_), fun q o a => ?_, ?_⟩
           · rcases hF6 q o a with h | h
             · have := HN.out.1.lt q o h; omega
             · omega
           · exact (hF6 q o a).imp id (fun h => by omega)
           · have a1 := H5.out.2.2.mono (G := F) (fun _ _ _ e => e.elim)
             have a2 := a1.trans (hk6.mono (fun q o _ e => .inl e))
             exact a2.trans (HK.out.mono (fun q o _ e => .inr (by omega))))
   · obtain rfl : i = 0 := by omega
     have hb : 0 + 1 < n := by have := HKC.out; omega
     obtain ⟨qa, qc, ql⟩ := HC.out (0 + 1) hb
     obtain ⟨lb, hlb⟩ : ∃ lb, lb = (Tr.kidAt (kids.map KidT.t) (0 + 1)).ks.length := ⟨_, rfl⟩
     rw [← hlb] at ql
     have hlb9 : lb ≤ 100000 := by rw [hlb]; exact HN.out.2.2.2 _
     have HLB := Lib.hid hlb
     have hb' : (0 : Int) + 1 < (n : Int) := by omega
     have hb1' : (1 : Int) < (n : Int) := by omega
     have hb2' : 1 < n := by omega
     have hn0 : 0 < n := by omega
     have hbk : (0 : Int) < (k.length : Int) := by omega
     have hbk2 : 0 < k.length := by omega
     clear hlb
     simp only [Nat.zero_mul, Nat.add_zero, Nat.zero_add, Nat.one_mul] at ci ql
     by_cases hhb : half < (lb : Int)
     · have hhb' : (lb : Int) > half := hhb
       have hm : Tr.mend half (kids.map KidT.t) 0 = 1 := by rw [HM.out, if_neg (fun h => ha h.1), ← HLB.out, if_pos ⟨hb, hhb⟩]
       have HMM := Lib.hid hm
       clear hm
       go_upto_region 9 with (fail)
       obtain ⟨W5, hW5⟩ : ∃ W5, W5 = W1.setCell ⟨w.heap.size + 1, 0, none⟩ (.int .i64 ((bo : Int) + 1)) := ⟨_, rfl⟩
       rw [← hW5]
       have hf5 : Four W5 w.heap.size (.slice ka k.length kcap) (.slice (some ⟨cb, co, none⟩) n ccap) ((bo : Int) + 1) (jo : Int) sh := by
         have h := H1.out.1
         refine ⟨by rw [hW5, set_other _ _ _ _ _ (by omega)]; exact h.node, ?_, by rw [hW5, set_other _ _ _ _ _ (by omega)]; exact h.out, by rw [hW5, set_other _ _ _ _ _ (by omega)]; exact h.outr⟩
         have := set_blk (o := 0) (.int .i64 ((bo : Int) + 1)) h.rep
         rw [hW5, this]; simp
       have hs5 : W5.heap.size = w.heap.size + 4 := by rw [hW5]; simp [H1.out.2.2]
       have hb5 : Below w.heap.size w W5 := by rw [hW5]; exact H1.out.2.1.setCell (by show w.heap.size ≤ w.heap.size + 1; omega) _
       have hk5 : KeptF (fun _ _ => False) w W5.drew := (KeptF.of_below hb5 (Nat.le_refl _)).trans ((KeptF.drew _ _).mono (fun _ _ _ e => .inl e))
       have hcall : Calls Try.prog 145 #[.agg #[.slice ka k.length kcap, .slice (some ⟨cb, co, none⟩) n ccap], .int .i64 ((0 : Nat) : Int)] W5.drew (Wrought W5.drew F (Tr.behind k (kids.map KidT.t) 0)) := callLeft (HN.out.1.keep hk5) 0 (by have := HN.out.2.1; omega) (by rw [← HN.out.2.1]; exact HKC.out) (by rw [← HN.out.2.1]; exact hn) HN.out.2.2.1 (by rw [← HLB.out]; omega)
       have HCALL := Lib.hid hcall
       have H5 := Lib.hid (And.intro hf5 (And.intro hs5 hk5))
       have hs5' : W5.heap.size = w.heap.size + 4 := hs5
       clear x1 x2 x3 x4 y1 y2 y3 y4 y5 y6 z1 z2 z3 z4 v1 v2 v3 v4 v5 v6
       obtain ⟨x1, x2, x3, x4⟩ := box2 hf5.node
       obtain ⟨y1, y2, y3, y4, y5, y6⟩ := box3 hf5.rep
       clear hcall hf5 hs5 hb5 hk5 hW5 hs5'
       go_region_law
         (first
           | (go_simp; go_at_call 145; refine HCALL.out.mono ?_; rintro e w6 ⟨kv6, cv6, F6, rfl, ht6, hF6, hk6⟩; obtain ⟨e1, e2, e3, e4, e5, e6, rfl, rfl⟩ := ht6.slices; have hf6 := H5.out.1.keep ((KeptF.drew F W5).trans (hk6.mono (fun _ _ _ e => .inl e))) (fun q o e => .inl (HN.out.1.lt q o e)); obtain ⟨f1, f2, f3, f4, f5, f6⟩ := box3 hf6.rep; obtain ⟨g1, g2, g3, g4⟩ := box2 hf6.out; obtain ⟨h1, h2, h3, h4, h5, h6⟩ := box3 hf6.outr; have H6 := Lib.hid (And.intro ht6 (And.intro hF6 (And.intro hk6 hf6))); clear ht6 hF6 hk6 hf6)
           | fail)
       all_goals (
         go_wp2_with fail
         clear x1 x2 x3 x4 y1 y2 y3 y4 y5 y6 f1 f2 f3 f4 f5 f6 g1 g2 g3 g4 h1 h2 h3 h4 h5 h6
         generalize hW : World.setCell _ _ _ = W8
         have he : Ends w6 W8 w.heap.size (.slice e1 e2 e3) (.slice e4 e5 e6) ((bo : Int) + 1) (jo : Int) sh := by
           rw [← hW]
           first
             | exact ends_a H6.out.2.2.2.out H6.out.2.2.2.outr _ _ _ _ _
             | exact ends_b H6.out.2.2.2.out H6.out.2.2.2.outr _ _ _ _ _
         obtain ⟨q1, q2, q3, q4, q5, hk⟩ := he
         have HK := Lib.hid hk
         clear hk hW
         refine bodyPost_ret (v := .tuple #[.agg #[.slice e1 e2 e3, .slice e4 e5 e6], .agg #[.int .i64 ((bo : Int) + 1), .int .i64 (jo : Int), .bool sh]]) (by simp [results, Try.results126, go_sem, q1, q2, q3, q4, q5]) rfl ?_
         have hDe : D = ⟨Tr.behind k (kids.map KidT.t) 0, bo + 1, jo⟩ := by
           rw [HD.out, Tr.repair_eq (by rw [← HLI.out]; exact hA'), HMM.out]; rfl
         rw [hDe]
         obtain ⟨ht6, hF6, hk6, hf6⟩ := H6.out
         have hs5 := H5.out.2.1
         have hdz : W5.drew.heap.size = W5.heap.size := rfl
         refine ⟨_, _, F6, rfl, ht6.keep HK.out (fun q o a e => ?_), fun q o a => ?_, ?_⟩
         · rcases hF6 q o a with h | h
           · have := HN.out.1.lt q o h; omega
           · omega
         · exact (hF6 q o a).imp id (fun h => by omega)
         · have a1 := H5.out.2.2.mono (G := F) (fun _ _ _ e => e.elim)
           have a2 := a1.trans (hk6.mono (fun q o _ e => .inl e))
           exact a2.trans (HK.out.mono (fun q o _ e => .inr (by omega))))
     · have hhb' : ¬ (lb : Int) > half := hhb
       have hm : Tr.mend half (kids.map KidT.t) 0 = 3 := by rw [HM.out, if_neg (fun h => ha h.1), ← HLB.out, if_neg (fun h => hhb h.2), if_neg ha]
       have HMM := Lib.hid hm
       clear hm
       go_upto_region 13 with (fail)
       obtain ⟨W5, hW5⟩ : ∃ W5, W5 = W1.setCell ⟨w.heap.size + 1, 1, none⟩ (.int .i64 ((jo : Int) + 1)) := ⟨_, rfl⟩
       rw [← hW5]
       have hf5 : Four W5 w.heap.size (.slice ka k.length kcap) (.slice (some ⟨cb, co, none⟩) n ccap) (bo : Int) ((jo : Int) + 1) sh := by
         have h := H1.out.1
         refine ⟨by rw [hW5, set_other _ _ _ _ _ (by omega)]; exact h.node, ?_, by rw [hW5, set_other _ _ _ _ _ (by omega)]; exact h.out, by rw [hW5, set_other _ _ _ _ _ (by omega)]; exact h.outr⟩
         have := set_blk (o := 1) (.int .i64 ((jo : Int) + 1)) h.rep
         rw [hW5, this]; simp
       have hs5 : W5.heap.size = w.heap.size + 4 := by rw [hW5]; simp [H1.out.2.2]
       have hb5 : Below w.heap.size w W5 := by rw [hW5]; exact H1.out.2.1.setCell (by show w.heap.size ≤ w.heap.size + 1; omega) _
       have hk5 : KeptF (fun _ _ => False) w W5.drew := (KeptF.of_below hb5 (Nat.le_refl _)).trans ((KeptF.drew _ _).mono (fun _ _ _ e => .inl e))
       have hcall : Calls Try.prog 146 #[.agg #[.slice ka k.length kcap, .slice (some ⟨cb, co, none⟩) n ccap], .int .i64 ((0 : Nat) : Int)] W5.drew (Wrought W5.drew F (Tr.joined k (kids.map KidT.t) 0)) := callJoin (HN.out.1.keep hk5) 0 (by have := HN.out.2.1; omega) (by rw [← HN.out.2.1]; exact HKC.out) (by rw [← HN.out.2.1]; exact hn) HN.out.2.2.1
       have HCALL := Lib.hid hcall
       have H5 := Lib.hid (And.intro hf5 (And.intro hs5 hk5))
       have hs5' : W5.heap.size = w.heap.size + 4 := hs5
       clear x1 x2 x3 x4 y1 y2 y3 y4 y5 y6 z1 z2 z3 z4 v1 v2 v3 v4 v5 v6
       obtain ⟨x1, x2, x3, x4⟩ := box2 hf5.node
       obtain ⟨y1, y2, y3, y4, y5, y6⟩ := box3 hf5.rep
       clear hcall hf5 hs5 hb5 hk5 hW5 hs5'
       go_region_law
         (first
           | (go_simp; go_at_call 146; refine HCALL.out.mono ?_; rintro e w6 ⟨kv6, cv6, F6, rfl, ht6, hF6, hk6⟩; obtain ⟨e1, e2, e3, e4, e5, e6, rfl, rfl⟩ := ht6.slices; have hf6 := H5.out.1.keep ((KeptF.drew F W5).trans (hk6.mono (fun _ _ _ e => .inl e))) (fun q o e => .inl (HN.out.1.lt q o e)); obtain ⟨f1, f2, f3, f4, f5, f6⟩ := box3 hf6.rep; obtain ⟨g1, g2, g3, g4⟩ := box2 hf6.out; obtain ⟨h1, h2, h3, h4, h5, h6⟩ := box3 hf6.outr; have H6 := Lib.hid (And.intro ht6 (And.intro hF6 (And.intro hk6 hf6))); clear ht6 hF6 hk6 hf6)
           | fail)
       all_goals (
         go_wp2_with fail
         clear x1 x2 x3 x4 y1 y2 y3 y4 y5 y6 f1 f2 f3 f4 f5 f6 g1 g2 g3 g4 h1 h2 h3 h4 h5 h6
         generalize hW : World.setCell _ _ _ = W8
         have he : Ends w6 W8 w.heap.size (.slice e1 e2 e3) (.slice e4 e5 e6) (bo : Int) ((jo : Int) + 1) sh := by
           rw [← hW]
           first
             | exact ends_a H6.out.2.2.2.out H6.out.2.2.2.outr _ _ _ _ _
             | exact ends_b H6.out.2.2.2.out H6.out.2.2.2.outr _ _ _ _ _
         obtain ⟨q1, q2, q3, q4, q5, hk⟩ := he
         have HK := Lib.hid hk
         clear hk hW
         refine bodyPost_ret (v := .tuple #[.agg #[.slice e1 e2 e3, .slice e4 e5 e6], .agg #[.int .i64 (bo : Int), .int .i64 ((jo : Int) + 1), .bool sh]]) (by simp [results, Try.results126, go_sem, q1, q2, q3, q4, q5]) rfl ?_
         have hDe : D = ⟨Tr.joined k (kids.map KidT.t) 0, bo, jo + 1⟩ := by
           rw [HD.out, Tr.repair_eq (by rw [← HLI.out]; exact hA'), HMM.out]; rfl
         rw [hDe]
         obtain ⟨ht6, hF6, hk6, hf6⟩ := H6.out
         have hs5 := H5.out.2.1
         have hdz : W5.drew.heap.size = W5.heap.size := rfl
         refine ⟨_, _, F6, rfl, ht6.keep HK.out (fun q o a e => ?_), fun q o a => ?_, ?_⟩
         · rcases hF6 q o a with h | h
           · have := HN.out.1.lt q o h; omega
           · omega
         · exact (hF6 q o a).imp id (fun h => by omega)
         · have a1 := H5.out.2.2.mono (G := F) (fun _ _ _ e => e.elim)
           have a2 := a1.trans (hk6.mono (fun q o _ e => .inl e))
           exact a2.trans (HK.out.mono (fun q o _ e => .inr (by omega))))
end Go.Proofs.Ytananonjomfpkaa
