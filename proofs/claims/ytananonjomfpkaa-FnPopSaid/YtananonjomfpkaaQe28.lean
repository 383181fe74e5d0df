/- A node's block holds cells. -/
import Derived.Test.YtananonjomfpkaaQe27
/- The contract of tree: a node's tree, in rows of the call's own. -/
namespace Go.Proofs.Ytananonjomfpkaa
open Go.RowKit
theorem rowF_ints {w : World} {F : Cells} {v : Value} {k : List Int} (h : RowF w F v (k.map (Value.int .i64))) : IntsAt w v k := by
 obtain ⟨_, ka, kcap, rfl, k1, k2, k3, k4⟩ := h
 refine ⟨ka, kcap, by simp, k3, ?_⟩
 rcases k4 with k4 | ⟨kb, ko, rfl, g1, g2⟩
 · subst k4
   simp at k1
   exact .inl k1
 · refine .inr ⟨kb, ko, rfl, fun i hi => ?_⟩
   rw [g2 i (by simpa using hi)]
   simp [hi]
theorem treeO_step {wr w6 w7 : World} {lo bt j rc gg cap7 : Nat} {kv xk xc : Value} {ra : Option Addr} {ks : List Int} {cs : List Tr} {kids : List KidO} {P Q : Blocks}
   (hbox : wr.heap[bt]? = some (.cells #[kv, .slice ra j rc] 26 (0, 0))) (hj : j < cs.length) (hkt : cs.take j = kids.map KidO.t) (hlo : lo ≤ bt)
   (htr : TreeO wr lo P kv (.slice ra j rc) (.mk ks (cs.take j))) (hP : ¬ P bt)
   (hn : TreeO w6 wr.heap.size Q xk xc cs[j]) (h6 : Below wr.heap.size wr w6)
   (hpar : IntsOwn wr lo kv ks ∧ (∀ x, x ∈ kids → TreeO wr lo x.P x.kv x.cv x.t) ∧ (∀ b, ownB kv b → P b) ∧ (∀ b, ownB (.slice ra j rc) b → P b) ∧ (∀ x, x ∈ kids → ∀ b, x.P b → P b) ∧ (ownB kv :: ownB (.slice ra j rc) :: kids.map KidO.P).Pairwise ApartB ∧ (∀ b, P b → lo ≤ b ∧ b < wr.heap.size))
   (hown : w7.ownsRow lo 26 2 (.slice (some ⟨gg, 0, none⟩) (j + 1) cap7) (j + 1) (flatT (kids.map KidO.pair) ++ [xk, xc]))
   (hg : (w6.alloc (.cells #[xk, xc] 26)).grownBy w7 (Value.slice ra j rc).ownBlock)
   (hat : (Value.slice ra j rc).ownBlock = some gg ∨ gg = w6.heap.size + 1) :
   ∃ P' : Blocks, (w7.setCell ⟨bt, 1, none⟩ (.slice (some ⟨gg, 0, none⟩) (j + 1) cap7)).heap[bt]? = some (.cells #[kv, .slice (some ⟨gg, 0, none⟩) (j + 1) cap7] 26 (0, 0)) ∧
     TreeO (w7.setCell ⟨bt, 1, none⟩ (.slice (some ⟨gg, 0, none⟩) (j + 1) cap7)) lo P' kv (.slice (some ⟨gg, 0, none⟩) (j + 1) cap7) (.mk ks (cs.take (j + 1))) ∧ ¬ P' bt ∧
     Below lo wr (w7.setCell ⟨bt, 1, none⟩ (.slice (some ⟨gg, 0, none⟩) (j + 1) cap7)) := by
 obtain ⟨hk, hkids, sk, sc, ss, ap, lt⟩ := hpar
 have hbt : bt < wr.heap.size := (Array.getElem?_eq_some_iff.1 hbox).1
 have hsz6 : wr.heap.size ≤ w6.heap.size := h6.size
 have hsz7 : w6.heap.size + 1 ≤ w7.heap.size := by have := hg.size; simpa using this
 obtain ⟨wf, hwf⟩ : ∃ wf, wf = w7.setCell ⟨bt, 1, none⟩ (.slice (some ⟨gg, 0, none⟩) (j + 1) cap7) := ⟨_, rfl⟩
 have hsf : wf.heap.size = w7.heap.size := by rw [hwf]; simp
 have own : ∀ k, (Value.slice ra j rc).ownBlock = some k → P k := fun k h => sc k h
 have old6 : ∀ k, k < w6.heap.size → (Value.slice ra j rc).ownBlock ≠ some k → w7.heap[k]? = w6.heap[k]? := fun k h1 h3 => by
   rw [hg.block k (by simp; omega) (fun e => h3 e.symm), old_blk _ _ _ h1]
 have old6f : ∀ k, k < w6.heap.size → k ≠ bt → (Value.slice ra j rc).ownBlock ≠ some k → wf.heap[k]? = w6.heap[k]? := fun k h1 h2 h3 => by
   rw [hwf, set_other _ _ _ _ _ h2, old6 k h1 h3]
 have hbox' : wf.heap[bt]? = some (.cells #[kv, .slice (some ⟨gg, 0, none⟩) (j + 1) cap7] 26 (0, 0)) := by
   have h1 : w7.heap[bt]? = some (.cells #[kv, .slice ra j rc] 26 (0, 0)) := ((old6 bt (by omega) (fun e => hP (own _ e))).trans (h6.block bt hbt)).trans hbox
   rw [hwf]; exact set_blk _ h1
 have hrow : TreesOwn wf lo (.slice (some ⟨gg, 0, none⟩) (j + 1) cap7) (kids.map KidO.pair ++ [(xk, xc)]) := by
   have hl : (kids.map KidO.pair ++ [(xk, xc)]).length = j + 1 := by
     have := congrArg List.length hkt
     simp at this ⊢
     omega
   unfold TreesOwn
   rw [hl, flatT_append]
   refine ownsRow_held (by simpa [flatT] using hown) (fun k e => ?_)
   have e' : gg = k := by simpa [Value.ownBlock] using e
   rw [hwf, set_other _ _ _ _ _ (fun e2 => ?_)]
   subst e'; subst e2
   rcases hat with h | h
   · exact hP (own _ h)
   · omega
 have hpush := TreeO.push (w' := wf) (u := cs[j]) hk hkids sk sc ss ap lt (by omega)
   (fun b h1 h2 => (old6f b (by have := (lt b h1).2; omega) (fun e => hP (e ▸ h1)) h2).trans (h6.block b (lt b h1).2))
   ((hn.same (w' := wf) (by omega) (fun b h => old6f b (hn.lt b h).2 (by have := (hn.lt b h).1; omega) (fun e => by have := (lt b (own b e)).2; have := (hn.lt b h).1; omega))).lower (by omega)) (fun b h => (hn.lt b h).1) hrow
   (fun b h => by
     have e' : gg = b := by simpa [ownB, Value.ownBlock] using h
     subst e'
     rcases hat with h2 | h2
     · exact .inl h2
     · exact .inr ⟨by omega, fun hq => by have := (hn.lt _ hq).2; omega⟩)
 rw [← hkt, List.take_append_getElem] at hpush
 rw [← hwf]
 refine ⟨_, hbox', hpush.1, fun h => ?_, ?_, ?_, ?_, by omega, fun k hk => ?_⟩
 · rcases hpush.2 bt h with h | h
   · exact hP h
   · omega
 · rw [hwf]; exact hg.os.trans h6.os
 · rw [hwf]; exact hg.tape.trans h6.tape
 · rw [hwf]; exact hg.output.trans h6.output
 · exact (old6f k (by omega) (by omega) (fun e => by have := (lt k (own k e)).1; omega)).trans (h6.block k (by omega))
set_option maxRecDepth 100000 in
set_option maxHeartbeats 2000000 in
theorem tree_c {w : World} {F : Cells} {b : Nat} {t : Tr} (ht : Nd w F b t) (hw : t.weight ≤ 1048576) :
   ∀ w', Below w.heap.size w w' →
   Calls Try.prog 56 #[.pointer (some ⟨b, 0, none⟩)] w' fun e w'' => ∃ kv cv P, e = .returned (.agg #[kv, cv]) ∧ TreeO w'' w'.heap.size P kv cv t ∧ Below w'.heap.size w' w'' := by
 induction ht with
 | mk ks kds F Fk Fc b kv cv hbox hkr hcr hkids sb sk sc ss ap lt ih =>
   intro w' hbw
   obtain ⟨i0, hi0, hz0, hz1, hz2⟩ := info_parts Try.infoTree
   simp only [Tr.weight] at hw
   obtain ⟨cs, hcs⟩ : ∃ cs, cs = kds.map KidD.t := ⟨_, rfl⟩
   rw [← hcs] at hw ⊢
   have hcl : cs.length = kds.length := by rw [hcs]; simp
   have hl0 := Tr.length_le_weights cs
   have hB := hbw.size
   have hblt : b < w.heap.size := (Array.getElem?_eq_some_iff.1 hbox).1
   have hka := rowF_ints (hkr.keep (KeptF.of_below (F := fun _ _ => False) hbw (Nat.le_refl _)) (fun _ _ _ h => h))
   have hcr' := hcr.keep (KeptF.of_below (F := fun _ _ => False) hbw (Nat.le_refl _)) (fun _ _ _ h => h)
   have hbox' := (hbw.block b hblt).trans hbox
   obtain ⟨_, ca, ccap, rfl, c1, c2, c3, c4⟩ := hcr'
   rw [List.length_map, ← hcl] at c1 hbox'
   have hat : ∀ (i : Nat) (h : i < cs.length), ∃ (cb co : Nat) (p : Nat), ca = some ⟨cb, co, none⟩ ∧ cb < w'.heap.size ∧ w'.cell? ⟨cb, co + i, none⟩ = some (.pointer (some ⟨p, 0, none⟩)) ∧
       ∀ w2, Below w.heap.size w w2 → Calls Try.prog 56 #[.pointer (some ⟨p, 0, none⟩)] w2 fun e w3 => ∃ kv cv P, e = .returned (.agg #[kv, cv]) ∧ TreeO w3 w2.heap.size P kv cv cs[i] ∧ Below w2.heap.size w2 w3 := fun i hi => by
     have hi' : i < kds.length := by omega
     rcases c4 with h | ⟨cb, co, rfl, g1, g2⟩
     · omega
     · have hx := g2 i (by simpa using hi')
       have hwt := Tr.weight_get_le cs i hi
       have he : cs[i] = kds[i].t := by simp [hcs]
       refine ⟨cb, co, kds[i].p, rfl, lt_of_there (o := co + i) (by rw [hx]; rfl), by rw [hx]; simp [KidD.ptr], ?_⟩
       rw [he] at hwt ⊢
       exact ih kds[i] (List.getElem_mem hi') (by omega)
   have hka0 := hka
   obtain ⟨ka, kcp, hkv, -⟩ := hka0
   subst hkv
   have HAT := Lib.hid hat
   have HKA := Lib.hid hka
   have HBW := Lib.hid hbw
   obtain ⟨W1, hW1⟩ : ∃ W1, W1 = w'.alloc (.cells #[.slice none 0 0, .slice none 0 0] 26) := ⟨_, rfl⟩
   have hs1 : W1.heap.size = w'.heap.size + 1 := by rw [hW1]; simp
   have hb1 : Below w'.heap.size w' W1 := by rw [hW1]; exact (Below.refl _ _).alloc (Nat.le_refl _) _
   have kb : W1.heap[w'.heap.size]? = some (.cells #[.slice none 0 0, .slice none 0 0] 26 (0, 0)) := by rw [hW1, new_blk]
   have nb : W1.heap[b]? = some (.cells #[.slice ka ks.length kcp, .slice ca cs.length ccap] 99 (0, 0)) := (hb1.block b (by omega)).trans hbox'
   have hcl1 := clone_c W1 (ks := ks) (v := .slice ka ks.length kcp) (by
     obtain ⟨a, cap, e1, e2, e3⟩ := hka
     refine ⟨a, cap, e1, e2, ?_⟩
     rcases e3 with e3 | ⟨kb, ko, e4, e5⟩
     · exact .inl e3
     · exact .inr ⟨kb, ko, e4, fun i hi => by rw [below_cell hb1 (World.block_lt_of_cell? w' _ (e5 i hi))]; exact e5 i hi⟩) (by omega)
   have HCL := Lib.hid hcl1
   have HW1 := Lib.hid hW1
   have HB1 := Lib.hid (And.intro hb1 (And.intro kb nb))
   have nbx := nb
   rw [hW1] at nbx
   obtain ⟨x1, x2, x3, x4⟩ := box2 nbx
   clear hcl nbx hbox hkr hcr hkids sb sk sc ss ap lt ih hbw hka hbox' c4 hat hcl1 hW1 hb1 kb nb hcs
   go_enter Try.func56, Try.ntmps56
   go_wp2_with fail
   rw [← HW1.out]
   refine HCL.out.mono ?_
   rintro e w2 ⟨v2, rfl, hown2, hb2⟩
   obtain ⟨a2, q2, rfl⟩ := hown2.shown
   have nb2 := (hb2.block b (by omega)).trans HB1.out.2.2
   clear x1 x2 x3 x4
   obtain ⟨x1, x2, x3, x4⟩ := box2 nb2
   have hs2 := hb2.size
   have hb2' := HB1.out.1.trans (hb2.mono (by omega))
   obtain ⟨y1, y2, y3, y4⟩ := box2 ((old_blk w2 (.cells #[.slice a2 ks.length q2, .slice none 0 0] 26) _ (by omega)).trans nb2)
   obtain ⟨W3, hW3⟩ : ∃ W3, W3 = w2.alloc (.cells #[.slice a2 ks.length q2, .slice none 0 0] 26) := ⟨_, rfl⟩
   have hs3 : W3.heap.size = w2.heap.size + 1 := by rw [hW3]; simp
   have hb3 : Below w2.heap.size w2 W3 := by rw [hW3]; exact (Below.refl _ _).alloc (Nat.le_refl _) _
   have hbx3 : W3.heap[w2.heap.size]? = some (.cells #[.slice a2 ks.length q2, .slice none 0 0] 26 (0, 0)) := by rw [hW3, new_blk]
   have htr3 : TreeO W3 (w'.heap.size + 1) (fun x => ownB (.slice a2 ks.length q2) x) (.slice a2 ks.length q2) (.slice none 0 0) (.mk ks (cs.take 0)) := by
     refine .mk ks [] _ _ _ (ownsRow_held (IntsOwn.lower hown2 (by omega)) (fun k e => hb3.block k (hown2.lt k e).2)) ⟨rfl, .inl ⟨rfl, rfl⟩⟩ (fun x h => by cases h) (fun b h => h) (fun b h => by cases h) (fun x h => by cases h) ?_ (fun q e => ⟨by have := (hown2.lt q e).1; omega, by have := (hown2.lt q e).2; omega⟩)
     exact List.pairwise_cons.2 ⟨fun R hR b _ h => (by simp at hR; subst hR; cases h), List.pairwise_cons.2 ⟨fun _ h => (by cases h), List.Pairwise.nil⟩⟩
   have H0 := Lib.hid (And.intro hbx3 (And.intro htr3 (show ¬ ownB (.slice a2 ks.length q2) w2.heap.size from fun e => by have := (hown2.lt _ e).2; omega)))
   have HB3 := Lib.hid (Below.trans (hb2.mono (show w'.heap.size + 1 ≤ W1.heap.size by omega)) (hb3.mono (by omega)))
   have HW3 := Lib.hid hW3
   clear hb2 hb2' hown2 nb2 hb3 hbx3 htr3 hW3
   go_wp2_with fail
   rw [← HW3.out]
   clear x1 x2 x3 x4 y1 y2 y3 y4
   go_loopw [18] (fun i wr => ∃ (j : Nat) (vk : Value) (P : Blocks), j ≤ cs.length ∧ i = .int .i64 j ∧ wr.heap[w2.heap.size]? = some (.cells #[.slice a2 ks.length q2, vk] 26 (0, 0)) ∧ TreeO wr (w'.heap.size + 1) P (.slice a2 ks.length q2) vk (.mk ks (cs.take j)) ∧ ¬ P w2.heap.size ∧ Below (w'.heap.size + 1) W1 wr) (fun i _ => cs.length - (intOf i).toNat)
   case atStart => exact ⟨0, _, _, Nat.zero_le _, rfl, H0.out.1, H0.out.2.1, H0.out.2.2, HB3.out⟩
   case round =>
     obtain ⟨j, vk, P, hj, rfl, hbx, htr, hP, hbel1⟩ := hrel
     have hbel : Below w'.heap.size w' wr := HB1.out.1.trans (hbel1.mono (by omega))
     by_cases hlt : j < cs.length
     · obtain ⟨cb, co, p, rfl, hcb, hcell, hcall⟩ := HAT.out j hlt
       have hcell' : wr.cell? ⟨cb, co + j, none⟩ = some (.pointer (some ⟨p, 0, none⟩)) := by rw [below_cell hbel (by omega)]; exact hcell
       obtain ⟨kids, hkt, hpk, hpc, hpx, psk, psc, pss, pap, plt⟩ := htr.parts
       have hlk : kids.length = j := by
         have := congrArg List.length hkt
         simp at this
         omega
       obtain ⟨ra, rc, hvk⟩ := TreesOwn.shown hpc
       rw [List.length_map, hlk] at hvk
       subst hvk
       have hrow : wr.ownsRow (w'.heap.size + 1) 26 2 (.slice ra j rc) j (flatT (kids.map KidO.pair)) := by
         have h := hpc
         unfold TreesOwn at h
         rw [List.length_map, hlk] at h
         exact h
       have hcl := hcall wr (HBW.out.trans (hbel.mono hB))
       have hszr := hbel.size
       have hlt2 : w2.heap.size < wr.heap.size := (Array.getElem?_eq_some_iff.1 hbx).1
       have ne1 : some w2.heap.size ≠ (Value.slice ra j rc).ownBlock := fun e => hP (psc _ e.symm)
       obtain ⟨u1, u2, u3, u4⟩ := box2 hbx
       have NE1 := Lib.hid ne1
       have HCALL := Lib.hid (hcall wr.drew (HBW.out.trans ((hbel.mono hB).drew)))
       have HPAR := Lib.hid (And.intro hpk (And.intro hpx (And.intro psk (And.intro psc (And.intro pss (And.intro pap plt))))))
       have HTR := Lib.hid (And.intro hbx (And.intro hkt (And.intro htr hP)))
       have HROW := Lib.hid hrow
       have HBEL := Lib.hid hbel1
       clear hbel1 hcell hcall hkt hpk hpc hpx psk psc pss pap plt hrow hcl ne1 hbx htr hP hbel
       go_wp2_with fail
       go_region_law
         (first
           | ((refine step_append_lies _ (by rfl) _ _ _ (by rfl) (w'.heap.size + 1) 26 i0 _ 2 48 Try.underlying24 hi0 hz0 hz1 hz2 rfl (by omega) _ j _ (by rfl) (H6.out.2.2.2.alloc _) ⟨w6.heap.size, 0, none⟩ 1 1 [.slice p1 p2 p3, .slice p4 p5 p6] (by rfl) (by rfl) (World.news_of_block (cs := #[.slice p1 p2 p3, .slice p4 p5 p6]) (t := 26) (fr := (0, 0)) (heap_alloc_new w6 _)) (by simp [Value.oneCell']) (by omega) (by unfold maxLen; omega) (by omega) (by simp; omega) (w6.heap.size + 1) (by simp) ?_; intro gg cap7 w7 hown7 hgrow7 hat7 hlt7; have v7c := (hgrow7.cell_far ⟨w2.heap.size, 1, none⟩ (by simp; omega) NE1.out).trans t2; have v7f := (hgrow7.frozen_far ⟨w2.heap.size, 1, none⟩ (by simp; omega) NE1.out).trans t4; have H7 := Lib.hid (And.intro hown7 (And.intro hgrow7 hat7)); clear hown7 hgrow7 hat7))
           | (go_simp; go_at_call 56; refine HCALL.out.mono ?_; rintro e w6 ⟨xk, xc, Q, rfl, htr6, hb6⟩; obtain ⟨p1, p2, p3, p4, p5, p6, rfl, rfl⟩ := htr6.tree.slices; have hs6 : wr.heap.size ≤ w6.heap.size := hb6.size; have j6 := (hb6.block w2.heap.size (by simp; omega)).trans HTR.out.1; obtain ⟨z1, z2, z3, z4⟩ := box2 j6; obtain ⟨t1, t2, t3, t4⟩ := box2 ((old_blk w6 (.cells #[.slice p1 p2 p3, .slice p4 p5 p6] 26) _ (by omega)).trans j6); have hr6 := ownsRow_same HROW.out (fun k h1 h2 => hb6.block k (by simp; omega)); have H6 := Lib.hid (And.intro htr6 (And.intro hb6 (And.intro j6 hr6))); clear htr6 hb6 j6 hr6))
       all_goals (
         go_wp2_with fail
         go_roundw
         case rel =>
           obtain ⟨P', g1, g2, g3, g4⟩ := treeO_step HTR.out.1 hlt HTR.out.2.1 (by omega) HTR.out.2.2.1 HTR.out.2.2.2 H6.out.1 (below_undrew H6.out.2.1) HPAR.out H7.out.1 H7.out.2.1 H7.out.2.2
           exact ⟨j + 1, _, P', by omega, by go_num, g1, g2, g3, HBEL.out.trans g4⟩
         case measure => simp [intOf]; omega)
     · obtain rfl : j = cs.length := by omega
       rw [List.take_length] at htr
       obtain ⟨_, _, va, vc, -, rfl⟩ := htr.shown
       have hrb := (hbel1.block w'.heap.size (by omega)).trans HB1.out.2.1
       obtain ⟨u1, u2, u3, u4⟩ := box2 hbx
       obtain ⟨r1, r2, r3, r4⟩ := box2 hrb
       have hszr := hbel.size
       have HTR := Lib.hid htr
       have HBEL := Lib.hid hbel
       have HRB := Lib.hid hrb
       clear htr hbel hbel1 hbx hrb
       go_wp2_with fail
       obtain ⟨wf, hwf⟩ : ∃ wf, wf = (wr.setCell ⟨w'.heap.size, 0, none⟩ (.slice a2 ks.length q2)).setCell ⟨w'.heap.size, 1, none⟩ (.slice va cs.length vc) := ⟨_, rfl⟩
       have hfb : wf.heap[w'.heap.size]? = some (.cells #[.slice a2 ks.length q2, .slice va cs.length vc] 26 (0, 0)) := by
         rw [hwf]; exact set_blk (o := 1) _ (set_blk (o := 0) _ HRB.out)
       obtain ⟨d1, d2, d3, d4⟩ := box2 hfb
       rw [← hwf]
       refine bodyPost_ret (v := .agg #[.slice a2 ks.length q2, .slice va cs.length vc]) (by simp [results, Try.results56, go_sem, d1, d2]) rfl ⟨_, _, P, rfl, ?_, ?_⟩
       · exact (HTR.out.same (w' := wf) (by rw [hwf]; simp) (fun q e => by have := (HTR.out.lt q e).1; rw [hwf, set_other _ _ _ _ _ (by omega), set_other _ _ _ _ _ (by omega)])).lower (by omega)
       · rw [hwf]; exact (HBEL.out.setCell (by show w'.heap.size ≤ w'.heap.size; omega) _).setCell (by show w'.heap.size ≤ w'.heap.size; omega) _
end Go.Proofs.Ytananonjomfpkaa
/- The contract of the program's DeleteKey. -/
namespace Go.Proofs.Ytananonjomfpkaa
open Go.RowKit
def Tr.delKeyT (wide key : Int) (t : Tr) : Tr := if Tr.lacksB wide key t = true then Tr.delT wide key t else .mk [] []
set_option maxRecDepth 100000 in
set_option maxHeartbeats 2000000 in
theorem impl_delete {w : World} {B : Nat} {kv cv : Value} {t : Tr} (ht : TreeIn w B kv cv t) (hw : t.weight ≤ 1048576) (wide key : Int) (hn1 : -9223372036854775808 ≤ wide) (hn2 : wide ≤ 9223372036854775807) (w' : World) (hbw : Below B w w') (hB : B ≤ w'.heap.size) :
   Calls Try.prog 16 #[.agg #[kv, cv], .int .i64 wide, .int .i64 key] w' fun e w'' => ∃ kv' cv' P, e = .returned (.tuple #[.agg #[kv', cv'], .bool (Tr.lacksB wide key t)]) ∧ TreeO w'' w'.heap.size P kv' cv' (Tr.delKeyT wide key t) ∧ Below w'.heap.size w' w'' := by
 obtain ⟨a5, n5, m5, a6, n6, m6, rfl, rfl⟩ := ht.slices
 obtain ⟨W1, hW1⟩ : ∃ W1, W1 = (w'.alloc (.cells #[.slice a5 n5 m5, .slice a6 n6 m6] 26)).alloc (.cells #[.slice none 0 0, .slice none 0 0] 26) := ⟨_, rfl⟩
 have hs1 : W1.heap.size = w'.heap.size + 2 := by rw [hW1]; simp
 have hb1 : Below w'.heap.size w' W1 := by rw [hW1]; exact ((Below.refl _ _).alloc (Nat.le_refl _) _).alloc (by simp) _
 have k0 : W1.heap[w'.heap.size]? = some (.cells #[.slice a5 n5 m5, .slice a6 n6 m6] 26 (0, 0)) := by rw [hW1, old_blk _ _ _ (by simp), new_blk]
 have kb : W1.heap[w'.heap.size + 1]? = some (.cells #[.slice none 0 0, .slice none 0 0] 26 (0, 0)) := by
   rw [hW1, show w'.heap.size + 1 = (w'.alloc (.cells #[.slice a5 n5 m5, .slice a6 n6 m6] 26)).heap.size by simp, new_blk]
 have k0x := k0
 rw [hW1] at k0x
 obtain ⟨x1, x2, x3, x4⟩ := box2 k0x
 have HT := Lib.hid ht
 have HBW := Lib.hid hbw
 have HW1 := Lib.hid hW1
 have H1 := Lib.hid (And.intro hb1 kb)
 clear ht hbw hW1 hb1 k0 kb k0x
 go_enter Try.func16, Try.ntmps16
 go_wp2_with fail
 rw [← HW1.out]
 refine (shrunkBy_c HT.out hw wide key hn1 hn2 W1 (HBW.out.trans (H1.out.1.mono hB)) (by omega)).mono ?_
 intro e w2 hgo
 rcases hgo with ⟨ha, rfl, hb2⟩ | ⟨ha, gb, b, F, rfl, hgr, hF, -, hb2⟩
 · have HA := Lib.hid (show Tr.delKeyT wide key t = .mk [] [] by simp [Tr.delKeyT, ha])
   have HAB := Lib.hid ha
   have hs2 := hb2.size
   have hrb := (hb2.block (w'.heap.size + 1) (by omega)).trans H1.out.2
   obtain ⟨r1, r2, r3, r4⟩ := box2 hrb
   have H2 := Lib.hid (And.intro (H1.out.1.trans (hb2.mono (by omega))) hrb)
   clear ha hb2 hrb x1 x2 x3 x4
   go_wp2_with fail
   obtain ⟨wf, hwf⟩ : ∃ wf, wf = (w2.setCell ⟨w'.heap.size + 1, 0, none⟩ (.slice none 0 0)).setCell ⟨w'.heap.size + 1, 1, none⟩ (.slice none 0 0) := ⟨_, rfl⟩
   have hfb : wf.heap[w'.heap.size + 1]? = some (.cells #[.slice none 0 0, .slice none 0 0] 26 (0, 0)) := by
     rw [hwf]; exact set_blk (o := 1) _ (set_blk (o := 0) _ H2.out.2)
   obtain ⟨d1, d2, d3, d4⟩ := box2 hfb
   rw [← hwf]
   refine bodyPost_ret (v := .tuple #[.agg #[.slice none 0 0, .slice none 0 0], .bool false]) (by simp [results, Try.results16, go_sem, d1, d2]) rfl ⟨_, _, _, by rw [HAB.out], by rw [HA.out]; exact TreeO.nil _ _, ?_⟩
   rw [hwf]; exact (H2.out.1.setCell (by show w'.heap.size ≤ w'.heap.size + 1; omega) _).setCell (by show w'.heap.size ≤ w'.heap.size + 1; omega) _
 · have HA := Lib.hid (show Tr.delKeyT wide key t = Tr.delT wide key t by simp [Tr.delKeyT, ha])
   have HAB := Lib.hid ha
   have hs2 := hb2.size
   have hiw := Tr.delT_weight wide key t
   have hsm := Tr.valid_small (by simp only [Tr.lacksB, Bool.and_eq_true] at ha; exact ha.1)
   have htc := tree_c hgr.node (by omega) w2 (Below.refl _ _)
   have HTC := Lib.hid htc
   have HB2 := Lib.hid hb2
   obtain ⟨y1, y2, y3, y4, y5, y6, y7, y8, y9⟩ := hgr.box.cells
   clear ha hb2 x1 x2 x3 x4 hgr hF htc hiw
   go_wp2_with fail
   refine HTC.out.mono ?_
   rintro e w4 ⟨k4, c4, P, rfl, ht4, hb4⟩
   obtain ⟨q1, q2, q3, q4, q5, q6, rfl, rfl⟩ := ht4.tree.slices
   have hs4 := hb4.size
   have hbr : Below W1.heap.size W1 w4 := HB2.out.trans (hb4.mono (by omega))
   have hrb := (hbr.block (w'.heap.size + 1) (by omega)).trans H1.out.2
   obtain ⟨r1, r2, r3, r4⟩ := box2 hrb
   have HZ := Lib.hid (And.intro ht4 (And.intro hbr hrb))
   clear ht4 hb4 hrb hbr y1 y2 y3 y4 y5 y6 y7 y8 y9
   go_wp2_with fail
   obtain ⟨wf, hwf⟩ : ∃ wf, wf = (w4.setCell ⟨w'.heap.size + 1, 0, none⟩ (.slice q1 q2 q3)).setCell ⟨w'.heap.size + 1, 1, none⟩ (.slice q4 q5 q6) := ⟨_, rfl⟩
   have hfb : wf.heap[w'.heap.size + 1]? = some (.cells #[.slice q1 q2 q3, .slice q4 q5 q6] 26 (0, 0)) := by
     rw [hwf]; exact set_blk (o := 1) _ (set_blk (o := 0) _ HZ.out.2.2)
   obtain ⟨d1, d2, d3, d4⟩ := box2 hfb
   rw [← hwf]
   refine bodyPost_ret (v := .tuple #[.agg #[.slice q1 q2 q3, .slice q4 q5 q6], .bool true]) (by simp [results, Try.results16, go_sem, d1, d2]) rfl ⟨_, _, P, by rw [HAB.out], ?_, ?_⟩
   · rw [HA.out]
     exact (HZ.out.1.same (w' := wf) (by rw [hwf]; simp) (fun q e => by have := (HZ.out.1.lt q e).1; rw [hwf, set_other _ _ _ _ _ (by omega), set_other _ _ _ _ _ (by omega)])).lower (by omega)
   · rw [hwf]; exact ((H1.out.1.trans (HZ.out.2.1.mono (by omega))).setCell (by show w'.heap.size ≤ w'.heap.size + 1; omega) _).setCell (by show w'.heap.size ≤ w'.heap.size + 1; omega) _
end Go.Proofs.Ytananonjomfpkaa
/- Maps of pointers to counts. -/
namespace Go.Proofs.Ytananonjomfpkaa
open Go.RowKit
def CMap (w : World) (b : Nat) (K : Nat → Option Nat) : Prop :=
 ∃ L clock, PMapIs w b L clock ∧ (∀ e ∈ L, PAddr w e.1 ∧ ∃ k n : Nat, e.1 = ⟨k, 0, none⟩ ∧ e.2.1 = .int .i64 n ∧ K k = some n) ∧ ∀ k n, K k = some n → ∃ e ∈ L, e.1 = ⟨k, 0, none⟩
theorem CMap.kept {w w' : World} {b : Nat} {K : Nat → Option Nat} (h : CMap w b K) (hk : ∀ k, k < w.heap.size → w'.heap[k]? = w.heap[k]?) : CMap w' b K := by
 obtain ⟨L, clock, h1, h2, h3⟩ := h
 have hlt : b < w.heap.size := (Array.getElem?_eq_some_iff.1 h1).1
 exact ⟨L, clock, (hk b hlt).trans h1, fun e he => ⟨(h2 e he).1.kept (fun k hlt _ => hk k hlt), (h2 e he).2⟩, h3⟩
theorem CMap.ne {w : World} {b k : Nat} {K : Nat → Option Nat} {c : Array Value} {t : TypeId} (h : CMap w b K) (hk : w.heap[k]? = some (.cells c t (0, 0))) : k ≠ b := by
 obtain ⟨L, clock, h1, _⟩ := h
 unfold PMapIs at h1
 intro e
 rw [e, h1] at hk
 cases hk
section
variable {P : Program} {T K E V : TypeId} {j jv : TypeInfo}
theorem cmap_new (w : World) : CMap (w.alloc (.map #[] 0)) w.heap.size (fun _ => none) :=
 ⟨[], 0, by unfold PMapIs; rw [show (w.alloc (.map #[] 0)).heap[w.heap.size]? = some (.map #[] 0) from World.alloc_heap_new w _]; rfl, by simp, by simp⟩
theorem cmap_lookup (w : World) (hT : P.underlying T = some (.map K V)) (hk : P.underlying K = some (.pointer E)) (hE : P.info? E = some j) (hsz : j.size ≠ 0) {z : Value} (hV : P.info? V = some jv) (hz : jv.zero = some z)
   {b : Nat} {M : Nat → Option Nat} (hm : CMap w b M) {q n : Nat} (hq : PAddr w ⟨q, 0, none⟩) (hn : M q = some n) :
   (Instr.lookup T (.map (some b)) (.pointer (some ⟨q, 0, none⟩)) false).run P w = .ok (.int .i64 n) w := by
 obtain ⟨L, clock, h1, h2, h3⟩ := hm
 rw [run_lookup_ptr w hT hk hE hsz hV hz h1 hq (fun e he => (h2 e he).1)]
 obtain ⟨e, he, e1⟩ := h3 q n hn
 cases hp : pfind ⟨q, 0, none⟩ L 0 with
 | none => exact absurd e1.symm (pfind_not hp e he)
 | some r =>
   obtain ⟨i, v⟩ := r
   obtain ⟨_, hi, e2, e3⟩ := pfind_some hp
   obtain ⟨_, k, m, e4, e5, e6⟩ := h2 _ (List.getElem_mem hi)
   rw [e2] at e4
   cases e4
   rw [e3] at e5
   rw [hn] at e6
   cases e6
   simp [e5]
theorem cmap_update (w : World) (hT : P.underlying T = some (.map K V)) (hk : P.underlying K = some (.pointer E)) (hE : P.info? E = some j) (hsz : j.size ≠ 0)
   {b : Nat} {M : Nat → Option Nat} (hm : CMap w b M) {q : Nat} (hq : PAddr w ⟨q, 0, none⟩) (hn : M q = none) (n : Nat) :
   ∃ o : Obj, (Instr.mapUpdate T (.map (some b)) (.pointer (some ⟨q, 0, none⟩)) (.int .i64 n)).run P w = .ok () (w.putObj b o) ∧ CMap (w.putObj b o) b (fun k => if k = q then some n else M k) := by
 obtain ⟨L, clock, h1, h2, h3⟩ := hm
 have hlt : b < w.heap.size := (Array.getElem?_eq_some_iff.1 h1).1
 have hne : ∀ a, PAddr w a → a.block ≠ b := fun a ⟨c, t, h⟩ e => by unfold PMapIs at h1; rw [e, h1] at h; cases h
 have hput : ∀ (o : Obj) a, PAddr w a → PAddr (w.putObj b o) a := fun o a h => h.kept (fun k _ e => World.putObj_heap_other (by rw [e]; exact hne a h))
 have hno : ∀ e ∈ L, (⟨q, 0, none⟩ : Addr) ≠ e.1 := fun e he hqe => by
   obtain ⟨_, k, m, e4, _, e6⟩ := h2 e he
   rw [e4] at hqe
   cases hqe
   rw [hn] at e6
   cases e6
 have hrun := run_mapUpdate_new w hT hk hE hsz h1 hq (fun e he => (h2 e he).1) hno (.int .i64 n)
 refine ⟨.map ((L ++ [((⟨q, 0, none⟩ : Addr), Value.int .i64 n, clock)]).map mkEntry).toArray (clock + 1), by rw [hrun]; rfl, ?_⟩
 refine ⟨L ++ [((⟨q, 0, none⟩ : Addr), Value.int .i64 n, clock)], clock + 1, (by unfold PMapIs; exact World.putObj_heap_same hlt), fun e he => ?_, fun k m hkm => ?_⟩
 · rcases List.mem_append.1 he with he | he
   · obtain ⟨hp, k, m, e4, e5, e6⟩ := h2 e he
     refine ⟨hput _ _ hp, k, m, e4, e5, ?_⟩
     by_cases hkq : k = q
     · rw [hkq, hn] at e6; cases e6
     · show (if k = q then some n else M k) = some m
       rw [if_neg hkq]; exact e6
   · obtain rfl : e = ((⟨q, 0, none⟩ : Addr), Value.int .i64 n, clock) := by simpa using he
     exact ⟨hput _ _ hq, q, n, rfl, rfl, by simp⟩
 · by_cases hkq : k = q
   · subst hkq
     exact ⟨((⟨k, 0, none⟩ : Addr), Value.int .i64 n, clock), by simp, rfl⟩
   · have hkm' : M k = some m := by
       have h : (if k = q then some n else M k) = some m := hkm
       rwa [if_neg hkq] at h
     obtain ⟨e, he, e1⟩ := h3 k m hkm'
     exact ⟨e, by simp [he], e1⟩
end
end Go.Proofs.Ytananonjomfpkaa
/- The contract of count: how many keys lie in each node and below it, kept in a map. -/
namespace Go.Proofs.Ytananonjomfpkaa
open Go.RowKit
def kidAt (w : World) (b i p : Nat) : Prop :=
 ∃ (kv : Value) (qb qo n cap : Nat), w.heap[b]? = some (.cells #[kv, .slice (some ⟨qb, qo, none⟩) n cap] 99 (0, 0)) ∧ w.cell? ⟨qb, qo + i, none⟩ = some (.pointer (some ⟨p, 0, none⟩))
theorem kidAt_unique {w : World} {b i p p' : Nat} (h : kidAt w b i p) (h' : kidAt w b i p') : p = p' := by
 obtain ⟨kv, qb, qo, n, cap, h1, h2⟩ := h
 obtain ⟨kv', qb', qo', n', cap', h1', h2'⟩ := h'
 rw [h1] at h1'
 simp only [Option.some.injEq, Obj.cells.injEq] at h1'
 have e := congrArg Array.toList h1'.1
 simp only [List.cons.injEq, Value.slice.injEq, Option.some.injEq, Addr.mk.injEq] at e
 obtain ⟨_, ⟨⟨rfl, rfl, _⟩, _⟩, _⟩ := e
 rw [h2] at h2'
 simpa using h2'
inductive Counted (w : World) (K : Nat → Option Nat) : Nat → Tr → Prop where
 | mk (b : Nat) (ks : List Int) (cs : List Tr) (h : K b = some (Tr.mk ks cs).keys.length) (kids : ∀ i (hi : i < cs.length) (p : Nat), kidAt w b i p → Counted w K p cs[i]) : Counted w K b (.mk ks cs)
theorem Counted.parts {w : World} {K : Nat → Option Nat} {b : Nat} {ks : List Int} {cs : List Tr} (h : Counted w K b (.mk ks cs)) :
   K b = some (Tr.mk ks cs).keys.length ∧ ∀ i (hi : i < cs.length) (p : Nat), kidAt w b i p → Counted w K p cs[i] := by
 cases h with
 | mk b ks cs h kids => exact ⟨h, kids⟩
theorem Counted.told {w : World} {K : Nat → Option Nat} {b : Nat} {t : Tr} (h : Counted w K b t) : K b = some t.keys.length := by
 cases h with
 | mk b ks cs h kids => exact h
theorem Counted.mono {w : World} {lo hi b : Nat} {t : Tr} (hn : NodeIn w lo hi b t) : ∀ {K K' : Nat → Option Nat}, Counted w K b t → (∀ k, lo ≤ k → k < hi → K' k = K k) → Counted w K' b t := by
 induction hn with
 | mk ks cs lo hi b kv a cap ps s hlo hhi hs0 hsn hs hbox hk hlen hcap hat hkids ih =>
   intro K K' h hK
   obtain ⟨h1, h2⟩ := h.parts
   refine .mk b ks cs (by rw [hK b hlo hhi]; exact h1) (fun i hi' p hp => ?_)
   have h3 := h2 i hi' p hp
   rcases hat with h0 | ⟨qb, qo, rfl, q1, q2, q3⟩
   · omega
   have hps : kidAt w b i (ps i) := ⟨_, _, _, _, _, hbox, q3 i hi'⟩
   obtain rfl := kidAt_unique hp hps
   refine ih i hi' h3 (fun k k1 k2 => hK k ?_ ?_)
   · have := steps_le hs 0 i (by omega) (by omega); omega
   · have := steps_le hs (i + 1) cs.length (by omega) (by omega); omega
theorem Try.infoNodeSz : (Try.prog.info? 99).map (fun i => decide (i.size ≠ 0)) = some true := by kernel_rfl
theorem Try.infoIntZ : (Try.prog.info? 3).map (fun i => i.zero) = some (some (.int .i64 0)) := by kernel_rfl
theorem lens_snoc (cs : List Tr) (j : Nat) (h : j < cs.length) : Tr.lens ((Tr.keyss cs).take (j + 1)) = Tr.lens ((Tr.keyss cs).take j) + cs[j].keys.length := by
 rw [List.take_add_one, Tr.lens_append, Tr.keyss_get cs j h]; rfl
theorem lens_take_le (cs : List Tr) (j : Nat) : Tr.lens ((Tr.keyss cs).take j) ≤ Tr.lens (Tr.keyss cs) := by
 conv => rhs; rw [← List.take_append_drop j (Tr.keyss cs), Tr.lens_append]
 omega
set_option maxRecDepth 100000 in
set_option maxHeartbeats 4000000 in
theorem count_c {w : World} {lo hi b : Nat} {t : Tr} (ht : NodeIn w lo hi b t) : t.weight ≤ 1048576 → hi ≤ w.heap.size → ∀ (W : World) (mb : Nat) (K : Nat → Option Nat), Keep (fun k => lo ≤ k ∧ k < hi) w W → CMap W mb K → (∀ k, lo ≤ k → k < hi → K k = none) → ¬ (lo ≤ mb ∧ mb < hi) →
   Calls Try.prog 68 #[.pointer (some ⟨b, 0, none⟩), .map (some mb)] W fun e W' => e = .returned (.int .i64 t.keys.length) ∧ ∃ K', CMap W' mb K' ∧ Counted w K' b t ∧ (∀ k, ¬ (lo ≤ k ∧ k < hi) → K' k = K k) ∧ Keep (fun k => k ≠ mb) W W' ∧ W'.heap.size = W.heap.size := by
 induction ht with
 | mk ks cs lo hi b kv a cap ps s hlo hhi hs0 hsn hs hbox hk hlen hcap hat hkids ih =>
   intro hwt hhw W mb K hkeep hmap hnone hmb
   obtain ⟨i0, hi0, hi1⟩ := Option.map_eq_some_iff.1 Try.infoNodeSz
   have hsz : i0.size ≠ 0 := by simpa using hi1
   have hboxW : W.heap[b]? = some (.cells #[kv, .slice a cs.length cap] 99 (0, 0)) := (hkeep.block b (by omega) ⟨hlo, hhi⟩).trans hbox
   obtain ⟨ka, kcap, rfl, k1, k2, _⟩ := hk
   have hkl := keys_len ks cs
   have hkle := Tr.keys_length_le (.mk ks cs)
   simp only [Tr.weight] at hwt hkle
   have hl0 := Tr.length_le_weights cs
   have hltk := fun j => lens_take_le cs j
   have hbd : ks.length + Tr.lens (Tr.keyss cs) ≤ 1048576 := by omega
   have hne := hmap.ne hboxW
   obtain ⟨x1, x2, x3, x4⟩ := box2 hboxW
   unfold maxLen at hcap k2
   have HAT := Lib.hid hat
   have IH := Lib.hid ih
   have HKD := Lib.hid hkids
   have HS := Lib.hid hs
   have HKP := Lib.hid hkeep
   have HM := Lib.hid hmap
   have HNO := Lib.hid hnone
   have HBOX := Lib.hid (And.intro hbox hboxW)
   have HKL := Lib.hid hkl
   have HLT := Lib.hid hltk
   have HSZ := Lib.hid (And.intro hi0 hsz)
   clear hat ih hkids hs hkeep hmap hnone hbox hboxW hkl hltk hi1 hi0 hsz
   go_enter Try.func68, Try.ntmps68
   go_wp2_with fail
   go_loopw [5, 19] (fun tot i wr => ∃ (j : Nat) (K' : Nat → Option Nat) (n : Nat), j ≤ cs.length ∧ i = .int .i64 j ∧ tot = .int .i64 n ∧ n = ks.length + Tr.lens ((Tr.keyss cs).take j) ∧ CMap wr mb K' ∧ (∀ q (hq : q < cs.length), q < j → Counted w K' (ps q) cs[q]) ∧
     (∀ k, ¬ (s 0 ≤ k ∧ k < s j) → K' k = K k) ∧ Keep (fun k => k ≠ mb) W wr ∧ wr.heap.size = W.heap.size) (fun _ i _ => cs.length - (intOf i).toNat)
   case atStart => exact ⟨0, K, ks.length, Nat.zero_le _, rfl, rfl, by simp [Tr.lens], HM.out, fun q _ h => by omega, fun k _ => rfl, Keep.refl _ _, rfl⟩
   case round =>
     obtain ⟨j, K', n, hj, rfl, rfl, hn, hm, hcnt, hK, hkp, hsz2⟩ := hrel
     have HM' := Lib.hid hm
     have HCNT := Lib.hid hcnt
     have HK := Lib.hid hK
     have HKP2 := Lib.hid hkp
     have HSZ2 := Lib.hid hsz2
     have hlj := HLT.out j
     have hnb : n ≤ 1048576 := by omega
     have HN := Lib.hid hn
     clear hn hm hcnt hK hkp hsz2 x1 x2 x3 x4
     have hbW : b < W.heap.size := (Array.getElem?_eq_some_iff.1 HBOX.out.2).1
     obtain ⟨x1, x2, x3, x4⟩ := box2 ((HKP2.out.block b hbW hne).trans HBOX.out.2)
     by_cases hlt : j < cs.length
     · have g1 := steps_le HS.out 0 j (by omega) (by omega)
       have g2 := steps_le HS.out (j + 1) cs.length (by omega) (by omega)
       have g3 := HS.out j hlt
       rcases HAT.out with h0 | ⟨qb, qo, rfl, q1, q2, q3⟩
       · omega
       have hqW : W.heap[qb]? = w.heap[qb]? := HKP.out.block qb (by omega) ⟨q1, q2⟩
       have hcW := (cell_of_blk hqW).trans (q3 j hlt)
       have hqm : qb ≠ mb := by
         have hlt9 := World.block_lt_of_cell? W _ hcW
         intro e
         have hc9 := hcW
         obtain ⟨L, clock, h1, _⟩ := HM.out
         unfold PMapIs at h1
         rw [e] at hc9
         simp [World.cell?, h1] at hc9
       have hcell : wr.cell? ⟨qb, qo + j, none⟩ = some (.pointer (some ⟨ps j, 0, none⟩)) := (cell_of_blk (HKP2.out.block qb (World.block_lt_of_cell? W _ hcW) hqm)).trans hcW
       have hsn2 := lens_snoc cs j hlt
       have hl1 := HLT.out (j + 1)
       have hrange := (HKD.out j hlt).range
       have hKeep : Keep (fun k => s j ≤ k ∧ k < s (j + 1)) w wr := by
         refine (HKP.out.mono (fun k _ h => ⟨by omega, by omega⟩)).trans ⟨HKP2.out.os, HKP2.out.tape, HKP2.out.output, HKP2.out.size, fun k h1 h2 => HKP2.out.block k h1 ?_⟩
         intro e
         subst e
         omega
       have hcall := IH.out j hlt (by have := Tr.weight_get_le cs j hlt; omega) (by omega) wr mb K' hKeep HM'.out (fun k h1 h2 => by rw [HK.out k (by omega)]; exact HNO.out k (by omega) (by omega)) (by omega)
       have hn' := HN.out
       generalize hG1 : Tr.lens ((Tr.keyss cs).take j) = g at hlj hsn2 hn'
       generalize hG2 : Tr.lens ((Tr.keyss cs).take (j + 1)) = g' at hl1 hsn2
       have hkj := Tr.keys_length_le cs[j]
       have hwj := Tr.weight_get_le cs j hlt
       generalize hKJ : cs[j].keys.length = kj at hsn2 hcall hkj
       have hnk : n + kj ≤ 1048576 := by omega
       have HG := Lib.hid (And.intro hG2 (And.intro hsn2 hn'))
       have HC := Lib.hid hcall
       have HQ3 := Lib.hid q3
       have hjl : (j : Int) < (cs.length : Int) := by omega
       clear hG1 hG2 hsn2 hn' hcall hKJ q3 hcW hqW hKeep
       go_wp2_with fail
       refine HC.out.mono ?_
       rintro e w3 ⟨rfl, K3, hm3, hc3, hK3, hk3, hs3⟩
       have H3 := Lib.hid (And.intro hm3 (And.intro hc3 (And.intro hK3 (And.intro hk3 hs3))))
       clear hm3 hc3 hK3 hk3 hs3
       go_wp2_with fail
       go_roundw
       case rel =>
         refine ⟨j + 1, K3, n + kj, by omega, by go_num, by go_num, by have := HG.out; omega, H3.out.1, fun q hq hqj => ?_, fun k hk => ?_, HKP2.out.trans H3.out.2.2.2.1, H3.out.2.2.2.2.trans HSZ2.out⟩
         · by_cases e : q = j
           · subst e; exact H3.out.2.1
           · refine Counted.mono (HKD.out q hq) (HCNT.out q hq (by omega)) (fun k h1 h2 => H3.out.2.2.1 k ?_)
             have := steps_le HS.out (q + 1) j (by omega) (by omega)
             omega
         · rw [H3.out.2.2.1 k (by omega), HK.out k (by omega)]
       case measure => simp [intOf]; omega
     · obtain rfl : j = cs.length := by omega
       have hfull : Tr.lens ((Tr.keyss cs).take cs.length) = Tr.lens (Tr.keyss cs) := by rw [List.take_of_length_le (by rw [Tr.length_keyss]; omega)]
       have hKb : K' b = none := by rw [HK.out b (by omega)]; exact HNO.out b hlo hhi
       obtain ⟨o, hrun, hmo⟩ := cmap_update wr Try.underlying89 Try.underlying70 HSZ.out.1 HSZ.out.2 HM'.out (q := b) ⟨_, _, (HKP2.out.block b hbW hne).trans HBOX.out.2⟩ hKb n
       have HMO := Lib.hid hmo
       have HFULL := Lib.hid hfull
       clear hmo hfull hKb
       go_wp2_with fail
       go_ret
       have hnn : n = (Tr.mk ks cs).keys.length := by have h1 := HN.out; rw [HFULL.out] at h1; have h2 := HKL.out; omega
       refine ⟨ret_int (by rw [hnn]), _, HMO.out, .mk b ks cs (by rw [← hnn]; simp) (fun i hi' p hp => ?_), fun k hk => ?_, HKP2.out.trans (Keep.putObj _ _ _ _ (by simp)), by simp [HSZ2.out]⟩
       · rcases HAT.out with h0 | ⟨qb, qo, rfl, q1, q2, q3⟩
         · omega
         have hps : kidAt w b i (ps i) := ⟨_, _, _, _, _, HBOX.out.1, q3 i hi'⟩
         obtain rfl := kidAt_unique hp hps
         refine Counted.mono (HKD.out i hi') (HCNT.out i hi' hi') (fun k h1 h2 => ?_)
         have := steps_le HS.out 0 i (by omega) (by omega)
         show (if k = b then _ else K' k) = K' k
         rw [if_neg (by omega)]
       · show (if k = b then _ else K' k) = K k
         rw [if_neg (by omega), HK.out k (by omega)]
end Go.Proofs.Ytananonjomfpkaa
/- A node's block holds cells. -/
namespace Go.Proofs.Ytananonjomfpkaa
open Go.RowKit
theorem node_cells {w : World} {lo hi b : Nat} {t : Tr} (h : NodeIn w lo hi b t) : ∃ c, w.heap[b]? = some (.cells c 99 (0, 0)) := by
 cases h with
 | mk ks cs lo hi b kv a cap ps s hlo hhi hs0 hsn hs hbox hk hlen hcap hat hkids => exact ⟨_, hbox⟩
end Go.Proofs.Ytananonjomfpkaa
