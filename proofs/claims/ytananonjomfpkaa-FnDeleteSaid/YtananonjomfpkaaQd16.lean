/- Appending one element to a slice whose cells are its own; copying within it. -/
import Derived.Test.YtananonjomfpkaaQd15
import Derived.Deep.AppendSrc
import Derived.Deep.Upon
import Derived.Laws.IdiomCopy
/- The contract of the model's l1Copy: the same tree in rows of the call's own. -/
namespace Go.Proofs.Ytananonjomfpkaa
open Go.RowKit
theorem IntsIn.atLater {w w' : World} {B : Nat} {v : Value} {ks : List Int} (h : IntsIn w B v ks) (hb : Below B w w') : IntsAt w' v ks := (h.later hb (Nat.le_refl _)).at
set_option maxRecDepth 100000 in
set_option maxHeartbeats 2000000 in
theorem copy_c {w : World} {B : Nat} {kv cv : Value} {t : Tr} (ht : TreeIn w B kv cv t) (hw : t.weight ≤ 1048576) :
   ∀ w', Below B w w' → B ≤ w'.heap.size →
   Calls Try.prog 100 #[.agg #[kv, cv]] w' fun e w'' => ∃ kv' cv' P, e = .returned (.agg #[kv', cv']) ∧ TreeO w'' w'.heap.size P kv' cv' t ∧ Below w'.heap.size w' w'' := by
 induction ht with
 | mk ks cs kv a cap kvs cvs hk hlen hcap hat hkids ih =>
   intro w' hbw hB
   obtain ⟨i0, hi0, hz0, hz1, hz2⟩ := info_parts Try.infoTree
   simp only [Tr.weight] at hw
   have hl0 := Tr.length_le_weights cs
   obtain ⟨ka, kcp, hkv, -⟩ := id hk
   subst hkv
   unfold maxLen at hcap
   have hkid : ∀ (i : Nat) (h : i < cs.length), ∃ (cb co : Nat) (p1 : Option Addr) (p2 p3 : Nat) (p4 : Option Addr) (p5 p6 : Nat), a = some ⟨cb, co, none⟩ ∧ cb < B ∧ w.cell? ⟨cb, co + i * 2, none⟩ = some (.slice p1 p2 p3) ∧ w.cell? ⟨cb, co + i * 2 + 1, none⟩ = some (.slice p4 p5 p6) ∧
       ∀ w2, Below B w w2 → B ≤ w2.heap.size → Calls Try.prog 100 #[.agg #[.slice p1 p2 p3, .slice p4 p5 p6]] w2 fun e w3 => ∃ kv' cv' P, e = .returned (.agg #[kv', cv']) ∧ TreeO w3 w2.heap.size P kv' cv' cs[i] ∧ Below w2.heap.size w2 w3 := fun i hi => by
     rcases hat with h | ⟨cb, co, rfl, hcb, g2⟩
     · omega
     · obtain ⟨p1, p2, p3, p4, p5, p6, e5, e6⟩ := (hkids i hi).slices
       have hwt := Tr.weight_get_le cs i hi
       have h2 := ih i hi (by omega)
       rw [e5, e6] at h2
       exact ⟨cb, co, p1, p2, p3, p4, p5, p6, rfl, hcb, by rw [(g2 i hi).1, e5], by rw [(g2 i hi).2, e6], h2⟩
   have HAT := Lib.hid hkid
   have HBW := Lib.hid hbw
   obtain ⟨W1, hW1⟩ : ∃ W1, W1 = (w'.alloc (.cells #[.slice ka ks.length kcp, .slice a cs.length cap] 26)).alloc (.cells #[.slice none 0 0, .slice none 0 0] 26) := ⟨_, rfl⟩
   have hs1 : W1.heap.size = w'.heap.size + 2 := by rw [hW1]; simp
   have hb1 : Below w'.heap.size w' W1 := by rw [hW1]; exact ((Below.refl _ _).alloc (Nat.le_refl _) _).alloc (by simp) _
   have kt : W1.heap[w'.heap.size]? = some (.cells #[.slice ka ks.length kcp, .slice a cs.length cap] 26 (0, 0)) := by rw [hW1, old_blk _ _ _ (by simp), new_blk]
   have kb : W1.heap[w'.heap.size + 1]? = some (.cells #[.slice none 0 0, .slice none 0 0] 26 (0, 0)) := by
     rw [hW1, show w'.heap.size + 1 = (w'.alloc (.cells #[.slice ka ks.length kcp, .slice a cs.length cap] 26)).heap.size by simp, new_blk]
   have hcl1 := leaf_c W1 (.slice ka ks.length kcp) ks (fun w2 h2 => hk.atLater (hbw.trans ((hb1.mono hB).trans (h2.mono (by omega))))) (by omega)
   have HCL := Lib.hid hcl1
   have HW1 := Lib.hid hW1
   have HB1 := Lib.hid (And.intro hb1 (And.intro kb kt))
   have ktx := kt
   rw [hW1] at ktx
   obtain ⟨x1, x2, x3, x4⟩ := box2 ktx
   clear ktx hk hat hkids ih hbw hcl1 hW1 hb1 kb kt hkid
   go_enter Try.func100, Try.ntmps100
   go_wp2_with fail
   rw [← HW1.out]
   refine HCL.out.mono ?_
   rintro e w2 ⟨kv2, g2, rfl, hown2, hlt2, hg2, hemp2, hb2⟩
   obtain ⟨a2, q2, rfl⟩ := hown2.shown
   have hglt2 : g2 < w2.heap.size := (Array.getElem?_eq_some_iff.1 hemp2).1
   have nb2 := (hb2.block w'.heap.size (by omega)).trans HB1.out.2.2
   clear x1 x2 x3 x4
   obtain ⟨x1, x2, x3, x4⟩ := box2 nb2
   have hs2 := hb2.size
   obtain ⟨y1, y2, y3, y4⟩ := box2 ((old_blk w2 (.cells #[.slice a2 ks.length q2, .slice (some ⟨g2, 0, none⟩) 0 0] 26) _ (by omega)).trans nb2)
   obtain ⟨W3, hW3⟩ : ∃ W3, W3 = w2.alloc (.cells #[.slice a2 ks.length q2, .slice (some ⟨g2, 0, none⟩) 0 0] 26) := ⟨_, rfl⟩
   have hs3 : W3.heap.size = w2.heap.size + 1 := by rw [hW3]; simp
   have hb3 : Below w2.heap.size w2 W3 := by rw [hW3]; exact (Below.refl _ _).alloc (Nat.le_refl _) _
   have hbx3 : W3.heap[w2.heap.size]? = some (.cells #[.slice a2 ks.length q2, .slice (some ⟨g2, 0, none⟩) 0 0] 26 (0, 0)) := by rw [hW3, new_blk]
   have hgb : ∀ b, ownB (.slice (some ⟨g2, 0, none⟩) 0 0) b → b = g2 := fun b h => by
     have h' : g2 = b := by simpa [ownB, Value.ownBlock] using h
     exact h'.symm
   have htr3 : TreeO W3 (w'.heap.size + 2) (fun x => ownB (.slice a2 ks.length q2) x ∨ x = g2) (.slice a2 ks.length q2) (.slice (some ⟨g2, 0, none⟩) 0 0) (.mk ks (cs.take 0)) := by
     refine .mk ks [] _ _ _ (ownsRow_held (IntsOwn.lower hown2 (by omega)) (fun k e => hb3.block k (hown2.lt k e).2)) ⟨rfl, .inr ⟨g2, 0, #[], rfl, by omega, (hb3.block _ hglt2).trans hemp2, Nat.le_refl _, by unfold maxLen; omega, rfl, rfl⟩⟩ (fun x h => by cases h) (fun b h => .inl h) (fun b h => .inr (hgb b h)) (fun x h => by cases h) ?_ (fun q e => ?_)
     · refine List.pairwise_cons.2 ⟨fun R hR b h1 h2 => ?_, List.pairwise_cons.2 ⟨fun _ h => (by cases h), List.Pairwise.nil⟩⟩
       simp at hR
       subst hR
       have h' := hgb b h2
       have := hlt2 b h1
       omega
     · rcases e with e | e
       · have := hown2.lt q e; omega
       · omega
   have H0 := Lib.hid (And.intro hbx3 (And.intro htr3 (show ¬ (ownB (.slice a2 ks.length q2) w2.heap.size ∨ w2.heap.size = g2) from fun e => by
     rcases e with e | e
     · have := (hown2.lt _ e).2; omega
     · omega)))
   have HB3 := Lib.hid (Below.trans (hb2.mono (show w'.heap.size + 2 ≤ W1.heap.size by omega)) (hb3.mono (by omega)))
   have HW3 := Lib.hid hW3
   clear hb2 hown2 nb2 hb3 hbx3 htr3 hW3 hemp2 hlt2 hglt2 hg2 hgb
   go_wp2_with fail
   rw [← HW3.out]
   clear x1 x2 x3 x4 y1 y2 y3 y4
   go_loopw [12] (fun i wr => ∃ (j : Nat) (vk : Value) (P : Blocks), j ≤ cs.length ∧ i = .int .i64 j ∧ wr.heap[w2.heap.size]? = some (.cells #[.slice a2 ks.length q2, vk] 26 (0, 0)) ∧ TreeO wr (w'.heap.size + 2) P (.slice a2 ks.length q2) vk (.mk ks (cs.take j)) ∧ ¬ P w2.heap.size ∧ Below (w'.heap.size + 2) W1 wr) (fun i _ => cs.length - (intOf i).toNat)
   case atStart => exact ⟨0, _, _, Nat.zero_le _, rfl, H0.out.1, H0.out.2.1, H0.out.2.2, HB3.out⟩
   case round =>
     obtain ⟨j, vk, P, hj, rfl, hbx, htr, hP, hbel1⟩ := hrel
     have hbel : Below w'.heap.size w' wr := HB1.out.1.trans (hbel1.mono (by omega))
     by_cases hlt : j < cs.length
     · obtain ⟨cb, co, p1, p2, p3, p4, p5, p6, rfl, hcb, hcell1, hcell2, hcall⟩ := HAT.out j hlt
       have hbwr : Below B w wr := HBW.out.trans (hbel.mono hB)
       have hcell1' : wr.cell? ⟨cb, co + j * 2, none⟩ = some (.slice p1 p2 p3) := by rw [below_cell hbwr hcb]; exact hcell1
       have hcell2' : wr.cell? ⟨cb, co + j * 2 + 1, none⟩ = some (.slice p4 p5 p6) := by rw [below_cell hbwr hcb]; exact hcell2
       obtain ⟨kids, hkt, hpk, hpc, hpx, psk, psc, pss, pap, plt⟩ := htr.parts
       have hlk : kids.length = j := by
         have := congrArg List.length hkt
         simp at this
         omega
       obtain ⟨ra, rc, hvk⟩ := TreesOwn.shown hpc
       rw [List.length_map, hlk] at hvk
       subst hvk
       have hrow : wr.ownsRow (w'.heap.size + 2) 26 2 (.slice ra j rc) j (flatT (kids.map KidO.pair)) := by
         have h := hpc
         unfold TreesOwn at h
         rw [List.length_map, hlk] at h
         exact h
       have hszr := hbel.size
       have hlt2 : w2.heap.size < wr.heap.size := (Array.getElem?_eq_some_iff.1 hbx).1
       have ne1 : some w2.heap.size ≠ (Value.slice ra j rc).ownBlock := fun e => hP (psc _ e.symm)
       obtain ⟨W5, hW5⟩ : ∃ W5, W5 = wr.alloc (.cells #[.slice p1 p2 p3, .slice p4 p5 p6] 26) := ⟨_, rfl⟩
       have hs5 : W5.heap.size = wr.heap.size + 1 := by rw [hW5]; simp
       have hb5 : Below wr.heap.size wr W5 := by rw [hW5]; exact (Below.refl _ _).alloc (Nat.le_refl _) _
       have k5 : W5.heap[wr.heap.size]? = some (.cells #[.slice p1 p2 p3, .slice p4 p5 p6] 26 (0, 0)) := by rw [hW5, new_blk]
       have n5' := (hb5.block _ hlt2).trans hbx
       obtain ⟨y1, y2, y3, y4⟩ := box2 k5
       obtain ⟨u1, u2, u3, u4⟩ := box2 n5'
       have hcl := hcall W5.drew (hbwr.trans ((hb5.drew).mono (by omega))) (by simp; omega)
       have ne2 : some wr.heap.size ≠ (Value.slice ra j rc).ownBlock := fun e => by have := (hrow.lt _ e.symm).2; omega
       have NE1 := Lib.hid ne1
       have NE2 := Lib.hid ne2
       have HCALL := Lib.hid hcl
       have HPAR := Lib.hid (And.intro hpk (And.intro hpx (And.intro psk (And.intro psc (And.intro pss (And.intro pap plt))))))
       have HTR := Lib.hid (And.intro hbx (And.intro hkt (And.intro htr hP)))
       have HROW := Lib.hid hrow
       have HBEL := Lib.hid hbel1
       have HW5 := Lib.hid hW5
       have H5 := Lib.hid (And.intro hb5 (And.intro k5 n5'))
       clear hbel hbel1 hbwr hcell1 hcell2 hcall hkt hpk hpc hpx psk psc pss pap plt hrow hcl ne1 ne2 hbx htr hP hW5 hb5 k5 n5'
       go_wp2_with fail
       rw [← HW5.out]
       go_region_law
         (first
           | ((refine step_append_lies _ (by rfl) _ _ _ (by rfl) (w'.heap.size + 2) 26 i0 _ 2 48 Try.underlying24 hi0 hz0 hz1 hz2 rfl (by omega) _ j _ (by rfl) (H6.out.2.2.2.alloc _) ⟨w6.heap.size, 0, none⟩ 1 1 [.slice r1 r2 r3, .slice r4 r5 r6] (by rfl) (by rfl) (World.news_of_block (cs := #[.slice r1 r2 r3, .slice r4 r5 r6]) (t := 26) (fr := (0, 0)) (heap_alloc_new w6 _)) (by simp [Value.oneCell']) (by omega) (by unfold maxLen; omega) (by omega) (by simp; omega) (w6.heap.size + 1) (by simp) ?_; intro gg cap7 w7 hown7 hgrow7 hat7 hlt7; have v7c := (hgrow7.cell_far ⟨w2.heap.size, 1, none⟩ (by simp; omega) NE1.out).trans t2; have v7f := (hgrow7.frozen_far ⟨w2.heap.size, 1, none⟩ (by simp; omega) NE1.out).trans t4; have H7 := Lib.hid (And.intro hown7 (And.intro hgrow7 hat7)); clear hown7 hgrow7 hat7))
           | (go_simp; go_at_call 100; refine HCALL.out.mono ?_; rintro e w6 ⟨xk, xc, Q, rfl, htr6, hb6⟩; obtain ⟨r1, r2, r3, r4, r5, r6, rfl, rfl⟩ := htr6.tree.slices; have hs6 : W5.heap.size ≤ w6.heap.size := hb6.size; have j6 := (hb6.block w2.heap.size (by simp; omega)).trans H5.out.2.2; have i6 := (hb6.block wr.heap.size (by simp; omega)).trans H5.out.2.1; obtain ⟨z1, z2, z3, z4⟩ := box2 j6; obtain ⟨s1, s2, s3, s4⟩ := box2 i6; obtain ⟨t1, t2, t3, t4⟩ := box2 ((old_blk w6 (.cells #[.slice r1 r2 r3, .slice r4 r5 r6] 26) _ (by omega)).trans j6); obtain ⟨v1, v2, v3, v4⟩ := box2 ((old_blk w6 (.cells #[.slice r1 r2 r3, .slice r4 r5 r6] 26) _ (by omega)).trans i6); have hr6 := ownsRow_same HROW.out (fun k h1 h2 => (hb6.block k (by simp; omega)).trans (H5.out.1.block k h1)); have H6 := Lib.hid (And.intro htr6 (And.intro hb6 (And.intro j6 hr6))); clear htr6 hb6 j6 i6 hr6))
       all_goals (
         go_wp2_with fail
         go_roundw
         case rel =>
           obtain ⟨P', g1, g2, g3, g4⟩ := treeO_step HTR.out.1 hlt HTR.out.2.1 (by omega) HTR.out.2.2.1 HTR.out.2.2.2 (H6.out.1.lower (lo' := wr.heap.size) (by simp; omega)) (H5.out.1.trans ((below_undrew H6.out.2.1).mono (show wr.heap.size ≤ W5.heap.size by omega))) HPAR.out H7.out.1 H7.out.2.1 H7.out.2.2
           exact ⟨j + 1, _, P', by omega, by go_num, g1, g2, g3, HBEL.out.trans g4⟩
         case measure => simp [intOf]; omega)
     · obtain rfl : j = cs.length := by omega
       rw [List.take_length] at htr
       obtain ⟨_, _, va, vc, -, rfl⟩ := htr.shown
       have hrb := (hbel1.block (w'.heap.size + 1) (by omega)).trans HB1.out.2.1
       obtain ⟨u1, u2, u3, u4⟩ := box2 hbx
       obtain ⟨r1, r2, r3, r4⟩ := box2 hrb
       have hszr := hbel.size
       have HTR := Lib.hid htr
       have HBEL := Lib.hid hbel
       have HRB := Lib.hid hrb
       clear htr hbel hbel1 hbx hrb
       go_wp2_with fail
       obtain ⟨wf, hwf⟩ : ∃ wf, wf = (wr.setCell ⟨w'.heap.size + 1, 0, none⟩ (.slice a2 ks.length q2)).setCell ⟨w'.heap.size + 1, 1, none⟩ (.slice va cs.length vc) := ⟨_, rfl⟩
       have hfb : wf.heap[w'.heap.size + 1]? = some (.cells #[.slice a2 ks.length q2, .slice va cs.length vc] 26 (0, 0)) := by
         rw [hwf]; exact set_blk (o := 1) _ (set_blk (o := 0) _ HRB.out)
       obtain ⟨d1, d2, d3, d4⟩ := box2 hfb
       rw [← hwf]
       refine bodyPost_ret (v := .agg #[.slice a2 ks.length q2, .slice va cs.length vc]) (by simp [results, Try.results100, go_sem, d1, d2]) rfl ⟨_, _, P, rfl, ?_, ?_⟩
       · exact (HTR.out.same (w' := wf) (by rw [hwf]; simp) (fun q e => by have := (HTR.out.lt q e).1; rw [hwf, set_other _ _ _ _ _ (by omega), set_other _ _ _ _ _ (by omega)])).lower (by omega)
       · rw [hwf]; exact (HBEL.out.setCell (by show w'.heap.size ≤ w'.heap.size + 1; omega) _).setCell (by show w'.heap.size ≤ w'.heap.size + 1; omega) _
end Go.Proofs.Ytananonjomfpkaa
/- Trees of the model whose rows are their own, up to the capacity: what the model changes in place. -/
namespace Go.Proofs.Ytananonjomfpkaa
open Go.RowKit
def RowT (w : World) (F : Cells) (v : Value) (K : List (Value × Value)) : Prop :=
 (∀ x q, F x q → x < w.heap.size) ∧ ∃ (a : Option Addr) (cap : Nat), v = .slice a K.length cap ∧ K.length ≤ cap ∧ cap ≤ maxLen ∧ (a = none → cap = 0) ∧
   (cap = 0 ∨ ∃ b o, a = some ⟨b, o, none⟩ ∧ (∀ i, i < cap * 2 → F b (o + i) ∧ (w.cell? ⟨b, o + i, none⟩).isSome = true ∧ w.frozen? ⟨b, o + i, none⟩ = false) ∧
     ∀ i (h : i < K.length), w.cell? ⟨b, o + i * 2, none⟩ = some K[i].1 ∧ w.cell? ⟨b, o + i * 2 + 1, none⟩ = some K[i].2)
theorem RowT.keep {w w' : World} {F G : Cells} {v : Value} {K : List (Value × Value)} (h : RowT w F v K) (hk : KeptF G w w') (ha : Apart F G) : RowT w' F v K := by
 obtain ⟨hlt, a, cap, hv, h1, h2, h3, h4⟩ := h
 refine ⟨fun x q h => Nat.lt_of_lt_of_le (hlt x q h) hk.size, a, cap, hv, h1, h2, h3, ?_⟩
 rcases h4 with h4 | ⟨b, o, h5, h6, h7⟩
 · exact .inl h4
 · refine .inr ⟨b, o, h5, fun i hi => ?_, fun i hi => ?_⟩
   · obtain ⟨g1, g2, g3⟩ := h6 i hi
     exact ⟨g1, hk.there _ _ g2, (hk.frozen _ _ (lt_of_there g2)).trans g3⟩
   · obtain ⟨g1, g2, g3⟩ := h6 (i * 2) (by omega)
     obtain ⟨e1, e2, e3⟩ := h6 (i * 2 + 1) (by omega)
     have hb := h7 i hi
     rw [← Nat.add_assoc] at e1 e2
     rw [hk.cell _ _ (lt_of_there g2) (ha _ _ g1), hk.cell _ _ (lt_of_there e2) (ha _ _ e1)]
     exact hb
theorem RowT.shown {w : World} {F : Cells} {v : Value} {K : List (Value × Value)} (h : RowT w F v K) : ∃ a c, v = .slice a K.length c := by
 obtain ⟨_, a, cap, hv, _⟩ := h
 exact ⟨a, cap, hv⟩
theorem RowT.of_own {w : World} {lo : Nat} {v : Value} {K : List (Value × Value)} (h : TreesOwn w lo v K) : RowT w (fun x _ => ownB v x) v K := by
 have h0 := h
 refine ⟨fun x q hq => (World.ownsRow.lt h0 x hq).2, ?_⟩
 obtain ⟨h1, ⟨h2, h3⟩ | ⟨g, cap, cur, hv, hb, hg, hn, hm, hs, ht⟩⟩ := h
 · have : K = [] := by cases K with | nil => rfl | cons a r => simp at h3
   subst this
   exact ⟨none, 0, h2, by simp, by unfold maxLen; omega, fun _ => rfl, .inl rfl⟩
 · subst hv
   refine ⟨_, cap, rfl, by omega, hm, by simp, .inr ⟨g, 0, rfl, fun i hi => ⟨rfl, ?_, ?_⟩, fun i hi => ?_⟩⟩
   · have : i < cur.size := by omega
     simp [World.cell?, hg, this]
   · simp [World.frozen?, hg]
   · obtain ⟨e1, e2⟩ := flatT_get K i hi
     have a1 := World.ownsRow.cellAt h0 (i * 2) (by omega)
     have a2 := World.ownsRow.cellAt h0 (i * 2 + 1) (by omega)
     simp only [Nat.zero_add]
     exact ⟨a1.trans e1, a2.trans e2⟩
structure KidT where
 kv : Value
 cv : Value
 F : Cells
 t : Tr
def KidT.pair (x : KidT) : Value × Value := (x.kv, x.cv)
inductive Td (w : World) : Cells → Value → Value → Tr → Prop where
 | mk (ks : List Int) (kids : List KidT) (F Fk Fc : Cells) (kv cv : Value)
     (hk : RowF w Fk kv (ks.map (Value.int .i64))) (hc : RowT w Fc cv (kids.map KidT.pair))
     (hkids : ∀ x, x ∈ kids → Td w x.F x.kv x.cv x.t)
     (sk : ∀ x o, Fk x o → F x o) (sc : ∀ x o, Fc x o → F x o) (ss : ∀ y, y ∈ kids → ∀ x o, y.F x o → F x o)
     (ap : (Fk :: Fc :: kids.map KidT.F).Pairwise Apart) (lt : ∀ x o, F x o → x < w.heap.size) : Td w F kv cv (.mk ks (kids.map KidT.t))
theorem Td.keep {w w' : World} {F G : Cells} {kv cv : Value} {t : Tr} (h : Td w F kv cv t) (hk : KeptF G w w') (ha : Apart F G) : Td w' F kv cv t := by
 induction h with
 | mk ks kids F Fk Fc kv cv hkr hc hkids sk sc ss ap lt ih =>
   exact .mk ks kids F Fk Fc kv cv (hkr.keep hk (ha.mono sk (fun _ _ h => h))) (hc.keep hk (ha.mono sc (fun _ _ h => h)))
     (fun x hx => ih x hx (ha.mono (ss x hx) (fun _ _ h => h))) sk sc ss ap (fun x o h => Nat.lt_of_lt_of_le (lt x o h) hk.size)
theorem Td.parts {w : World} {F : Cells} {kv cv : Value} {ks : List Int} {cs : List Tr} (h : Td w F kv cv (.mk ks cs)) : ∃ (kids : List KidT) (Fk Fc : Cells), cs = kids.map KidT.t ∧
   RowF w Fk kv (ks.map (Value.int .i64)) ∧ RowT w Fc cv (kids.map KidT.pair) ∧ (∀ x, x ∈ kids → Td w x.F x.kv x.cv x.t) ∧
   (∀ x o, Fk x o → F x o) ∧ (∀ x o, Fc x o → F x o) ∧ (∀ y, y ∈ kids → ∀ x o, y.F x o → F x o) ∧ (Fk :: Fc :: kids.map KidT.F).Pairwise Apart ∧ (∀ x o, F x o → x < w.heap.size) := by
 cases h with
 | mk _ kids _ Fk Fc _ _ hkr hc hkids sk sc ss ap lt => exact ⟨kids, Fk, Fc, rfl, hkr, hc, hkids, sk, sc, ss, ap, lt⟩
theorem Td.of_o {w : World} {lo : Nat} {P : Blocks} {kv cv : Value} {t : Tr} (h : TreeO w lo P kv cv t) : Td w (fun x _ => P x) kv cv t := by
 induction h with
 | mk ks kids P kv cv hk hc hkids sk sc ss ap lt ih =>
   have e1 : (kids.map (fun x : KidO => (⟨x.kv, x.cv, fun q _ => x.P q, x.t⟩ : KidT))).map KidT.t = kids.map KidO.t := by simp [Function.comp_def]
   have e2 : (kids.map (fun x : KidO => (⟨x.kv, x.cv, fun q _ => x.P q, x.t⟩ : KidT))).map KidT.pair = kids.map KidO.pair := by simp [Function.comp_def, KidT.pair, KidO.pair]
   rw [← e1]
   refine .mk ks _ _ (fun x _ => ownB kv x) (fun x _ => ownB cv x) kv cv (RowF.of_owns hk) (by rw [e2]; exact RowT.of_own hc) (fun x hx => ?_) (fun x _ h => sk x h) (fun x _ h => sc x h) (fun y hy x o h => ?_) ?_ (fun x _ h => (lt x h).2)
   · obtain ⟨y, hy, rfl⟩ := List.mem_map.1 hx
     exact ih y hy
   · obtain ⟨z, hz, rfl⟩ := List.mem_map.1 hy
     exact ss z hz x h
   · have hm : ((fun x _ => ownB kv x) :: (fun x _ => ownB cv x) :: (kids.map (fun x : KidO => (⟨x.kv, x.cv, fun q _ => x.P q, x.t⟩ : KidT))).map KidT.F : List Cells) = (ownB kv :: ownB cv :: kids.map KidO.P).map (fun B => fun x _ => B x) := by simp [Function.comp_def]
     rw [hm, List.pairwise_map]
     exact ap.imp (fun h x o a b => h x a b)
end Go.Proofs.Ytananonjomfpkaa
/- Slices of elements of any size whose cells are their own; appending to them. -/
namespace Go.Proofs.Ytananonjomfpkaa
open Go.RowKit
def RowN (w : World) (F : Cells) (sz : Nat) (v : Value) (n : Nat) (xs : List Value) : Prop :=
 (∀ x q, F x q → x < w.heap.size) ∧ xs.length = n * sz ∧ ∃ (a : Option Addr) (cap : Nat), v = .slice a n cap ∧ n ≤ cap ∧ cap ≤ maxLen ∧ (a = none → cap = 0) ∧
   (cap = 0 ∨ ∃ b o, a = some ⟨b, o, none⟩ ∧ (∀ i, i < cap * sz → F b (o + i) ∧ (w.cell? ⟨b, o + i, none⟩).isSome = true ∧ w.frozen? ⟨b, o + i, none⟩ = false) ∧
     ∀ i (h : i < xs.length), w.cell? ⟨b, o + i, none⟩ = some xs[i])
theorem RowN.keep {w w' : World} {F G : Cells} {sz n : Nat} {v : Value} {xs : List Value} (h : RowN w F sz v n xs) (hk : KeptF G w w') (ha : Apart F G) : RowN w' F sz v n xs := by
 obtain ⟨hlt, hl, a, cap, hv, h1, h2, h3, h4⟩ := h
 refine ⟨fun x q h => Nat.lt_of_lt_of_le (hlt x q h) hk.size, hl, a, cap, hv, h1, h2, h3, ?_⟩
 rcases h4 with h4 | ⟨b, o, h5, h6, h7⟩
 · exact .inl h4
 · refine .inr ⟨b, o, h5, fun i hi => ?_, fun i hi => ?_⟩
   · obtain ⟨g1, g2, g3⟩ := h6 i hi
     exact ⟨g1, hk.there _ _ g2, (hk.frozen _ _ (lt_of_there g2)).trans g3⟩
   · have hm : n * sz ≤ cap * sz := Nat.mul_le_mul_right _ h1
     obtain ⟨g1, g2, g3⟩ := h6 i (by omega)
     rw [hk.cell _ _ (lt_of_there g2) (ha _ _ g1)]
     exact h7 i hi
theorem RowN.shown {w : World} {F : Cells} {sz n : Nat} {v : Value} {xs : List Value} (h : RowN w F sz v n xs) : ∃ a c, v = .slice a n c := by
 obtain ⟨_, _, a, cap, hv, _⟩ := h
 exact ⟨a, cap, hv⟩
theorem RowF.n {w : World} {F : Cells} {v : Value} {xs : List Value} (h : RowF w F v xs) : RowN w F 1 v xs.length xs := by
 obtain ⟨hlt, a, cap, hv, h1, h2, h3, h4⟩ := h
 exact ⟨hlt, by simp, a, cap, hv, h1, h2, h3, by simpa using h4⟩
theorem RowN.f {w : World} {F : Cells} {n : Nat} {v : Value} {xs : List Value} (h : RowN w F 1 v n xs) : RowF w F v xs := by
 obtain ⟨hlt, hl, a, cap, hv, h1, h2, h3, h4⟩ := h
 obtain rfl : xs.length = n := by omega
 exact ⟨hlt, a, cap, hv, h1, h2, h3, by simpa using h4⟩
theorem RowT.n {w : World} {F : Cells} {v : Value} {K : List (Value × Value)} (h : RowT w F v K) : RowN w F 2 v K.length (flatT K) := by
 obtain ⟨hlt, a, cap, hv, h1, h2, h3, h4⟩ := h
 refine ⟨hlt, flatT_length K, a, cap, hv, h1, h2, h3, ?_⟩
 rcases h4 with h4 | ⟨b, o, h5, h6, h7⟩
 · exact .inl h4
 · refine .inr ⟨b, o, h5, h6, fun i hi => ?_⟩
   rw [flatT_length] at hi
   have hg := flatT_get K (i / 2) (by omega)
   have hc := h7 (i / 2) (by omega)
   rcases Nat.mod_two_eq_zero_or_one i with e | e
   · have e2 : i / 2 * 2 = i := by omega
     rw [e2] at hg hc
     rw [hc.1, ← hg.1]
     exact List.getElem?_eq_getElem _
   · have e2 : i / 2 * 2 + 1 = i := by omega
     rw [Nat.add_assoc, e2] at hc
     rw [e2] at hg
     rw [hc.2, ← hg.2]
     exact List.getElem?_eq_getElem _
theorem RowN.t {w : World} {F : Cells} {n : Nat} {v : Value} {K : List (Value × Value)} (h : RowN w F 2 v n (flatT K)) : RowT w F v K := by
 obtain ⟨hlt, hl, a, cap, hv, h1, h2, h3, h4⟩ := h
 rw [flatT_length] at hl
 obtain rfl : K.length = n := by omega
 refine ⟨hlt, a, cap, hv, h1, h2, h3, ?_⟩
 rcases h4 with h4 | ⟨b, o, h5, h6, h7⟩
 · exact .inl h4
 · refine .inr ⟨b, o, h5, h6, fun i hi => ?_⟩
   have hg := flatT_get K i hi
   have c1 := h7 (i * 2) (by rw [flatT_length]; omega)
   have c2 := h7 (i * 2 + 1) (by rw [flatT_length]; omega)
   rw [← Nat.add_assoc] at c2
   rw [c1, c2, ← hg.1, ← hg.2]
   exact ⟨(List.getElem?_eq_getElem _).symm, (List.getElem?_eq_getElem _).symm⟩
theorem RowN.cells_of {w : World} {F : Cells} {sz b o n cap : Nat} {xs : List Value} (h : RowN w F sz (.slice (some ⟨b, o, none⟩) n cap) n xs) (hp : 0 < cap) :
   n ≤ cap ∧ cap ≤ maxLen ∧ (∀ i, i < cap * sz → F b (o + i) ∧ (w.cell? ⟨b, o + i, none⟩).isSome = true ∧ w.frozen? ⟨b, o + i, none⟩ = false) ∧ ∀ i (h : i < xs.length), w.cell? ⟨b, o + i, none⟩ = some xs[i] := by
 obtain ⟨_, hl, a, cap', hv, h1, h2, h3, h4⟩ := h
 simp only [Value.slice.injEq] at hv
 obtain ⟨rfl, -, rfl⟩ := hv
 rcases h4 with h4 | ⟨b', o', h5, h6, h7⟩
 · omega
 · simp only [Option.some.injEq, Addr.mk.injEq, and_true] at h5
   obtain ⟨rfl, rfl⟩ := h5
   exact ⟨h1, h2, h6, h7⟩
theorem RowN.intro {w : World} {F : Cells} {sz b o n cap : Nat} {xs : List Value} (h0 : ∀ x q, F x q → x < w.heap.size) (hl : xs.length = n * sz) (h1 : n ≤ cap) (h2 : cap ≤ maxLen)
   (h3 : ∀ i, i < cap * sz → F b (o + i) ∧ (w.cell? ⟨b, o + i, none⟩).isSome = true ∧ w.frozen? ⟨b, o + i, none⟩ = false) (h4 : ∀ i (h : i < xs.length), w.cell? ⟨b, o + i, none⟩ = some xs[i]) :
   RowN w F sz (.slice (some ⟨b, o, none⟩) n cap) n xs := ⟨h0, hl, _, cap, rfl, h1, h2, by simp, .inr ⟨b, o, rfl, h3, h4⟩⟩
theorem RowN.addr {w : World} {F : Cells} {sz n : Nat} {v : Value} {xs : List Value} (h : RowN w F sz v n xs) (hn : 0 < n) : ∃ b o cap, v = .slice (some ⟨b, o, none⟩) n cap ∧ n ≤ cap ∧ cap ≤ maxLen := by
 obtain ⟨_, hl, a, cap, hv, h1, h2, h3, h4⟩ := h
 rcases h4 with h4 | ⟨b, o, h5, _⟩
 · omega
 · exact ⟨b, o, cap, by rw [hv, h5], h1, h2⟩
theorem RowN.set {w : World} {F : Cells} {sz b o n cap : Nat} {xs : List Value} (h : RowN w F sz (.slice (some ⟨b, o, none⟩) n cap) n xs) (j : Nat) (hj : j < xs.length) (u : Value) :
   RowN (w.setCell ⟨b, o + j, none⟩ u) F sz (.slice (some ⟨b, o, none⟩) n cap) n (xs.set j u) ∧ KeptF F w (w.setCell ⟨b, o + j, none⟩ u) := by
 have hlt := h.1
 have hl := h.2.1
 have hp : 0 < cap := by
   obtain ⟨_, _, a, c, hv, h1, _⟩ := h
   simp only [Value.slice.injEq] at hv
   obtain ⟨-, -, rfl⟩ := hv
   rcases Nat.eq_zero_or_pos cap with h0 | h0
   · obtain rfl : n = 0 := by omega
     omega
   · exact h0
 obtain ⟨h1, h2, h3, h4⟩ := h.cells_of hp
 have hm : n * sz ≤ cap * sz := Nat.mul_le_mul_right _ h1
 have hK := KeptF.setCell (F := F) w b (o + j) u (h3 j (by omega)).1
 refine ⟨RowN.intro (fun x q h => Nat.lt_of_lt_of_le (hlt x q h) hK.size) (by simpa using hl) h1 h2 (fun i hi => ?_) (fun i hi => ?_), hK⟩
 · obtain ⟨g1, g2, g3⟩ := h3 i hi
   exact ⟨g1, hK.there _ _ g2, (hK.frozen _ _ (lt_of_there g2)).trans g3⟩
 · rw [List.length_set] at hi
   by_cases e : j = i
   · subst e
     obtain ⟨u', hu⟩ := Option.isSome_iff_exists.1 (h3 j (by omega)).2.1
     rw [World.cell?_setCell_same _ _ _ hu]
     simp
   · rw [World.cell?_setCell_other _ _ _ _ (fun e2 => by have h : o + j = o + i := congrArg Addr.off e2; omega), h4 i hi, List.getElem_set_ne e]
theorem RowN.take {w : World} {F : Cells} {sz n cap : Nat} {a : Option Addr} {xs : List Value} (h : RowN w F sz (.slice a n cap) n xs) (m : Nat) (hm : m ≤ n) : RowN w F sz (.slice a m cap) m (xs.take (m * sz)) := by
 obtain ⟨hlt, hl, a', cap', hv, h1, h2, h3, h4⟩ := h
 simp only [Value.slice.injEq, true_and] at hv
 obtain ⟨rfl, rfl⟩ := hv
 have hms : m * sz ≤ n * sz := Nat.mul_le_mul_right _ hm
 refine ⟨hlt, by simp; omega, a, cap, rfl, by omega, h2, h3, ?_⟩
 rcases h4 with h4 | ⟨b, o, h5, h6, h7⟩
 · exact .inl h4
 · refine .inr ⟨b, o, h5, h6, fun i hi => ?_⟩
   rw [List.length_take] at hi
   rw [h7 i (by omega), List.getElem_take]
theorem RowN.drop {w : World} {F : Cells} {sz b o n cap : Nat} {xs : List Value} (h : RowN w F sz (.slice (some ⟨b, o, none⟩) n cap) n xs) (m : Nat) (hm : m < n) : RowN w F sz (.slice (some ⟨b, o + m * sz, none⟩) (n - m) (cap - m)) (n - m) (xs.drop (m * sz)) := by
 have hlt := h.1
 have hl := h.2.1
 have hp : 0 < cap := by
   obtain ⟨_, _, a, c, hv, h1, _⟩ := h
   simp only [Value.slice.injEq] at hv
   obtain ⟨-, -, rfl⟩ := hv
   omega
 obtain ⟨h1, h2, h3, h4⟩ := h.cells_of hp
 have e1 : (cap - m) * sz + m * sz = cap * sz := by rw [← Nat.add_mul]; congr 1; omega
 have e2 : (n - m) * sz + m * sz = n * sz := by rw [← Nat.add_mul]; congr 1; omega
 refine RowN.intro hlt (by simp; omega) (by omega) (by omega) (fun i hi => ?_) (fun i hi => ?_)
 · have := h3 (m * sz + i) (by omega)
   rwa [← Nat.add_assoc] at this
 · rw [List.length_drop] at hi
   have := h4 (m * sz + i) (by omega)
   rw [← Nat.add_assoc] at this
   rw [this, List.getElem_drop]
theorem RowN.append {P : Program} {w : World} {F : Cells} {sz n : Nat} {v : Value} {xs : List Value} (hr : RowN w F sz v n xs) (t ty e : TypeId) (i : TypeInfo) (z : Value) (bytes : Nat)
   (ht : P.underlying t = some (.slice e)) (hi : P.info? e = some i) (hz : i.zero = some z) (hsz : i.size = sz) (hby : i.bytes = bytes) (hzs : z.cells.size = sz)
   {x : Value} {m : Nat} {news : List Value} (hs : Src P sz t x m news w) (b1 : n + m ≤ maxLen) (b2 : (n + m) * bytes ≤ 140737488355328) :
   ∃ (a : Option Addr) (cap : Nat) (w1 : World) (F1 : Cells), (Builtin.append_ #[t, t] ty #[v, x]).run P w = .ok (.slice a (n + m) cap) w1 ∧ RowN w1 F1 sz (.slice a (n + m) cap) (n + m) (xs ++ news) ∧
     (∀ q r, F1 q r → F q r ∨ w.heap.size ≤ q) ∧ KeptF F w w1 := by
 subst hsz
 subst hby
 have hnl := hs.newsLen
 have hr0 := hr
 obtain ⟨hlt, hl, a, cap, rfl, h1, h2, h3, h4⟩ := hr
 have hl2 : (xs ++ news).length = (n + m) * i.size := by rw [List.length_append, hl, hnl, Nat.add_mul]
 by_cases hfit : n + m ≤ cap
 · rcases Nat.eq_zero_or_pos cap with h0 | hcap
   · subst h0
     obtain rfl : m = 0 := by omega
     obtain rfl : news = [] := List.eq_nil_of_length_eq_zero (by simpa using hnl)
     exact ⟨_, _, w, F, run_append_nothing (P := P) w t t ty e i ht hi a n 0 h1 x hs, by simpa using hr0, fun q r h => .inl h, KeptF.refl _ _⟩
   · rcases h4 with h4 | ⟨b, o, rfl, g5, g6⟩
     · omega
     have hms : (n + m) * i.size ≤ cap * i.size := Nat.mul_le_mul_right _ hfit
     have hms' := hms
     rw [Nat.add_mul] at hms
     have hg : ∀ j, j < news.length → F b (o + n * i.size + j) ∧ (w.cell? ⟨b, o + n * i.size + j, none⟩).isSome = true ∧ w.frozen? ⟨b, o + n * i.size + j, none⟩ = false := fun j hj => by
       have := g5 (n * i.size + j) (by omega)
       rwa [← Nat.add_assoc] at this
     have hrun := run_append_room_src (P := P) w t t ty e i ht hi b o n cap x m news hs hfit (fun j hj => (hg j hj).2.1) (fun j hj => (hg j hj).2.2)
     have hKs := KeptF.setCells (F := F) b news (o + n * i.size) w (fun j hj => (hg j hj).1)
     refine ⟨_, _, _, F, hrun, RowN.intro (fun x q h => Nat.lt_of_lt_of_le (hlt x q h) hKs.size) hl2 hfit h2 (fun j hj => ?_) (fun j hj => ?_), fun q r h => .inl h, hKs⟩
     · obtain ⟨q1, q2, q3⟩ := g5 j hj
       exact ⟨q1, hKs.there _ _ q2, (hKs.frozen _ _ (lt_of_there q2)).trans q3⟩
     · by_cases hj2 : j < xs.length
       · rw [World.cell?_setCells_out b news (o + n * i.size) w _ (fun _ _ => .inl (by show o + j < o + n * i.size; omega)), g6 j hj2, List.getElem_append_left hj2]
       · have hjl : j - xs.length < news.length := by rw [List.length_append] at hj; omega
         have := World.cell?_setCells_in b news (o + n * i.size) w (fun j hj => (hg j hj).2.1) (j - xs.length) hjl
         rw [show o + n * i.size + (j - xs.length) = o + j by omega] at this
         rw [this, List.getElem_append_right (by omega)]
 · have hold : (Builtin.firstCells i.size n (.slice a n cap)).run P w.drew = .ok xs.toArray w.drew := by
     rcases a with _ | p
     · have hc0 := h3 rfl
       obtain rfl : n = 0 := by omega
       obtain rfl : xs = [] := List.eq_nil_of_length_eq_zero (by simpa using hl)
       exact run_firstCells_none w.drew i.size 0 0 cap
     · refine run_firstCells_some w.drew i.size n p n cap xs hl (fun j u hj => ?_)
       have hj2 : j < xs.length := (List.getElem?_eq_some_iff.1 hj).1
       rcases h4 with h4 | ⟨b, o, h5, g5, g6⟩
       · obtain rfl : n = 0 := by omega
         omega
       · injection h5 with h5
         subst h5
         rw [Addr.add_lit]
         show w.cell? ⟨b, o + j, none⟩ = some u
         rw [g6 j hj2]
         rw [List.getElem?_eq_getElem hj2] at hj
         exact hj
   have hsmall : ((n + m : Nat) : Int) ≤ 9223372036854775807 := by simp only [maxLen] at b1; omega
   have hge := grownCap_ge w (n + m) cap e
   have hcm := grownCap_le_maxLen w (n + m) cap e b1
   have hrun := run_append_grow_src (P := P) w t t ty e i z ht hi hz a n cap xs hold x m news hs (by omega) hsmall (growslice_fits (by omega) b2)
   have hKa : KeptF F w (w.drew.alloc (.cells ((xs ++ news).toArray ++ Builtin.zeroCells z.cells (grownCap w (n + m) cap e - (n + m))) e)) := (KeptF.drew F w).trans ((KeptF.alloc _ _ _).mono (fun _ _ _ h => h))
   refine ⟨_, _, _, fun x _ => x = w.heap.size, hrun, RowN.intro (fun x q h => by subst h; simp) hl2 hge hcm (fun j hj => ⟨rfl, ?_, ?_⟩) (fun j hj => ?_), fun q r h => .inr (by subst h; exact Nat.le_refl _), hKa⟩
   · have e1 := World.cell?_alloc_new w.drew ((xs ++ news).toArray ++ Builtin.zeroCells z.cells (grownCap w (n + m) cap e - (n + m))) e j
     rw [Nat.zero_add]
     show (World.cell? _ ⟨w.drew.heap.size, j, none⟩).isSome = true
     rw [e1]
     have hsz : ((xs ++ news).toArray ++ Builtin.zeroCells z.cells (grownCap w (n + m) cap e - (n + m))).size = grownCap w (n + m) cap e * i.size := by
       rw [Array.size_append, List.size_toArray, hl2, size_zeroCells, hzs, ← Nat.add_mul]
       congr 1
       omega
     rw [Array.getElem?_eq_getElem (by rw [hsz]; exact hj)]
     rfl
   · rw [Nat.zero_add]
     exact World.frozen?_alloc_new w.drew _ _ j
   · have e1 := World.cell?_alloc_new w.drew ((xs ++ news).toArray ++ Builtin.zeroCells z.cells (grownCap w (n + m) cap e - (n + m))) e j
     rw [Nat.zero_add]
     show World.cell? _ ⟨w.drew.heap.size, j, none⟩ = _
     rw [e1, Array.getElem?_append_left (by simp only [List.size_toArray]; exact hj), List.getElem?_toArray]
     exact List.getElem?_eq_getElem _
end Go.Proofs.Ytananonjomfpkaa
/- Appending one element to a slice whose cells are its own; copying within it. -/
namespace Go.Proofs.Ytananonjomfpkaa
open Go.RowKit
theorem RowF.cells_of {w : World} {F : Cells} {b o n cap : Nat} {xs : List Value} (h : RowF w F (.slice (some ⟨b, o, none⟩) n cap) xs) (hp : 0 < cap) :
   n = xs.length ∧ xs.length ≤ cap ∧ cap ≤ maxLen ∧ (∀ i, i < cap → F b (o + i) ∧ (w.cell? ⟨b, o + i, none⟩).isSome = true ∧ w.frozen? ⟨b, o + i, none⟩ = false) ∧ ∀ i (h : i < xs.length), w.cell? ⟨b, o + i, none⟩ = some xs[i] := by
 obtain ⟨_, a, cap', hv, h1, h2, h3, h4⟩ := h
 simp only [Value.slice.injEq] at hv
 obtain ⟨rfl, rfl, rfl⟩ := hv
 rcases h4 with h4 | ⟨b', o', h5, h6, h7⟩
 · omega
 · simp only [Option.some.injEq, Addr.mk.injEq, and_true] at h5
   obtain ⟨rfl, rfl⟩ := h5
   exact ⟨rfl, h1, h2, h6, h7⟩
theorem RowF.intro {w : World} {F : Cells} {b o cap : Nat} {xs : List Value} (h0 : ∀ x q, F x q → x < w.heap.size) (h1 : xs.length ≤ cap) (h2 : cap ≤ maxLen)
   (h3 : ∀ i, i < cap → F b (o + i) ∧ (w.cell? ⟨b, o + i, none⟩).isSome = true ∧ w.frozen? ⟨b, o + i, none⟩ = false) (h4 : ∀ i (h : i < xs.length), w.cell? ⟨b, o + i, none⟩ = some xs[i]) :
   RowF w F (.slice (some ⟨b, o, none⟩) xs.length cap) xs := ⟨h0, _, cap, rfl, h1, h2, by simp, .inr ⟨b, o, rfl, h3, h4⟩⟩
theorem RowF.splice {w : World} {F : Cells} {b o n cap : Nat} {xs : List Value} (h : RowF w F (.slice (some ⟨b, o, none⟩) n cap) xs) (hp : 0 < cap) (k : Nat) (ys : List Value) (hk : k + ys.length ≤ xs.length) :
   RowF (w.setCells b (o + k) ys) F (.slice (some ⟨b, o, none⟩) n cap) (xs.take k ++ ys ++ xs.drop (k + ys.length)) := by
 have hlt := h.1
 obtain ⟨rfl, h1, h2, h3, h4⟩ := h.cells_of hp
 have hl : (xs.take k ++ ys ++ xs.drop (k + ys.length)).length = xs.length := by simp; omega
 have hK := KeptF.setCells (F := F) b ys (o + k) w (fun j hj => by have := (h3 (k + j) (by omega)).1; rwa [← Nat.add_assoc] at this)
 have := RowF.intro (w := w.setCells b (o + k) ys) (F := F) (b := b) (o := o) (cap := cap) (xs := xs.take k ++ ys ++ xs.drop (k + ys.length)) (fun x q h => Nat.lt_of_lt_of_le (hlt x q h) hK.size) (by omega) h2 (fun i hi => ?_) (fun i hi => ?_)
 · rwa [hl] at this
 · obtain ⟨g1, g2, g3⟩ := h3 i hi
   exact ⟨g1, hK.there _ _ g2, (hK.frozen _ _ (lt_of_there g2)).trans g3⟩
 · rw [hl] at hi
   by_cases hi1 : i < k
   · rw [World.cell?_setCells_out b ys (o + k) w _ (fun _ _ => .inl (by show o + i < o + k; omega)), h4 i hi]
     rw [List.getElem_append_left (by simp; omega), List.getElem_append_left (by simp; omega), List.getElem_take]
   · by_cases hi2 : i < k + ys.length
     · have := World.cell?_setCells_in b ys (o + k) w (fun j hj => by have := (h3 (k + j) (by omega)).2.1; rwa [← Nat.add_assoc] at this) (i - k) (by omega)
       rw [show o + k + (i - k) = o + i by omega] at this
       rw [this]
       simp only [List.getElem_append, List.length_append, List.length_take]
       simp only [show min k xs.length = k by omega, hi2, hi1, dif_pos, dif_neg, not_false_eq_true]
     · rw [World.cell?_setCells_out b ys (o + k) w _ (fun _ _ => .inr (by show o + k + ys.length ≤ o + i; omega)), h4 i hi]
       simp only [List.getElem_append, List.length_append, List.length_take, List.getElem_drop]
       simp only [show min k xs.length = k by omega, hi2, dif_neg, not_false_eq_true]
       congr 2
       omega
theorem wpList_append_row {P : Program} {w : World} {ops : Array Oper} {rest : List Oper} {o : Oper} {a : Act} {Q : Exit → Act → World → Prop}
   (hg : o.guard = none) (s x : Operand) (t : TypeId) (hop : o.op = Op.call { callee := Callee.builtin Builtin.append, args := #[s, x], argTypes := #[t, t] })
   (e : TypeId) (i : TypeInfo) (z : Value) (bytes : Nat) (h1 : P.underlying t = some (.slice e)) (h2 : P.info? e = some i) (h3 : i.zero = some z) (h4 : i.size = 1) (h5 : i.bytes = bytes) (h6 : z.cells.size = 1)
   (F : Cells) (v : Value) (xs : List Value) (hs : a.eval s = v) (hr : RowF w F v xs) (ab ac : Nat) (c : Nat) (y : Value) (hx : a.eval x = .slice (some ⟨ab, ac, none⟩) 1 c) (hc : w.cell? ⟨ab, ac, none⟩ = some y) (h1c : y.oneCell' = true)
   (b1 : xs.length + 1 ≤ maxLen) (b2 : (xs.length + 1) * bytes ≤ 140737488355328)
   (hK : ∀ (b1 o1 cap1 : Nat) (F1 : Cells) (w1 : World), xs.length + 1 ≤ cap1 → RowF w1 F1 (.slice (some ⟨b1, o1, none⟩) (xs.length + 1) cap1) (xs ++ [y]) → (∀ q r, F1 q r → F q r ∨ w.heap.size ≤ q) → KeptF F w w1 →
     wpList P ops Q rest (a.put o.dst (.slice (some ⟨b1, o1, none⟩) (xs.length + 1) cap1)) w1) : wpList P ops Q (o :: rest) a w := by
 have hadd : ∀ j u, ([y] : List Value)[j]? = some u → w.cell? ((⟨ab, ac, none⟩ : Addr).add j) = some u := fun j u hj => by
   rw [Addr.add_lit]
   cases j with
   | zero => simp at hj; subst hj; simpa using hc
   | succ j => simp at hj
 have hgrown : ∀ v' w', w'.ownsRow w.heap.size e 1 v' (xs.length + 1) (xs ++ [y]) → w.grownBy w' none → wpList P ops Q rest (a.put o.dst v') w' := fun v' w' hown hgr => by
   have hrow := RowF.of_owns hown
   have hlt := hown.lt
   obtain ⟨_, ⟨_, h9⟩ | ⟨g, cap, cur, rfl, hb, hgg, hn, hm, _⟩⟩ := hown
   · omega
   · exact hK g 0 cap _ w' hn hrow (fun q r hq => by right; have := hlt q hq; omega) (KeptF.of_below (B := w.heap.size) ⟨hgr.os, hgr.tape, hgr.output, hgr.size, fun k hk => hgr.block k hk (by simp)⟩ (Nat.le_refl _))
 have hr0 := hr
 obtain ⟨glt, ao, cap, rfl, g1, g2, g3, g4⟩ := hr
 by_cases hcap : cap = 0
 · subst hcap
   have hx0 : xs = [] := List.eq_nil_of_length_eq_zero (by omega)
   subst hx0
   exact wpList_append_grows w hg s x t hop e i z 1 bytes h1 h2 h3 h4 h5 h6 (by omega) ao 0 0 [] hs (fun h => ⟨rfl, rfl⟩) rfl (fun _ _ j u hj => by simp at hj) ⟨ab, ac, none⟩ 1 c [y] hx rfl hadd (by simpa using h1c) (by omega) (by simpa using b1) (by simpa using b2) hgrown
 · rcases g4 with g4 | ⟨b, off, rfl, g5, g6⟩
   · exact absurd g4 hcap
   · refine wpList_append_arg w hg s x t hop e i z 1 bytes h1 h2 h3 h4 h5 h6 (by omega) b off xs.length cap xs hs (by simp) (fun j u hj => ?_) ⟨ab, ac, none⟩ 1 c [y] hx rfl hadd (by simpa using h1c) (fun hroom j hj => ?_) b1 b2 (fun hroom => ?_) (fun hfull => ?_)
     · have hj2 : j < xs.length := by rcases Nat.lt_or_ge j xs.length with h | h; exact h; rw [List.getElem?_eq_none h] at hj; cases hj
       rw [g6 j hj2]; rw [List.getElem?_eq_getElem hj2] at hj; exact hj
     · simp at hj; subst hj
       have := g5 xs.length (by omega)
       simpa using this.2
     · rw [Nat.mul_one]
       have hKs := KeptF.setCells (F := F) b [y] (off + xs.length) w (fun j hj => by simp at hj; subst hj; exact (g5 xs.length (by omega)).1)
       refine hK b off cap F _ hroom ?_ (fun q r hq => .inl hq) hKs
       have hl : (xs ++ [y]).length = xs.length + 1 := by simp
       have := RowF.intro (w := w.setCells b (off + xs.length) [y]) (F := F) (b := b) (o := off) (cap := cap) (xs := xs ++ [y]) (fun x q h => Nat.lt_of_lt_of_le (glt x q h) hKs.size) (by omega) g2 (fun i hi => ?_) (fun i hi => ?_)
       · rwa [hl] at this
       · obtain ⟨q1, q2, q3⟩ := g5 i hi
         exact ⟨q1, hKs.there _ _ q2, (hKs.frozen _ _ (lt_of_there q2)).trans q3⟩
       · by_cases hi2 : i < xs.length
         · rw [World.cell?_setCells_out b [y] (off + xs.length) w _ (fun _ _ => .inl (by show off + i < off + xs.length; omega)), g6 i hi2]
           simp [hi2]
         · obtain rfl : i = xs.length := by simp at hi; omega
           have := World.cell?_setCells_in b [y] (off + xs.length) w (fun j hj => by simp at hj; subst hj; exact (g5 xs.length (by omega)).2.1) 0 (by simp)
           simpa using this
     · exact fun v' w' hown hgr => hgrown v' w' hown hgr
theorem step_copy_cells {P : Program} {ops : Array Oper} {o : Oper} {a : Act} {w : World} {K : Act → World → Prop} {Q : Exit → Act → World → Prop} {E : Prop} (hgd : o.guard = none) (d s : Operand) (dT sT : TypeId)
   (ho : o.op = .call { callee := .builtin .copy, args := #[d, s], argTypes := #[dT, sT] }) (elem : TypeId) (hu : P.underlying dT = some (.slice elem)) (hsz : (P.info? elem).map (·.size) = some 1)
   (dp sp : Option Addr) (dLen dCap sLen sCap : Nat) (hd : a.eval d = .slice dp dLen dCap) (hs : a.eval s = .slice sp sLen sCap)
   (b off : Nat) (cs : List Value) (hn : cs.length = Nat.min sLen dLen)
   (hpos : 0 < cs.length → dp = some ⟨b, off, none⟩ ∧ ∃ ad, sp = some ad ∧ ∀ j v, cs[j]? = some v → w.cell? (ad.add j) = some v)
   (hc : ∀ j, j < cs.length → (w.cell? ⟨b, off + j, none⟩).isSome = true) (hf : ∀ j, j < cs.length → w.frozen? ⟨b, off + j, none⟩ = false) (h1 : ∀ v ∈ cs, v.oneCell' = true)
   (h : ∀ w', Hid (w' = w.setCells b off cs) → K (a.put o.dst (goInt cs.length)) w') :
   if Region.wanted o (yielded ops a.tmps) = true then Oper.wp P o a w K Q else E := by
 have hw : Region.wanted o (yielded ops a.tmps) = true := by simp [Region.wanted, hgd]
 rw [if_pos hw]
 by_cases h0 : cs.length = 0
 · obtain rfl : cs = [] := List.eq_nil_of_length_eq_zero h0
   have hrun := run_copy_none (P := P) w dT sT o.type elem dp sp dLen dCap sLen sCap hu hsz (by simpa using hn.symm)
   unfold Oper.wp
   simp [execOp, ho, resolve, invoke, builtin, hd, hs, hrun, Result.andThen]
   exact h w rfl
 · obtain ⟨rfl, ad, rfl, hsrc⟩ := hpos (by omega)
   have hrun := run_copy_cells (P := P) w dT sT o.type elem b off dLen dCap ad sLen sCap cs hu hsz hn hsrc hc hf h1
   unfold Oper.wp
   simp [execOp, ho, resolve, invoke, builtin, hd, hs, hrun, Result.andThen]
   exact h _ rfl
end Go.Proofs.Ytananonjomfpkaa
