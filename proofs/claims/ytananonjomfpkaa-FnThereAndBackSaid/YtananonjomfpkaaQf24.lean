/- The contract of the program's InsertKey. -/
import Derived.Test.YtananonjomfpkaaQf23
/- The contract of the model's l1Copy: the same tree in rows of the call's own. -/
namespace Go.Proofs.Ytananonjomfpkaa
open Go.RowKit
theorem IntsIn.atLater {w w' : World} {B : Nat} {v : Value} {ks : List Int} (h : IntsIn w B v ks) (hb : Below B w w') : IntsAt w' v ks := (h.later hb (Nat.le_refl _)).at
set_option maxRecDepth 100000 in
set_option maxHeartbeats 2000000 in
theorem copy_c {w : World} {B : Nat} {kv cv : Value} {t : Tr} (ht : TreeIn w B kv cv t) (hw : t.weight ≤ 1048576) :
   ∀ w', Below B w w' → B ≤ w'.heap.size →
   Calls Try.prog 100 #[.agg #[kv, cv]] w' fun e w'' => ∃ kv' cv' P, e = .returned (.agg #[kv', cv']) ∧ TreeO w'' w'.heap.size P kv' cv' t ∧ Below w'.heap.size w' w'' := by
 induction ht with
 | mk ks cs kv a cap kvs cvs hk hlen hcap hat hkids ih =>
   intro w' hbw hB
   obtain ⟨i0, hi0, hz0, hz1, hz2⟩ := info_parts Try.infoTree
   simp only [Tr.weight] at hw
   have hl0 := Tr.length_le_weights cs
   obtain ⟨ka, kcp, hkv, -⟩ := id hk
   subst hkv
   unfold maxLen at hcap
   have hkid : ∀ (i : Nat) (h : i < cs.length), ∃ (cb co : Nat) (p1 : Option Addr) (p2 p3 : Nat) (p4 : Option Addr) (p5 p6 : Nat), a = some ⟨cb, co, none⟩ ∧ cb < B ∧ w.cell? ⟨cb, co + i * 2, none⟩ = some (.slice p1 p2 p3) ∧ w.cell? ⟨cb, co + i * 2 + 1, none⟩ = some (.slice p4 p5 p6) ∧
       ∀ w2, Below B w w2 → B ≤ w2.heap.size → Calls Try.prog 100 #[.agg #[.slice p1 p2 p3, .slice p4 p5 p6]] w2 fun e w3 => ∃ kv' cv' P, e = .returned (.agg #[kv', cv']) ∧ TreeO w3 w2.heap.size P kv' cv' cs[i] ∧ Below w2.heap.size w2 w3 := fun i hi => by
     rcases hat with h | ⟨cb, co, rfl, hcb, g2⟩
     · omega
     · obtain ⟨p1, p2, p3, p4, p5, p6, e5, e6⟩ := (hkids i hi).slices
       have hwt := Tr.weight_get_le cs i hi
       have h2 := ih i hi (by omega)
       rw [e5, e6] at h2
       exact ⟨cb, co, p1, p2, p3, p4, p5, p6, rfl, hcb, by rw [(g2 i hi).1, e5], by rw [(g2 i hi).2, e6], h2⟩
   have HAT := Lib.hid hkid
   have HBW := Lib.hid hbw
   obtain ⟨W1, hW1⟩ : ∃ W1, W1 = (w'.alloc (.cells #[.slice ka ks.length kcp, .slice a cs.length cap] 26)).alloc (.cells #[.slice none 0 0, .slice none 0 0] 26) := ⟨_, rfl⟩
   have hs1 : W1.heap.size = w'.heap.size + 2 := by rw [hW1]; simp
   have hb1 : Below w'.heap.size w' W1 := by rw [hW1]; exact ((Below.refl _ _).alloc (Nat.le_refl _) _).alloc (by simp) _
   have kt : W1.heap[w'.heap.size]? = some (.cells #[.slice ka ks.length kcp, .slice a cs.length cap] 26 (0, 0)) := by rw [hW1, old_blk _ _ _ (by simp), new_blk]
   have kb : W1.heap[w'.heap.size + 1]? = some (.cells #[.slice none 0 0, .slice none 0 0] 26 (0, 0)) := by
     rw [hW1, show w'.heap.size + 1 = (w'.alloc (.cells #[.slice ka ks.length kcp, .slice a cs.length cap] 26)).heap.size by simp, new_blk]
   have hcl1 := leaf_c W1 (.slice ka ks.length kcp) ks (fun w2 h2 => hk.atLater (hbw.trans ((hb1.mono hB).trans (h2.mono (by omega))))) (by omega)
   have HCL := Lib.hid hcl1
   have HW1 := Lib.hid hW1
   have HB1 := Lib.hid (And.intro hb1 (And.intro kb kt))
   have ktx := kt
   rw [hW1] at ktx
   obtain ⟨x1, x2, x3, x4⟩ := box2 ktx
   clear ktx hk hat hkids ih hbw hcl1 hW1 hb1 kb kt hkid
   go_enter Try.func100, Try.ntmps100
   go_wp2_with fail
   rw [← HW1.out]
   refine HCL.out.mono ?_
   rintro e w2 ⟨kv2, g2, rfl, hown2, hlt2, hg2, hemp2, hb2⟩
   obtain ⟨a2, q2, rfl⟩ := hown2.shown
   have hglt2 : g2 < w2.heap.size := (Array.getElem?_eq_some_iff.1 hemp2).1
   have nb2 := (hb2.block w'.heap.size (by omega)).trans HB1.out.2.2
   clear x1 x2 x3 x4
   obtain ⟨x1, x2, x3, x4⟩ := box2 nb2
   have hs2 := hb2.size
   obtain ⟨y1, y2, y3, y4⟩ := box2 ((old_blk w2 (.cells #[.slice a2 ks.length q2, .slice (some ⟨g2, 0, none⟩) 0 0] 26) _ (by omega)).trans nb2)
   obtain ⟨W3, hW3⟩ : ∃ W3, W3 = w2.alloc (.cells #[.slice a2 ks.length q2, .slice (some ⟨g2, 0, none⟩) 0 0] 26) := ⟨_, rfl⟩
   have hs3 : W3.heap.size = w2.heap.size + 1 := by rw [hW3]; simp
   have hb3 : Below w2.heap.size w2 W3 := by rw [hW3]; exact (Below.refl _ _).alloc (Nat.le_refl _) _
   have hbx3 : W3.heap[w2.heap.size]? = some (.cells #[.slice a2 ks.length q2, .slice (some ⟨g2, 0, none⟩) 0 0] 26 (0, 0)) := by rw [hW3, new_blk]
   have hgb : ∀ b, ownB (.slice (some ⟨g2, 0, none⟩) 0 0) b → b = g2 := fun b h => by
     have h' : g2 = b := by simpa [ownB, Value.ownBlock] using h
     exact h'.symm
   have htr3 : TreeO W3 (w'.heap.size + 2) (fun x => ownB (.slice a2 ks.length q2) x ∨ x = g2) (.slice a2 ks.length q2) (.slice (some ⟨g2, 0, none⟩) 0 0) (.mk ks (cs.take 0)) := by
     refine .mk ks [] _ _ _ (ownsRow_held (IntsOwn.lower hown2 (by omega)) (fun k e => hb3.block k (hown2.lt k e).2)) ⟨rfl, .inr ⟨g2, 0, #[], rfl, by omega, (hb3.block _ hglt2).trans hemp2, Nat.le_refl _, by unfold maxLen; omega, rfl, rfl⟩⟩ (fun x h => by cases h) (fun b h => .inl h) (fun b h => .inr (hgb b h)) (fun x h => by cases h) ?_ (fun q e => ?_)
     · refine List.pairwise_cons.2 ⟨fun R hR b h1 h2 => ?_, List.pairwise_cons.2 ⟨fun _ h => (by cases h), List.Pairwise.nil⟩⟩
       simp at hR
       subst hR
       have h' := hgb b h2
       have := hlt2 b h1
       omega
     · rcases e with e | e
       · have := hown2.lt q e; omega
       · omega
   have H0 := Lib.hid (And.intro hbx3 (And.intro htr3 (show ¬ (ownB (.slice a2 ks.length q2) w2.heap.size ∨ w2.heap.size = g2) from fun e => by
     rcases e with e | e
     · have := (hown2.lt _ e).2; omega
     · omega)))
   have HB3 := Lib.hid (Below.trans (hb2.mono (show w'.heap.size + 2 ≤ W1.heap.size by omega)) (hb3.mono (by omega)))
   have HW3 := Lib.hid hW3
   clear hb2 hown2 nb2 hb3 hbx3 htr3 hW3 hemp2 hlt2 hglt2 hg2 hgb
   go_wp2_with fail
   rw [← HW3.out]
   clear x1 x2 x3 x4 y1 y2 y3 y4
   go_loopw [12] (fun i wr => ∃ (j : Nat) (vk : Value) (P : Blocks), j ≤ cs.length ∧ i = .int .i64 j ∧ wr.heap[w2.heap.size]? = some (.cells #[.slice a2 ks.length q2, vk] 26 (0, 0)) ∧ TreeO wr (w'.heap.size + 2) P (.slice a2 ks.length q2) vk (.mk ks (cs.take j)) ∧ ¬ P w2.heap.size ∧ Below (w'.heap.size + 2) W1 wr) (fun i _ => cs.length - (intOf i).toNat)
   case atStart => exact ⟨0, _, _, Nat.zero_le _, rfl, H0.out.1, H0.out.2.1, H0.out.2.2, HB3.out⟩
   case round =>
     obtain ⟨j, vk, P, hj, rfl, hbx, htr, hP, hbel1⟩ := hrel
     have hbel : Below w'.heap.size w' wr := HB1.out.1.trans (hbel1.mono (by omega))
     by_cases hlt : j < cs.length
     · obtain ⟨cb, co, p1, p2, p3, p4, p5, p6, rfl, hcb, hcell1, hcell2, hcall⟩ := HAT.out j hlt
       have hbwr : Below B w wr := HBW.out.trans (hbel.mono hB)
       have hcell1' : wr.cell? ⟨cb, co + j * 2, none⟩ = some (.slice p1 p2 p3) := by rw [below_cell hbwr hcb]; exact hcell1
       have hcell2' : wr.cell? ⟨cb, co + j * 2 + 1, none⟩ = some (.slice p4 p5 p6) := by rw [below_cell hbwr hcb]; exact hcell2
       obtain ⟨kids, hkt, hpk, hpc, hpx, psk, psc, pss, pap, plt⟩ := htr.parts
       have hlk : kids.length = j := by
         have := congrArg List.length hkt
         simp at this
         omega
       obtain ⟨ra, rc, hvk⟩ := TreesOwn.shown hpc
       rw [List.length_map, hlk] at hvk
       subst hvk
       have hrow : wr.ownsRow (w'.heap.size + 2) 26 2 (.slice ra j rc) j (flatT (kids.map KidO.pair)) := by
         have h := hpc
         unfold TreesOwn at h
         rw [List.length_map, hlk] at h
         exact h
       have hszr := hbel.size
       have hlt2 : w2.heap.size < wr.heap.size := (Array.getElem?_eq_some_iff.1 hbx).1
       have ne1 : some w2.heap.size ≠ (Value.slice ra j rc).ownBlock := fun e => hP (psc _ e.symm)
       obtain ⟨W5, hW5⟩ : ∃ W5, W5 = wr.alloc (.cells #[.slice p1 p2 p3, .slice p4 p5 p6] 26) := ⟨_, rfl⟩
       have hs5 : W5.heap.size = wr.heap.size + 1 := by rw [hW5]; simp
       have hb5 : Below wr.heap.size wr W5 := by rw [hW5]; exact (Below.refl _ _).alloc (Nat.le_refl _) _
       have k5 : W5.heap[wr.heap.size]? = some (.cells #[.slice p1 p2 p3, .slice p4 p5 p6] 26 (0, 0)) := by rw [hW5, new_blk]
       have n5' := (hb5.block _ hlt2).trans hbx
       obtain ⟨y1, y2, y3, y4⟩ := box2 k5
       obtain ⟨u1, u2, u3, u4⟩ := box2 n5'
       have hcl := hcall W5.drew (hbwr.trans ((hb5.drew).mono (by omega))) (by simp; omega)
       have ne2 : some wr.heap.size ≠ (Value.slice ra j rc).ownBlock := fun e => by have := (hrow.lt _ e.symm).2; omega
       have NE1 := Lib.hid ne1
       have NE2 := Lib.hid ne2
       have HCALL := Lib.hid hcl
       have HPAR := Lib.hid (And.intro hpk (And.intro hpx (And.intro psk (And.intro psc (And.intro pss (And.intro pap plt))))))
       have HTR := Lib.hid (And.intro hbx (And.intro hkt (And.intro htr hP)))
       have HROW := Lib.hid hrow
       have HBEL := Lib.hid hbel1
       have HW5 := Lib.hid hW5
       have H5 := Lib.hid (And.intro hb5 (And.intro k5 n5'))
       clear hbel hbel1 hbwr hcell1 hcell2 hcall hkt hpk hpc hpx psk psc pss pap plt hrow hcl ne1 ne2 hbx htr hP hW5 hb5 k5 n5'
       go_wp2_with fail
       rw [← HW5.out]
       go_region_law
         (first
           | ((refine step_append_lies _ (by rfl) _ _ _ (by rfl) (w'.heap.size + 2) 26 i0 _ 2 48 Try.underlying24 hi0 hz0 hz1 hz2 rfl (by omega) _ j _ (by rfl) (H6.out.2.2.2.alloc _) ⟨w6.heap.size, 0, none⟩ 1 1 [.slice r1 r2 r3, .slice r4 r5 r6] (by rfl) (by rfl) (World.news_of_block (cs := #[.slice r1 r2 r3, .slice r4 r5 r6]) (t := 26) (fr := (0, 0)) (heap_alloc_new w6 _)) (by simp [Value.oneCell']) (by omega) (by unfold maxLen; omega) (by omega) (by simp; omega) (w6.heap.size + 1) (by simp) ?_; intro gg cap7 w7 hown7 hgrow7 hat7 hlt7; have v7c := (hgrow7.cell_far ⟨w2.heap.size, 1, none⟩ (by simp; omega) NE1.out).trans t2; have v7f := (hgrow7.frozen_far ⟨w2.heap.size, 1, none⟩ (by simp; omega) NE1.out).trans t4; have H7 := Lib.hid (And.intro hown7 (And.intro hgrow7 hat7)); clear hown7 hgrow7 hat7))
           | (go_simp; go_at_call 100; refine HCALL.out.mono ?_; rintro e w6 ⟨xk, xc, Q, rfl, htr6, hb6⟩; obtain ⟨r1, r2, r3, r4, r5, r6, rfl, rfl⟩ := htr6.tree.slices; have hs6 : W5.heap.size ≤ w6.heap.size := hb6.size; have j6 := (hb6.block w2.heap.size (by simp; omega)).trans H5.out.2.2; have i6 := (hb6.block wr.heap.size (by simp; omega)).trans H5.out.2.1; obtain ⟨z1, z2, z3, z4⟩ := box2 j6; obtain ⟨s1, s2, s3, s4⟩ := box2 i6; obtain ⟨t1, t2, t3, t4⟩ := box2 ((old_blk w6 (.cells #[.slice r1 r2 r3, .slice r4 r5 r6] 26) _ (by omega)).trans j6); obtain ⟨v1, v2, v3, v4⟩ := box2 ((old_blk w6 (.cells #[.slice r1 r2 r3, .slice r4 r5 r6] 26) _ (by omega)).trans i6); have hr6 := ownsRow_same HROW.out (fun k h1 h2 => (hb6.block k (by simp; omega)).trans (H5.out.1.block k h1)); have H6 := Lib.hid (And.intro htr6 (And.intro hb6 (And.intro j6 hr6))); clear htr6 hb6 j6 i6 hr6))
       all_goals (
         go_wp2_with fail
         go_roundw
         case rel =>
           obtain ⟨P', g1, g2, g3, g4⟩ := treeO_step HTR.out.1 hlt HTR.out.2.1 (by omega) HTR.out.2.2.1 HTR.out.2.2.2 (H6.out.1.lower (lo' := wr.heap.size) (by simp; omega)) (H5.out.1.trans ((below_undrew H6.out.2.1).mono (show wr.heap.size ≤ W5.heap.size by omega))) HPAR.out H7.out.1 H7.out.2.1 H7.out.2.2
           exact ⟨j + 1, _, P', by omega, by go_num, g1, g2, g3, HBEL.out.trans g4⟩
         case measure => simp [intOf]; omega)
     · obtain rfl : j = cs.length := by omega
       rw [List.take_length] at htr
       obtain ⟨_, _, va, vc, -, rfl⟩ := htr.shown
       have hrb := (hbel1.block (w'.heap.size + 1) (by omega)).trans HB1.out.2.1
       obtain ⟨u1, u2, u3, u4⟩ := box2 hbx
       obtain ⟨r1, r2, r3, r4⟩ := box2 hrb
       have hszr := hbel.size
       have HTR := Lib.hid htr
       have HBEL := Lib.hid hbel
       have HRB := Lib.hid hrb
       clear htr hbel hbel1 hbx hrb
       go_wp2_with fail
       obtain ⟨wf, hwf⟩ : ∃ wf, wf = (wr.setCell ⟨w'.heap.size + 1, 0, none⟩ (.slice a2 ks.length q2)).setCell ⟨w'.heap.size + 1, 1, none⟩ (.slice va cs.length vc) := ⟨_, rfl⟩
       have hfb : wf.heap[w'.heap.size + 1]? = some (.cells #[.slice a2 ks.length q2, .slice va cs.length vc] 26 (0, 0)) := by
         rw [hwf]; exact set_blk (o := 1) _ (set_blk (o := 0) _ HRB.out)
       obtain ⟨d1, d2, d3, d4⟩ := box2 hfb
       rw [← hwf]
       refine bodyPost_ret (v := .agg #[.slice a2 ks.length q2, .slice va cs.length vc]) (by simp [results, Try.results100, go_sem, d1, d2]) rfl ⟨_, _, P, rfl, ?_, ?_⟩
       · exact (HTR.out.same (w' := wf) (by rw [hwf]; simp) (fun q e => by have := (HTR.out.lt q e).1; rw [hwf, set_other _ _ _ _ _ (by omega), set_other _ _ _ _ _ (by omega)])).lower (by omega)
       · rw [hwf]; exact (HBEL.out.setCell (by show w'.heap.size ≤ w'.heap.size + 1; omega) _).setCell (by show w'.heap.size ≤ w'.heap.size + 1; omega) _
end Go.Proofs.Ytananonjomfpkaa
/- The model's InsertKey. -/
namespace Go.Proofs.Ytananonjomfpkaa
open Go.RowKit
def Tr.insKeyT (wide key : Int) (t : Tr) : Tr := if Tr.askedB wide key t then Tr.insT wide key t else .mk [] []
theorem Tr.insKey_weight (wide key : Int) (t : Tr) : (Tr.insKeyT wide key t).weight ≤ 1048576 := by
 unfold Tr.insKeyT
 split
 · rename_i h
   have := Tr.insT_weight wide key t
   have := Tr.valid_small (Tr.asked_path h).1
   omega
 · simp [weight, weights]
theorem box7' {w : World} {b : Nat} {a0 a1 a2 a3 a4 a5 a6 : Value} {t : TypeId} (h : w.heap[b]? = some (.cells #[a0, a1, a2, a3, a4, a5, a6] t (0, 0))) :
   w.cell? ⟨b, 0, none⟩ = some a0 ∧ w.cell? ⟨b, 1, none⟩ = some a1 ∧ w.cell? ⟨b, 2, none⟩ = some a2 ∧ w.cell? ⟨b, 3, none⟩ = some a3 ∧ w.cell? ⟨b, 4, none⟩ = some a4 ∧ w.cell? ⟨b, 5, none⟩ = some a5 ∧ w.cell? ⟨b, 6, none⟩ = some a6 := by
 refine ⟨?_, ?_, ?_, ?_, ?_, ?_, ?_⟩ <;> simp [World.cell?, h]
def Tr.rootT (wide : Int) (u : Tr) : Tr := if wide < (u.ks.length : Int) then .mk [u.midOf] [u.leftOf, u.rightOf] else u
set_option maxRecDepth 100000 in
set_option maxHeartbeats 2000000 in
theorem l3Root_p {w : World} {Q : Nat → Prop} {v : Value} {wide : Int} {u : Tr} {n : Nat} (h : SplitIn w Q v wide u n) (hq : ∀ q, Q q → q < w.heap.size) :
   Calls Try.prog 115 #[v] w fun e w' => ∃ kv cv, e = .returned (.agg #[kv, cv]) ∧ TreeP w' (fun q => Q q ∨ (w.heap.size ≤ q ∧ q < w'.heap.size)) kv cv (Tr.rootT wide u) ∧ Below w.heap.size w w' := by
 obtain ⟨lk, lc, rk, rc, mid, cnt, rfl, ⟨a1, n1, c1, a2, n2, c2, rfl, rfl⟩, ⟨a3, n3, c3, a4, n4, c4, rfl, rfl⟩, hyes, hno⟩ := h
 unfold splitV
 obtain ⟨B, hBd⟩ : ∃ B, B = decide (wide < (u.ks.length : Int)) := ⟨_, rfl⟩
 rw [← hBd]
 obtain ⟨W1, hW1⟩ : ∃ W1, W1 = (w.alloc (.cells #[.slice a1 n1 c1, .slice a2 n2 c2, .int .i64 mid, .slice a3 n3 c3, .slice a4 n4 c4, .bool B, .int .i64 cnt] 146)).alloc (.cells #[.slice none 0 0, .slice none 0 0] 26) := ⟨_, rfl⟩
 have hs1 : W1.heap.size = w.heap.size + 2 := by rw [hW1]; simp
 have hb1 : Below w.heap.size w W1 := by rw [hW1]; exact ((Below.refl _ _).alloc (Nat.le_refl _) _).alloc (by simp) _
 have kt : W1.heap[w.heap.size]? = some (.cells #[.slice a1 n1 c1, .slice a2 n2 c2, .int .i64 mid, .slice a3 n3 c3, .slice a4 n4 c4, .bool B, .int .i64 cnt] 146 (0, 0)) := by rw [hW1, old_blk _ _ _ (by simp), new_blk]
 have kb : W1.heap[w.heap.size + 1]? = some (.cells #[.slice none 0 0, .slice none 0 0] 26 (0, 0)) := by
   rw [hW1, show w.heap.size + 1 = (w.alloc (.cells #[.slice a1 n1 c1, .slice a2 n2 c2, .int .i64 mid, .slice a3 n3 c3, .slice a4 n4 c4, .bool B, .int .i64 cnt] 146)).heap.size by simp, new_blk]
 have ktx := kt
 rw [hW1] at ktx
 obtain ⟨x0, x1, x2, x3, x4, x5, x6⟩ := box7' ktx
 have HW1 := Lib.hid hW1
 have HB1 := Lib.hid (And.intro hb1 (And.intro kb kt))
 have HY := Lib.hid (And.intro hyes (And.intro hno hq))
 have HBD := Lib.hid hBd
 clear ktx hW1 hb1 kb kt hyes hno hq hBd
 go_enter Try.func115, Try.ntmps115
 cases B with
 | false =>
   go_wp2_with fail
   have hnb : ¬ wide < (u.ks.length : Int) := of_decide_eq_false HBD.out.symm
   obtain ⟨W2, hW2⟩ : ∃ W2, W2 = (w.alloc (.cells #[.slice a1 n1 c1, .slice a2 n2 c2, .int .i64 mid, .slice a3 n3 c3, .slice a4 n4 c4, .bool false, .int .i64 cnt] 146)).alloc (.cells #[.slice a1 n1 c1, .slice a2 n2 c2] 26) := ⟨_, rfl⟩
   rw [← hW2]
   have hb2 : Below w.heap.size w W2 := by rw [hW2]; exact ((Below.refl _ _).alloc (Nat.le_refl _) _).alloc (by simp) _
   have kb : W2.heap[w.heap.size + 1]? = some (.cells #[.slice a1 n1 c1, .slice a2 n2 c2] 26 (0, 0)) := by
     rw [hW2, show w.heap.size + 1 = (w.alloc (.cells #[.slice a1 n1 c1, .slice a2 n2 c2, .int .i64 mid, .slice a3 n3 c3, .slice a4 n4 c4, .bool false, .int .i64 cnt] 146)).heap.size by simp, new_blk]
   obtain ⟨d1, d2, d3, d4⟩ := box2 kb
   clear hW2
   refine bodyPost_ret (v := .agg #[.slice a1 n1 c1, .slice a2 n2 c2]) (by simp [results, Try.results115, go_sem, d1, d2]) rfl ⟨_, _, rfl, ?_, hb2⟩
   unfold Tr.rootT
   rw [if_neg hnb]
   exact (HY.out.2.1 (by omega)).1.same (fun k e => hb2.block k (HY.out.2.2 k e)) (fun k e => .inl e)
 | true =>
   go_wp2_with fail
   have hyb : wide < (u.ks.length : Int) := of_decide_eq_true HBD.out.symm
   clear x0 x1 x2 x3 x4 x5 x6
   obtain ⟨WB, hWB⟩ : ∃ WB, WB = (w.alloc (.cells #[.slice a1 n1 c1, .slice a2 n2 c2, .int .i64 mid, .slice a3 n3 c3, .slice a4 n4 c4, .bool true, .int .i64 cnt] 146)).alloc (.cells #[.slice (some ⟨w.heap.size + 1 + 1, 0, none⟩) 1 1, .slice (some ⟨w.heap.size + 1 + 1 + 1, 0, none⟩) 2 2] 26) := ⟨_, rfl⟩
   rw [← hWB]
   have hsB : WB.heap.size = w.heap.size + 1 + 1 := by rw [hWB]; simp
   have hbB : Below w.heap.size w WB := by rw [hWB]; exact ((Below.refl _ _).alloc (Nat.le_refl _) _).alloc (by simp) _
   have kb : WB.heap[w.heap.size + 1]? = some (.cells #[.slice (some ⟨w.heap.size + 1 + 1, 0, none⟩) 1 1, .slice (some ⟨w.heap.size + 1 + 1 + 1, 0, none⟩) 2 2] 26 (0, 0)) := by
     rw [hWB, show w.heap.size + 1 = (w.alloc (.cells #[.slice a1 n1 c1, .slice a2 n2 c2, .int .i64 mid, .slice a3 n3 c3, .slice a4 n4 c4, .bool true, .int .i64 cnt] 146)).heap.size by simp, new_blk]
   clear hWB
   obtain ⟨WC, hWC⟩ : ∃ WC, WC = WB.alloc (.cells #[.int .i64 mid] 3) := ⟨_, rfl⟩
   rw [← hWC]
   have hsC : WC.heap.size = w.heap.size + 1 + 1 + 1 := by rw [hWC]; simp [hsB]
   have hbC : Below WB.heap.size WB WC := by rw [hWC]; exact (Below.refl _ _).alloc (Nat.le_refl _) _
   have kc : WC.heap[w.heap.size + 1 + 1]? = some (.cells #[.int .i64 mid] 3 (0, 0)) := by rw [hWC, ← hsB, new_blk]
   clear hWC
   obtain ⟨WD, hWD⟩ : ∃ WD, WD = WC.alloc (.cells #[.slice a1 n1 c1, .slice a2 n2 c2, .slice a3 n3 c3, .slice a4 n4 c4] 26) := ⟨_, rfl⟩
   rw [← hWD]
   have hsD : WD.heap.size = w.heap.size + 1 + 1 + 1 + 1 := by rw [hWD]; simp [hsC]
   have hbD : Below WC.heap.size WC WD := by rw [hWD]; exact (Below.refl _ _).alloc (Nat.le_refl _) _
   have kd : WD.heap[w.heap.size + 1 + 1 + 1]? = some (.cells #[.slice a1 n1 c1, .slice a2 n2 c2, .slice a3 n3 c3, .slice a4 n4 c4] 26 (0, 0)) := by rw [hWD, ← hsC, new_blk]
   clear hWD
   have hbT : Below w.heap.size w WD := hbB.trans ((hbC.mono (by omega)).trans (hbD.mono (by omega)))
   have kb' := (hbD.block _ (by omega)).trans ((hbC.block _ (by omega)).trans kb)
   have kc' := (hbD.block _ (by omega)).trans kc
   obtain ⟨d1, d2, d3, d4⟩ := box2 kb'
   obtain ⟨e1, -⟩ := box1 kc'
   refine bodyPost_ret (v := .agg #[.slice (some ⟨w.heap.size + 1 + 1, 0, none⟩) 1 1, .slice (some ⟨w.heap.size + 1 + 1 + 1, 0, none⟩) 2 2]) (by simp [results, Try.results115, go_sem, d1, d2]) rfl ⟨_, _, rfl, ?_, hbT⟩
   unfold Tr.rootT
   rw [if_pos hyb]
   obtain ⟨hl, hr, rfl, -⟩ := HY.out.1 hyb
   refine .mk [u.midOf] [u.leftOf, u.rightOf] _ (some ⟨w.heap.size + 1 + 1 + 1, 0, none⟩) 2 (fun i => if i = 0 then .slice a1 n1 c1 else .slice a3 n3 c3) (fun i => if i = 0 then .slice a2 n2 c2 else .slice a4 n4 c4)
     ⟨_, 1, rfl, Nat.le_refl _, by unfold maxLen; omega, by simp, .inr ⟨w.heap.size + 1 + 1, 0, rfl, .inr ⟨by omega, by omega⟩, fun i hi => ?_⟩⟩ (by simp) (by unfold maxLen; omega) (.inr ⟨w.heap.size + 1 + 1 + 1, 0, rfl, .inr ⟨by omega, by omega⟩, fun i hi => ?_⟩) (fun i hi => ?_)
   · have : i = 0 := by simpa using hi
     subst this
     exact e1
   · have hi' : i < 2 := by simpa using hi
     have hc : ∀ j v, (#[Value.slice a1 n1 c1, .slice a2 n2 c2, .slice a3 n3 c3, .slice a4 n4 c4] : Array Value)[j]? = some v → WD.cell? ⟨w.heap.size + 1 + 1 + 1, j, none⟩ = some v := fun j v h => by simpa [World.cell?, kd] using h
     rcases (by omega : i = 0 ∨ i = 1) with rfl | rfl
     · exact ⟨hc 0 _ rfl, hc 1 _ rfl⟩
     · exact ⟨hc 2 _ rfl, hc 3 _ rfl⟩
   · have hi' : i < 2 := by simpa using hi
     rcases (by omega : i = 0 ∨ i = 1) with rfl | rfl
     · exact hl.same (fun k e => hbT.block k (HY.out.2.2 k e)) (fun k e => .inl e)
     · exact hr.same (fun k e => hbT.block k (HY.out.2.2 k e)) (fun k e => .inl e)
theorem l3Root_c {w : World} {Q : Nat → Prop} {v : Value} {wide : Int} {u : Tr} {n : Nat} (h : SplitIn w Q v wide u n) (hq : ∀ q, Q q → q < w.heap.size) :
   Calls Try.prog 115 #[v] w fun e w' => ∃ kv cv, e = .returned (.agg #[kv, cv]) ∧ TreeIn w' w'.heap.size kv cv (Tr.rootT wide u) ∧ Below w.heap.size w w' := by
 refine (l3Root_p h hq).mono ?_
 rintro e w' ⟨kv, cv, rfl, ht, hb⟩
 exact ⟨kv, cv, rfl, ht.tree (fun q e => e.elim (fun e => Nat.lt_of_lt_of_le (hq q e) hb.size) (fun e => e.2)), hb⟩
end Go.Proofs.Ytananonjomfpkaa
/- The model's InsertKey, its contract. -/
namespace Go.Proofs.Ytananonjomfpkaa
open Go.RowKit
set_option maxRecDepth 100000 in
set_option maxHeartbeats 2000000 in
theorem l3Key_c {w : World} {B : Nat} {kv cv : Value} {t : Tr} (ht : TreeIn w B kv cv t) (wide key : Int) (hv : Tr.validB wide t = true) (w' : World) (hbw : Below B w w') (hB : B ≤ w'.heap.size) :
   Calls Try.prog 91 #[.agg #[kv, cv], .int .i64 wide, .int .i64 key] w' fun e w'' => ∃ kv' cv' P, e = .returned (.agg #[kv', cv']) ∧ TreeO w'' w'.heap.size P kv' cv' (Tr.insT wide key t) ∧ Below w'.heap.size w' w'' := by
 obtain ⟨a5, n5, m5, a6, n6, m6, rfl, rfl⟩ := ht.slices
 obtain ⟨W1, hW1⟩ : ∃ W1, W1 = (w'.alloc (.cells #[.slice a5 n5 m5, .slice a6 n6 m6] 26)).alloc (.cells #[.slice none 0 0, .slice none 0 0] 26) := ⟨_, rfl⟩
 have hs1 : W1.heap.size = w'.heap.size + 2 := by rw [hW1]; simp
 have hb1 : Below w'.heap.size w' W1 := by rw [hW1]; exact ((Below.refl _ _).alloc (Nat.le_refl _) _).alloc (by simp) _
 have k0 : W1.heap[w'.heap.size]? = some (.cells #[.slice a5 n5 m5, .slice a6 n6 m6] 26 (0, 0)) := by rw [hW1, old_blk _ _ _ (by simp), new_blk]
 have kb : W1.heap[w'.heap.size + 1]? = some (.cells #[.slice none 0 0, .slice none 0 0] 26 (0, 0)) := by
   rw [hW1, show w'.heap.size + 1 = (w'.alloc (.cells #[.slice a5 n5 m5, .slice a6 n6 m6] 26)).heap.size by simp, new_blk]
 have k0x := k0
 rw [hW1] at k0x
 obtain ⟨x1, x2, x3, x4⟩ := box2 k0x
 have hsm := Tr.valid_small hv
 have hcall := l3Insert_c wide key (Tr.valid_wide hv) 200 t hsm (by omega) (Tr.valid_well hv) W1 (· < B) _ _ (fun q h => by omega) (ht.later (hbw.trans (hb1.mono hB)) (Nat.le_refl _)).p
 have hiw := Tr.insT_weight wide key t
 have HC := Lib.hid hcall
 have HT := Lib.hid ht
 have HBW := Lib.hid hbw
 have HW1 := Lib.hid hW1
 have H1 := Lib.hid (And.intro hb1 kb)
 clear ht hbw hW1 hb1 k0 kb k0x hcall
 go_enter Try.func91, Try.ntmps91
 go_wp2_with fail
 rw [← HW1.out]
 refine HC.out.mono ?_
 rintro e w2 ⟨v2, rfl, hsp, hb2⟩
 have hs2 := hb2.size
 have HB2 := Lib.hid hb2
 have hroot := l3Root_c hsp (fun q h => by
   rcases h with h | h
   · have : q < B := h
     omega
   · exact h.2)
 have HR := Lib.hid hroot
 clear hsp hb2 hroot x1 x2 x3 x4
 go_wp2_with fail
 refine HR.out.mono ?_
 rintro e w3 ⟨k3, c3, rfl, ht3, hb3⟩
 obtain ⟨p1, p2, p3, p4, p5, p6, rfl, rfl⟩ := ht3.slices
 have hs3 := hb3.size
 have ht3' : TreeIn w3 w3.heap.size (.slice p1 p2 p3) (.slice p4 p5 p6) (Tr.insT wide key t) := ht3
 have HB3 := Lib.hid hb3
 have HCP := Lib.hid (copy_c ht3' (by omega) w3 (Below.refl _ _) (Nat.le_refl _))
 clear ht3 ht3' hb3
 go_wp2_with fail
 refine HCP.out.mono ?_
 rintro e w4 ⟨k4, c4, P, rfl, ht4, hb4⟩
 obtain ⟨q1, q2, q3, q4, q5, q6, rfl, rfl⟩ := ht4.tree.slices
 have hs4 := hb4.size
 have hbr : Below W1.heap.size W1 w4 := HB2.out.trans ((HB3.out.mono hs2).trans (hb4.mono (by omega)))
 have hrb := (hbr.block (w'.heap.size + 1) (by omega)).trans H1.out.2
 obtain ⟨r1, r2, r3, r4⟩ := box2 hrb
 have HZ := Lib.hid (And.intro ht4 (And.intro hbr hrb))
 clear ht4 hb4 hbr hrb
 go_wp2_with fail
 obtain ⟨wf, hwf⟩ : ∃ wf, wf = (w4.setCell ⟨w'.heap.size + 1, 0, none⟩ (.slice q1 q2 q3)).setCell ⟨w'.heap.size + 1, 1, none⟩ (.slice q4 q5 q6) := ⟨_, rfl⟩
 have hfb : wf.heap[w'.heap.size + 1]? = some (.cells #[.slice q1 q2 q3, .slice q4 q5 q6] 26 (0, 0)) := by
   rw [hwf]; exact set_blk (o := 1) _ (set_blk (o := 0) _ HZ.out.2.2)
 obtain ⟨d1, d2, d3, d4⟩ := box2 hfb
 rw [← hwf]
 refine bodyPost_ret (v := .agg #[.slice q1 q2 q3, .slice q4 q5 q6]) (by simp [results, Try.results91, go_sem, d1, d2]) rfl ⟨_, _, P, rfl, ?_, ?_⟩
 · exact (HZ.out.1.same (w' := wf) (by rw [hwf]; simp) (fun q e => by have := (HZ.out.1.lt q e).1; rw [hwf, set_other _ _ _ _ _ (by omega), set_other _ _ _ _ _ (by omega)])).lower (by omega)
 · rw [hwf]; exact ((H1.out.1.trans (HZ.out.2.1.mono (by omega))).setCell (by show w'.heap.size ≤ w'.heap.size + 1; omega) _).setCell (by show w'.heap.size ≤ w'.heap.size + 1; omega) _
set_option maxRecDepth 100000 in
set_option maxHeartbeats 2000000 in
theorem specInsertKey_c {w : World} {B : Nat} {kv cv : Value} {t : Tr} (ht : TreeIn w B kv cv t) (hw : t.weight ≤ 1048576) (wide key : Int) (w' : World) (hbw : Below B w w') (hB : B ≤ w'.heap.size) :
   Calls Try.prog 42 #[.agg #[kv, cv], .int .i64 wide, .int .i64 key] w' fun e w'' => ∃ kv' cv' P, e = .returned (.tuple #[.agg #[kv', cv'], .bool (Tr.askedB wide key t)]) ∧ TreeO w'' w'.heap.size P kv' cv' (Tr.insKeyT wide key t) ∧ Below w'.heap.size w' w'' := by
 obtain ⟨a5, n5, m5, a6, n6, m6, rfl, rfl⟩ := ht.slices
 obtain ⟨W1, hW1⟩ : ∃ W1, W1 = (w'.alloc (.cells #[.slice a5 n5 m5, .slice a6 n6 m6] 26)).alloc (.cells #[.slice none 0 0, .slice none 0 0] 26) := ⟨_, rfl⟩
 have hs1 : W1.heap.size = w'.heap.size + 2 := by rw [hW1]; simp
 have hb1 : Below w'.heap.size w' W1 := by rw [hW1]; exact ((Below.refl _ _).alloc (Nat.le_refl _) _).alloc (by simp) _
 have k0 : W1.heap[w'.heap.size]? = some (.cells #[.slice a5 n5 m5, .slice a6 n6 m6] 26 (0, 0)) := by rw [hW1, old_blk _ _ _ (by simp), new_blk]
 have kb : W1.heap[w'.heap.size + 1]? = some (.cells #[.slice none 0 0, .slice none 0 0] 26 (0, 0)) := by
   rw [hW1, show w'.heap.size + 1 = (w'.alloc (.cells #[.slice a5 n5 m5, .slice a6 n6 m6] 26)).heap.size by simp, new_blk]
 have k0x := k0
 rw [hW1] at k0x
 obtain ⟨x1, x2, x3, x4⟩ := box2 k0x
 have HT := Lib.hid ht
 have HBW := Lib.hid hbw
 have HW1 := Lib.hid hW1
 have H1 := Lib.hid (And.intro hb1 (And.intro kb k0))
 clear ht hbw hW1 hb1 k0 kb k0x
 go_enter Try.func42, Try.ntmps42
 go_wp2_with fail
 rw [← HW1.out]
 refine (specAsked_c HT.out hw wide key W1 (HBW.out.trans (H1.out.1.mono hB)) (by omega)).mono ?_
 rintro e w2 ⟨rfl, hb2⟩
 have hs2 := hb2.size
 clear x1 x2 x3 x4
 have j0 := (hb2.block _ (by omega)).trans H1.out.2.2
 have hrb := (hb2.block (w'.heap.size + 1) (by omega)).trans H1.out.2.1
 obtain ⟨x1, x2, x3, x4⟩ := box2 j0
 obtain ⟨r1, r2, r3, r4⟩ := box2 hrb
 have H2 := Lib.hid (And.intro (H1.out.1.trans (hb2.mono (by omega))) hrb)
 clear hb2 j0 hrb
 cases ha : Tr.askedB wide key t with
 | false =>
   have HA := Lib.hid (show Tr.insKeyT wide key t = .mk [] [] by simp [Tr.insKeyT, ha])
   have HAB := Lib.hid ha
   clear ha
   go_wp2_with fail
   obtain ⟨wf, hwf⟩ : ∃ wf, wf = (w2.setCell ⟨w'.heap.size + 1, 0, none⟩ (.slice none 0 0)).setCell ⟨w'.heap.size + 1, 1, none⟩ (.slice none 0 0) := ⟨_, rfl⟩
   have hfb : wf.heap[w'.heap.size + 1]? = some (.cells #[.slice none 0 0, .slice none 0 0] 26 (0, 0)) := by
     rw [hwf]; exact set_blk (o := 1) _ (set_blk (o := 0) _ H2.out.2)
   obtain ⟨d1, d2, d3, d4⟩ := box2 hfb
   rw [← hwf]
   refine bodyPost_ret (v := .tuple #[.agg #[.slice none 0 0, .slice none 0 0], .bool false]) (by simp [results, Try.results42, go_sem, d1, d2]) rfl ⟨_, _, _, by rw [HAB.out], by rw [HA.out]; exact TreeO.nil _ _, ?_⟩
   rw [hwf]; exact (H2.out.1.setCell (by show w'.heap.size ≤ w'.heap.size + 1; omega) _).setCell (by show w'.heap.size ≤ w'.heap.size + 1; omega) _
 | true =>
   have HA := Lib.hid (show Tr.insKeyT wide key t = Tr.insT wide key t by simp [Tr.insKeyT, ha])
   have HAB := Lib.hid ha
   have hkey := l3Key_c HT.out wide key (Tr.asked_path ha).1 w2 (HBW.out.trans (H2.out.1.mono hB)) (by omega)
   have HK := Lib.hid hkey
   clear ha hkey
   go_wp2_with fail
   refine HK.out.mono ?_
   rintro e w4 ⟨k4, c4, P, rfl, ht4, hb4⟩
   obtain ⟨q1, q2, q3, q4, q5, q6, rfl, rfl⟩ := ht4.tree.slices
   have hs4 := hb4.size
   have hrb := (hb4.block (w'.heap.size + 1) (by omega)).trans H2.out.2
   clear r1 r2 r3 r4 x1 x2 x3 x4
   obtain ⟨r1, r2, r3, r4⟩ := box2 hrb
   have HZ := Lib.hid (And.intro ht4 (And.intro hb4 hrb))
   clear ht4 hb4 hrb
   go_wp2_with fail
   obtain ⟨wf, hwf⟩ : ∃ wf, wf = (w4.setCell ⟨w'.heap.size + 1, 0, none⟩ (.slice q1 q2 q3)).setCell ⟨w'.heap.size + 1, 1, none⟩ (.slice q4 q5 q6) := ⟨_, rfl⟩
   have hfb : wf.heap[w'.heap.size + 1]? = some (.cells #[.slice q1 q2 q3, .slice q4 q5 q6] 26 (0, 0)) := by
     rw [hwf]; exact set_blk (o := 1) _ (set_blk (o := 0) _ HZ.out.2.2)
   obtain ⟨d1, d2, d3, d4⟩ := box2 hfb
   rw [← hwf]
   refine bodyPost_ret (v := .tuple #[.agg #[.slice q1 q2 q3, .slice q4 q5 q6], .bool true]) (by simp [results, Try.results42, go_sem, d1, d2]) rfl ⟨_, _, P, by rw [HAB.out], ?_, ?_⟩
   · rw [HA.out]
     exact (HZ.out.1.same (w' := wf) (by rw [hwf]; simp) (fun q e => by have := (HZ.out.1.lt q e).1; rw [hwf, set_other _ _ _ _ _ (by omega), set_other _ _ _ _ _ (by omega)])).lower (by omega)
   · rw [hwf]; exact ((H2.out.1.trans (HZ.out.2.1.mono (by omega))).setCell (by show w'.heap.size ≤ w'.heap.size + 1; omega) _).setCell (by show w'.heap.size ≤ w'.heap.size + 1; omega) _
end Go.Proofs.Ytananonjomfpkaa
/- The contract of the program's InsertKey. -/
namespace Go.Proofs.Ytananonjomfpkaa
open Go.RowKit
set_option maxRecDepth 100000 in
set_option maxHeartbeats 2000000 in
theorem impl_insert {w : World} {B : Nat} {kv cv : Value} {t : Tr} (ht : TreeIn w B kv cv t) (hw : t.weight ≤ 1048576) (wide key : Int) (hn1 : -9223372036854775808 ≤ wide) (hn2 : wide ≤ 9223372036854775807) (w' : World) (hbw : Below B w w') (hB : B ≤ w'.heap.size) :
   Calls Try.prog 41 #[.agg #[kv, cv], .int .i64 wide, .int .i64 key] w' fun e w'' => ∃ kv' cv' P, e = .returned (.tuple #[.agg #[kv', cv'], .bool (Tr.askedB wide key t)]) ∧ TreeO w'' w'.heap.size P kv' cv' (Tr.insKeyT wide key t) ∧ Below w'.heap.size w' w'' := by
 obtain ⟨a5, n5, m5, a6, n6, m6, rfl, rfl⟩ := ht.slices
 obtain ⟨W1, hW1⟩ : ∃ W1, W1 = (w'.alloc (.cells #[.slice a5 n5 m5, .slice a6 n6 m6] 26)).alloc (.cells #[.slice none 0 0, .slice none 0 0] 26) := ⟨_, rfl⟩
 have hs1 : W1.heap.size = w'.heap.size + 2 := by rw [hW1]; simp
 have hb1 : Below w'.heap.size w' W1 := by rw [hW1]; exact ((Below.refl _ _).alloc (Nat.le_refl _) _).alloc (by simp) _
 have k0 : W1.heap[w'.heap.size]? = some (.cells #[.slice a5 n5 m5, .slice a6 n6 m6] 26 (0, 0)) := by rw [hW1, old_blk _ _ _ (by simp), new_blk]
 have kb : W1.heap[w'.heap.size + 1]? = some (.cells #[.slice none 0 0, .slice none 0 0] 26 (0, 0)) := by
   rw [hW1, show w'.heap.size + 1 = (w'.alloc (.cells #[.slice a5 n5 m5, .slice a6 n6 m6] 26)).heap.size by simp, new_blk]
 have k0x := k0
 rw [hW1] at k0x
 obtain ⟨x1, x2, x3, x4⟩ := box2 k0x
 have HT := Lib.hid ht
 have HBW := Lib.hid hbw
 have HW1 := Lib.hid hW1
 have H1 := Lib.hid (And.intro hb1 kb)
 clear ht hbw hW1 hb1 k0 kb k0x
 go_enter Try.func41, Try.ntmps41
 go_wp2_with fail
 rw [← HW1.out]
 refine (grownBy_c HT.out hw wide key hn1 hn2 W1 (HBW.out.trans (H1.out.1.mono hB)) (by omega)).mono ?_
 intro e w2 hgo
 rcases hgo with ⟨ha, rfl, hb2⟩ | ⟨ha, gb, b, F, rfl, hgr, hF, hb2⟩
 · have HA := Lib.hid (show Tr.insKeyT wide key t = .mk [] [] by simp [Tr.insKeyT, ha])
   have HAB := Lib.hid ha
   have hs2 := hb2.size
   have hrb := (hb2.block (w'.heap.size + 1) (by omega)).trans H1.out.2
   obtain ⟨r1, r2, r3, r4⟩ := box2 hrb
   have H2 := Lib.hid (And.intro (H1.out.1.trans (hb2.mono (by omega))) hrb)
   clear ha hb2 hrb x1 x2 x3 x4
   go_wp2_with fail
   obtain ⟨wf, hwf⟩ : ∃ wf, wf = (w2.setCell ⟨w'.heap.size + 1, 0, none⟩ (.slice none 0 0)).setCell ⟨w'.heap.size + 1, 1, none⟩ (.slice none 0 0) := ⟨_, rfl⟩
   have hfb : wf.heap[w'.heap.size + 1]? = some (.cells #[.slice none 0 0, .slice none 0 0] 26 (0, 0)) := by
     rw [hwf]; exact set_blk (o := 1) _ (set_blk (o := 0) _ H2.out.2)
   obtain ⟨d1, d2, d3, d4⟩ := box2 hfb
   rw [← hwf]
   refine bodyPost_ret (v := .tuple #[.agg #[.slice none 0 0, .slice none 0 0], .bool false]) (by simp [results, Try.results41, go_sem, d1, d2]) rfl ⟨_, _, _, by rw [HAB.out], by rw [HA.out]; exact TreeO.nil _ _, ?_⟩
   rw [hwf]; exact (H2.out.1.setCell (by show w'.heap.size ≤ w'.heap.size + 1; omega) _).setCell (by show w'.heap.size ≤ w'.heap.size + 1; omega) _
 · have HA := Lib.hid (show Tr.insKeyT wide key t = Tr.insT wide key t by simp [Tr.insKeyT, ha])
   have HAB := Lib.hid ha
   have hs2 := hb2.size
   have hiw := Tr.insT_weight wide key t
   have hsm := Tr.valid_small (Tr.asked_path ha).1
   have htc := tree_c hgr.node (by omega) w2 (Below.refl _ _)
   have HTC := Lib.hid htc
   have HB2 := Lib.hid hb2
   obtain ⟨y1, y2, y3, y4, y5, y6, y7⟩ := hgr.box.cells
   clear ha hb2 x1 x2 x3 x4 hgr hF htc hiw
   go_wp2_with fail
   refine HTC.out.mono ?_
   rintro e w4 ⟨k4, c4, P, rfl, ht4, hb4⟩
   obtain ⟨q1, q2, q3, q4, q5, q6, rfl, rfl⟩ := ht4.tree.slices
   have hs4 := hb4.size
   have hbr : Below W1.heap.size W1 w4 := HB2.out.trans (hb4.mono (by omega))
   have hrb := (hbr.block (w'.heap.size + 1) (by omega)).trans H1.out.2
   obtain ⟨r1, r2, r3, r4⟩ := box2 hrb
   have HZ := Lib.hid (And.intro ht4 (And.intro hbr hrb))
   clear ht4 hb4 hrb hbr y1 y2 y3 y4 y5 y6 y7
   go_wp2_with fail
   obtain ⟨wf, hwf⟩ : ∃ wf, wf = (w4.setCell ⟨w'.heap.size + 1, 0, none⟩ (.slice q1 q2 q3)).setCell ⟨w'.heap.size + 1, 1, none⟩ (.slice q4 q5 q6) := ⟨_, rfl⟩
   have hfb : wf.heap[w'.heap.size + 1]? = some (.cells #[.slice q1 q2 q3, .slice q4 q5 q6] 26 (0, 0)) := by
     rw [hwf]; exact set_blk (o := 1) _ (set_blk (o := 0) _ HZ.out.2.2)
   obtain ⟨d1, d2, d3, d4⟩ := box2 hfb
   rw [← hwf]
   refine bodyPost_ret (v := .tuple #[.agg #[.slice q1 q2 q3, .slice q4 q5 q6], .bool true]) (by simp [results, Try.results41, go_sem, d1, d2]) rfl ⟨_, _, P, by rw [HAB.out], ?_, ?_⟩
   · rw [HA.out]
     exact (HZ.out.1.same (w' := wf) (by rw [hwf]; simp) (fun q e => by have := (HZ.out.1.lt q e).1; rw [hwf, set_other _ _ _ _ _ (by omega), set_other _ _ _ _ _ (by omega)])).lower (by omega)
   · rw [hwf]; exact ((H1.out.1.trans (HZ.out.2.1.mono (by omega))).setCell (by show w'.heap.size ≤ w'.heap.size + 1; omega) _).setCell (by show w'.heap.size ≤ w'.heap.size + 1; omega) _
end Go.Proofs.Ytananonjomfpkaa
