/- The contract of the model's l4Greatest: the greatest key of a tree. -/
import Derived.Test.YtananonjomfpkaaQg27
/- The contract of the model's l1Copy: the same tree in rows of the call's own. -/
namespace Go.Proofs.Ytananonjomfpkaa
open Go.RowKit
theorem IntsIn.atLater {w w' : World} {B : Nat} {v : Value} {ks : List Int} (h : IntsIn w B v ks) (hb : Below B w w') : IntsAt w' v ks := (h.later hb (Nat.le_refl _)).at
set_option maxRecDepth 100000 in
set_option maxHeartbeats 2000000 in
theorem copy_c {w : World} {B : Nat} {kv cv : Value} {t : Tr} (ht : TreeIn w B kv cv t) (hw : t.weight ≤ 1048576) :
   ∀ w', Below B w w' → B ≤ w'.heap.size →
   Calls Try.prog 100 #[.agg #[kv, cv]] w' fun e w'' => ∃ kv' cv' P, e = .returned (.agg #[kv', cv']) ∧ TreeO w'' w'.heap.size P kv' cv' t ∧ Below w'.heap.size w' w'' := by
 induction ht with
 | mk ks cs kv a cap kvs cvs hk hlen hcap hat hkids ih =>
   intro w' hbw hB
   obtain ⟨i0, hi0, hz0, hz1, hz2⟩ := info_parts Try.infoTree
   simp only [Tr.weight] at hw
   have hl0 := Tr.length_le_weights cs
   obtain ⟨ka, kcp, hkv, -⟩ := id hk
   subst hkv
   unfold maxLen at hcap
   have hkid : ∀ (i : Nat) (h : i < cs.length), ∃ (cb co : Nat) (p1 : Option Addr) (p2 p3 : Nat) (p4 : Option Addr) (p5 p6 : Nat), a = some ⟨cb, co, none⟩ ∧ cb < B ∧ w.cell? ⟨cb, co + i * 2, none⟩ = some (.slice p1 p2 p3) ∧ w.cell? ⟨cb, co + i * 2 + 1, none⟩ = some (.slice p4 p5 p6) ∧
       ∀ w2, Below B w w2 → B ≤ w2.heap.size → Calls Try.prog 100 #[.agg #[.slice p1 p2 p3, .slice p4 p5 p6]] w2 fun e w3 => ∃ kv' cv' P, e = .returned (.agg #[kv', cv']) ∧ TreeO w3 w2.heap.size P kv' cv' cs[i] ∧ Below w2.heap.size w2 w3 := fun i hi => by
     rcases hat with h | ⟨cb, co, rfl, hcb, g2⟩
     · omega
     · obtain ⟨p1, p2, p3, p4, p5, p6, e5, e6⟩ := (hkids i hi).slices
       have hwt := Tr.weight_get_le cs i hi
       have h2 := ih i hi (by omega)
       rw [e5, e6] at h2
       exact ⟨cb, co, p1, p2, p3, p4, p5, p6, rfl, hcb, by rw [(g2 i hi).1, e5], by rw [(g2 i hi).2, e6], h2⟩
   have HAT := Lib.hid hkid
   have HBW := Lib.hid hbw
   obtain ⟨W1, hW1⟩ : ∃ W1, W1 = (w'.alloc (.cells #[.slice ka ks.length kcp, .slice a cs.length cap] 26)).alloc (.cells #[.slice none 0 0, .slice none 0 0] 26) := ⟨_, rfl⟩
   have hs1 : W1.heap.size = w'.heap.size + 2 := by rw [hW1]; simp
   have hb1 : Below w'.heap.size w' W1 := by rw [hW1]; exact ((Below.refl _ _).alloc (Nat.le_refl _) _).alloc (by simp) _
   have kt : W1.heap[w'.heap.size]? = some (.cells #[.slice ka ks.length kcp, .slice a cs.length cap] 26 (0, 0)) := by rw [hW1, old_blk _ _ _ (by simp), new_blk]
   have kb : W1.heap[w'.heap.size + 1]? = some (.cells #[.slice none 0 0, .slice none 0 0] 26 (0, 0)) := by
     rw [hW1, show w'.heap.size + 1 = (w'.alloc (.cells #[.slice ka ks.length kcp, .slice a cs.length cap] 26)).heap.size by simp, new_blk]
   have hcl1 := leaf_c W1 (.slice ka ks.length kcp) ks (fun w2 h2 => hk.atLater (hbw.trans ((hb1.mono hB).trans (h2.mono (by omega))))) (by omega)
   have HCL := Lib.hid hcl1
   have HW1 := Lib.hid hW1
   have HB1 := Lib.hid (And.intro hb1 (And.intro kb kt))
   have ktx := kt
   rw [hW1] at ktx
   obtain ⟨x1, x2, x3, x4⟩ := box2 ktx
   clear ktx hk hat hkids ih hbw hcl1 hW1 hb1 kb kt hkid
   go_enter Try.func100, Try.ntmps100
   go_wp2_with fail
   rw [← HW1.out]
   refine HCL.out.mono ?_
   rintro e w2 ⟨kv2, g2, rfl, hown2, hlt2, hg2, hemp2, hb2⟩
   obtain ⟨a2, q2, rfl⟩ := hown2.shown
   have hglt2 : g2 < w2.heap.size := (Array.getElem?_eq_some_iff.1 hemp2).1
   have nb2 := (hb2.block w'.heap.size (by omega)).trans HB1.out.2.2
   clear x1 x2 x3 x4
   obtain ⟨x1, x2, x3, x4⟩ := box2 nb2
   have hs2 := hb2.size
   obtain ⟨y1, y2, y3, y4⟩ := box2 ((old_blk w2 (.cells #[.slice a2 ks.length q2, .slice (some ⟨g2, 0, none⟩) 0 0] 26) _ (by omega)).trans nb2)
   obtain ⟨W3, hW3⟩ : ∃ W3, W3 = w2.alloc (.cells #[.slice a2 ks.length q2, .slice (some ⟨g2, 0, none⟩) 0 0] 26) := ⟨_, rfl⟩
   have hs3 : W3.heap.size = w2.heap.size + 1 := by rw [hW3]; simp
   have hb3 : Below w2.heap.size w2 W3 := by rw [hW3]; exact (Below.refl _ _).alloc (Nat.le_refl _) _
   have hbx3 : W3.heap[w2.heap.size]? = some (.cells #[.slice a2 ks.length q2, .slice (some ⟨g2, 0, none⟩) 0 0] 26 (0, 0)) := by rw [hW3, new_blk]
   have hgb : ∀ b, ownB (.slice (some ⟨g2, 0, none⟩) 0 0) b → b = g2 := fun b h => by
     have h' : g2 = b := by simpa [ownB, Value.ownBlock] using h
     exact h'.symm
   have htr3 : TreeO W3 (w'.heap.size + 2) (fun x => ownB (.slice a2 ks.length q2) x ∨ x = g2) (.slice a2 ks.length q2) (.slice (some ⟨g2, 0, none⟩) 0 0) (.mk ks (cs.take 0)) := by
     refine .mk ks [] _ _ _ (ownsRow_held (IntsOwn.lower hown2 (by omega)) (fun k e => hb3.block k (hown2.lt k e).2)) ⟨rfl, .inr ⟨g2, 0, #[], rfl, by omega, (hb3.block _ hglt2).trans hemp2, Nat.le_refl _, by unfold maxLen; omega, rfl, rfl⟩⟩ (fun x h => by cases h) (fun b h => .inl h) (fun b h => .inr (hgb b h)) (fun x h => by cases h) ?_ (fun q e => ?_)
     · refine List.pairwise_cons.2 ⟨fun R hR b h1 h2 => ?_, List.pairwise_cons.2 ⟨fun _ h => (by cases h), List.Pairwise.nil⟩⟩
       simp at hR
       subst hR
       have h' := hgb b h2
       have := hlt2 b h1
       omega
     · rcases e with e | e
       · have := hown2.lt q e; omega
       · omega
   have H0 := Lib.hid (And.intro hbx3 (And.intro htr3 (show ¬ (ownB (.slice a2 ks.length q2) w2.heap.size ∨ w2.heap.size = g2) from fun e => by
     rcases e with e | e
     · have := (hown2.lt _ e).2; omega
     · omega)))
   have HB3 := Lib.hid (Below.trans (hb2.mono (show w'.heap.size + 2 ≤ W1.heap.size by omega)) (hb3.mono (by omega)))
   have HW3 := Lib.hid hW3
   clear hb2 hown2 nb2 hb3 hbx3 htr3 hW3 hemp2 hlt2 hglt2 hg2 hgb
   go_wp2_with fail
   rw [← HW3.out]
   clear x1 x2 x3 x4 y1 y2 y3 y4
   go_loopw [12] (fun i wr => ∃ (j : Nat) (vk : Value) (P : Blocks), j ≤ cs.length ∧ i = .int .i64 j ∧ wr.heap[w2.heap.size]? = some (.cells #[.slice a2 ks.length q2, vk] 26 (0, 0)) ∧ TreeO wr (w'.heap.size + 2) P (.slice a2 ks.length q2) vk (.mk ks (cs.take j)) ∧ ¬ P w2.heap.size ∧ Below (w'.heap.size + 2) W1 wr) (fun i _ => cs.length - (intOf i).toNat)
   case atStart => exact ⟨0, _, _, Nat.zero_le _, rfl, H0.out.1, H0.out.2.1, H0.out.2.2, HB3.out⟩
   case round =>
     obtain ⟨j, vk, P, hj, rfl, hbx, htr, hP, hbel1⟩ := hrel
     have hbel : Below w'.heap.size w' wr := HB1.out.1.trans (hbel1.mono (by omega))
     by_cases hlt : j < cs.length
     · obtain ⟨cb, co, p1, p2, p3, p4, p5, p6, rfl, hcb, hcell1, hcell2, hcall⟩ := HAT.out j hlt
       have hbwr : Below B w wr := HBW.out.trans (hbel.mono hB)
       have hcell1' : wr.cell? ⟨cb, co + j * 2, none⟩ = some (.slice p1 p2 p3) := by rw [below_cell hbwr hcb]; exact hcell1
       have hcell2' : wr.cell? ⟨cb, co + j * 2 + 1, none⟩ = some (.slice p4 p5 p6) := by rw [below_cell hbwr hcb]; exact hcell2
       obtain ⟨kids, hkt, hpk, hpc, hpx, psk, psc, pss, pap, plt⟩ := htr.parts
       have hlk : kids.length = j := by
         have := congrArg List.length hkt
         simp at this
         omega
       obtain ⟨ra, rc, hvk⟩ := TreesOwn.shown hpc
       rw [List.length_map, hlk] at hvk
       subst hvk
       have hrow : wr.ownsRow (w'.heap.size + 2) 26 2 (.slice ra j rc) j (flatT (kids.map KidO.pair)) := by
         have h := hpc
         unfold TreesOwn at h
         rw [List.length_map, hlk] at h
         exact h
       have hszr := hbel.size
       have hlt2 : w2.heap.size < wr.heap.size := (Array.getElem?_eq_some_iff.1 hbx).1
       have ne1 : some w2.heap.size ≠ (Value.slice ra j rc).ownBlock := fun e => hP (psc _ e.symm)
       obtain ⟨W5, hW5⟩ : ∃ W5, W5 = wr.alloc (.cells #[.slice p1 p2 p3, .slice p4 p5 p6] 26) := ⟨_, rfl⟩
       have hs5 : W5.heap.size = wr.heap.size + 1 := by rw [hW5]; simp
       have hb5 : Below wr.heap.size wr W5 := by rw [hW5]; exact (Below.refl _ _).alloc (Nat.le_refl _) _
       have k5 : W5.heap[wr.heap.size]? = some (.cells #[.slice p1 p2 p3, .slice p4 p5 p6] 26 (0, 0)) := by rw [hW5, new_blk]
       have n5' := (hb5.block _ hlt2).trans hbx
       obtain ⟨y1, y2, y3, y4⟩ := box2 k5
       obtain ⟨u1, u2, u3, u4⟩ := box2 n5'
       have hcl := hcall W5.drew (hbwr.trans ((hb5.drew).mono (by omega))) (by simp; omega)
       have ne2 : some wr.heap.size ≠ (Value.slice ra j rc).ownBlock := fun e => by have := (hrow.lt _ e.symm).2; omega
       have NE1 := Lib.hid ne1
       have NE2 := Lib.hid ne2
       have HCALL := Lib.hid hcl
       have HPAR := Lib.hid (And.intro hpk (And.intro hpx (And.intro psk (And.intro psc (And.intro pss (And.intro pap plt))))))
       have HTR := Lib.hid (And.intro hbx (And.intro hkt (And.intro htr hP)))
       have HROW := Lib.hid hrow
       have HBEL := Lib.hid hbel1
       have HW5 := Lib.hid hW5
       have H5 := Lib.hid (And.intro hb5 (And.intro k5 n5'))
       clear hbel hbel1 hbwr hcell1 hcell2 hcall hkt hpk hpc hpx psk psc pss pap plt hrow hcl ne1 ne2 hbx htr hP hW5 hb5 k5 n5'
       go_wp2_with fail
       rw [← HW5.out]
       go_region_law
         (first
           | ((refine step_append_lies _ (by rfl) _ _ _ (by rfl) (w'.heap.size + 2) 26 i0 _ 2 48 Try.underlying24 hi0 hz0 hz1 hz2 rfl (by omega) _ j _ (by rfl) (H6.out.2.2.2.alloc _) ⟨w6.heap.size, 0, none⟩ 1 1 [.slice r1 r2 r3, .slice r4 r5 r6] (by rfl) (by rfl) (World.news_of_block (cs := #[.slice r1 r2 r3, .slice r4 r5 r6]) (t := 26) (fr := (0, 0)) (heap_alloc_new w6 _)) (by simp [Value.oneCell']) (by omega) (by unfold maxLen; omega) (by omega) (by simp; omega) (w6.heap.size + 1) (by simp) ?_; intro gg cap7 w7 hown7 hgrow7 hat7 hlt7; have v7c := (hgrow7.cell_far ⟨w2.heap.size, 1, none⟩ (by simp; omega) NE1.out).trans t2; have v7f := (hgrow7.frozen_far ⟨w2.heap.size, 1, none⟩ (by simp; omega) NE1.out).trans t4; have H7 := Lib.hid (And.intro hown7 (And.intro hgrow7 hat7)); clear hown7 hgrow7 hat7))
           | (go_simp; go_at_call 100; refine HCALL.out.mono ?_; rintro e w6 ⟨xk, xc, Q, rfl, htr6, hb6⟩; obtain ⟨r1, r2, r3, r4, r5, r6, rfl, rfl⟩ := htr6.tree.slices; have hs6 : W5.heap.size ≤ w6.heap.size := hb6.size; have j6 := (hb6.block w2.heap.size (by simp; omega)).trans H5.out.2.2; have i6 := (hb6.block wr.heap.size (by simp; omega)).trans H5.out.2.1; obtain ⟨z1, z2, z3, z4⟩ := box2 j6; obtain ⟨s1, s2, s3, s4⟩ := box2 i6; obtain ⟨t1, t2, t3, t4⟩ := box2 ((old_blk w6 (.cells #[.slice r1 r2 r3, .slice r4 r5 r6] 26) _ (by omega)).trans j6); obtain ⟨v1, v2, v3, v4⟩ := box2 ((old_blk w6 (.cells #[.slice r1 r2 r3, .slice r4 r5 r6] 26) _ (by omega)).trans i6); have hr6 := ownsRow_same HROW.out (fun k h1 h2 => (hb6.block k (by simp; omega)).trans (H5.out.1.block k h1)); have H6 := Lib.hid (And.intro htr6 (And.intro hb6 (And.intro j6 hr6))); clear htr6 hb6 j6 i6 hr6))
       all_goals (
         go_wp2_with fail
         go_roundw
         case rel =>
           obtain ⟨P', g1, g2, g3, g4⟩ := treeO_step HTR.out.1 hlt HTR.out.2.1 (by omega) HTR.out.2.2.1 HTR.out.2.2.2 (H6.out.1.lower (lo' := wr.heap.size) (by simp; omega)) (H5.out.1.trans ((below_undrew H6.out.2.1).mono (show wr.heap.size ≤ W5.heap.size by omega))) HPAR.out H7.out.1 H7.out.2.1 H7.out.2.2
           exact ⟨j + 1, _, P', by omega, by go_num, g1, g2, g3, HBEL.out.trans g4⟩
         case measure => simp [intOf]; omega)
     · obtain rfl : j = cs.length := by omega
       rw [List.take_length] at htr
       obtain ⟨_, _, va, vc, -, rfl⟩ := htr.shown
       have hrb := (hbel1.block (w'.heap.size + 1) (by omega)).trans HB1.out.2.1
       obtain ⟨u1, u2, u3, u4⟩ := box2 hbx
       obtain ⟨r1, r2, r3, r4⟩ := box2 hrb
       have hszr := hbel.size
       have HTR := Lib.hid htr
       have HBEL := Lib.hid hbel
       have HRB := Lib.hid hrb
       clear htr hbel hbel1 hbx hrb
       go_wp2_with fail
       obtain ⟨wf, hwf⟩ : ∃ wf, wf = (wr.setCell ⟨w'.heap.size + 1, 0, none⟩ (.slice a2 ks.length q2)).setCell ⟨w'.heap.size + 1, 1, none⟩ (.slice va cs.length vc) := ⟨_, rfl⟩
       have hfb : wf.heap[w'.heap.size + 1]? = some (.cells #[.slice a2 ks.length q2, .slice va cs.length vc] 26 (0, 0)) := by
         rw [hwf]; exact set_blk (o := 1) _ (set_blk (o := 0) _ HRB.out)
       obtain ⟨d1, d2, d3, d4⟩ := box2 hfb
       rw [← hwf]
       refine bodyPost_ret (v := .agg #[.slice a2 ks.length q2, .slice va cs.length vc]) (by simp [results, Try.results100, go_sem, d1, d2]) rfl ⟨_, _, P, rfl, ?_, ?_⟩
       · exact (HTR.out.same (w' := wf) (by rw [hwf]; simp) (fun q e => by have := (HTR.out.lt q e).1; rw [hwf, set_other _ _ _ _ _ (by omega), set_other _ _ _ _ _ (by omega)])).lower (by omega)
       · rw [hwf]; exact (HBEL.out.setCell (by show w'.heap.size ≤ w'.heap.size + 1; omega) _).setCell (by show w'.heap.size ≤ w'.heap.size + 1; omega) _
end Go.Proofs.Ytananonjomfpkaa
/- The model's l4Delete at a leaf. -/
namespace Go.Proofs.Ytananonjomfpkaa
open Go.RowKit
theorem KeptF.alloc' {F : Cells} {w W : World} (h : KeptF F w W) (o : Obj) : KeptF F w (W.alloc o) := h.trans ((KeptF.alloc _ _ _).mono (fun _ _ _ e => e))
theorem KeptF.drew' {F : Cells} {w W : World} (h : KeptF F w W) : KeptF F w W.drew := h.trans ((KeptF.drew _ _).mono (fun _ _ _ e => e))
set_option maxRecDepth 100000 in
set_option maxHeartbeats 4000000 in
theorem l4DelLeaf_c (wide key : Int) (w : World) (F : Cells) (kv cv : Value) (k : List Int) (ht : Td w F kv cv (.mk k [])) (hp : place key k < k.length) (hk9 : k.length ≤ 100000) (bo jo : Nat) (sh : Bool) :
   Calls Try.prog 99 #[.agg #[kv, cv], .int .i64 wide, .int .i64 key, .agg #[.int .i64 (bo : Int), .int .i64 (jo : Int), .bool sh]] w (Restored w F ⟨.mk (takeAt k (place key k)) [], bo, jo⟩ sh) := by
 obtain ⟨kids, Fk, Fc, hkids0, hkr, hcr, hkids, sk, sc, ss, ap, hlt⟩ := ht.parts
 have hk0 : kids = [] := by
   cases kids with
   | nil => rfl
   | cons a r => simp at hkids0
 subst hk0
 clear hkids0 hkids ss ht
 obtain ⟨i, hi⟩ : ∃ i, i = place key k := ⟨_, rfl⟩
 rw [← hi] at hp ⊢
 obtain ⟨ca, ccap, hcv⟩ : ∃ a c, cv = .slice a 0 c := by
   obtain ⟨a, c, e⟩ := hcr.n.shown
   exact ⟨a, c, e⟩
 obtain ⟨kb, ko, kcap, rfl, k1, k2⟩ := hkr.n.addr (by simp; omega)
 simp only [List.length_map] at hkr k1 ⊢
 subst hcv
 obtain ⟨W1, hW1⟩ : ∃ W1, W1 = (((w.alloc (.cells #[.slice (some ⟨kb, ko, none⟩) k.length kcap, .slice ca 0 ccap] 26)).alloc (.cells #[.int .i64 (bo : Int), .int .i64 (jo : Int), .bool sh] 52)).alloc (.cells #[.slice none 0 0, .slice none 0 0] 26)).alloc (.cells #[.int .i64 0, .int .i64 0, .bool false] 52) := ⟨_, rfl⟩
 have hf1 := Four.made w (.slice (some ⟨kb, ko, none⟩) k.length kcap) (.slice ca 0 ccap) (bo : Int) (jo : Int) sh
 have hb1 : Below w.heap.size w W1 := by
   rw [hW1]
   exact ((((Below.refl _ _).alloc (Nat.le_refl _) _).alloc (by simp) _).alloc (by simp <;> omega) _).alloc (by simp <;> omega) _
 rw [← hW1] at hf1
 have hs1 : W1.heap.size = w.heap.size + 4 := by rw [hW1]; simp
 have hpl := l2Place_c W1 w.heap.size ((rowF_in hkr).later hb1 (Nat.le_refl _)) key
 rw [← hi] at hpl
 obtain ⟨x1, x2, x3, x4⟩ := box2 hf1.node
 have HPL := Lib.hid hpl
 have HW1 := Lib.hid hW1
 have HR := Lib.hid (And.intro hkr (And.intro hcr (And.intro sk (And.intro sc (And.intro ap hlt)))))
 have H1 := Lib.hid (And.intro hf1 (And.intro hb1 hs1))
 have HI := Lib.hid hi
 clear hpl hW1 hkr hcr sk sc ap hlt hf1 hb1 hi
 unfold maxLen at k2
 go_enter Try.func99, Try.ntmps99
 go_upto_region 1 with (fail)
 rw [← HW1.out]
 go_wp2_with fail
 refine HPL.out.mono ?_
 rintro e w2 ⟨rfl, hb2⟩
 have hs2 := hb2.size
 have hf2 := H1.out.1.keep (KeptF.of_below (F := fun _ _ => False) hb2 (Nat.le_refl _)) (fun q o e => e.elim)
 have hk2 : KeptF (fun _ _ => False) w w2 := KeptF.of_below (H1.out.2.1.trans (hb2.mono (by omega))) (Nat.le_refl _)
 clear x1 x2 x3 x4
 obtain ⟨x1, x2, x3, x4⟩ := box2 hf2.node
 obtain ⟨y1, y2, y3, y4, y5, y6⟩ := box3 hf2.rep
 have hrow := HR.out.1.keep hk2 (fun _ _ _ e => e)
 have hsz2 : w.heap.size + 4 ≤ w2.heap.size := by omega
 have ci := (RowF.cells_of hrow (by omega)).2.2.2.2 i (by simpa using hp)
 rw [List.getElem_map] at ci
 obtain ⟨ki, hki⟩ : ∃ ki, ki = k[i] := ⟨_, rfl⟩
 rw [← hki] at ci
 have hless := l4Less_c w2 w2.heap.size (.slice (some ⟨kb, ko, none⟩) k.length kcap) k i (rowF_in hrow) (Nat.le_refl _) hp (by omega)
 have HLESS := Lib.hid hless
 have H2 := Lib.hid (And.intro hf2 (And.intro hk2 hrow))
 have hii : (i : Int) < (k.length : Int) := by omega
 have hi0 : (0 : Int) ≤ (i : Int) := by omega
 clear hf2 hk2 hrow hless hb2 hs1 hs2 hki
 go_upto_region 2 with (fail)
 go_cut [11] from 14 (fun s11 wx => ∃ B, s11 = .bool B ∧ wx = w2)
 case first =>
   by_cases he : ki = key
   · go_wp2_with fail
     go_meet
     exact ⟨_, rfl, rfl⟩
   · go_wp2_with fail
     go_meet
     exact ⟨_, rfl, rfl⟩
 case rest =>
 obtain ⟨B, rfl, rfl⟩ := hcut
 rename World => w2
 go_upto_region 4 with (fail)
 go_wp2_with fail
 refine HLESS.out.mono ?_
 rintro e w3 ⟨v3, rfl, hown3, hb3⟩
 obtain ⟨a3, c3, rfl⟩ := IntsOwn.shown hown3
 obtain ⟨L3, hL3⟩ : ∃ L3, L3 = (takeAt k i).length := ⟨_, rfl⟩
 rw [← hL3] at hown3 ⊢
 have hk3 := KeptF.of_below (F := fun _ _ => False) hb3 (Nat.le_refl _)
 have hf3 := H2.out.1.keep hk3 (fun q o e => e.elim)
 obtain ⟨W4, hW4⟩ : ∃ W4, W4 = w3.setCell ⟨w.heap.size, 0, none⟩ (.slice a3 L3 c3) := ⟨_, rfl⟩
 have hf4 : Four W4 w.heap.size (.slice a3 L3 c3) (.slice ca 0 ccap) (bo : Int) (jo : Int) sh := by
   refine ⟨?_, by rw [hW4, set_other _ _ _ _ _ (by omega)]; exact hf3.rep, by rw [hW4, set_other _ _ _ _ _ (by omega)]; exact hf3.out, by rw [hW4, set_other _ _ _ _ _ (by omega)]; exact hf3.outr⟩
   rw [hW4, set_blk (o := 0) _ hf3.node]; simp
 have hk4 : KeptF (fun x _ => x = w.heap.size) w3 W4 := by rw [hW4]; exact KeptF.setCell _ _ _ _ rfl
 clear x1 x2 x3 x4 y1 y2 y3 y4 y5 y6
 obtain ⟨x1, x2, x3, x4⟩ := box2 hf3.node
 have H4 := Lib.hid (And.intro hf4 (And.intro hk4 (And.intro hk3 (And.intro hown3 hL3))))
 have HW4 := Lib.hid hW4
 clear hf4 hk4 hk3 hown3 hL3 hW4 hf3 hb3
 go_upto_region 5 with (fail)
 rw [← HW4.out]
 clear x1 x2 x3 x4
 obtain ⟨x1, x2, x3, x4⟩ := box2 H4.out.1.node
 obtain ⟨y1, y2, y3, y4, y5, y6⟩ := box3 H4.out.1.rep
 obtain ⟨g1, g2, g3, g4⟩ := box2 H4.out.1.out
 obtain ⟨h1, h2, h3, h4, h5, h6⟩ := box3 H4.out.1.outr
 go_region_law (fail)
 all_goals (
   go_wp2_with fail
   clear x1 x2 x3 x4 y1 y2 y3 y4 y5 y6 g1 g2 g3 g4 h1 h2 h3 h4 h5 h6
   generalize hW : World.drew _ = W8
   have he : Ends W4 W8 w.heap.size (.slice a3 L3 c3) (.slice ca 0 ccap) (bo : Int) (jo : Int) sh := by
     rw [← hW]
     first
       | exact (ends_a H4.out.1.out H4.out.1.outr _ _ _ _ _).drew
       | exact (ends_b H4.out.1.out H4.out.1.outr _ _ _ _ _).drew
   obtain ⟨q1, q2, q3, q4, q5, hk⟩ := he
   have HK := Lib.hid hk
   clear hk hW
   refine bodyPost_ret (v := .tuple #[.agg #[.slice a3 L3 c3, .slice ca 0 ccap], .agg #[.int .i64 (bo : Int), .int .i64 (jo : Int), .bool sh]]) (by simp [results, Try.results99, go_sem, q1, q2, q3, q4, q5]) rfl ?_
   obtain ⟨hf4, hk4, hk3, hown3, hL3⟩ := H4.out
   obtain ⟨hkr, hcr, sk, sc, ap, hlt⟩ := HR.out
   have hz3 := hk3.size
   have hz4 := hk4.size
   have hkall : KeptF (fun x _ => w.heap.size ≤ x) w W8 := by
     have a1 := H2.out.2.1.mono (G := fun x _ => w.heap.size ≤ x) (fun _ _ _ e => e.elim)
     have a2 := a1.trans (hk3.mono (fun _ _ _ e => e.elim))
     have a3 := a2.trans (hk4.mono (fun q o _ e => .inl (by have e' : q = w.heap.size := e; omega)))
     exact a3.trans (HK.out.mono (fun q o _ e => .inl (by omega)))
   have hown8 : RowF W8 (fun x _ => (Value.slice a3 L3 c3).ownBlock = some x) (.slice a3 L3 c3) ((takeAt k i).map (Value.int .i64)) := by
     rw [hL3] at hown3 ⊢
     have h0 := RowF.of_owns hown3
     have hl3 := hown3.lt
     refine (h0.keep hk4 (fun q o a e => ?_)).keep HK.out (fun q o a e => ?_)
     · have e' : q = w.heap.size := e
       have := (hl3 q a).1; omega
     · have := (hl3 q a).1; omega
   have hc8 := hcr.keep hkall (fun q o a e => by have := hlt q o (sc q o a); omega)
   have hT := Td.build (kids := []) hown8 hc8 (fun z hz => by cases hz) (by
     refine List.pairwise_cons.2 ⟨fun G hG => ?_, List.pairwise_cons.2 ⟨fun G hG => (by cases hG), List.Pairwise.nil⟩⟩
     simp at hG
     subst hG
     intro q o a e
     have h1 := hlt q o (sc q o e)
     have h2 := (hown3.lt q a).1
     omega)
   refine ⟨_, _, _, rfl, hT, fun q o a => ?_, ?_⟩
   · rcases a with a | a | ⟨z, hz, _⟩
     · right; have := (hown3.lt q a).1; omega
     · exact .inl (sc q o a)
     · cases hz
   · have := hkall.below (B := w.heap.size) (Nat.le_refl _) (fun x o h => h)
     exact KeptF.of_below this (Nat.le_refl _))
end Go.Proofs.Ytananonjomfpkaa
/- The contract of the model's l4Greatest: the greatest key of a tree. -/
namespace Go.Proofs.Ytananonjomfpkaa
open Go.RowKit
set_option maxRecDepth 100000 in
set_option maxHeartbeats 4000000 in
theorem specGreatest_c {w : World} {B : Nat} {kv cv : Value} {t : Tr} (ht : TreeIn w B kv cv t) (hf : Tr.Full t) (hw : t.weight ≤ 1048576) (w' : World) (hbw : Below B w w') (hB : B ≤ w'.heap.size) :
   Calls Try.prog 125 #[.agg #[kv, cv]] w' fun e w'' => e = .returned (.int .i64 t.greatest) ∧ Below w'.heap.size w' w'' := by
 obtain ⟨a5, n5, m5, a6, n6, m6, rfl, rfl⟩ := ht.slices
 obtain ⟨W1, hW1⟩ : ∃ W1, W1 = w'.alloc (.cells #[.slice a5 n5 m5, .slice a6 n6 m6] 26) := ⟨_, rfl⟩
 have hs1 : W1.heap.size = w'.heap.size + 1 := by rw [hW1]; simp
 have hb1 : Below w'.heap.size w' W1 := by rw [hW1]; exact (Below.refl _ _).alloc (Nat.le_refl _) _
 have kb : W1.heap[w'.heap.size]? = some (.cells #[.slice a5 n5 m5, .slice a6 n6 m6] 26 (0, 0)) := by rw [hW1, new_blk]
 have HT := Lib.hid ht
 have HBW := Lib.hid hbw
 have HW1 := Lib.hid hW1
 have H1 := Lib.hid (And.intro hb1 kb)
 have HF := Lib.hid hf
 clear ht hbw hW1 hb1 kb hf
 go_enter Try.func125, Try.ntmps125
 go_wp2_with fail
 rw [← HW1.out]
 go_loopg [] t.weight (fun k wr => ∃ (tr : Tr) (kvr cvr : Value), wr.heap[w'.heap.size]? = some (.cells #[kvr, cvr] 26 (0, 0)) ∧ TreeIn w B kvr cvr tr ∧ Tr.Full tr ∧
   tr.weight ≤ k ∧ tr.greatest = t.greatest ∧ Below w'.heap.size w' wr ∧ tr.weight ≤ 1048576)
 case atStart => exact ⟨t, _, _, H1.out.2, HT.out, HF.out, Nat.le_refl _, rfl, H1.out.1, hw⟩
 case round =>
   obtain ⟨tr, kvr, cvr, hbox, htr, hfl, hk, hgr, hbel, hwt⟩ := hrel
   cases tr with
   | mk ks cs =>
   obtain ⟨a, cap, kvs, cvs, rfl, hki, hlen, hcap, hat, hkids⟩ := htr.parts
   obtain ⟨ka, kcap, rfl, k1, k2, k3, k4⟩ := hki
   have hsr := hbel.size
   have hlt := (Array.getElem?_eq_some_iff.1 hbox).1
   have hBr : Below B w wr := HBW.out.trans (hbel.mono hB)
   have hkn := hfl.keys
   have hki4 : IntsIn wr B (.slice ka ks.length kcap) ks := IntsIn.later ⟨ka, kcap, rfl, k1, k2, k3, k4⟩ hBr (Nat.le_refl _)
   unfold maxLen at k2 hcap
   have hl0 := Tr.length_le_weights cs
   have hwt' := hwt
   simp only [Tr.weight] at hwt'
   cases hcl : cs.length with
   | zero =>
     obtain ⟨m, hm⟩ : ∃ m, ks.length = m + 1 := ⟨ks.length - 1, by omega⟩
     have hg := Tr.greatest_leaf (k := ks) hcl
     rw [hm, Nat.add_sub_cancel] at hg
     obtain ⟨_, _, hv, _, _, _, h⟩ := hki4
     injection hv with e1 _ e3
     subst e1 e3
     rcases h with h | ⟨b, off, rfl, hb, hat4⟩
     · exact absurd (by rw [h]; rfl) hkn
     have ha' : wr.cell? ⟨b, off + m, none⟩ = some (.int .i64 (ks.getD m 0)) := hat4 m (by omega)
     rw [← hg, hgr] at ha'
     rw [hm, hcl] at hbox
     rw [hm] at k1
     have HBEL := Lib.hid hbel
     obtain ⟨x1, x2, x3, x4⟩ := box2 hbox
     clear hat4 hg hat hkids htr hfl hk hbel hgr hBr hbox k4 hm hkn hwt hwt' hl0 hcl
     go_wp2_with fail
     go_ret
     exact ⟨rfl, HBEL.out⟩
   | succ m =>
     have hic : m < cs.length := by omega
     have hgi := Tr.greatest_inner (k := ks) (cs := cs) (by omega)
     obtain ⟨ka5, kn5, kc5, ca5, cn5, cc5, hkv5, hcv5⟩ := (hkids m hic).slices
     rcases hat with h | ⟨kb5, ko5, rfl, hkb5, hkat5⟩
     · omega
     have hka := (hkat5 m hic).1
     have hkc := (hkat5 m hic).2
     rw [hkv5] at hka
     rw [hcv5] at hkc
     have z1 := (below_cell hBr hkb5).trans hka
     have z2 := (below_cell hBr hkb5).trans hkc
     have hgm : cs[m].greatest = t.greatest := by
       rw [← hgr, hgi]; congr 1; simp [hcl]
     rw [hcl] at hbox hlen
     obtain ⟨x1, x2, x3, x4⟩ := box2 hbox
     have HKV5 := Lib.hid (And.intro hkv5 hcv5)
     have HR := Lib.hid (And.intro hbox (And.intro hkids (And.intro hfl (And.intro hk (And.intro hbel (And.intro hgm hBr))))))
     have HCL := Lib.hid hcl
     clear hka hkc hkat5 hkv5 hcv5 hbox hkids hfl hk hbel hgm hBr hgi hgr htr hki4 k4 hcl
     go_wp2_with fail
     go_roundg cs[m].weight
     case measure => have h := HR.out.2.2.2.1; simp only [Tr.weight] at h; have := Tr.weight_get_le cs m hic; omega
     case rel =>
       refine ⟨cs[m], _, _, set_blk _ (set_blk _ HR.out.1), ?_, Tr.Tops.kid HR.out.2.2.1.tops m hic, Nat.le_refl _, HR.out.2.2.2.2.2.1, ?_, ?_⟩
       · rw [← HKV5.out.1, ← HKV5.out.2]; exact HR.out.2.1 m hic
       · exact (HR.out.2.2.2.2.1.setCell (Nat.le_refl _) _).setCell (Nat.le_refl _) _
       · have := Tr.weight_get_le cs m hic; omega
end Go.Proofs.Ytananonjomfpkaa
