/- Trees of the model whose rows are their own, up to the capacity: what the model changes in place. -/
import Derived.Test.YtananonjomfpkaaQc14
/- The contract of the model's l1Copy: the same tree in rows of the call's own. -/
namespace Go.Proofs.Ytananonjomfpkaa
open Go.RowKit
theorem IntsIn.atLater {w w' : World} {B : Nat} {v : Value} {ks : List Int} (h : IntsIn w B v ks) (hb : Below B w w') : IntsAt w' v ks := (h.later hb (Nat.le_refl _)).at
set_option maxRecDepth 100000 in
set_option maxHeartbeats 2000000 in
theorem copy_c {w : World} {B : Nat} {kv cv : Value} {t : Tr} (ht : TreeIn w B kv cv t) (hw : t.weight ≤ 1048576) :
   ∀ w', Below B w w' → B ≤ w'.heap.size →
   Calls Try.prog 100 #[.agg #[kv, cv]] w' fun e w'' => ∃ kv' cv' P, e = .returned (.agg #[kv', cv']) ∧ TreeO w'' w'.heap.size P kv' cv' t ∧ Below w'.heap.size w' w'' := by
 induction ht with
 | mk ks cs kv a cap kvs cvs hk hlen hcap hat hkids ih =>
   intro w' hbw hB
   obtain ⟨i0, hi0, hz0, hz1, hz2⟩ := info_parts Try.infoTree
   simp only [Tr.weight] at hw
   have hl0 := Tr.length_le_weights cs
   obtain ⟨ka, kcp, hkv, -⟩ := id hk
   subst hkv
   unfold maxLen at hcap
   have hkid : ∀ (i : Nat) (h : i < cs.length), ∃ (cb co : Nat) (p1 : Option Addr) (p2 p3 : Nat) (p4 : Option Addr) (p5 p6 : Nat), a = some ⟨cb, co, none⟩ ∧ cb < B ∧ w.cell? ⟨cb, co + i * 2, none⟩ = some (.slice p1 p2 p3) ∧ w.cell? ⟨cb, co + i * 2 + 1, none⟩ = some (.slice p4 p5 p6) ∧
       ∀ w2, Below B w w2 → B ≤ w2.heap.size → Calls Try.prog 100 #[.agg #[.slice p1 p2 p3, .slice p4 p5 p6]] w2 fun e w3 => ∃ kv' cv' P, e = .returned (.agg #[kv', cv']) ∧ TreeO w3 w2.heap.size P kv' cv' cs[i] ∧ Below w2.heap.size w2 w3 := fun i hi => by
     rcases hat with h | ⟨cb, co, rfl, hcb, g2⟩
     · omega
     · obtain ⟨p1, p2, p3, p4, p5, p6, e5, e6⟩ := (hkids i hi).slices
       have hwt := Tr.weight_get_le cs i hi
       have h2 := ih i hi (by omega)
       rw [e5, e6] at h2
       exact ⟨cb, co, p1, p2, p3, p4, p5, p6, rfl, hcb, by rw [(g2 i hi).1, e5], by rw [(g2 i hi).2, e6], h2⟩
   have HAT := Lib.hid hkid
   have HBW := Lib.hid hbw
   obtain ⟨W1, hW1⟩ : ∃ W1, W1 = (w'.alloc (.cells #[.slice ka ks.length kcp, .slice a cs.length cap] 26)).alloc (.cells #[.slice none 0 0, .slice none 0 0] 26) := ⟨_, rfl⟩
   have hs1 : W1.heap.size = w'.heap.size + 2 := by rw [hW1]; simp
   have hb1 : Below w'.heap.size w' W1 := by rw [hW1]; exact ((Below.refl _ _).alloc (Nat.le_refl _) _).alloc (by simp) _
   have kt : W1.heap[w'.heap.size]? = some (.cells #[.slice ka ks.length kcp, .slice a cs.length cap] 26 (0, 0)) := by rw [hW1, old_blk _ _ _ (by simp), new_blk]
   have kb : W1.heap[w'.heap.size + 1]? = some (.cells #[.slice none 0 0, .slice none 0 0] 26 (0, 0)) := by
     rw [hW1, show w'.heap.size + 1 = (w'.alloc (.cells #[.slice ka ks.length kcp, .slice a cs.length cap] 26)).heap.size by simp, new_blk]
   have hcl1 := leaf_c W1 (.slice ka ks.length kcp) ks (fun w2 h2 => hk.atLater (hbw.trans ((hb1.mono hB).trans (h2.mono (by omega))))) (by omega)
   have HCL := Lib.hid hcl1
   have HW1 := Lib.hid hW1
   have HB1 := Lib.hid (And.intro hb1 (And.intro kb kt))
   have ktx := kt
   rw [hW1] at ktx
   obtain ⟨x1, x2, x3, x4⟩ := box2 ktx
   clear ktx hk hat hkids ih hbw hcl1 hW1 hb1 kb kt hkid
   go_enter Try.func100, Try.ntmps100
   go_wp2_with fail
   rw [← HW1.out]
   refine HCL.out.mono ?_
   rintro e w2 ⟨kv2, g2, rfl, hown2, hlt2, hg2, hemp2, hb2⟩
   obtain ⟨a2, q2, rfl⟩ := hown2.shown
   have hglt2 : g2 < w2.heap.size := (Array.getElem?_eq_some_iff.1 hemp2).1
   have nb2 := (hb2.block w'.heap.size (by omega)).trans HB1.out.2.2
   clear x1 x2 x3 x4
   obtain ⟨x1, x2, x3, x4⟩ := box2 nb2
   have hs2 := hb2.size
   obtain ⟨y1, y2, y3, y4⟩ := box2 ((old_blk w2 (.cells #[.slice a2 ks.length q2, .slice (some ⟨g2, 0, none⟩) 0 0] 26) _ (by omega)).trans nb2)
   obtain ⟨W3, hW3⟩ : ∃ W3, W3 = w2.alloc (.cells #[.slice a2 ks.length q2, .slice (some ⟨g2, 0, none⟩) 0 0] 26) := ⟨_, rfl⟩
   have hs3 : W3.heap.size = w2.heap.size + 1 := by rw [hW3]; simp
   have hb3 : Below w2.heap.size w2 W3 := by rw [hW3]; exact (Below.refl _ _).alloc (Nat.le_refl _) _
   have hbx3 : W3.heap[w2.heap.size]? = some (.cells #[.slice a2 ks.length q2, .slice (some ⟨g2, 0, none⟩) 0 0] 26 (0, 0)) := by rw [hW3, new_blk]
   have hgb : ∀ b, ownB (.slice (some ⟨g2, 0, none⟩) 0 0) b → b = g2 := fun b h => by
     have h' : g2 = b := by simpa [ownB, Value.ownBlock] using h
     exact h'.symm
   have htr3 : TreeO W3 (w'.heap.size + 2) (fun x => ownB (.slice a2 ks.length q2) x ∨ x = g2) (.slice a2 ks.length q2) (.slice (some ⟨g2, 0, none⟩) 0 0) (.mk ks (cs.take 0)) := by
     refine .mk ks [] _ _ _ (ownsRow_held (IntsOwn.lower hown2 (by omega)) (fun k e => hb3.block k (hown2.lt k e).2)) ⟨rfl, .inr ⟨g2, 0, #[], rfl, by omega, (hb3.block _ hglt2).trans hemp2, Nat.le_refl _, by unfold maxLen; omega, rfl, rfl⟩⟩ (fun x h => by cases h) (fun b h => .inl h) (fun b h => .inr (hgb b h)) (fun x h => by cases h) ?_ (fun q e => ?_)
     · refine List.pairwise_cons.2 ⟨fun R hR b h1 h2 => ?_, List.pairwise_cons.2 ⟨fun _ h => (by cases h), List.Pairwise.nil⟩⟩
       simp at hR
       subst hR
       have h' := hgb b h2
       have := hlt2 b h1
       omega
     · rcases e with e | e
       · have := hown2.lt q e; omega
       · omega
   have H0 := Lib.hid (And.intro hbx3 (And.intro htr3 (show ¬ (ownB (.slice a2 ks.length q2) w2.heap.size ∨ w2.heap.size = g2) from fun e => by
     rcases e with e | e
     · have := (hown2.lt _ e).2; omega
     · omega)))
   have HB3 := Lib.hid (Below.trans (hb2.mono (show w'.heap.size + 2 ≤ W1.heap.size by omega)) (hb3.mono (by omega)))
   have HW3 := Lib.hid hW3
   clear hb2 hown2 nb2 hb3 hbx3 htr3 hW3 hemp2 hlt2 hglt2 hg2 hgb
   go_wp2_with fail
   rw [← HW3.out]
   clear x1 x2 x3 x4 y1 y2 y3 y4
   go_loopw [12] (fun i wr => ∃ (j : Nat) (vk : Value) (P : Blocks), j ≤ cs.length ∧ i = .int .i64 j ∧ wr.heap[w2.heap.size]? = some (.cells #[.slice a2 ks.length q2, vk] 26 (0, 0)) ∧ TreeO wr (w'.heap.size + 2) P (.slice a2 ks.length q2) vk (.mk ks (cs.take j)) ∧ ¬ P w2.heap.size ∧ Below (w'.heap.size + 2) W1 wr) (fun i _ => cs.length - (intOf i).toNat)
   case atStart => exact ⟨0, _, _, Nat.zero_le _, rfl, H0.out.1, H0.out.2.1, H0.out.2.2, HB3.out⟩
   case round =>
     obtain ⟨j, vk, P, hj, rfl, hbx, htr, hP, hbel1⟩ := hrel
     have hbel : Below w'.heap.size w' wr := HB1.out.1.trans (hbel1.mono (by omega))
     by_cases hlt : j < cs.length
     · obtain ⟨cb, co, p1, p2, p3, p4, p5, p6, rfl, hcb, hcell1, hcell2, hcall⟩ := HAT.out j hlt
       have hbwr : Below B w wr := HBW.out.trans (hbel.mono hB)
       have hcell1' : wr.cell? ⟨cb, co + j * 2, none⟩ = some (.slice p1 p2 p3) := by rw [below_cell hbwr hcb]; exact hcell1
       have hcell2' : wr.cell? ⟨cb, co + j * 2 + 1, none⟩ = some (.slice p4 p5 p6) := by rw [below_cell hbwr hcb]; exact hcell2
       obtain ⟨kids, hkt, hpk, hpc, hpx, psk, psc, pss, pap, plt⟩ := htr.parts
       have hlk : kids.length = j := by
         have := congrArg List.length hkt
         simp at this
         omega
       obtain ⟨ra, rc, hvk⟩ := TreesOwn.shown hpc
       rw [List.length_map, hlk] at hvk
       subst hvk
       have hrow : wr.ownsRow (w'.heap.size + 2) 26 2 (.slice ra j rc) j (flatT (kids.map KidO.pair)) := by
         have h := hpc
         unfold TreesOwn at h
         rw [List.length_map, hlk] at h
         exact h
       have hszr := hbel.size
       have hlt2 : w2.heap.size < wr.heap.size := (Array.getElem?_eq_some_iff.1 hbx).1
       have ne1 : some w2.heap.size ≠ (Value.slice ra j rc).ownBlock := fun e => hP (psc _ e.symm)
       obtain ⟨W5, hW5⟩ : ∃ W5, W5 = wr.alloc (.cells #[.slice p1 p2 p3, .slice p4 p5 p6] 26) := ⟨_, rfl⟩
       have hs5 : W5.heap.size = wr.heap.size + 1 := by rw [hW5]; simp
       have hb5 : Below wr.heap.size wr W5 := by rw [hW5]; exact (Below.refl _ _).alloc (Nat.le_refl _) _
       have k5 : W5.heap[wr.heap.size]? = some (.cells #[.slice p1 p2 p3, .slice p4 p5 p6] 26 (0, 0)) := by rw [hW5, new_blk]
       have n5' := (hb5.block _ hlt2).trans hbx
       obtain ⟨y1, y2, y3, y4⟩ := box2 k5
       obtain ⟨u1, u2, u3, u4⟩ := box2 n5'
       have hcl := hcall W5.drew (hbwr.trans ((hb5.drew).mono (by omega))) (by simp; omega)
       have ne2 : some wr.heap.size ≠ (Value.slice ra j rc).ownBlock := fun e => by have := (hrow.lt _ e.symm).2; omega
       have NE1 := Lib.hid ne1
       have NE2 := Lib.hid ne2
       have HCALL := Lib.hid hcl
       have HPAR := Lib.hid (And.intro hpk (And.intro hpx (And.intro psk (And.intro psc (And.intro pss (And.intro pap plt))))))
       have HTR := Lib.hid (And.intro hbx (And.intro hkt (And.intro htr hP)))
       have HROW := Lib.hid hrow
       have HBEL := Lib.hid hbel1
       have HW5 := Lib.hid hW5
       have H5 := Lib.hid (And.intro hb5 (And.intro k5 n5'))
       clear hbel hbel1 hbwr hcell1 hcell2 hcall hkt hpk hpc hpx psk psc pss pap plt hrow hcl ne1 ne2 hbx htr hP hW5 hb5 k5 n5'
       go_wp2_with fail
       rw [← HW5.out]
       go_region_law
         (first
           | ((refine step_append_lies _ (by rfl) _ _ _ (by rfl) (w'.heap.size + 2) 26 i0 _ 2 48 Try.underlying24 hi0 hz0 hz1 hz2 rfl (by omega) _ j _ (by rfl) (H6.out.2.2.2.alloc _) ⟨w6.heap.size, 0, none⟩ 1 1 [.slice r1 r2 r3, .slice r4 r5 r6] (by rfl) (by rfl) (World.news_of_block (cs := #[.slice r1 r2 r3, .slice r4 r5 r6]) (t := 26) (fr := (0, 0)) (heap_alloc_new w6 _)) (by simp [Value.oneCell']) (by omega) (by unfold maxLen; omega) (by omega) (by simp; omega) (w6.heap.size + 1) (by simp) ?_; intro gg cap7 w7 hown7 hgrow7 hat7 hlt7; have v7c := (hgrow7.cell_far ⟨w2.heap.size, 1, none⟩ (by simp; omega) NE1.out).trans t2; have v7f := (hgrow7.frozen_far ⟨w2.heap.size, 1, none⟩ (by simp; omega) NE1.out).trans t4; have H7 := Lib.hid (And.intro hown7 (And.intro hgrow7 hat7)); clear hown7 hgrow7 hat7))
           | (go_simp; go_at_call 100; refine HCALL.out.mono ?_; rintro e w6 ⟨xk, xc, Q, rfl, htr6, hb6⟩; obtain ⟨r1, r2, r3, r4, r5, r6, rfl, rfl⟩ := htr6.tree.slices; have hs6 : W5.heap.size ≤ w6.heap.size := hb6.size; have j6 := (hb6.block w2.heap.size (by simp; omega)).trans H5.out.2.2; have i6 := (hb6.block wr.heap.size (by simp; omega)).trans H5.out.2.1; obtain ⟨z1, z2, z3, z4⟩ := box2 j6; obtain ⟨s1, s2, s3, s4⟩ := box2 i6; obtain ⟨t1, t2, t3, t4⟩ := box2 ((old_blk w6 (.cells #[.slice r1 r2 r3, .slice r4 r5 r6] 26) _ (by omega)).trans j6); obtain ⟨v1, v2, v3, v4⟩ := box2 ((old_blk w6 (.cells #[.slice r1 r2 r3, .slice r4 r5 r6] 26) _ (by omega)).trans i6); have hr6 := ownsRow_same HROW.out (fun k h1 h2 => (hb6.block k (by simp; omega)).trans (H5.out.1.block k h1)); have H6 := Lib.hid (And.intro htr6 (And.intro hb6 (And.intro j6 hr6))); clear htr6 hb6 j6 i6 hr6))
       all_goals (
         go_wp2_with fail
         go_roundw
         case rel =>
           obtain ⟨P', g1, g2, g3, g4⟩ := treeO_step HTR.out.1 hlt HTR.out.2.1 (by omega) HTR.out.2.2.1 HTR.out.2.2.2 (H6.out.1.lower (lo' := wr.heap.size) (by simp; omega)) (H5.out.1.trans ((below_undrew H6.out.2.1).mono (show wr.heap.size ≤ W5.heap.size by omega))) HPAR.out H7.out.1 H7.out.2.1 H7.out.2.2
           exact ⟨j + 1, _, P', by omega, by go_num, g1, g2, g3, HBEL.out.trans g4⟩
         case measure => simp [intOf]; omega)
     · obtain rfl : j = cs.length := by omega
       rw [List.take_length] at htr
       obtain ⟨_, _, va, vc, -, rfl⟩ := htr.shown
       have hrb := (hbel1.block (w'.heap.size + 1) (by omega)).trans HB1.out.2.1
       obtain ⟨u1, u2, u3, u4⟩ := box2 hbx
       obtain ⟨r1, r2, r3, r4⟩ := box2 hrb
       have hszr := hbel.size
       have HTR := Lib.hid htr
       have HBEL := Lib.hid hbel
       have HRB := Lib.hid hrb
       clear htr hbel hbel1 hbx hrb
       go_wp2_with fail
       obtain ⟨wf, hwf⟩ : ∃ wf, wf = (wr.setCell ⟨w'.heap.size + 1, 0, none⟩ (.slice a2 ks.length q2)).setCell ⟨w'.heap.size + 1, 1, none⟩ (.slice va cs.length vc) := ⟨_, rfl⟩
       have hfb : wf.heap[w'.heap.size + 1]? = some (.cells #[.slice a2 ks.length q2, .slice va cs.length vc] 26 (0, 0)) := by
         rw [hwf]; exact set_blk (o := 1) _ (set_blk (o := 0) _ HRB.out)
       obtain ⟨d1, d2, d3, d4⟩ := box2 hfb
       rw [← hwf]
       refine bodyPost_ret (v := .agg #[.slice a2 ks.length q2, .slice va cs.length vc]) (by simp [results, Try.results100, go_sem, d1, d2]) rfl ⟨_, _, P, rfl, ?_, ?_⟩
       · exact (HTR.out.same (w' := wf) (by rw [hwf]; simp) (fun q e => by have := (HTR.out.lt q e).1; rw [hwf, set_other _ _ _ _ _ (by omega), set_other _ _ _ _ _ (by omega)])).lower (by omega)
       · rw [hwf]; exact (HBEL.out.setCell (by show w'.heap.size ≤ w'.heap.size + 1; omega) _).setCell (by show w'.heap.size ≤ w'.heap.size + 1; omega) _
end Go.Proofs.Ytananonjomfpkaa
/- How many keys the fullest leaf has; the model's RoomOf. -/
namespace Go.Proofs.Ytananonjomfpkaa
open Go.RowKit
namespace Tr
mutual
def leafMax : Tr → Nat
 | .mk k c => max (if c.length = 0 then k.length else 0) (leafMaxs c)
def leafMaxs : List Tr → Nat
 | [] => 0
 | t :: r => max (leafMax t) (leafMaxs r)
end
mutual
theorem leafMax_le {wide : Int} (h0 : 0 ≤ wide) : ∀ (t : Tr) (least depth : Int), nodesB wide least depth t = true → (t.leafMax : Int) ≤ wide
 | .mk k c, least, depth, h => by
   simp only [nodesB, Bool.and_eq_true, Bool.or_eq_true] at h
   have h1 : (k.length : Int) ≤ wide := by have := h.1.1; simp [inB] at this; omega
   rcases h.2 with h2 | h2
   · have hc : c = [] := by simpa using h2
     subst hc
     simp [leafMax, leafMaxs]; omega
   · have := leafMaxs_le h0 c _ h2.2
     simp only [leafMax]
     split <;> omega
theorem leafMaxs_le {wide : Int} (h0 : 0 ≤ wide) : ∀ (c : List Tr) (depth : Int), nodesAllB wide depth c = true → (leafMaxs c : Int) ≤ wide
 | [], depth, _ => by simpa [leafMaxs] using h0
 | t :: r, depth, h => by
   simp only [nodesAllB, Bool.and_eq_true] at h
   have h1 := leafMax_le h0 t _ _ h.1
   have h2 := leafMaxs_le h0 r _ h.2
   simp only [leafMaxs]; omega
end
def roomB (wide : Int) (t : Tr) : Int := if validB wide t then wide - t.leafMax else -1
theorem valid_wide {wide : Int} {t : Tr} (h : validB wide t = true) : 2 ≤ wide ∧ wide ≤ 6 := by
 simp only [validB, Bool.and_eq_true, inB, decide_eq_true_eq] at h
 exact h.1
end Tr
end Go.Proofs.Ytananonjomfpkaa
/- A tree that is valid for some width has few keys. -/
namespace Go.Proofs.Ytananonjomfpkaa
open Go.RowKit
namespace Tr
theorem keys_length (k : List Int) (c : List Tr) : (Tr.mk k c).keys.length = lens (keyss c) + k.length := by
 have hk := length_keyss c
 simp only [keys, upto_length]
 rw [List.take_of_length_le (by omega), List.take_of_length_le (by omega)]
mutual
theorem small {wide : Int} (h2 : 2 ≤ wide) : ∀ (t : Tr) (d : Int), nodesB wide (wide / 2) d t = true → t.weight + 1 ≤ 2 * t.keys.length
 | .mk k c, d, h => by
   simp only [nodesB, Bool.and_eq_true, Bool.or_eq_true] at h
   have h1 : wide / 2 ≤ (k.length : Int) := by have := h.1.1; simp [inB] at this; omega
   rw [keys_length]
   simp only [weight]
   rcases h.2 with h3 | h3
   · have hc : c = [] := by simpa using h3
     subst hc
     simp [weights, keyss, lens]; omega
   · have := smalls h2 c _ h3.2
     omega
theorem smalls {wide : Int} (h2 : 2 ≤ wide) : ∀ (c : List Tr) (d : Int), nodesAllB wide d c = true → weights c ≤ 2 * lens (keyss c)
 | [], d, _ => by simp [weights]
 | t :: r, d, h => by
   simp only [nodesAllB, Bool.and_eq_true] at h
   have h3 := small h2 t _ h.1
   have h4 := smalls h2 r _ h.2
   simp only [weights, keyss, lens]; omega
end
theorem few : ∀ (l : List Int) (lo : Int), l.Pairwise (· < ·) → (∀ x, x ∈ l → lo ≤ x ∧ x ≤ 99) → (l.length : Int) ≤ max 0 (100 - lo)
 | [], lo, _, _ => by simp; omega
 | a :: r, lo, hp, hm => by
   rw [List.pairwise_cons] at hp
   have h1 := hm a (by simp)
   have h2 := few r (a + 1) hp.2 (fun x hx => ⟨by have := hp.1 x hx; omega, (hm x (by simp [hx])).2⟩)
   simp only [List.length_cons]
   omega
theorem sorted_mem {ks : List Int} (h : sortedB ks = true) : ∀ x, x ∈ ks → 0 ≤ x ∧ x ≤ 99 := fun x hx => by
 obtain ⟨i, hi, rfl⟩ := List.mem_iff_getElem.1 hx
 simp only [sortedB, List.all_eq_true, List.mem_range] at h
 have h1 := h i hi
 simp only [okAt, Bool.and_eq_true, inB, decide_eq_true_eq] at h1
 have h2 := h1.1
 simpa [List.getD_eq_getElem?_getD, hi] using h2
theorem valid_keys {wide : Int} {t : Tr} (h : validB wide t = true) : sortedB t.keys = true := by
 simp only [validB, Bool.and_eq_true] at h; exact h.2.2
theorem valid_well {wide : Int} {t : Tr} (h : validB wide t = true) : Well t := by
 have h' := h
 simp only [validB, Bool.and_eq_true] at h'
 exact ⟨⟨wide, 0, _, h'.2.1⟩, pairwise_of_sorted h'.2.2⟩
theorem valid_small {wide : Int} {t : Tr} (h : validB wide t = true) : t.weight ≤ 200 := by
 have hk := valid_keys h
 have hf := few t.keys 0 (pairwise_of_sorted hk) (sorted_mem hk)
 have hw := valid_wide h
 simp only [validB, Bool.and_eq_true] at h
 cases t with
 | mk k c =>
   rw [keys_length] at hf
   have h' := h.2.1
   simp only [nodesB, Bool.and_eq_true, Bool.or_eq_true] at h'
   simp only [weight]
   rcases h'.2 with h3 | h3
   · have hc : c = [] := by simpa using h3
     subst hc
     simp [weights] at hf ⊢; omega
   · have := smalls hw.1 c _ h3.2
     omega
end Tr
end Go.Proofs.Ytananonjomfpkaa
/- Trees of the model whose rows are their own, up to the capacity: what the model changes in place. -/
namespace Go.Proofs.Ytananonjomfpkaa
open Go.RowKit
def RowT (w : World) (F : Cells) (v : Value) (K : List (Value × Value)) : Prop :=
 (∀ x q, F x q → x < w.heap.size) ∧ ∃ (a : Option Addr) (cap : Nat), v = .slice a K.length cap ∧ K.length ≤ cap ∧ cap ≤ maxLen ∧ (a = none → cap = 0) ∧
   (cap = 0 ∨ ∃ b o, a = some ⟨b, o, none⟩ ∧ (∀ i, i < cap * 2 → F b (o + i) ∧ (w.cell? ⟨b, o + i, none⟩).isSome = true ∧ w.frozen? ⟨b, o + i, none⟩ = false) ∧
     ∀ i (h : i < K.length), w.cell? ⟨b, o + i * 2, none⟩ = some K[i].1 ∧ w.cell? ⟨b, o + i * 2 + 1, none⟩ = some K[i].2)
theorem RowT.keep {w w' : World} {F G : Cells} {v : Value} {K : List (Value × Value)} (h : RowT w F v K) (hk : KeptF G w w') (ha : Apart F G) : RowT w' F v K := by
 obtain ⟨hlt, a, cap, hv, h1, h2, h3, h4⟩ := h
 refine ⟨fun x q h => Nat.lt_of_lt_of_le (hlt x q h) hk.size, a, cap, hv, h1, h2, h3, ?_⟩
 rcases h4 with h4 | ⟨b, o, h5, h6, h7⟩
 · exact .inl h4
 · refine .inr ⟨b, o, h5, fun i hi => ?_, fun i hi => ?_⟩
   · obtain ⟨g1, g2, g3⟩ := h6 i hi
     exact ⟨g1, hk.there _ _ g2, (hk.frozen _ _ (lt_of_there g2)).trans g3⟩
   · obtain ⟨g1, g2, g3⟩ := h6 (i * 2) (by omega)
     obtain ⟨e1, e2, e3⟩ := h6 (i * 2 + 1) (by omega)
     have hb := h7 i hi
     rw [← Nat.add_assoc] at e1 e2
     rw [hk.cell _ _ (lt_of_there g2) (ha _ _ g1), hk.cell _ _ (lt_of_there e2) (ha _ _ e1)]
     exact hb
theorem RowT.shown {w : World} {F : Cells} {v : Value} {K : List (Value × Value)} (h : RowT w F v K) : ∃ a c, v = .slice a K.length c := by
 obtain ⟨_, a, cap, hv, _⟩ := h
 exact ⟨a, cap, hv⟩
theorem RowT.of_own {w : World} {lo : Nat} {v : Value} {K : List (Value × Value)} (h : TreesOwn w lo v K) : RowT w (fun x _ => ownB v x) v K := by
 have h0 := h
 refine ⟨fun x q hq => (World.ownsRow.lt h0 x hq).2, ?_⟩
 obtain ⟨h1, ⟨h2, h3⟩ | ⟨g, cap, cur, hv, hb, hg, hn, hm, hs, ht⟩⟩ := h
 · have : K = [] := by cases K with | nil => rfl | cons a r => simp at h3
   subst this
   exact ⟨none, 0, h2, by simp, by unfold maxLen; omega, fun _ => rfl, .inl rfl⟩
 · subst hv
   refine ⟨_, cap, rfl, by omega, hm, by simp, .inr ⟨g, 0, rfl, fun i hi => ⟨rfl, ?_, ?_⟩, fun i hi => ?_⟩⟩
   · have : i < cur.size := by omega
     simp [World.cell?, hg, this]
   · simp [World.frozen?, hg]
   · obtain ⟨e1, e2⟩ := flatT_get K i hi
     have a1 := World.ownsRow.cellAt h0 (i * 2) (by omega)
     have a2 := World.ownsRow.cellAt h0 (i * 2 + 1) (by omega)
     simp only [Nat.zero_add]
     exact ⟨a1.trans e1, a2.trans e2⟩
structure KidT where
 kv : Value
 cv : Value
 F : Cells
 t : Tr
def KidT.pair (x : KidT) : Value × Value := (x.kv, x.cv)
inductive Td (w : World) : Cells → Value → Value → Tr → Prop where
 | mk (ks : List Int) (kids : List KidT) (F Fk Fc : Cells) (kv cv : Value)
     (hk : RowF w Fk kv (ks.map (Value.int .i64))) (hc : RowT w Fc cv (kids.map KidT.pair))
     (hkids : ∀ x, x ∈ kids → Td w x.F x.kv x.cv x.t)
     (sk : ∀ x o, Fk x o → F x o) (sc : ∀ x o, Fc x o → F x o) (ss : ∀ y, y ∈ kids → ∀ x o, y.F x o → F x o)
     (ap : (Fk :: Fc :: kids.map KidT.F).Pairwise Apart) (lt : ∀ x o, F x o → x < w.heap.size) : Td w F kv cv (.mk ks (kids.map KidT.t))
theorem Td.keep {w w' : World} {F G : Cells} {kv cv : Value} {t : Tr} (h : Td w F kv cv t) (hk : KeptF G w w') (ha : Apart F G) : Td w' F kv cv t := by
 induction h with
 | mk ks kids F Fk Fc kv cv hkr hc hkids sk sc ss ap lt ih =>
   exact .mk ks kids F Fk Fc kv cv (hkr.keep hk (ha.mono sk (fun _ _ h => h))) (hc.keep hk (ha.mono sc (fun _ _ h => h)))
     (fun x hx => ih x hx (ha.mono (ss x hx) (fun _ _ h => h))) sk sc ss ap (fun x o h => Nat.lt_of_lt_of_le (lt x o h) hk.size)
theorem Td.parts {w : World} {F : Cells} {kv cv : Value} {ks : List Int} {cs : List Tr} (h : Td w F kv cv (.mk ks cs)) : ∃ (kids : List KidT) (Fk Fc : Cells), cs = kids.map KidT.t ∧
   RowF w Fk kv (ks.map (Value.int .i64)) ∧ RowT w Fc cv (kids.map KidT.pair) ∧ (∀ x, x ∈ kids → Td w x.F x.kv x.cv x.t) ∧
   (∀ x o, Fk x o → F x o) ∧ (∀ x o, Fc x o → F x o) ∧ (∀ y, y ∈ kids → ∀ x o, y.F x o → F x o) ∧ (Fk :: Fc :: kids.map KidT.F).Pairwise Apart ∧ (∀ x o, F x o → x < w.heap.size) := by
 cases h with
 | mk _ kids _ Fk Fc _ _ hkr hc hkids sk sc ss ap lt => exact ⟨kids, Fk, Fc, rfl, hkr, hc, hkids, sk, sc, ss, ap, lt⟩
theorem Td.of_o {w : World} {lo : Nat} {P : Blocks} {kv cv : Value} {t : Tr} (h : TreeO w lo P kv cv t) : Td w (fun x _ => P x) kv cv t := by
 induction h with
 | mk ks kids P kv cv hk hc hkids sk sc ss ap lt ih =>
   have e1 : (kids.map (fun x : KidO => (⟨x.kv, x.cv, fun q _ => x.P q, x.t⟩ : KidT))).map KidT.t = kids.map KidO.t := by simp [Function.comp_def]
   have e2 : (kids.map (fun x : KidO => (⟨x.kv, x.cv, fun q _ => x.P q, x.t⟩ : KidT))).map KidT.pair = kids.map KidO.pair := by simp [Function.comp_def, KidT.pair, KidO.pair]
   rw [← e1]
   refine .mk ks _ _ (fun x _ => ownB kv x) (fun x _ => ownB cv x) kv cv (RowF.of_owns hk) (by rw [e2]; exact RowT.of_own hc) (fun x hx => ?_) (fun x _ h => sk x h) (fun x _ h => sc x h) (fun y hy x o h => ?_) ?_ (fun x _ h => (lt x h).2)
   · obtain ⟨y, hy, rfl⟩ := List.mem_map.1 hx
     exact ih y hy
   · obtain ⟨z, hz, rfl⟩ := List.mem_map.1 hy
     exact ss z hz x h
   · have hm : ((fun x _ => ownB kv x) :: (fun x _ => ownB cv x) :: (kids.map (fun x : KidO => (⟨x.kv, x.cv, fun q _ => x.P q, x.t⟩ : KidT))).map KidT.F : List Cells) = (ownB kv :: ownB cv :: kids.map KidO.P).map (fun B => fun x _ => B x) := by simp [Function.comp_def]
     rw [hm, List.pairwise_map]
     exact ap.imp (fun h x o a b => h x a b)
end Go.Proofs.Ytananonjomfpkaa
