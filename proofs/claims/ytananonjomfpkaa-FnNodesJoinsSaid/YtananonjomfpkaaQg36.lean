/- The model's l4All: the walk. -/
import Derived.Test.YtananonjomfpkaaQg35
/- Deleting takes a key out of its place. -/
namespace Go.Proofs.Ytananonjomfpkaa
open Go.RowKit
namespace Tr
end Tr
end Go.Proofs.Ytananonjomfpkaa
/- Popping: what a step does to a valid tree's keys. -/
namespace Go.Proofs.Ytananonjomfpkaa
open Go.RowKit
namespace Tr
end Tr
end Go.Proofs.Ytananonjomfpkaa
/- Popping again and again: the list of what has come, the box of the tree that is left. -/
namespace Go.Proofs.Ytananonjomfpkaa
open Go.RowKit
theorem TreeO.q {w : World} {lo : Nat} {P : Blocks} {kv cv : Value} {t : Tr} (h : TreeO w lo P kv cv t) : TreeQ w (fun k => lo ≤ k ∧ k < w.heap.size) kv cv t := by
 induction h with
 | mk ks kids P kv cv hk hc hkids sk sc ss ap lt ih =>
   obtain ⟨a, c, rfl⟩ := TreesOwn.shown hc
   refine treeQ_row (Q := fun k => lo ≤ k ∧ k < w.heap.size) (IntsOwn.p hk) hc (fun q h1 h2 => ⟨h1, h2⟩) (by simp) (fun i hi => ?_)
   simp at hi
   have := ih kids[i] (List.getElem_mem hi)
   simpa [hi, KidO.pair] using this
structure PopR (w0 : World) (p : Nat) (wide : Int) (K : List Int) (wr : World) (v : Value) (j : Nat) (kv cv : Value) (u : Tr) (F : Cells) : Prop where
 le : j ≤ K.length
 bel : Below w0.heap.size w0 wr
 rows : HeldR wr (fun q o => F q o ∨ boxOf p q o) wr [intsD F v (K.take j), boxD p kv cv]
 low : ∀ q o, F q o → w0.heap.size ≤ q
 plow : w0.heap.size ≤ p
 tree : TreeQ wr (fun k => k < wr.heap.size ∧ k ≠ p ∧ ∀ o, ¬ F k o) kv cv u
 keys : u.keys = K.drop j
 val : Tr.validB wide u = true
end Go.Proofs.Ytananonjomfpkaa
/- The model's l4All: keys deleted one behind the other. -/
namespace Go.Proofs.Ytananonjomfpkaa
open Go.RowKit
structure AllR (w : World) (wr : World) (kv cv : Value) (S : Tr.Gone) : Prop where
 bt : wr.heap[w.heap.size]? = some (.cells #[kv, cv] 26 (0, 0))
 b6 : wr.heap[w.heap.size + 1]? = some (.cells #[.slice none 0 0, .slice none 0 0] 26 (0, 0))
 b7 : wr.heap[w.heap.size + 2]? = some (.cells #[.int .i64 0, .int .i64 0, .bool false] 52 (0, 0))
 br : wr.heap[w.heap.size + 3]? = some (.cells #[.int .i64 (S.b : Int), .int .i64 (S.j : Int), .bool S.sh] 52 (0, 0))
 tree : TreeQ wr (fun k => w.heap.size + 4 ≤ k ∧ k < wr.heap.size) kv cv S.t
 bel : Below w.heap.size w wr
 size : w.heap.size + 4 ≤ wr.heap.size
theorem AllR.later {w wr w' : World} {kv cv : Value} {S : Tr.Gone} (h : AllR w wr kv cv S) (hb : Below wr.heap.size wr w') : AllR w w' kv cv S := by
 have h1 := h.size
 have h2 := hb.size
 exact ⟨(hb.block _ (by omega)).trans h.bt, (hb.block _ (by omega)).trans h.b6, (hb.block _ (by omega)).trans h.b7, (hb.block _ (by omega)).trans h.br,
   h.tree.same (fun k hk => hb.block k hk.2) (fun k hk => ⟨hk.1, by have := hk.2; omega⟩), h.bel.trans (hb.mono (by omega)), by omega⟩
def AllDone (w : World) (wide : Int) (t : Tr) (ks : List Int) (e : Ending) (w' : World) : Prop :=
 ∃ kv cv, e = .returned (.tuple #[.agg #[kv, cv], .agg #[.int .i64 ((Tr.gone wide t ks).b : Int), .int .i64 ((Tr.gone wide t ks).j : Int), .bool (Tr.gone wide t ks).sh]]) ∧
   TreeQ w' (fun k => w.heap.size ≤ k ∧ k < w'.heap.size) kv cv (Tr.gone wide t ks).t ∧ Below w.heap.size w w'
theorem AllR.next {w wr W8 : World} {kv cv k7 c7 : Value} {S S7 : Tr.Gone} {lo : Nat} (h : AllR w wr kv cv S) (hb : Below wr.heap.size wr W8) (ht : TreeQ W8 (fun k => lo ≤ k ∧ k < W8.heap.size) k7 c7 S7.t) (hlo : wr.heap.size ≤ lo) :
   AllR w (((((W8.setCell ⟨w.heap.size, 0, none⟩ k7).setCell ⟨w.heap.size, 1, none⟩ c7).setCell ⟨w.heap.size + 3, 0, none⟩ (.int .i64 (S7.b : Int))).setCell ⟨w.heap.size + 3, 1, none⟩ (.int .i64 (S7.j : Int))).setCell ⟨w.heap.size + 3, 2, none⟩ (.bool S7.sh)) k7 c7 S7 := by
 have g := h.later hb
 have h1 := h.size
 have hz := hb.size
 have a1 := two_blk g.bt k7 c7
 have a2 : ((W8.setCell ⟨w.heap.size, 0, none⟩ k7).setCell ⟨w.heap.size, 1, none⟩ c7).heap[w.heap.size + 3]? = some (.cells #[.int .i64 (S.b : Int), .int .i64 (S.j : Int), .bool S.sh] 52 (0, 0)) := by
   rw [set_other _ _ _ _ _ (by omega), set_other _ _ _ _ _ (by omega)]; exact g.br
 have a3 := three_blk a2 (.int .i64 (S7.b : Int)) (.int .i64 (S7.j : Int)) (.bool S7.sh)
 have hoth : ∀ q, q ≠ w.heap.size → q ≠ w.heap.size + 3 → (((((W8.setCell ⟨w.heap.size, 0, none⟩ k7).setCell ⟨w.heap.size, 1, none⟩ c7).setCell ⟨w.heap.size + 3, 0, none⟩ (.int .i64 (S7.b : Int))).setCell ⟨w.heap.size + 3, 1, none⟩ (.int .i64 (S7.j : Int))).setCell ⟨w.heap.size + 3, 2, none⟩ (.bool S7.sh)).heap[q]? = W8.heap[q]? := fun q e1 e2 => by
   rw [set_other _ _ _ _ _ e2, set_other _ _ _ _ _ e2, set_other _ _ _ _ _ e2, set_other _ _ _ _ _ e1, set_other _ _ _ _ _ e1]
 refine ⟨?_, (hoth _ (by omega) (by omega)).trans g.b6, (hoth _ (by omega) (by omega)).trans g.b7, a3, ?_, ?_, ?_⟩
 · rw [set_other _ _ _ _ _ (by omega), set_other _ _ _ _ _ (by omega), set_other _ _ _ _ _ (by omega)]; exact a1
 · refine ht.same (fun k hk => hoth k (by omega) (by omega)) (fun k hk => ⟨by omega, ?_⟩)
   simp only [World.size_setCell]; exact hk.2
 · exact ((((g.bel.setCell (by show w.heap.size ≤ w.heap.size; omega) _).setCell (by show w.heap.size ≤ w.heap.size; omega) _).setCell (by show w.heap.size ≤ w.heap.size + 3; omega) _).setCell (by show w.heap.size ≤ w.heap.size + 3; omega) _).setCell (by show w.heap.size ≤ w.heap.size + 3; omega) _
 · simp only [World.size_setCell]; omega
end Go.Proofs.Ytananonjomfpkaa
/- The model's l4All: the walk. -/
namespace Go.Proofs.Ytananonjomfpkaa
open Go.RowKit
set_option maxRecDepth 100000 in
set_option maxHeartbeats 8000000 in
theorem l4All_c {w : World} {B : Nat} {kv cv v : Value} {t : Tr} {ks : List Int} (ht : TreeIn w B kv cv t) (wide : Int) (hv : Tr.validB wide t = true) (hk : IntsIn w B v ks) (hfew : ks.length ≤ 200) (w' : World) (hbw : Below B w w') (hB : B ≤ w'.heap.size) (hwB : w.heap.size ≤ B) :
   Calls Try.prog 83 #[.agg #[kv, cv], .int .i64 wide, v] w' (AllDone w' wide t ks) := by
 obtain ⟨a5, n5, m5, a6, n6, m6, rfl, rfl⟩ := ht.slices
 have hk' := hk
 obtain ⟨ka, kc, rfl, hk1, hk2, hk3, hk4⟩ := hk'
 unfold maxLen at hk2
 have HKI : Hid (∀ wx : World, Below w'.heap.size w' wx → IntsIn wx B (.slice ka ks.length kc) ks) := Lib.hid (fun wx hx => hk.later (hbw.trans (hx.mono hB)) (by omega))
 obtain ⟨W1, hW1⟩ : ∃ W1, W1 = (((w'.alloc (.cells #[.slice a5 n5 m5, .slice a6 n6 m6] 26)).alloc (.cells #[.slice none 0 0, .slice none 0 0] 26)).alloc (.cells #[.int .i64 0, .int .i64 0, .bool false] 52)).alloc (.cells #[.int .i64 0, .int .i64 0, .bool false] 52) := ⟨_, rfl⟩
 have hs1 : W1.heap.size = w'.heap.size + 4 := by rw [hW1]; simp
 have hb1 : Below w'.heap.size w' W1 := by rw [hW1]; exact ((((Below.refl _ _).alloc (Nat.le_refl _) _).alloc (by simp) _).alloc (by simp <;> omega) _).alloc (by simp <;> omega) _
 have k0 : W1.heap[w'.heap.size]? = some (.cells #[.slice a5 n5 m5, .slice a6 n6 m6] 26 (0, 0)) := by rw [hW1, old_blk _ _ _ (by simp <;> omega), old_blk _ _ _ (by simp <;> omega), old_blk _ _ _ (by simp), new_blk]
 have k6 : W1.heap[w'.heap.size + 1]? = some (.cells #[.slice none 0 0, .slice none 0 0] 26 (0, 0)) := by
   rw [hW1, old_blk _ _ _ (by simp <;> omega), old_blk _ _ _ (by simp <;> omega), show w'.heap.size + 1 = (w'.alloc (.cells #[.slice a5 n5 m5, .slice a6 n6 m6] 26)).heap.size by simp, new_blk]
 have k7 : W1.heap[w'.heap.size + 2]? = some (.cells #[.int .i64 0, .int .i64 0, .bool false] 52 (0, 0)) := by
   rw [hW1, old_blk _ _ _ (by simp <;> omega), show w'.heap.size + 2 = ((w'.alloc (.cells #[.slice a5 n5 m5, .slice a6 n6 m6] 26)).alloc (.cells #[.slice none 0 0, .slice none 0 0] 26)).heap.size by simp, new_blk]
 have k8 : W1.heap[w'.heap.size + 3]? = some (.cells #[.int .i64 0, .int .i64 0, .bool false] 52 (0, 0)) := by
   rw [hW1, show w'.heap.size + 3 = (((w'.alloc (.cells #[.slice a5 n5 m5, .slice a6 n6 m6] 26)).alloc (.cells #[.slice none 0 0, .slice none 0 0] 26)).alloc (.cells #[.int .i64 0, .int .i64 0, .bool false] 52)).heap.size by simp, new_blk]
 obtain ⟨x1, x2, x3, x4⟩ := box2 k0
 have HT := Lib.hid ht
 have HBW := Lib.hid hbw
 have HV := Lib.hid hv
 have HW1 := Lib.hid hW1
 have hsm := Tr.valid_small hv
 have H1 := Lib.hid (And.intro hb1 (And.intro k0 (And.intro k6 (And.intro k7 k8))))
 clear ht hbw hv hW1 hb1 k0 k6 k7 k8 hk hk4
 go_enter Try.func83, Try.ntmps83
 go_upto_region 2 with (fail)
 rw [← HW1.out]
 go_wp2_with fail
 refine (copy_c HT.out (by omega) W1 (HBW.out.trans (H1.out.1.mono hB)) (by omega)).mono ?_
 rintro e w2 ⟨kv2, cv2, P2, rfl, ho2, hb2⟩
 obtain ⟨p1, p2, p3, p4, p5, p6, rfl, rfl⟩ := ho2.tree.slices
 have hs2 := hb2.size
 have j0 := (hb2.block w'.heap.size (by omega)).trans H1.out.2.1
 clear x1 x2 x3 x4
 obtain ⟨x1, x2, x3, x4⟩ := box2 j0
 have hA : AllR w' ((w2.setCell ⟨w'.heap.size, 0, none⟩ (.slice p1 p2 p3)).setCell ⟨w'.heap.size, 1, none⟩ (.slice p4 p5 p6)) (.slice p1 p2 p3) (.slice p4 p5 p6) ⟨t, 0, 0, false⟩ := by
   have hoth : ∀ q, q ≠ w'.heap.size → ((w2.setCell ⟨w'.heap.size, 0, none⟩ (.slice p1 p2 p3)).setCell ⟨w'.heap.size, 1, none⟩ (.slice p4 p5 p6)).heap[q]? = w2.heap[q]? := fun q e1 => by
     rw [set_other _ _ _ _ _ e1, set_other _ _ _ _ _ e1]
   refine ⟨two_blk j0 _ _, (hoth _ (by omega)).trans ((hb2.block _ (by omega)).trans H1.out.2.2.1), (hoth _ (by omega)).trans ((hb2.block _ (by omega)).trans H1.out.2.2.2.1), (hoth _ (by omega)).trans ((hb2.block _ (by omega)).trans H1.out.2.2.2.2), ?_, ?_, by simp only [World.size_setCell]; omega⟩
   · refine ho2.q.same (fun k hk => hoth k (by omega)) (fun k hk => ⟨by omega, ?_⟩)
     simp only [World.size_setCell]; exact hk.2
   · exact ((H1.out.1.trans (hb2.mono (by omega))).setCell (by show w'.heap.size ≤ w'.heap.size; omega) _).setCell (by show w'.heap.size ≤ w'.heap.size; omega) _
 have HA := Lib.hid hA
 clear ho2 hb2 j0 hA
 go_wp2_with fail
 go_loopw [18] (fun s18 wr => ∃ (j : Nat) (kv cv : Value), j ≤ ks.length ∧ s18 = .int .i64 j ∧ AllR w' wr kv cv (Tr.gone wide t (ks.take j))) (fun s18 _ => ks.length - (intOf s18).toNat)
 case atStart => exact ⟨0, _, _, Nat.zero_le _, rfl, HA.out⟩
 case round =>
   obtain ⟨j, kv, cv, hj, rfl, hR⟩ := hrel
   obtain ⟨g1, g2, g3⟩ := Tr.gone_valid HV.out ks j hj
   have hsnoc := fun h => Tr.gone_snoc wide t (ks := ks) (j := j) h
   obtain ⟨S, hSe⟩ : ∃ S, S = Tr.gone wide t (ks.take j) := ⟨_, rfl⟩
   rw [← hSe] at hR g1 g2 g3 hsnoc
   obtain ⟨d1, d2, d3, d4, d5, d6, rfl, rfl⟩ := hR.tree.slices
   have gw := Tr.valid_small g1
   have hz := hR.size
   have HG := Lib.hid (And.intro g1 (And.intro hsnoc hSe))
   have HR := Lib.hid hR
   clear hR g1 hsnoc hSe x1 x2 x3 x4
   by_cases hlt : j < ks.length
   · obtain ⟨_, _, hvk, -, -, -, hat⟩ := HKI.out wr HR.out.bel
     injection hvk with ev1 _ ev3
     subst ev1 ev3
     rcases hat with h0 | ⟨kb, ko, rfl, hkb, hat⟩
     · rw [h0] at hlt; simp at hlt
     have hcell := hat j hlt
     obtain ⟨k, hk⟩ : ∃ k, k = ks.getD j 0 := ⟨_, rfl⟩
     rw [← hk] at hcell
     have hjk : (j : Int) < (ks.length : Int) := by omega
     have HKk := Lib.hid hk
     have hti : TreeIn wr wr.heap.size (.slice d1 d2 d3) (.slice d4 d5 d6) S.t := TreeQ.tree HR.out.tree (fun _ e => e.2)
     have hcall := specHasKey_c hti (by omega) k wr (Below.refl _ _) (Nat.le_refl _)
     rw [(someB_path k S.t).1 (Tr.someB_valid HG.out.1)] at hcall
     have HCALL := Lib.hid hcall
     have HTI := Lib.hid hti
     obtain ⟨x1, x2, x3, x4⟩ := box2 HR.out.bt
     clear hat hk hcall hti
     go_wp2_with fail
     refine HCALL.out.mono ?_
     rintro e w6 ⟨rfl, hb6⟩
     have h6 := HR.out.later hb6
     have hz6 := hb6.size
     clear x1 x2 x3 x4
     obtain ⟨x1, x2, x3, x4⟩ := box2 h6.bt
     have H6 := Lib.hid (And.intro h6 hb6)
     clear h6 hb6
     cases hp : (S.t.path k).2 with
     | false =>
       have HE := Lib.hid (show Tr.gone wide t (ks.take (j + 1)) = S by rw [HG.out.2.1 hlt, ← HKk.out, Tr.takeKey, if_neg (by rw [hp]; simp)])
       clear hp
       go_wp2_with fail
       go_roundw
       case rel => exact ⟨j + 1, .slice d1 d2 d3, .slice d4 d5 d6, by omega, by go_num, by rw [HE.out]; exact H6.out.1⟩
       case measure => simp [intOf]; omega
     | true =>
       have hkey := l4Key_c HTI.out wide k (Tr.valid_wide HV.out) (by omega) (Tr.Lacks.of_tops (Tr.valid_well HG.out.1) (Tr.Tops.of_valid HG.out.1 (Tr.valid_wide HV.out).1) hp) w6 H6.out.2 hz6
       obtain ⟨S7, hS7⟩ : ∃ S7 : Tr.Gone, S7 = ⟨Tr.delT wide k S.t, S.b + (Tr.del (wide / 2) (S.t.weight + 1) k S.t).b, S.j + (Tr.del (wide / 2) (S.t.weight + 1) k S.t).j, S.sh || Tr.delShrinks wide k S.t⟩ := ⟨_, rfl⟩
       have HE := Lib.hid (show Tr.gone wide t (ks.take (j + 1)) = S7 by rw [HG.out.2.1 hlt, ← HKk.out, Tr.takeKey, if_pos hp, hS7])
       have hc := Tr.del_count (half := wide / 2) (S.t.weight + 1) k S.t
       obtain ⟨db, hdb⟩ : ∃ db, db = (Tr.del (wide / 2) (S.t.weight + 1) k S.t).b := ⟨_, rfl⟩
       obtain ⟨dj, hdj⟩ : ∃ dj, dj = (Tr.del (wide / 2) (S.t.weight + 1) k S.t).j := ⟨_, rfl⟩
       obtain ⟨ds, hds⟩ : ∃ ds, ds = Tr.delShrinks wide k S.t := ⟨_, rfl⟩
       unfold KeyDone at hkey
       rw [← hdb, ← hdj, ← hds] at hkey
       rw [← hdb, ← hdj, ← hds] at hS7
       rw [← hdb, ← hdj] at hc
       have e1 : S7.b = S.b + db := by rw [hS7]
       have e2 : S7.j = S.j + dj := by rw [hS7]
       have e3 : S7.sh = (S.sh || ds) := by rw [hS7]
       have e4 : S7.t = Tr.delT wide k S.t := by rw [hS7]
       have hw1 : IntKind.i64.wrap ((S.b : Int) + (db : Int)) = (S7.b : Int) := by rw [IntKind.wrap_i64, e1]; omega
       have hw2 : IntKind.i64.wrap ((S.j : Int) + (dj : Int)) = (S7.j : Int) := by rw [IntKind.wrap_i64, e2]; omega
       have HKEY := Lib.hid hkey
       have HS7 := Lib.hid (And.intro e4 e3)
       clear hp hkey hS7 e1 e2 e3 e4 hdb hdj hds
       go_wp2_with fail
       refine HKEY.out.mono ?_
       rintro e w7 ⟨k7, c7, P7, rfl, ho7, hb7⟩
       obtain ⟨q1, q2, q3, q4, q5, q6, rfl, rfl⟩ := ho7.tree.slices
       have hz7 := hb7.size
       obtain ⟨W8, hW8⟩ : ∃ W8, W8 = (w7.alloc (.cells #[.slice q1 q2 q3, .slice q4 q5 q6] 26)).alloc (.cells #[.int .i64 (db : Int), .int .i64 (dj : Int), .bool ds] 52) := ⟨_, rfl⟩
       have hs8 : W8.heap.size = w7.heap.size + 2 := by rw [hW8]; simp
       have hb78 : Below w7.heap.size w7 W8 := by rw [hW8]; exact ((Below.refl _ _).alloc (Nat.le_refl _) _).alloc (by simp) _
       have bt8 : W8.heap[w7.heap.size]? = some (.cells #[.slice q1 q2 q3, .slice q4 q5 q6] 26 (0, 0)) := by rw [hW8, old_blk _ _ _ (by simp), new_blk]
       have br8 : W8.heap[w7.heap.size + 1]? = some (.cells #[.int .i64 (db : Int), .int .i64 (dj : Int), .bool ds] 52 (0, 0)) := by
         rw [hW8, show w7.heap.size + 1 = (w7.alloc (.cells #[.slice q1 q2 q3, .slice q4 q5 q6] 26)).heap.size by simp, new_blk]
       have hb68 : Below w6.heap.size w6 W8 := hb7.trans (hb78.mono hz7)
       have h8 := H6.out.1.later hb68
       have htq : TreeQ W8 (fun k => w6.heap.size ≤ k ∧ k < W8.heap.size) (.slice q1 q2 q3) (.slice q4 q5 q6) S7.t := by
         rw [HS7.out.1]
         exact ho7.q.same (fun k hk => hb78.block k hk.2) (fun k hk => ⟨hk.1, by have := hk.2; omega⟩)
       have hnext := H6.out.1.next hb68 htq (Nat.le_refl _)
       have HN := Lib.hid (And.intro hnext (And.intro h8.br (And.intro br8 h8.bt)))
       have HW8 := Lib.hid hW8
       clear x1 x2 x3 x4
       obtain ⟨x1, x2, x3, x4⟩ := box2 bt8
       obtain ⟨y1, y2, y3, y4⟩ := box2 h8.bt
       clear ho7 hb7 hb78 hb68 bt8 br8 h8 htq hnext hW8
       go_upto_region 8 with (fail)
       rw [← HW8.out]
       go_upto_region 9 with (fail)
       obtain ⟨W9, hW9⟩ : ∃ W9, W9 = (W8.setCell ⟨w'.heap.size, 0, none⟩ (.slice q1 q2 q3)).setCell ⟨w'.heap.size, 1, none⟩ (.slice q4 q5 q6) := ⟨_, rfl⟩
       rw [← hW9]
       have c9 : W9.heap[w'.heap.size + 3]? = some (.cells #[.int .i64 (S.b : Int), .int .i64 (S.j : Int), .bool S.sh] 52 (0, 0)) := by
         rw [hW9, set_other _ _ _ _ _ (by omega), set_other _ _ _ _ _ (by omega)]; exact HN.out.2.1
       have r9 : W9.heap[w7.heap.size + 1]? = some (.cells #[.int .i64 (db : Int), .int .i64 (dj : Int), .bool ds] 52 (0, 0)) := by
         rw [hW9, set_other _ _ _ _ _ (by omega), set_other _ _ _ _ _ (by omega)]; exact HN.out.2.2.1
       have HW9 := Lib.hid hW9
       clear x1 x2 x3 x4 y1 y2 y3 y4 hW9
       obtain ⟨x1, x2, x3, x4, x5, x6⟩ := box3 c9
       obtain ⟨y1, y2, y3, y4, y5, y6⟩ := box3 r9
       go_upto_region 10 with (fail)
       obtain ⟨W10, hW10⟩ : ∃ W10, W10 = W9.setCell ⟨w'.heap.size + 3, 0, none⟩ (.int .i64 (S7.b : Int)) := ⟨_, rfl⟩
       rw [← hW10]
       have c10 : W10.heap[w'.heap.size + 3]? = some (.cells #[.int .i64 (S7.b : Int), .int .i64 (S.j : Int), .bool S.sh] 52 (0, 0)) := by
         rw [hW10]; exact set_blk (o := 0) _ c9
       have r10 : W10.heap[w7.heap.size + 1]? = some (.cells #[.int .i64 (db : Int), .int .i64 (dj : Int), .bool ds] 52 (0, 0)) := by
         rw [hW10, set_other _ _ _ _ _ (by omega)]; exact r9
       have HW10 := Lib.hid hW10
       clear x1 x2 x3 x4 x5 x6 y1 y2 y3 y4 y5 y6 hW10 c9 r9
       obtain ⟨x1, x2, x3, x4, x5, x6⟩ := box3 c10
       obtain ⟨y1, y2, y3, y4, y5, y6⟩ := box3 r10
       go_upto_region 11 with (fail)
       obtain ⟨W11, hW11⟩ : ∃ W11, W11 = W10.setCell ⟨w'.heap.size + 3, 1, none⟩ (.int .i64 (S7.j : Int)) := ⟨_, rfl⟩
       rw [← hW11]
       have c11 : W11.heap[w'.heap.size + 3]? = some (.cells #[.int .i64 (S7.b : Int), .int .i64 (S7.j : Int), .bool S.sh] 52 (0, 0)) := by
         rw [hW11]; exact set_blk (o := 1) _ c10
       have r11 : W11.heap[w7.heap.size + 1]? = some (.cells #[.int .i64 (db : Int), .int .i64 (dj : Int), .bool ds] 52 (0, 0)) := by
         rw [hW11, set_other _ _ _ _ _ (by omega)]; exact r10
       have HW11 := Lib.hid hW11
       clear x1 x2 x3 x4 x5 x6 y1 y2 y3 y4 y5 y6 hW11 c10 r10
       obtain ⟨x1, x2, x3, x4, x5, x6⟩ := box3 c11
       obtain ⟨y1, y2, y3, y4, y5, y6⟩ := box3 r11
       have hfin : AllR w' (W11.setCell ⟨w'.heap.size + 3, 2, none⟩ (.bool S7.sh)) (.slice q1 q2 q3) (.slice q4 q5 q6) S7 := by
         rw [HW11.out, HW10.out, HW9.out]; exact HN.out.1
       rw [HS7.out.2] at hfin
       have HFIN := Lib.hid hfin
       clear hfin c11 r11
       cases hsh : S.sh with
       | true =>
         rw [hsh] at HFIN x3
         clear hsh
         go_wp2_with fail
         go_roundw
         case rel => exact ⟨j + 1, .slice q1 q2 q3, .slice q4 q5 q6, by omega, by go_num, by rw [HE.out]; exact HFIN.out⟩
         case measure => simp [intOf]; omega
       | false =>
         rw [hsh, Bool.false_or] at HFIN
         rw [hsh] at x3
         clear hsh
         go_wp2_with fail
         go_roundw
         case rel => exact ⟨j + 1, .slice q1 q2 q3, .slice q4 q5 q6, by omega, by go_num, by rw [HE.out]; exact HFIN.out⟩
         case measure => simp [intOf]; omega
   · have hjk : ¬ (j : Int) < (ks.length : Int) := by omega
     have HE := Lib.hid (show Tr.gone wide t ks = S by rw [HG.out.2.2, show j = ks.length by omega, List.take_length])
     obtain ⟨x1, x2, x3, x4⟩ := box2 HR.out.bt
     obtain ⟨y1, y2, y3, y4, y5, y6⟩ := box3 HR.out.br
     obtain ⟨g1, g2, g3, g4⟩ := box2 HR.out.b6
     obtain ⟨h1, h2, h3, h4, h5, h6⟩ := box3 HR.out.b7
     have u1 : ¬ w'.heap.size = w'.heap.size + 1 := by omega
     have u2 : ¬ w'.heap.size + 3 = w'.heap.size + 1 := by omega
     have u3 : ¬ w'.heap.size = w'.heap.size + 2 := by omega
     have u4 : ¬ w'.heap.size + 3 = w'.heap.size + 2 := by omega
     have u5 : ¬ w'.heap.size + 1 = w'.heap.size + 2 := by omega
     have u6 : ¬ w'.heap.size + 2 = w'.heap.size + 1 := by omega
     obtain ⟨SB, hSB⟩ : ∃ SB, SB = S.b := ⟨_, rfl⟩
     obtain ⟨SJ, hSJ⟩ : ∃ SJ, SJ = S.j := ⟨_, rfl⟩
     obtain ⟨SH, hSH⟩ : ∃ SH, SH = S.sh := ⟨_, rfl⟩
     rw [← hSB] at y1
     rw [← hSJ] at y2
     rw [← hSH] at y3
     have HSS := Lib.hid (And.intro hSB (And.intro hSJ hSH))
     clear hSB hSJ hSH
     go_upto_region 13 with (fail)
     go_region_law (fail)
     all_goals (
       go_wp2_with fail
       generalize hW : World.setCell _ _ _ = W8
       have he : Boxed wr W8 (w'.heap.size + 1) (w'.heap.size + 2) (.slice d1 d2 d3) (.slice d4 d5 d6) (SB : Int) (SJ : Int) SH := by
         rw [← hW]
         first
           | exact boxed4 (by omega) HR.out.b6 HR.out.b7
           | exact boxed7 (by omega) HR.out.b6 HR.out.b7
       obtain ⟨q1, q2, q3, q4⟩ := box2 he.bp
       obtain ⟨m1, m2, m3, m4, m5, m6⟩ := box3 he.bq
       have hkp := he.kept
       have htr : TreeQ W8 (fun k => w'.heap.size ≤ k ∧ k < W8.heap.size) (.slice d1 d2 d3) (.slice d4 d5 d6) S.t := HR.out.tree.same (fun k hk => hkp.block k hk.2 (fun o e => by omega)) (fun k hk => ⟨by omega, by have := hkp.size; omega⟩)
       have hbl : Below w'.heap.size w' W8 := HR.out.bel.trans (hkp.below (by omega) (fun x o e => by omega))
       have HK := Lib.hid (And.intro htr hbl)
       clear he hkp htr hbl hW
       refine bodyPost_ret (v := .tuple #[.agg #[.slice d1 d2 d3, .slice d4 d5 d6], .agg #[.int .i64 (SB : Int), .int .i64 (SJ : Int), .bool SH]]) (by simp [results, Try.results83, go_sem, q1, q2, m1, m2, m3]) rfl ⟨.slice d1 d2 d3, .slice d4 d5 d6, ?_, ?_, ?_⟩
       · rw [HE.out, ← HSS.out.1, ← HSS.out.2.1, ← HSS.out.2.2]
       · rw [HE.out]
         first
           | exact HK.out.1
           | exact HK.out.1.same (fun _ _ => rfl) (fun _ h => h)
       · first
           | exact HK.out.2
           | exact HK.out.2.drew)
end Go.Proofs.Ytananonjomfpkaa
