/- The model's l4Delete, l4Key and DeleteKey. -/
import Derived.Test.YtananonjomfpkaaQgS9
import Derived.Test.YtananonjomfpkaaQg31
namespace Go.Proofs.Ytananonjomfpkaa
open Go.RowKit
theorem l4Delete_c (wide : Int) (hwide : 2 ≤ wide ∧ wide ≤ 6) : ∀ (N : Nat) (key : Int) (t : Tr), t.weight < N → t.weight ≤ 90000 → Tr.Lacks key t → ∀ (w : World) (F : Cells) (kv cv : Value) (bo jo : Nat) (sh : Bool), Td w F kv cv t → bo + N ≤ 800000000 → jo + N ≤ 800000000 →
   Calls Try.prog 99 #[.agg #[kv, cv], .int .i64 wide, .int .i64 key, .agg #[.int .i64 (bo : Int), .int .i64 (jo : Int), .bool sh]] w (Restored w F ⟨(Tr.del (wide / 2) N key t).t, bo + (Tr.del (wide / 2) N key t).b, jo + (Tr.del (wide / 2) N key t).j⟩ sh) := by
 intro N
 induction N with
 | zero => intro key t ht; omega
 | succ N ih =>
   intro key t hn hw hl w F kv cv bo jo sh h hbo hjo
   obtain ⟨k, c⟩ := t
   by_cases h0 : c.length = 0
   · have hp := hl.leaf h0
     have hc : c = [] := List.length_eq_zero_iff.1 h0
     rw [Tr.del_leaf h0]
     subst hc
     have hk : k.length ≤ 100000 := by simp only [Tr.weight] at hw; omega
     exact l4DelLeaf_c wide key w F kv cv k h hp hk bo jo sh
   · exact l4DelInner_c wide hwide N key k c hw hl h0 (fun key' u hu hlt w F kv cv bo jo sh ht hbo hjo => ih key' u (by omega) (by omega) hu w F kv cv bo jo sh ht hbo hjo) w F kv cv bo jo sh h hbo hjo
theorem boxed7 {w6 : World} {kv cv : Value} {b j : Int} {sh : Bool} {p q : Nat} (hpq : p ≠ q) {o0 o1 p0 p1 p2 : Value} (h : w6.heap[p]? = some (.cells #[o0, o1] 26 (0, 0))) (h2 : w6.heap[q]? = some (.cells #[p0, p1, p2] 52 (0, 0))) :
   Boxed w6 (((((w6.setCell ⟨q, 0, none⟩ (.int .i64 b)).setCell ⟨q, 1, none⟩ (.int .i64 j)).setCell ⟨q, 2, none⟩ (.bool sh)).setCell ⟨p, 0, none⟩ kv).setCell ⟨p, 1, none⟩ cv) p q kv cv b j sh := by
 have a1 := three_blk h2 (.int .i64 b) (.int .i64 j) (.bool sh)
 have a2 : (((w6.setCell ⟨q, 0, none⟩ (.int .i64 b)).setCell ⟨q, 1, none⟩ (.int .i64 j)).setCell ⟨q, 2, none⟩ (.bool sh)).heap[p]? = some (.cells #[o0, o1] 26 (0, 0)) := by rw [set_other _ _ _ _ _ hpq, set_other _ _ _ _ _ hpq, set_other _ _ _ _ _ hpq]; exact h
 refine ⟨two_blk a2 _ _, by rw [set_other _ _ _ _ _ (fun e => hpq e.symm), set_other _ _ _ _ _ (fun e => hpq e.symm)]; exact a1, ?_⟩
 exact (((((KeptF.refl _ _).set' _ _ _ (.inr rfl)).set' _ _ _ (.inr rfl)).set' _ _ _ (.inr rfl)).set' _ _ _ (.inl rfl)).set' _ _ _ (.inl rfl)
def KeyDone (w : World) (wide key : Int) (t : Tr) (e : Ending) (w' : World) : Prop :=
 ∃ kv cv P, e = .returned (.tuple #[.agg #[kv, cv], .agg #[.int .i64 ((Tr.del (wide / 2) (t.weight + 1) key t).b : Int), .int .i64 ((Tr.del (wide / 2) (t.weight + 1) key t).j : Int), .bool (Tr.delShrinks wide key t)]]) ∧
   TreeO w' w.heap.size P kv cv (Tr.delT wide key t) ∧ Below w.heap.size w w'
theorem keyEnd {w w3 w4 W : World} {P : Blocks} {p q : Nat} {kv cv : Value} {b j : Int} {sh : Bool} {T : Tr} {lo : Nat} (hB : Boxed w4 W p q kv cv b j sh) (ht : TreeO w4 lo P kv cv T) (hlo : w.heap.size + 3 ≤ lo) (hp : p = w.heap.size + 1) (hq : q = w.heap.size + 2) (hb : Below w.heap.size w w4) :
   TreeO W w.heap.size P kv cv T ∧ Below w.heap.size w W := by
 have hk := hB.kept
 refine ⟨(ht.same (w' := W) hk.size (fun q e => hk.block q (ht.lt q e).2 (fun o h => by have := (ht.lt q e).1; omega))).lower (by omega), ?_⟩
 exact hb.trans (hk.below (by have := hb.size; omega) (fun x o h => by omega))
set_option maxRecDepth 100000 in
set_option maxHeartbeats 4000000 in
theorem l4Key_c {w : World} {B : Nat} {kv cv : Value} {t : Tr} (ht : TreeIn w B kv cv t) (wide key : Int) (hwide : 2 ≤ wide ∧ wide ≤ 6) (hsm : t.weight ≤ 10000) (hl : Tr.Lacks key t) (w' : World) (hbw : Below B w w') (hB : B ≤ w'.heap.size) :
   Calls Try.prog 58 #[.agg #[kv, cv], .int .i64 wide, .int .i64 key] w' (KeyDone w' wide key t) := by
 obtain ⟨a5, n5, m5, a6, n6, m6, rfl, rfl⟩ := ht.slices
 obtain ⟨W1, hW1⟩ : ∃ W1, W1 = ((w'.alloc (.cells #[.slice a5 n5 m5, .slice a6 n6 m6] 26)).alloc (.cells #[.slice none 0 0, .slice none 0 0] 26)).alloc (.cells #[.int .i64 0, .int .i64 0, .bool false] 52) := ⟨_, rfl⟩
 have hs1 : W1.heap.size = w'.heap.size + 3 := by rw [hW1]; simp
 have hb1 : Below w'.heap.size w' W1 := by rw [hW1]; exact (((Below.refl _ _).alloc (Nat.le_refl _) _).alloc (by simp) _).alloc (by simp <;> omega) _
 have k0 : W1.heap[w'.heap.size]? = some (.cells #[.slice a5 n5 m5, .slice a6 n6 m6] 26 (0, 0)) := by rw [hW1, old_blk _ _ _ (by simp <;> omega), old_blk _ _ _ (by simp), new_blk]
 have kb : W1.heap[w'.heap.size + 1]? = some (.cells #[.slice none 0 0, .slice none 0 0] 26 (0, 0)) := by
   rw [hW1, old_blk _ _ _ (by simp <;> omega), show w'.heap.size + 1 = (w'.alloc (.cells #[.slice a5 n5 m5, .slice a6 n6 m6] 26)).heap.size by simp, new_blk]
 have kr : W1.heap[w'.heap.size + 2]? = some (.cells #[.int .i64 0, .int .i64 0, .bool false] 52 (0, 0)) := by
   rw [hW1, show w'.heap.size + 2 = ((w'.alloc (.cells #[.slice a5 n5 m5, .slice a6 n6 m6] 26)).alloc (.cells #[.slice none 0 0, .slice none 0 0] 26)).heap.size by simp, new_blk]
 obtain ⟨x1, x2, x3, x4⟩ := box2 k0
 have hcopy := copy_c ht (by omega) W1 (hbw.trans (hb1.mono hB)) (by omega)
 obtain ⟨D, hD⟩ : ∃ D, D = Tr.del (wide / 2) (t.weight + 1) key t := ⟨_, rfl⟩
 have hDw : D.t.weight ≤ 60010 := by rw [hD]; have := Tr.del_weight (wide / 2) (t.weight + 1) key t; omega
 have hDs : Tr.Shaped D.t := by
   rw [hD]
   obtain ⟨a, d⟩ := t
   exact (Tr.del_less _ key a d hl).1
 have HCP := Lib.hid hcopy
 have HW1 := Lib.hid hW1
 have HL := Lib.hid hl
 have HD := Lib.hid (And.intro hD (And.intro hDw hDs))
 have H1 := Lib.hid (And.intro hb1 (And.intro kb (And.intro kr hs1)))
 clear ht hbw hW1 hb1 k0 kb kr hcopy hl hD hDw hDs
 go_enter Try.func58, Try.ntmps58
 go_upto_region 1 with (fail)
 rw [← HW1.out]
 go_wp2_with fail
 refine HCP.out.mono ?_
 rintro e w2 ⟨k2, c2, P2, rfl, ht2, hb2⟩
 obtain ⟨p1, p2, p3, p4, p5, p6, rfl, rfl⟩ := ht2.tree.slices
 have hs2 := hb2.size
 have hcall := l4Delete_c wide hwide (t.weight + 1) key t (by omega) (by omega) HL.out w2 _ _ _ 0 0 false (Td.of_o ht2) (by omega) (by omega)
 rw [← HD.out.1, Nat.zero_add, Nat.zero_add] at hcall
 have HC := Lib.hid hcall
 have H2 := Lib.hid (And.intro (fun x => (ht2.lt x)) hb2)
 clear hcall ht2 hb2 x1 x2 x3 x4
 go_wp2_with fail
 refine HC.out.mono ?_
 rintro e w3 ⟨k3, c3, F3, rfl, ht3, hF3, hk3⟩
 obtain ⟨e1, e2, e3, e4, e5, e6, rfl, rfl⟩ := ht3.slices
 dsimp only at ht3 ⊢
 have hs3 := hk3.size
 obtain ⟨T, hT⟩ : ∃ T, T = D.t := ⟨_, rfl⟩
 obtain ⟨DB, hDB⟩ : ∃ DB, DB = D.b := ⟨_, rfl⟩
 obtain ⟨DJ, hDJ⟩ : ∃ DJ, DJ = D.j := ⟨_, rfl⟩
 rw [← hT] at ht3
 rw [← hDB, ← hDJ]
 obtain ⟨tk, tc⟩ := T
 have hb3 : Below w'.heap.size w' w3 := (H1.out.1.trans (H2.out.2.mono (by omega))).trans (hk3.below (by omega) (fun x o h => by have := (H2.out.1 x h).1; omega))
 have hb31 : Below W1.heap.size W1 w3 := H2.out.2.trans (hk3.below hs2 (fun x o h => (H2.out.1 x h).1))
 obtain ⟨kids, Fk, Fc, hkm, hkr, hcr, hkids, sk, sc, ss, ap, hlt⟩ := ht3.parts
 have hkvl : ∃ a c, (Value.slice e1 e2 e3) = .slice a tk.length c := by
   obtain ⟨a, c, e⟩ := hkr.shown; exact ⟨a, c, by rw [e, List.length_map]⟩
 have hcvl : ∃ a c, (Value.slice e4 e5 e6) = .slice a tc.length c := by
   obtain ⟨_, a, c, e, _⟩ := hcr; exact ⟨a, c, by rw [e, List.length_map, hkm, List.length_map]⟩
 obtain ⟨_, _, he2⟩ := hkvl
 obtain ⟨_, _, he5⟩ := hcvl
 simp only [Value.slice.injEq] at he2 he5
 obtain ⟨-, rfl, -⟩ := he2
 obtain ⟨-, rfl, -⟩ := he5
 obtain ⟨W4, hW4⟩ : ∃ W4, W4 = (w3.alloc (.cells #[.slice e1 tk.length e3, .slice e4 tc.length e6] 26)).alloc (.cells #[.int .i64 (DB : Int), .int .i64 (DJ : Int), .bool false] 52) := ⟨_, rfl⟩
 have hs4 : W4.heap.size = w3.heap.size + 2 := by rw [hW4]; simp
 have hb4 : Below w3.heap.size w3 W4 := by rw [hW4]; exact ((Below.refl _ _).alloc (Nat.le_refl _) _).alloc (by simp) _
 have b8 : W4.heap[w3.heap.size]? = some (.cells #[.slice e1 tk.length e3, .slice e4 tc.length e6] 26 (0, 0)) := by rw [hW4, old_blk _ _ _ (by simp), new_blk]
 have b9 : W4.heap[w3.heap.size + 1]? = some (.cells #[.int .i64 (DB : Int), .int .i64 (DJ : Int), .bool false] 52 (0, 0)) := by
   rw [hW4, show w3.heap.size + 1 = (w3.alloc (.cells #[.slice e1 tk.length e3, .slice e4 tc.length e6] 26)).heap.size by simp, new_blk]
 have b6 := (hb4.block _ (by omega)).trans ((hb31.block (w'.heap.size + 1) (by omega)).trans H1.out.2.1)
 have b7 := (hb4.block _ (by omega)).trans ((hb31.block (w'.heap.size + 2) (by omega)).trans H1.out.2.2.1)
 have htd4 := ht3.keep (KeptF.of_below (F := fun _ _ => False) hb4 (Nat.le_refl _)) (fun _ _ _ e => e)
 have H4 := Lib.hid (And.intro (hb3.trans (hb4.mono (by omega))) (And.intro b6 (And.intro b7 (And.intro b8 (And.intro b9 (And.intro htd4 ht3.lt))))))
 have HT := Lib.hid (And.intro hT (And.intro hDB hDJ))
 have HW4 := Lib.hid hW4
 have hs4' : w'.heap.size + 3 ≤ w3.heap.size := by omega
 have hws : W4.heap.size = w3.heap.size + 2 := hs4
 clear hk3 hF3 hT hDB hDJ hb3 hb31 hkm hkr hcr hkids sk sc ss ap hlt hW4 hb4 htd4 hs4 ht3
 obtain ⟨x1, x2, x3, x4⟩ := box2 b8
 obtain ⟨y1, y2, y3, y4, y5, y6⟩ := box3 b9
 obtain ⟨g1, g2, g3, g4⟩ := box2 b6
 obtain ⟨h1, h2, h3, h4, h5, h6⟩ := box3 b7
 clear b6 b7 b8 b9
 go_upto_region 2 with (fail)
 rw [← HW4.out]
 by_cases hroot : tk.length = 0 ∧ tc.length ≠ 0
 · obtain ⟨hr1, hr2⟩ := hroot
   have hc1 : tc.length = 1 := by
     have h := HD.out.2.2
     rw [← HT.out.1] at h
     rcases h with h | h
     · exact absurd h hr2
     · have e1 : (Tr.mk tk tc).cs.length = tc.length := rfl
       have e2 : (Tr.mk tk tc).ks.length = tk.length := rfl
       omega
   obtain rfl : tk = [] := List.eq_nil_of_length_eq_zero hr1
   obtain ⟨u, rfl⟩ : ∃ u, tc = [u] := List.length_eq_one_iff.1 hc1
   obtain ⟨kids, Fk, Fc, hkm, hkr, hcr, hkids, sk, sc, ss, ap, hlt⟩ := H4.out.2.2.2.2.2.1.parts
   obtain ⟨z, rfl⟩ : ∃ z, kids = [z] := by
     have := congrArg List.length hkm
     rw [List.length_map] at this
     exact List.length_eq_one_iff.1 this.symm
   have hu : u = z.t := by simpa using hkm
   subst hu
   obtain ⟨za, zn, zc, za', zn', zc', hz1, hz2⟩ := (hkids z (by simp)).slices
   obtain ⟨cb, co, hcell1, hcell2, he4, hcb3⟩ : ∃ cb co, W4.cell? ⟨cb, co, none⟩ = some (.slice za zn zc) ∧ W4.cell? ⟨cb, co + 1, none⟩ = some (.slice za' zn' zc') ∧ e4 = some ⟨cb, co, none⟩ ∧ cb < w3.heap.size := by
     obtain ⟨_, a, cap, hv, q1, q2, q3, q4⟩ := hcr
     simp only [Value.slice.injEq] at hv
     rcases q4 with q4 | ⟨b, o, q5, q6, q7⟩
     · rw [q4] at q1; simp at q1
     · have h := q7 0 (by simp)
       simp only [List.map_cons, List.getElem_cons_zero, KidT.pair, Nat.zero_mul, Nat.add_zero, hz1, hz2] at h
       exact ⟨b, o, h.1, h.2, hv.1.trans q5, H4.out.2.2.2.2.2.2 b (o + 0) (sc b (o + 0) (q6 0 (by simp at q1; omega)).1)⟩
   subst he4
   have htz := hkids z (by simp)
   rw [hz1, hz2] at htz
   have hzlt : ∀ q o, z.F q o → q < w3.heap.size := fun q o e => H4.out.2.2.2.2.2.2 q o (ss z (by simp) q o e)
   simp only [List.length_nil, List.length_singleton] at x1 x2 hr2
   have hKc : Tr.delT wide key t = z.t := by
     unfold Tr.delT
     rw [← HD.out.1]
     dsimp only
     rw [← HT.out.1]
     simp [Tr.ks, Tr.cs, Tr.kidAt]
   have hSh : Tr.delShrinks wide key t = true := by
     unfold Tr.delShrinks
     rw [← HD.out.1]
     dsimp only
     rw [← HT.out.1]
     simp [Tr.ks, Tr.cs]
   have HE := Lib.hid (And.intro hKc hSh)
   have HTZ := Lib.hid htz
   clear hkm hkr hcr hkids sk sc ss ap hlt hz1 hz2 hKc hSh hr1 hr2 hc1 htz
   go_upto_region 4 with (fail)
   obtain ⟨W5, hW5⟩ : ∃ W5, W5 = W4.setCell ⟨w3.heap.size + 1, 2, none⟩ (.bool true) := ⟨_, rfl⟩
   rw [← hW5]
   have b95 : W5.heap[w3.heap.size + 1]? = some (.cells #[.int .i64 (DB : Int), .int .i64 (DJ : Int), .bool true] 52 (0, 0)) := by
     rw [hW5, set_blk (o := 2) _ H4.out.2.2.2.2.1]; simp
   have hk5 : KeptF (fun x o => x = w3.heap.size + 1) W4 W5 := by rw [hW5]; exact KeptF.setCell _ _ _ _ rfl
   have hs5 : W5.heap.size = w3.heap.size + 2 := by rw [hW5]; simp [hws]
   have b85 := hk5.block' H4.out.2.2.2.1 (fun o e => by omega)
   have b65 := hk5.block' H4.out.2.1 (fun o e => by omega)
   have b75 := hk5.block' H4.out.2.2.1 (fun o e => by omega)
   have htz5 := (HTZ.out.keep hk5 (fun q o e e2 => by have := hzlt q o e; omega)).keep (KeptF.drew (fun _ _ => False) W5) (fun _ _ _ e => e)
   obtain ⟨hc5, hc5'⟩ : W5.cell? ⟨cb, co, none⟩ = some (.slice za zn zc) ∧ W5.cell? ⟨cb, co + 1, none⟩ = some (.slice za' zn' zc') := by
     exact ⟨(hk5.cell _ _ (by omega) (fun e => by have e' : cb = w3.heap.size + 1 := e; omega)).trans hcell1, (hk5.cell _ _ (by omega) (fun e => by have e' : cb = w3.heap.size + 1 := e; omega)).trans hcell2⟩
   have hcp := copy_c htz5.tree (by have h := HD.out.2.1; rw [← HT.out.1] at h; simp only [Tr.weight, Tr.weights] at h; omega) W5.drew (Below.refl _ _) (Nat.le_refl _)
   have HCP5 := Lib.hid hcp
   have hb5 : Below w'.heap.size w' W5 := H4.out.1.trans (hk5.below (by have := H4.out.1.size; omega) (fun x o e => by omega))
   have H5 := Lib.hid (And.intro hb5 (And.intro b65 (And.intro b75 hs5)))
   clear x1 x2 x3 x4 y1 y2 y3 y4 y5 y6 g1 g2 g3 g4 h1 h2 h3 h4 h5 h6 hcell1 hcell2
   obtain ⟨x1, x2, x3, x4⟩ := box2 b85
   obtain ⟨y1, y2, y3, y4, y5, y6⟩ := box3 b95
   simp only [List.length_singleton, List.length_nil] at x1 x2
   have b95' : W5.drew.heap[w3.heap.size + 1]? = some (.cells #[.int .i64 (DB : Int), .int .i64 (DJ : Int), .bool true] 52 (0, 0)) := b95
   clear hcp hb5 b85 b95 b65 b75 hk5 htz5 hW5 hs5
   go_region_law
     (first
       | (go_simp; go_at_call 100; refine HCP5.out.mono ?_; rintro e w6 ⟨kv6, cv6, P6, rfl, ht6, hb6⟩; obtain ⟨e1, e2, e3, e4, e5, e6, rfl, rfl⟩ := ht6.tree.slices; have hd6 : W5.drew.heap.size = W5.heap.size := rfl; have c6 := (hb6.block (w'.heap.size + 1) (by have := H5.out.2.2.2; omega)).trans H5.out.2.1; have c7 := (hb6.block (w'.heap.size + 2) (by have := H5.out.2.2.2; omega)).trans H5.out.2.2.1; have c9 := (hb6.block (w3.heap.size + 1) (by have := H5.out.2.2.2; omega)).trans b95'; obtain ⟨f1, f2, f3, f4, f5, f6⟩ := box3 c9; obtain ⟨g1, g2, g3, g4⟩ := box2 c6; obtain ⟨h1, h2, h3, h4, h5, h6⟩ := box3 c7; have H6 := Lib.hid (And.intro ht6 (And.intro hb6 (And.intro c6 c7))); clear ht6 hb6 c6 c7 c9 hd6)
       | fail)
   all_goals (
     go_wp2_with fail
     clear x1 x2 x3 x4 y1 y2 y3 y4 y5 y6 f1 f2 f3 f4 f5 f6 g1 g2 g3 g4 h1 h2 h3 h4 h5 h6
     generalize hW : World.setCell _ _ _ = W8
     have he : Boxed w6 W8 (w'.heap.size + 1) (w'.heap.size + 2) (.slice e1 e2 e3) (.slice e4 e5 e6) (DB : Int) (DJ : Int) true := by
       rw [← hW]
       first
         | exact boxed4 (by omega) H6.out.2.2.1 H6.out.2.2.2
         | exact boxed7 (by omega) H6.out.2.2.1 H6.out.2.2.2
     obtain ⟨q1, q2, q3, q4⟩ := box2 he.bp
     obtain ⟨m1, m2, m3, m4, m5, m6⟩ := box3 he.bq
     have HK := Lib.hid he
     clear he hW
     refine bodyPost_ret (v := .tuple #[.agg #[.slice e1 e2 e3, .slice e4 e5 e6], .agg #[.int .i64 (DB : Int), .int .i64 (DJ : Int), .bool true]]) (by simp [results, Try.results58, go_sem, q1, q2, m1, m2, m3]) rfl ?_
     have hdz : W5.drew.heap.size = w3.heap.size + 2 := H5.out.2.2.2
     obtain ⟨z1, z2⟩ := keyEnd (w3 := w3) HK.out H6.out.1 (by omega) rfl rfl (H5.out.1.drew.trans (H6.out.2.1.mono (by omega)))
     refine ⟨_, _, P6, ?_, by rw [HE.out.1]; exact z1, z2⟩
     rw [HE.out.2, ← HD.out.1, ← HT.out.2.1, ← HT.out.2.2])
 · have hdt : Tr.delT wide key t = .mk tk tc := by
     unfold Tr.delT
     rw [← HD.out.1]
     dsimp only
     rw [← HT.out.1]
     exact if_neg hroot
   have hSh : Tr.delShrinks wide key t = false := by
     unfold Tr.delShrinks
     rw [← HD.out.1]
     dsimp only
     rw [← HT.out.1]
     exact decide_eq_false hroot
   have HE := Lib.hid (And.intro hdt hSh)
   have hcp := copy_c (H4.out.2.2.2.2.2.1.keep (KeptF.drew (fun _ _ => False) W4) (fun _ _ _ e => e)).tree (by have h := HD.out.2.1; rw [← HT.out.1] at h; omega) W4.drew (Below.refl _ _) (Nat.le_refl _)
   have HCP5 := Lib.hid hcp
   have HR := Lib.hid hroot
   clear hcp hdt hSh hroot
   by_cases hk0 : tk.length = 0
   · have hc0 : ¬ tc.length = 1 := fun h => HR.out ⟨hk0, fun h2 => by omega⟩
     have hk0' : ((tk.length : Int) == 0) = true := by simp [hk0]
     have hc0' : ((tc.length : Int) == 1) = false := beq_eq_false_iff_ne.2 (by omega)
     have HK0 := Lib.hid hk0
     clear hk0
     go_upto_region 5 with (fail)
     go_region_law
       (first
         | (go_simp; go_at_call 100; refine HCP5.out.mono ?_; rintro e w6 ⟨kv6, cv6, P6, rfl, ht6, hb6⟩; obtain ⟨e1', e2', e3', e4', e5', e6', rfl, rfl⟩ := ht6.tree.slices; have hd6 : W4.drew.heap.size = W4.heap.size := rfl; have c6 := (hb6.block (w'.heap.size + 1) (by omega)).trans H4.out.2.1; have c7 := (hb6.block (w'.heap.size + 2) (by omega)).trans H4.out.2.2.1; have c9 := (hb6.block (w3.heap.size + 1) (by omega)).trans H4.out.2.2.2.2.1; obtain ⟨f1, f2, f3, f4, f5, f6⟩ := box3 c9; obtain ⟨g1, g2, g3, g4⟩ := box2 c6; obtain ⟨h1, h2, h3, h4, h5, h6⟩ := box3 c7; have H6 := Lib.hid (And.intro ht6 (And.intro hb6 (And.intro c6 c7))); clear ht6 hb6 c6 c7 c9 hd6)
         | fail)
     all_goals (
       go_wp2_with fail
       clear x1 x2 x3 x4 y1 y2 y3 y4 y5 y6 f1 f2 f3 f4 f5 f6 g1 g2 g3 g4 h1 h2 h3 h4 h5 h6
       generalize hW : World.setCell _ _ _ = W8
       have he : Boxed w6 W8 (w'.heap.size + 1) (w'.heap.size + 2) (.slice e1' e2' e3') (.slice e4' e5' e6') (DB : Int) (DJ : Int) false := by
         rw [← hW]
         first
           | exact boxed4 (by omega) H6.out.2.2.1 H6.out.2.2.2
           | exact boxed7 (by omega) H6.out.2.2.1 H6.out.2.2.2
       obtain ⟨q1, q2, q3, q4⟩ := box2 he.bp
       obtain ⟨m1, m2, m3, m4, m5, m6⟩ := box3 he.bq
       have HK := Lib.hid he
       clear he hW
       refine bodyPost_ret (v := .tuple #[.agg #[.slice e1' e2' e3', .slice e4' e5' e6'], .agg #[.int .i64 (DB : Int), .int .i64 (DJ : Int), .bool false]]) (by simp [results, Try.results58, go_sem, q1, q2, m1, m2, m3]) rfl ?_
       have hdz : W4.drew.heap.size = w3.heap.size + 2 := hws
       obtain ⟨z1, z2⟩ := keyEnd (w3 := w3) HK.out H6.out.1 (by omega) rfl rfl (H4.out.1.drew.trans (H6.out.2.1.mono (by omega)))
       refine ⟨_, _, P6, ?_, by rw [HE.out.1]; exact z1, z2⟩
       rw [HE.out.2, ← HD.out.1, ← HT.out.2.1, ← HT.out.2.2])
   · have hk0' : ((tk.length : Int) == 0) = false := beq_eq_false_iff_ne.2 (by omega)
     have HK0 := Lib.hid hk0
     go_upto_region 5 with (fail)
     go_region_law
       (first
         | (go_simp; go_at_call 100; refine HCP5.out.mono ?_; rintro e w6 ⟨kv6, cv6, P6, rfl, ht6, hb6⟩; obtain ⟨e1', e2', e3', e4', e5', e6', rfl, rfl⟩ := ht6.tree.slices; have hd6 : W4.drew.heap.size = W4.heap.size := rfl; have c6 := (hb6.block (w'.heap.size + 1) (by omega)).trans H4.out.2.1; have c7 := (hb6.block (w'.heap.size + 2) (by omega)).trans H4.out.2.2.1; have c9 := (hb6.block (w3.heap.size + 1) (by omega)).trans H4.out.2.2.2.2.1; obtain ⟨f1, f2, f3, f4, f5, f6⟩ := box3 c9; obtain ⟨g1, g2, g3, g4⟩ := box2 c6; obtain ⟨h1, h2, h3, h4, h5, h6⟩ := box3 c7; have H6 := Lib.hid (And.intro ht6 (And.intro hb6 (And.intro c6 c7))); clear ht6 hb6 c6 c7 c9 hd6)
         | fail)
     all_goals (
       go_wp2_with fail
       clear x1 x2 x3 x4 y1 y2 y3 y4 y5 y6 f1 f2 f3 f4 f5 f6 g1 g2 g3 g4 h1 h2 h3 h4 h5 h6
       generalize hW : World.setCell _ _ _ = W8
       have he : Boxed w6 W8 (w'.heap.size + 1) (w'.heap.size + 2) (.slice e1' e2' e3') (.slice e4' e5' e6') (DB : Int) (DJ : Int) false := by
         rw [← hW]
         first
           | exact boxed4 (by omega) H6.out.2.2.1 H6.out.2.2.2
           | exact boxed7 (by omega) H6.out.2.2.1 H6.out.2.2.2
       obtain ⟨q1, q2, q3, q4⟩ := box2 he.bp
       obtain ⟨m1, m2, m3, m4, m5, m6⟩ := box3 he.bq
       have HK := Lib.hid he
       clear he hW
       refine bodyPost_ret (v := .tuple #[.agg #[.slice e1' e2' e3', .slice e4' e5' e6'], .agg #[.int .i64 (DB : Int), .int .i64 (DJ : Int), .bool false]]) (by simp [results, Try.results58, go_sem, q1, q2, m1, m2, m3]) rfl ?_
       have hdz : W4.drew.heap.size = w3.heap.size + 2 := hws
       obtain ⟨z1, z2⟩ := keyEnd (w3 := w3) HK.out H6.out.1 (by omega) rfl rfl (H4.out.1.drew.trans (H6.out.2.1.mono (by omega)))
       refine ⟨_, _, P6, ?_, by rw [HE.out.1]; exact z1, z2⟩
       rw [HE.out.2, ← HD.out.1, ← HT.out.2.1, ← HT.out.2.2])
end Go.Proofs.Ytananonjomfpkaa
