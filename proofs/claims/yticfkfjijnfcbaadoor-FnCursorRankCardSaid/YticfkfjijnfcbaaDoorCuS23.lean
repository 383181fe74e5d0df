/- The model draws a tree and a cursor (under way: up to the first drawn region). -/
import Derived.Test.YticfkfjijnfcbaaDoorCuS7
import Derived.Test.YticfkfjijnfcbaaDoorCu18
namespace Go.Proofs.YticfkfjijnfcbaaDoor
open Go.RowKit
def CurDrawn (w : World) (r : Nat) (e : Ending) (w' : World) : Prop :=
 ∃ (kv cv : Value) (t : Tr) (v : Value) (P : List Int) (A : Int), e = .returned (.tuple #[.agg #[kv, cv], .agg #[v, .int .i64 A]]) ∧ TreeQ w' (fun k => w.heap.size ≤ k ∧ k < w'.heap.size) kv cv t ∧ t.weight ≤ 400000 ∧ IntsOwn w' w.heap.size v P ∧ Only w.heap.size r w w'
def J4c (r S0 : Nat) (tv : Value) (j : Nat) (v : Value) (W : World) : Prop :=
 match j with
 | 0 => v = tv
 | 1 => ∃ g, v = .slice (some ⟨g, 0, none⟩) 0 0 ∧ IntsOwn W S0 v []
 | 2 => v = .pointer (some ⟨r, 0, none⟩)
 | 3 => ∃ g, v = .slice (some ⟨g, 0, none⟩) 4 4 ∧ W.heap[g]? = some (.cells #[.int .i64 0, .int .i64 1, .int .i64 (-1), .int .i64 9] 3 (0, 0)) ∧ S0 ≤ g
 | 4 => ∃ x, v = .int .i64 x
 | 5 => ∃ g y, v = .slice (some ⟨g, 0, none⟩) 1 1 ∧ W.heap[g]? = some (.cells #[.int .i64 y] 3 (0, 0)) ∧ S0 ≤ g
 | 6 => ∃ y, IntsOwn W S0 v [y]
 | 7 => v = .pointer (some ⟨r, 0, none⟩)
 | 8 => ∃ g, v = .slice (some ⟨g, 0, none⟩) 4 4 ∧ W.heap[g]? = some (.cells #[.int .i64 0, .int .i64 1, .int .i64 (-1), .int .i64 2] 3 (0, 0)) ∧ S0 ≤ g
 | 9 => ∃ x, v = .int .i64 x
 | 10 => ∃ pv y A, v = .agg #[pv, .int .i64 A] ∧ IntsOwn W S0 pv [y]
 | _ => True
theorem own_kept {r x S0 : Nat} {W W' : World} {v : Value} {ks : List Int} (hr : r < S0) (hx : x < S0) (h : IntsOwn W S0 v ks) (hb : KeptBut r x W W') : IntsOwn W' S0 v ks := by
 obtain ⟨h1, h2 | ⟨g, cap, cur, hv, hbb, hg, hrr⟩⟩ := h
 · exact ⟨h1, .inl h2⟩
 · exact ⟨h1, .inr ⟨g, cap, cur, hv, hbb, (hb.block g (Array.getElem?_eq_some_iff.1 hg).1 (by omega) (by omega)).trans hg, hrr⟩⟩
theorem J4c_mono {r x S0 : Nat} {tv : Value} (hr : r < S0) (hx : x < S0) (j : Nat) (v : Value) (W W' : World) (h : J4c r S0 tv j v W) (hb : KeptBut r x W W') : J4c r S0 tv j v W' := by
 unfold J4c at h ⊢
 split at h
 all_goals first
   | exact h
   | (obtain ⟨g, h1, h2, h3⟩ := h; exact ⟨g, h1, (hb.block _ (Array.getElem?_eq_some_iff.1 h2).1 (by omega) (by omega)).trans h2, h3⟩)
   | (obtain ⟨g, y, h1, h2, h3⟩ := h; exact ⟨g, y, h1, (hb.block _ (Array.getElem?_eq_some_iff.1 h2).1 (by omega) (by omega)).trans h2, h3⟩)
   | (obtain ⟨g, h1, h2⟩ := h; exact ⟨g, h1, own_kept hr hx h2 hb⟩)
   | (obtain ⟨y, h1⟩ := h; exact ⟨y, own_kept hr hx h1 hb⟩)
   | (obtain ⟨pv, y, A, h1, h2⟩ := h; exact ⟨pv, y, A, h1, own_kept hr hx h2 hb⟩)
   | trivial
def G4c (r x : Nat) (bs : List Nat) (q : Nat) (kv cv : Value) (f : Nat → Bool) (W : World) : Prop :=
 (∃ q', Rd W r r bs q' ∧ q' ≤ q + (if f 4 then 1 else 0) + (if f 9 then 1 else 0)) ∧
 (f 11 = false → W.heap[x]? = some (.cells #[.slice none 0 0, .slice none 0 0] 33 (0, 0))) ∧ (f 11 = true → W.heap[x]? = some (.cells #[kv, cv] 33 (0, 0)))
theorem only_drew' {C r : Nat} {a b : World} (h : Only C r a b) : Only C r a b.drew := ⟨h.os, h.tape, h.output, h.size, h.block⟩
theorem only_al' {r : Nat} {a b : World} (h : Only a.heap.size r a b) (o : Obj) : Only a.heap.size r a (b.alloc o) :=
 h.trans ((below_only ((Below.refl b.heap.size b).alloc (Nat.le_refl _) o)).mono h.size)
theorem only_st' {r : Nat} {a b : World} (h : Only a.heap.size r a b) {g o : Nat} (hp : a.heap.size ≤ g) (v : Value) : Only a.heap.size r a (b.setCell ⟨g, o, none⟩ v) :=
 ⟨h.os, h.tape, h.output, by have := h.size; simp; omega, fun k h1 h2 => by rw [set_other _ _ _ _ _ (by omega)]; exact h.block k h1 h2⟩
theorem own_else8 {w w' : World} {lo : Nat} {v : Value} {ks : List Int} (h : IntsOwn w lo v ks) (hb : ∀ k, some k = v.ownBlock → w'.heap[k]? = w.heap[k]?) : IntsOwn w' lo v ks := by
 obtain ⟨h1, h2 | ⟨g, cap, cur, hv, hbb, hg, hr⟩⟩ := h
 · exact ⟨h1, .inl h2⟩
 · exact ⟨h1, .inr ⟨g, cap, cur, hv, hbb, (hb g (by rw [hv]; rfl)).trans hg, hr⟩⟩
theorem row3 (w : World) (a b c : Int) (i : Nat) (hi : i < ([a, b, c] : List Int).length) : (w.alloc (.cells #[.int .i64 a, .int .i64 b, .int .i64 c] 3)).cell? ⟨w.heap.size, i, none⟩ = some (.int .i64 (([a, b, c] : List Int).getD i 0)) := by
 have hi3 : i < 3 := by simpa using hi
 refine cell_in (new_blk w _) ?_
 rcases i with _ | _ | _ | i
 · rfl
 · rfl
 · rfl
 · omega
theorem keep8 {z : World} {p g b o : Nat} {v v1 v2 v3 v4 : Value} (h : z.cell? ⟨p, 0, none⟩ = some v1 ∧ z.cell? ⟨p, 1, none⟩ = some v2 ∧ z.cell? ⟨g, 0, none⟩ = some v3 ∧ z.cell? ⟨g, 1, none⟩ = some v4) (h1 : b ≠ p) (h2 : b ≠ g) :
   (z.setCell ⟨b, o, none⟩ v).cell? ⟨p, 0, none⟩ = some v1 ∧ (z.setCell ⟨b, o, none⟩ v).cell? ⟨p, 1, none⟩ = some v2 ∧ (z.setCell ⟨b, o, none⟩ v).cell? ⟨g, 0, none⟩ = some v3 ∧ (z.setCell ⟨b, o, none⟩ v).cell? ⟨g, 1, none⟩ = some v4 :=
 ⟨(World.cell?_of_block (w := z) (a := ⟨p, 0, none⟩) (set_other _ _ _ _ _ (Ne.symm h1))).trans h.1, (World.cell?_of_block (w := z) (a := ⟨p, 1, none⟩) (set_other _ _ _ _ _ (Ne.symm h1))).trans h.2.1, (World.cell?_of_block (w := z) (a := ⟨g, 0, none⟩) (set_other _ _ _ _ _ (Ne.symm h2))).trans h.2.2.1, (World.cell?_of_block (w := z) (a := ⟨g, 1, none⟩) (set_other _ _ _ _ _ (Ne.symm h2))).trans h.2.2.2⟩
theorem keep8d {z : World} {p g : Nat} {v1 v2 v3 v4 : Value} (h : z.cell? ⟨p, 0, none⟩ = some v1 ∧ z.cell? ⟨p, 1, none⟩ = some v2 ∧ z.cell? ⟨g, 0, none⟩ = some v3 ∧ z.cell? ⟨g, 1, none⟩ = some v4) :
   z.drew.cell? ⟨p, 0, none⟩ = some v1 ∧ z.drew.cell? ⟨p, 1, none⟩ = some v2 ∧ z.drew.cell? ⟨g, 0, none⟩ = some v3 ∧ z.drew.cell? ⟨g, 1, none⟩ = some v4 := h
theorem rd_al' {w : World} {B r p : Nat} {bs : List Nat} (h : Rd w B r bs p) (o : Obj) : Rd (w.alloc o) B r bs p := rd_later' h ((Below.refl _ _).alloc (Nat.le_refl _) o)
set_option maxHeartbeats 4000000 in
set_option maxRecDepth 100000 in
theorem l8Draw_c (w : World) (r : Nat) (bs : List Nat) (p : Nat) (h : Rd w r r bs p) (hp : p ≤ 100) :
   Calls Tryd.prog 83 #[.pointer (some ⟨r, 0, none⟩)] w (CurDrawn w r) := by
 have hrl := h.lt
 obtain ⟨W1, hW1⟩ : ∃ W1, W1 = (w.alloc (.cells #[.slice none 0 0, .slice none 0 0] 33)).alloc (.cells #[.slice none 0 0, .int .i64 0] 28) := ⟨_, rfl⟩
 have hs1 : W1.heap.size = w.heap.size + 2 := by rw [hW1]; simp
 have hb1 : Below w.heap.size w W1 := by rw [hW1]; exact ((Below.refl _ _).alloc (Nat.le_refl _) _).alloc (by simp) _
 have hk1 : W1.heap[w.heap.size]? = some (.cells #[.slice none 0 0, .slice none 0 0] 33 (0, 0)) := by rw [hW1, old_blk _ _ _ (by simp), new_blk]
 have hc1 : W1.heap[w.heap.size + 1]? = some (.cells #[.slice none 0 0, .int .i64 0] 28 (0, 0)) := by
   rw [hW1, show w.heap.size + 1 = (w.alloc (.cells #[.slice none 0 0, .slice none 0 0] 33)).heap.size by simp, new_blk]
 have HS := Lib.hid (some_c W1 _ _ bs p (h.later hb1 hrl) (by omega))
 have HW1 := Lib.hid hW1
 have H1 := Lib.hid (And.intro hb1 (And.intro hk1 hc1))
 clear hW1 hb1 hk1 hc1 h
 go_enter Tryd.func83, Tryd.ntmps83
 go_wp2_with fail
 rw [← HW1.out]
 refine HS.out.mono ?_
 rintro e w3 ⟨k3, c3, t, wide, q, rfl, _, _, ht3, hw3, hr3, hq3, ho3⟩
 obtain ⟨b1, b2, b3, b4, b5, b6, rfl, rfl⟩ := ht3.slices
 have hs3 := ho3.size
 obtain ⟨W4, hW4⟩ : ∃ W4, W4 = w3.alloc (.cells #[.slice b1 b2 b3, .slice b4 b5 b6] 33) := ⟨_, rfl⟩
 have hs4 : W4.heap.size = w3.heap.size + 1 := by rw [hW4]; simp
 have hb4 : Below w3.heap.size w3 W4 := by rw [hW4]; exact (Below.refl _ _).alloc (Nat.le_refl _) _
 have hx4 : W4.heap[w3.heap.size]? = some (.cells #[.slice b1 b2 b3, .slice b4 b5 b6] 33 (0, 0)) := by rw [hW4, new_blk]
 have ht4 : TreeQ W4 (fun k => W1.heap.size ≤ k ∧ k < w3.heap.size) (.slice b1 b2 b3) (.slice b4 b5 b6) t := ht3.same (fun k hk => hb4.block k hk.2) (fun k hk => hk)
 have hk4 := (hb4.block w.heap.size (by omega)).trans ((ho3.block w.heap.size (by omega) (by omega)).trans H1.out.2.1)
 have hc4 := (hb4.block (w.heap.size + 1) (by omega)).trans ((ho3.block (w.heap.size + 1) (by omega) (by omega)).trans H1.out.2.2)
 have hr4 := hr3.later hb4 (by omega)
 have hbt : Only w.heap.size r w W4 := (below_only H1.out.1).trans ((ho3.mono (by omega)).trans (below_only (hb4.mono (by omega))))
 have hrt4 : TreeIn W4 W4.heap.size (.slice b1 b2 b3) (.slice b4 b5 b6) t := (ht4.same (Q := fun k => k < W4.heap.size) (fun k hk => rfl) (fun k hk => by omega)).tree (fun k hk => hk)
 have HKS := Lib.hid (specKeys_c hrt4 (by omega) W4 (Below.refl _ _) (Nat.le_refl _))
 obtain ⟨x1, x2, x3, x4⟩ := box2 hx4
 rw [hW4] at x1 x2 x3 x4
 have HW4 := Lib.hid hW4
 have H4 := Lib.hid (And.intro ht4 (And.intro hx4 (And.intro hk4 (And.intro hc4 (And.intro hr4 hbt)))))
 clear ht3 hr3 ho3 hW4 hb4 hx4 ht4 hk4 hc4 hr4 hbt hrt4
 go_wp2_with fail
 rw [← HW4.out]
 refine HKS.out.mono ?_
 rintro e w5 ⟨v5, rfl, ho5, hb5⟩
 obtain ⟨va5, vc5, rfl⟩ := IntsOwn.shown ho5
 have hs5 := hb5.size
 obtain ⟨K, hK⟩ : ∃ K, K = t.keys := ⟨_, rfl⟩
 have hkl : K.length ≤ 400000 := by have := Tr.keys_length_le t; rw [hK]; omega
 rw [← hK] at ho5
 have hrl5 := H4.out.2.2.2.2.1.lt
 have H5 : Hid (TreeQ w5 (fun k => W1.heap.size ≤ k ∧ k < w3.heap.size) (.slice b1 b2 b3) (.slice b4 b5 b6) t ∧ w5.heap[w3.heap.size]? = some (.cells #[.slice b1 b2 b3, .slice b4 b5 b6] 33 (0, 0)) ∧ w5.heap[w.heap.size]? = some (.cells #[.slice none 0 0, .slice none 0 0] 33 (0, 0)) ∧
     w5.heap[w.heap.size + 1]? = some (.cells #[.slice none 0 0, .int .i64 0] 28 (0, 0)) ∧ Rd w5 r r bs q ∧ Only w.heap.size r w w5 ∧ IntsOwn w5 W4.heap.size (.slice va5 K.length vc5) K) :=
   Lib.hid ⟨H4.out.1.same (fun k hk => hb5.block k (by omega)) (fun k hk => hk), (hb5.block _ (by omega)).trans H4.out.2.1, (hb5.block _ (by omega)).trans H4.out.2.2.1, (hb5.block _ (by omega)).trans H4.out.2.2.2.1, H4.out.2.2.2.2.1.later hb5 (by omega), H4.out.2.2.2.2.2.trans (below_only (hb5.mono (by omega))), ho5⟩
 have HK := Lib.hid hK
 rw [← hK]
 clear ho5 hb5 hK x1 x2 x3 x4
 have hKS := H5.out.2.2.2.2.2.1.size
 go_upto_region 3 with (fail)
 go_cut [23] from 16 to 23 (fun s23 wx => ∃ (b : Bool) (q' : Nat), s23 = .bool b ∧ (b = false → K.length ≠ 0) ∧ Rd wx r r bs q' ∧ q' ≤ q + 1 ∧ Only w5.heap.size r w5 wx)
 case first =>
   by_cases hk0 : K.length = 0
   · have hk0' : ((K.length : Int) == 0) = true := by simp [hk0]
     clear hk0
     go_wp2_with fail
     go_meet
     exact ⟨true, q, rfl, (fun h => by cases h), H5.out.2.2.2.2.1, by omega, Only.refl _ _ _⟩
   · have hk0' : ((K.length : Int) == 0) = false := by rw [beq_eq_false_iff_ne]; omega
     have HPK := Lib.hid (pick_c w5 r r bs q 14 H5.out.2.2.2.2.1 (by omega) (by omega) (by omega))
     go_wp2_with fail
     refine HPK.out.mono ?_
     rintro e w6 ⟨x, m6, rfl, -, -, _, hw6⟩
     have hon : Only w5.heap.size r w5 w6 := by rw [hw6]; exact Only.picked _ _ _ _ _
     have hrd : Rd w6 r r bs (q + 1) := by rw [hw6]; exact H5.out.2.2.2.2.1.picked m6
     obtain ⟨b, hb⟩ : ∃ b : Bool, b = (x == 0) := ⟨_, rfl⟩
     have H6 := Lib.hid (And.intro hon hrd)
     have HB := Lib.hid hb
     clear hon hrd hw6 hb
     go_wp2_with fail
     go_meet
     exact ⟨_, q + 1, rfl, (fun _ => hk0), H6.out.2, by omega, H6.out.1⟩
 case rest =>
   rename World => wA
   obtain ⟨b, q', rfl, hbk, hrd, hq', hon⟩ := hcut
   have hsc := hon.size
   have HC : Hid (TreeQ wA (fun k => W1.heap.size ≤ k ∧ k < w3.heap.size) (.slice b1 b2 b3) (.slice b4 b5 b6) t ∧ wA.heap[w3.heap.size]? = some (.cells #[.slice b1 b2 b3, .slice b4 b5 b6] 33 (0, 0)) ∧ wA.heap[w.heap.size]? = some (.cells #[.slice none 0 0, .slice none 0 0] 33 (0, 0)) ∧
       wA.heap[w.heap.size + 1]? = some (.cells #[.slice none 0 0, .int .i64 0] 28 (0, 0)) ∧ Rd wA r r bs q' ∧ Only w.heap.size r w wA ∧ IntsOwn wA W4.heap.size (.slice va5 K.length vc5) K) :=
     Lib.hid ⟨H5.out.1.same (fun k hk => hon.block k (by omega) (by omega)) (fun k hk => hk), (hon.block _ (by omega) (by omega)).trans H5.out.2.1, (hon.block _ (by omega) (by omega)).trans H5.out.2.2.1, (hon.block _ (by omega) (by omega)).trans H5.out.2.2.2.1, hrd, H5.out.2.2.2.2.2.1.trans (hon.mono (by omega)), IntsOwn.only H5.out.2.2.2.2.2.2 hon (Nat.le_refl _) (by omega)⟩
   clear hrd hon
   cases b with
   | true =>
     clear hbk
     go_upto_region 4 with (fail)
     refine wp_region_stores (n := 12) (by kernel_rfl) (by kernel_rfl) (by kernel_rfl) ?hn (by kernel_rfl) (fun i => 24 + i) (fun i j _ _ h => by omega)
       (KeptBut r w.heap.size) (KeptBut.refl _ _) (fun a b c h1 h2 => h1.trans h2)
       (G4c r w.heap.size bs q' (.slice b1 b2 b3) (.slice b4 b5 b6)) ⟨⟨q', rd_drew HC.out.2.2.2.2.1, by simp⟩, fun _ => HC.out.2.2.1, fun h => by cases h⟩ (fun f g w h hf => by
         unfold G4c at hf ⊢
         rw [← h 4 (by omega), ← h 9 (by omega), ← h 11 (by omega)]
         exact hf)
       (J4c r wA.heap.size (.agg #[.slice b1 b2 b3, .slice b4 b5 b6])) (fun j v W W' h hb => J4c_mono (by omega) (by omega) j v W W' h hb) ?hg ?hstep ?htail
     case hn => decide
     case hg =>
       intro i oi hi ho
       have hc : i = 0 ∨ i = 1 ∨ i = 2 ∨ i = 3 ∨ i = 4 ∨ i = 5 ∨ i = 6 ∨ i = 7 ∨ i = 8 ∨ i = 9 ∨ i = 10 ∨ i = 11 := by omega
       rcases hc with rfl | rfl | rfl | rfl | rfl | rfl | rfl | rfl | rfl | rfl | rfl | rfl
       all_goals (
         have ho' := Option.some.inj ho
         subst ho'
         first
           | exact ⟨rfl, .inl rfl⟩
           | exact ⟨rfl, .inr ⟨rfl, fun _ _ _ h => h⟩⟩)
     case hstep =>
       intro i oi hi ho a W f hfi hag hR hGb hpre
       have hc : i = 0 ∨ i = 1 ∨ i = 2 ∨ i = 3 ∨ i = 4 ∨ i = 5 ∨ i = 6 ∨ i = 7 ∨ i = 8 ∨ i = 9 ∨ i = 10 ∨ i = 11 := by omega
       have HSZ := Lib.hid (show a.tmps.size = 59 from hag.size.trans rfl)
       have hRsz : wA.heap.size ≤ W.heap.size := hR.size
       have hbx := (hR.block w3.heap.size (by show w3.heap.size < wA.heap.size; omega) (by omega) (by omega)).trans HC.out.2.1
       have t0 : a.tmps[0]? = some (.pointer (some ⟨r, 0, none⟩)) := hag.other 0 (fun i hi => by show 24 + i ≠ 0; omega)
       have t4 : a.tmps[4]? = some (.pointer (some ⟨w3.heap.size, 0, none⟩)) := hag.other 4 (fun i hi => by show 24 + i ≠ 4; omega)
       have t2 : a.tmps[2]? = some (.pointer (some ⟨w.heap.size, 0, none⟩)) := hag.other 2 (fun i hi => by show 24 + i ≠ 2; omega)
       obtain ⟨x1, x2, x3, x4⟩ := box2 hbx
       obtain ⟨⟨q'', hq1, hq2⟩, hbx0, hbx1⟩ := hGb
       have HBOX := Lib.hid (And.intro hbx0 hbx1)
       have hqb : q'' ≤ q' + 2 := by
         have h3 : (if f 4 then 1 else 0) ≤ 1 := by split <;> omega
         have h5 : (if f 9 then 1 else 0) ≤ 1 := by split <;> omega
         omega
       have HQQ := Lib.hid (And.intro hq1 hq2)
       have HFI := Lib.hid hfi
       clear hq1 hq2 hag hR hbx hfi hbx0 hbx1
       rcases hc with rfl | rfl | rfl | rfl | rfl | rfl | rfl | rfl | rfl | rfl | rfl | rfl
       · have ho' := Option.some.inj ho
         subst ho'
         go_simp
         exact ⟨_, rfl, by rw [HSZ.out]; decide, rfl, KeptBut.refl _ _ _, ⟨q'', HQQ.out.1, by simpa using HQQ.out.2⟩, by simpa using HBOX.out⟩
       · have ho' := Option.some.inj ho
         subst ho'
         go_simp
         have hba : Below W.heap.size W (W.alloc (.cells #[] 3)) := (Below.refl _ _).alloc (Nat.le_refl _) _
         exact ⟨_, rfl, by rw [HSZ.out]; decide, ⟨W.heap.size, rfl, IntsOwn.lower (World.ownsRow_made W #[] 0 (Nat.le_refl _) (by unfold maxLen; omega) rfl : IntsOwn (W.alloc (.cells #[] 3)) W.heap.size (.slice (some ⟨W.heap.size, 0, none⟩) 0 0) []) (by omega)⟩, KeptBut.of_only (below_only hba), ⟨q'', rd_later' HQQ.out.1 hba, by simpa using HQQ.out.2⟩, fun h => (hba.block _ (by omega)).trans (HBOX.out.1 (by simpa using h)), fun h => (hba.block _ (by omega)).trans (HBOX.out.2 (by simpa using h))⟩
       · have ho' := Option.some.inj ho
         subst ho'
         go_simp
         exact ⟨_, rfl, by rw [HSZ.out]; decide, rfl, KeptBut.refl _ _ _, ⟨q'', HQQ.out.1, by simpa using HQQ.out.2⟩, by simpa using HBOX.out⟩
       · have ho' := Option.some.inj ho
         subst ho'
         go_simp
         have hba : Below W.heap.size W (W.alloc (.cells #[.int .i64 0, .int .i64 1, .int .i64 (-1), .int .i64 9] 3)) := (Below.refl _ _).alloc (Nat.le_refl _) _
         exact ⟨_, rfl, by rw [HSZ.out]; decide, ⟨W.heap.size, rfl, new_blk _ _, by omega⟩, KeptBut.of_only (below_only hba), ⟨q'', rd_later' HQQ.out.1 hba, by simpa using HQQ.out.2⟩, fun h => (hba.block _ (by omega)).trans (HBOX.out.1 (by simpa using h)), fun h => (hba.block _ (by omega)).trans (HBOX.out.2 (by simpa using h))⟩
       · have ho' := Option.some.inj ho
         subst ho'
         have pp : a.tmps[26]?.getD undef = .pointer (some ⟨r, 0, none⟩) := hpre { on := 2, ground := Ground.data } (by simp) rfl
         obtain ⟨g, pr, hg, hgl⟩ : J4c r wA.heap.size (.agg #[.slice b1 b2 b3, .slice b4 b5 b6]) 3 (a.tmps[27]?.getD undef) W := hpre { on := 3, ground := Ground.data } (by simp) rfl
         have HNC := Lib.hid (num_c W r r bs q'' g [0, 1, -1, 9] 4 HQQ.out.1 (by omega) (by omega) (by simp) (by simp) (fun i hi => by
           have hi5 : i < 4 := by simpa using hi
           refine cell_in hg ?_
           rcases i with _ | _ | _ | _ | i
           · rfl
           · rfl
           · rfl
           · rfl
           · omega))
         clear hg
         go_simp
         refine HNC.out.mono ?_
         rintro e w6 ⟨i, m6, hi, rfl, hw6⟩
         have h3 := HFI.out
         have h4 := HQQ.out.2
         rw [h3] at h4
         have hon : Only W.heap.size r W w6 := by rw [hw6]; exact Only.picked _ _ _ _ _
         have hbo : w6.heap[w.heap.size]? = W.heap[w.heap.size]? := hon.block _ (by omega) (by omega)
         exact ⟨_, rfl, by rw [HSZ.out]; decide, ⟨_, rfl⟩, KeptBut.of_only hon, ⟨q'' + 1, by rw [hw6]; exact HQQ.out.1.picked m6, by simp at h4 ⊢; omega⟩, fun h => hbo.trans (HBOX.out.1 (by simpa using h)), fun h => hbo.trans (HBOX.out.2 (by simpa using h))⟩
       · have ho' := Option.some.inj ho
         subst ho'
         obtain ⟨y4, p4⟩ : J4c r wA.heap.size (.agg #[.slice b1 b2 b3, .slice b4 b5 b6]) 4 (a.tmps[28]?.getD undef) W := hpre { on := 4, ground := Ground.data } (by simp) rfl
         go_simp
         have hba : Below W.heap.size W (W.alloc (.cells #[.int .i64 y4] 3)) := (Below.refl _ _).alloc (Nat.le_refl _) _
         exact ⟨_, rfl, by rw [HSZ.out]; decide, ⟨W.heap.size, y4, rfl, new_blk _ _, by omega⟩, KeptBut.of_only (below_only hba), ⟨q'', rd_later' HQQ.out.1 hba, by simpa using HQQ.out.2⟩, fun h => (hba.block _ (by omega)).trans (HBOX.out.1 (by simpa using h)), fun h => (hba.block _ (by omega)).trans (HBOX.out.2 (by simpa using h))⟩
       · have ho' := Option.some.inj ho
         subst ho'
         obtain ⟨g1, p1, ho1⟩ : J4c r wA.heap.size (.agg #[.slice b1 b2 b3, .slice b4 b5 b6]) 1 (a.tmps[25]?.getD undef) W := hpre { on := 1, ground := Ground.data } (by simp) rfl
         obtain ⟨g5, y5, p5, hg5, -⟩ : J4c r wA.heap.size (.agg #[.slice b1 b2 b3, .slice b4 b5 b6]) 5 (a.tmps[29]?.getD undef) W := hpre { on := 5, ground := Ground.data } (by simp) rfl
         rw [p1] at ho1
         refine wp_append_new (.tmp 25) (.tmp 29) rfl wA.heap.size g1 g5 y5 (by first | exact p1 | (simp only [Act.eval]; exact p1) | (simp [Act.eval, p1]) | go_simp) (by first | exact p5 | (simp only [Act.eval]; exact p5) | (simp [Act.eval, p5]) | go_simp) ho1 hRsz (box1 hg5).1 (fun v' w6 ho6 hb6 => ?_)
         exact ⟨v', rfl, by rw [HSZ.out]; decide, ⟨y5, ho6⟩, KeptBut.of_only (below_only hb6), ⟨q'', rd_later' HQQ.out.1 hb6, by simpa using HQQ.out.2⟩, fun h => (hb6.block _ (by omega)).trans (HBOX.out.1 (by simpa using h)), fun h => (hb6.block _ (by omega)).trans (HBOX.out.2 (by simpa using h))⟩
       · have ho' := Option.some.inj ho
         subst ho'
         go_simp
         exact ⟨_, rfl, by rw [HSZ.out]; decide, rfl, KeptBut.refl _ _ _, ⟨q'', HQQ.out.1, by simpa using HQQ.out.2⟩, by simpa using HBOX.out⟩
       · have ho' := Option.some.inj ho
         subst ho'
         go_simp
         have hba : Below W.heap.size W (W.alloc (.cells #[.int .i64 0, .int .i64 1, .int .i64 (-1), .int .i64 2] 3)) := (Below.refl _ _).alloc (Nat.le_refl _) _
         exact ⟨_, rfl, by rw [HSZ.out]; decide, ⟨W.heap.size, rfl, new_blk _ _, by omega⟩, KeptBut.of_only (below_only hba), ⟨q'', rd_later' HQQ.out.1 hba, by simpa using HQQ.out.2⟩, fun h => (hba.block _ (by omega)).trans (HBOX.out.1 (by simpa using h)), fun h => (hba.block _ (by omega)).trans (HBOX.out.2 (by simpa using h))⟩
       · have ho' := Option.some.inj ho
         subst ho'
         have pp : a.tmps[31]?.getD undef = .pointer (some ⟨r, 0, none⟩) := hpre { on := 7, ground := Ground.data } (by simp) rfl
         obtain ⟨g, pr, hg, hgl⟩ : J4c r wA.heap.size (.agg #[.slice b1 b2 b3, .slice b4 b5 b6]) 8 (a.tmps[32]?.getD undef) W := hpre { on := 8, ground := Ground.data } (by simp) rfl
         have HNC := Lib.hid (num_c W r r bs q'' g [0, 1, -1, 2] 4 HQQ.out.1 (by omega) (by omega) (by simp) (by simp) (fun i hi => by
           have hi5 : i < 4 := by simpa using hi
           refine cell_in hg ?_
           rcases i with _ | _ | _ | _ | i
           · rfl
           · rfl
           · rfl
           · rfl
           · omega))
         clear hg
         go_simp
         refine HNC.out.mono ?_
         rintro e w6 ⟨i, m6, hi, rfl, hw6⟩
         have h3 := HFI.out
         have h4 := HQQ.out.2
         rw [h3] at h4
         have hon : Only W.heap.size r W w6 := by rw [hw6]; exact Only.picked _ _ _ _ _
         have hbo : w6.heap[w.heap.size]? = W.heap[w.heap.size]? := hon.block _ (by omega) (by omega)
         exact ⟨_, rfl, by rw [HSZ.out]; decide, ⟨_, rfl⟩, KeptBut.of_only hon, ⟨q'' + 1, by rw [hw6]; exact HQQ.out.1.picked m6, by simp at h4 ⊢; omega⟩, fun h => hbo.trans (HBOX.out.1 (by simpa using h)), fun h => hbo.trans (HBOX.out.2 (by simpa using h))⟩
       · have ho' := Option.some.inj ho
         subst ho'
         obtain ⟨y6, ho6⟩ : J4c r wA.heap.size (.agg #[.slice b1 b2 b3, .slice b4 b5 b6]) 6 (a.tmps[30]?.getD undef) W := hpre { on := 6, ground := Ground.data } (by simp) rfl
         obtain ⟨y9, p9⟩ : J4c r wA.heap.size (.agg #[.slice b1 b2 b3, .slice b4 b5 b6]) 9 (a.tmps[33]?.getD undef) W := hpre { on := 9, ground := Ground.data } (by simp) rfl
         obtain ⟨va6, vc6, p6⟩ := IntsOwn.shown ho6
         rw [p6] at ho6
         simp only [List.length_singleton] at p6 ho6
         go_simp
         exact ⟨_, rfl, by rw [HSZ.out]; decide, ⟨_, y6, y9, rfl, ho6⟩, KeptBut.refl _ _ _, ⟨q'', HQQ.out.1, by simpa using HQQ.out.2⟩, by simpa using HBOX.out⟩
       · have ho' := Option.some.inj ho
         subst ho'
         have p0 : a.tmps[24]?.getD undef = .agg #[.slice b1 b2 b3, .slice b4 b5 b6] := hpre { on := 0, ground := Ground.data } (by simp) rfl
         have hres := HBOX.out.1 HFI.out
         clear x1 x2 x3 x4
         obtain ⟨x1, x2, x3, x4⟩ := box2 hres
         have HRES := Lib.hid hres
         clear hres
         go_simp
         refine ⟨by rw [HSZ.out]; decide, ⟨undef, trivial⟩, ?_, ⟨q'', ?_, by simpa using HQQ.out.2⟩, fun h => by simp at h, fun _ => set_blk (o := 1) _ (set_blk (o := 0) _ HRES.out)⟩
         · exact ⟨rfl, rfl, rfl, by simp, fun k hk h1 h2 => by rw [set_other _ _ _ _ _ h2, set_other _ _ _ _ _ h2]⟩
         · exact rd_kept HQQ.out.1 HRES.out (by rw [set_other _ _ _ _ _ (by omega), set_other _ _ _ _ _ (by omega)]) (fun k hk hne => by rw [set_other _ _ _ _ _ hne, set_other _ _ _ _ _ hne])
     case htail =>
       intro a W hag hR hG hj
       have j0 : a.tmps[24]?.getD undef = .agg #[.slice b1 b2 b3, .slice b4 b5 b6] := hj 0 (by omega)
       have j2 : a.tmps[26]?.getD undef = .pointer (some ⟨r, 0, none⟩) := hj 2 (by omega)
       have j7 : a.tmps[31]?.getD undef = .pointer (some ⟨r, 0, none⟩) := hj 7 (by omega)
       obtain ⟨g1, j1, -⟩ : J4c r wA.heap.size (.agg #[.slice b1 b2 b3, .slice b4 b5 b6]) 1 (a.tmps[25]?.getD undef) W := hj 1 (by omega)
       obtain ⟨g3, j3, -⟩ : J4c r wA.heap.size (.agg #[.slice b1 b2 b3, .slice b4 b5 b6]) 3 (a.tmps[27]?.getD undef) W := hj 3 (by omega)
       obtain ⟨z4, j4⟩ : J4c r wA.heap.size (.agg #[.slice b1 b2 b3, .slice b4 b5 b6]) 4 (a.tmps[28]?.getD undef) W := hj 4 (by omega)
       obtain ⟨g5, z5, j5, -⟩ : J4c r wA.heap.size (.agg #[.slice b1 b2 b3, .slice b4 b5 b6]) 5 (a.tmps[29]?.getD undef) W := hj 5 (by omega)
       obtain ⟨g8, j8, -⟩ : J4c r wA.heap.size (.agg #[.slice b1 b2 b3, .slice b4 b5 b6]) 8 (a.tmps[32]?.getD undef) W := hj 8 (by omega)
       obtain ⟨z9, j9⟩ : J4c r wA.heap.size (.agg #[.slice b1 b2 b3, .slice b4 b5 b6]) 9 (a.tmps[33]?.getD undef) W := hj 9 (by omega)
       obtain ⟨pv, z10, A10, j10, hown10⟩ : J4c r wA.heap.size (.agg #[.slice b1 b2 b3, .slice b4 b5 b6]) 10 (a.tmps[34]?.getD undef) W := hj 10 (by omega)
       have ha := hag.eq
       rw [show List.range 12 = [0, 1, 2, 3, 4, 5, 6, 7, 8, 9, 10, 11] from rfl] at ha
       simp only [List.foldl_cons, List.foldl_nil, Nat.reduceAdd, j0, j1, j2, j3, j4, j5, j7, j8, j9, j10] at ha
       generalize a.tmps[30]?.getD undef = u30 at ha
       generalize a.tmps[35]?.getD undef = u35 at ha
       clear hj hag j0 j1 j2 j3 j4 j5 j7 j8 j9 j10
       subst ha
       have hRsz : wA.heap.size ≤ W.heap.size := hR.size
       have hkx := hG.2.2 rfl
       have hcx : W.heap[w.heap.size + 1]? = some (.cells #[.slice none 0 0, .int .i64 0] 28 (0, 0)) := (hR.block (w.heap.size + 1) (by show w.heap.size + 1 < wA.heap.size; omega) (by omega) (by omega)).trans HC.out.2.2.2.1
       have htx : TreeQ W (fun k => W1.heap.size ≤ k ∧ k < w3.heap.size) (.slice b1 b2 b3) (.slice b4 b5 b6) t := HC.out.1.same (fun k hk => hR.block k (by show k < wA.heap.size; omega) (by omega) (by omega)) (fun k hk => hk)
       have hbx : Only w.heap.size r w W := HC.out.2.2.2.2.2.1.trans ⟨hR.os, hR.tape, hR.output, hRsz, fun k hk hne => hR.block k (by show k < wA.heap.size; omega) hne (by omega)⟩
       obtain ⟨pa, pc, rfl⟩ := IntsOwn.shown hown10
       simp only [List.length_singleton] at hown10 ⊢
       obtain ⟨r1, r2, r3, r4⟩ := box2 hkx
       obtain ⟨d1, d2, d3, d4⟩ := box2 hcx
       have HX := Lib.hid (And.intro hkx (And.intro hcx (And.intro htx (And.intro hbx hown10))))
       clear hR hG hkx hcx htx hbx hown10
       change wpAny _ _ _ _ 1 _ _ _
       simp only [List.setIfInBounds_toArray, List.set_cons_succ, List.set_cons_zero]
       refine wpAny_ready (rs := [12]) (by kernel_rfl) (by simp) (AllReady.cons rfl (fun K25 hK25 => ?_) AllReady.nil)
       go_simp
       refine hK25 _ _ ?_
       clear hK25 K25
       refine wpAny_done (by kernel_rfl) ?_ _
       go_wp2_with fail
       obtain ⟨wf, hwf⟩ : ∃ wf, wf = (W.setCell ⟨w.heap.size + 1, 0, none⟩ (.slice pa 1 pc)).setCell ⟨w.heap.size + 1, 1, none⟩ (.int .i64 A10) := ⟨_, rfl⟩
       have hkb : KeptBut r (w.heap.size + 1) W wf := by rw [hwf]; exact ⟨rfl, rfl, rfl, by simp, fun k _ _ h2 => by rw [set_other _ _ _ _ _ h2, set_other _ _ _ _ _ h2]⟩
       have hfc : wf.heap[w.heap.size + 1]? = some (.cells #[.slice pa 1 pc, .int .i64 A10] 28 (0, 0)) := by rw [hwf]; exact set_blk (o := 1) _ (set_blk (o := 0) _ HX.out.2.1)
       have hfk := (hkb.block w.heap.size (by omega) (by omega) (by omega)).trans HX.out.1
       have hzf := hkb.size
       clear r1 r2 r3 r4 d1 d2 d3 d4
       obtain ⟨d1, d2, -, -⟩ := box2 hfc
       obtain ⟨r1, r2, -, -⟩ := box2 hfk
       rw [← hwf]
       refine bodyPost_ret (v := .tuple #[.agg #[.slice b1 b2 b3, .slice b4 b5 b6], .agg #[.slice pa 1 pc, .int .i64 A10]]) (by simp [results, Tryd.results83, go_sem, d1, d2, r1, r2]) rfl ⟨_, _, t, _, [z10], A10, rfl, ?_, by omega, ?_, ?_⟩
       · exact HX.out.2.2.1.same (fun k hk => hkb.block k (by omega) (by omega) (by omega)) (fun k hk => ⟨by omega, by omega⟩)
       · exact IntsOwn.lower (own_kept (by omega) (by omega) HX.out.2.2.2.2 hkb) (by omega)
       · exact HX.out.2.2.2.1.trans ⟨hkb.os, hkb.tape, hkb.output, hkb.size, fun k hk hne => hkb.block k (by omega) hne (by omega)⟩
   | false =>
     have hk0 := hbk rfl
     clear hbk
     have hown := HC.out.2.2.2.2.2.2
     have hol := hown.lt
     obtain ⟨_, _, hve, -, -, -, h3⟩ := hown.in
     simp only [Value.slice.injEq] at hve
     obtain ⟨rfl, -, rfl⟩ := hve
     rcases h3 with hh | ⟨kb, ko, rfl, hkb, hkc⟩
     · rw [hh] at hk0; simp at hk0
     have hkr : W4.heap.size ≤ kb := (hol kb rfl).1
     have RB : Hid (∀ wx : World, Only wA.heap.size r wA wx → wx.cell? ⟨w3.heap.size, 0, none⟩ = some (.slice b1 b2 b3) ∧ wx.cell? ⟨w3.heap.size, 1, none⟩ = some (.slice b4 b5 b6) ∧ ∀ j, j < K.length → wx.cell? ⟨kb, ko + j, none⟩ = some (.int .i64 (K.getD j 0))) := Lib.hid (fun wx hx => by
       obtain ⟨g1, g2, -, -⟩ := box2 ((hx.block w3.heap.size (by omega) (by omega)).trans HC.out.2.1)
       exact ⟨g1, g2, fun j hj => by rw [World.cell?_of_block (w := wA) (a := ⟨kb, ko + j, none⟩) (hx.block kb hkb (by omega))]; exact hkc j hj⟩)
     have HSK : Hid (∀ (wx : World) (key : Int), Only wA.heap.size r wA wx → Calls Tryd.prog 26 #[.agg #[.slice b1 b2 b3, .slice b4 b5 b6], .int .i64 key] wx (Told wx (Tr.seekB t key))) := Lib.hid (fun wx key hx =>
       specSeek_c ((HC.out.1.same (w' := wx) (Q := fun k => k < wx.heap.size) (fun k hk => hx.block k (by omega) (by omega)) (fun k hk => by have := hx.size; omega)).tree (fun k hk => hk)) (by omega) key wx (Below.refl _ _) (Nat.le_refl _))
     obtain ⟨e1, e2, e3⟩ := RB.out wA (Only.refl _ _ _)
     have HB : Hid (Only wA.heap.size r wA wA) := Lib.hid (Only.refl _ _ _)
     have HRd : Hid (Rd wA r r bs q') := Lib.hid HC.out.2.2.2.2.1
     clear hown hol hkc
     go_upto_region 5 with (fail)
     go_cut [7, 8] from 35 to 46 (fun s7 s8 wx => ∃ (g : Nat) (P : List Int) (A : Int) (ok : Bool) (va : Option Addr) (vc : Nat), s7 = .pointer (some ⟨g, 0, none⟩) ∧ s8 = .bool ok ∧ wA.heap.size ≤ g ∧ wx.heap[g]? = some (.cells #[.slice va P.length vc, .int .i64 A] 28 (0, 0)) ∧ IntsOwn wx wA.heap.size (.slice va P.length vc) P ∧ (Value.slice va P.length vc).ownBlock ≠ some g ∧ Rd wx r r bs (q' + 1) ∧ Only wA.heap.size r wA wx)
     case first =>
       go_region_held3 (fun z => z.cell? ⟨w3.heap.size, 0, none⟩ = some (.slice b1 b2 b3) ∧ z.cell? ⟨w3.heap.size, 1, none⟩ = some (.slice b4 b5 b6) ∧ ∀ j, j < K.length → z.cell? ⟨kb, ko + j, none⟩ = some (.int .i64 (K.getD j 0)))
         (first | exact ⟨e1, e2, e3⟩ | exact RB.out _ (by first | exact HB.out | exact only_drew' HB.out | exact only_al' HB.out _ | exact only_al' (only_drew' HB.out) _) | exact RB.out _ H7.out.1 | exact RB.out _ (only_al' H7.out.1 _) | exact RB.out _ (only_st' (only_st' H7.out.1 (by first | exact Nat.le_refl _ | exact hz6 | exact H7.out.1.size) _) (by first | exact Nat.le_refl _ | exact hz6 | exact H7.out.1.size) _) | exact RB.out _ (only_st' (only_st' (only_al' H7.out.1 _) (by first | exact Nat.le_refl _ | exact hz6 | exact H7.out.1.size) _) (by first | exact Nat.le_refl _ | exact hz6 | exact H7.out.1.size) _) | go_keep)
         (first
           | (go_at_call 26; refine (HSK.out _ _ (by first | exact HB.out | exact only_drew' HB.out | exact only_al' HB.out _ | exact only_al' (only_drew' HB.out) _)).mono ?_; rintro e w7 ⟨v7, rfl, ho7, hb7⟩; (generalize Tr.seekB t K[i] = R7 at ho7 ⊢); obtain ⟨P7, A7, ok7⟩ := R7; obtain ⟨va7, vc7, rfl⟩ := IntsOwn.shown ho7; have hz7 := hb7.size; have hon7 : Only wA.heap.size r wA w7 := Only.trans (by first | exact HB.out | exact only_drew' HB.out | exact only_al' HB.out _ | exact only_al' (only_drew' HB.out) _) ((below_only hb7).mono (Only.size (by first | exact HB.out | exact only_drew' HB.out | exact only_al' HB.out _ | exact only_al' (only_drew' HB.out) _))); have hrd7 : Rd w7 r r bs (q' + 1) := rd_later' (by first | exact HRd.out | exact rd_drew HRd.out | exact rd_al' HRd.out _ | exact rd_al' (rd_drew HRd.out) _) hb7; have hlo7 : IntsOwn w7 wA.heap.size (.slice va7 P7.length vc7) P7 := (ho7.lower (Only.size (by first | exact HB.out | exact only_drew' HB.out | exact only_al' HB.out _ | exact only_al' (only_drew' HB.out) _))); (first | (have hbx7 : w7.heap[wA.heap.size]? = some (.cells #[.slice none 0 0, .int .i64 0] 28 (0, 0)) := (hb7.block wA.heap.size (Array.getElem?_eq_some_iff.1 HBX.out).1).trans HBX.out; have hne7 : (Value.slice va7 P7.length vc7).ownBlock ≠ some wA.heap.size := (fun e9 => by have h8 := (ho7.lt _ e9).1; have h9 := (Array.getElem?_eq_some_iff.1 HBX.out).1; omega); obtain ⟨y1, y2, y3, y4⟩ := box2 hbx7; have HX7 := Lib.hid (And.intro hbx7 hne7)) | (have hbx7 : w7.heap[w6.heap.size]? = some (.cells #[.slice none 0 0, .int .i64 0] 28 (0, 0)) := (hb7.block w6.heap.size (by simp)).trans (new_blk w6 _); have hne7 : (Value.slice va7 P7.length vc7).ownBlock ≠ some w6.heap.size := (fun e9 => by have h8 := (ho7.lt _ e9).1; simp at h8; omega); obtain ⟨y1, y2, y3, y4⟩ := box2 hbx7; have HX7 := Lib.hid (And.intro hbx7 hne7)) | skip); obtain ⟨e1, e2, e3⟩ := RB.out w7 hon7; have H7 := Lib.hid (And.intro hon7 (And.intro hrd7 hlo7)); clear HB HRd hon7 hrd7 hlo7 ho7 hb7)
           | (go_at_call 98; refine (pick_c _ r r bs q' (K.length : Int) (by first | exact HRd.out | exact rd_drew HRd.out | exact rd_al' HRd.out _ | exact rd_al' (rd_drew HRd.out) _) (by omega) (by omega) (by omega)).mono ?_; rintro e w6 ⟨x, m6, rfl, hx0, hx1, _, hw6⟩; have hrd6 : Rd w6 r r bs (q' + 1) := (by rw [hw6]; exact Rd.picked (by first | exact HRd.out | exact rd_drew HRd.out | exact rd_al' HRd.out _ | exact rd_al' (rd_drew HRd.out) _) m6); have hon6 : Only wA.heap.size r wA w6 := (by rw [hw6]; exact Only.trans (by first | exact HB.out | exact only_drew' HB.out | exact only_al' HB.out _ | exact only_al' (only_drew' HB.out) _) (Only.picked _ _ _ _ _)); obtain ⟨i, rfl⟩ := Int.eq_ofNat_of_zero_le hx0; have hi : i < K.length := (by have h9 := hx1 (by omega); omega); have hil : (i : Int) < (K.length : Int) := (by omega); have hi0 : (0 : Int) ≤ (i : Int) := (by omega); have hz6 := hon6.size; (first | (have hbx6 : w6.heap[wA.heap.size]? = some (.cells #[.slice none 0 0, .int .i64 0] 28 (0, 0)) := (by rw [hw6]; show (World.setCell _ _ _).heap[_]? = _; rw [set_other _ _ _ _ _ (by omega)]; exact new_blk wA.drew _); have HBX := Lib.hid hbx6; clear hbx6) | skip); obtain ⟨e1, e2, e3⟩ := RB.out w6 hon6; have e4 := e3 i hi; clear HB HRd; have HB := Lib.hid hon6; have HRd := Lib.hid hrd6; clear hrd6 hon6 hw6 hx1 hx0)
           | fail)
       all_goals (
         go_wp2_with fail
         go_meet
         first
           | exact ⟨w7.heap.size, P7, A7, ok7, va7, vc7, rfl, rfl, H7.out.1.size, new_blk _ _, IntsOwn.alloc' H7.out.2.2 _, (fun e9 => by have h9 := (H7.out.2.2.lt _ e9).2; omega), rd_al' H7.out.2.1 _, only_al' H7.out.1 _⟩
           | exact ⟨w6.heap.size, P7, A7, ok7, va7, vc7, rfl, rfl, hz6, set_blk (o := 1) _ (set_blk (o := 0) _ HX7.out.1), own_else8 H7.out.2.2 (fun k hk => by have h9 : k ≠ w6.heap.size := (fun e9 => HX7.out.2 (by rw [← e9]; exact hk.symm)); rw [set_other _ _ _ _ _ h9, set_other _ _ _ _ _ h9]), HX7.out.2, H7.out.2.1.later (((Below.refl wA.heap.size w7).setCell (by exact hz6) _).setCell (by exact hz6) _) (by omega), only_st' (only_st' H7.out.1 hz6 _) hz6 _⟩
           | exact ⟨wA.heap.size, P7, A7, ok7, va7, vc7, rfl, rfl, Nat.le_refl _, set_blk (o := 1) _ (set_blk (o := 0) _ HX7.out.1), own_else8 H7.out.2.2 (fun k hk => by have h9 : k ≠ wA.heap.size := (fun e9 => HX7.out.2 (by rw [← e9]; exact hk.symm)); rw [set_other _ _ _ _ _ h9, set_other _ _ _ _ _ h9]), HX7.out.2, H7.out.2.1.later (((Below.refl wA.heap.size w7).setCell (by exact Nat.le_refl _) _).setCell (by exact Nat.le_refl _) _) (by omega), only_st' (only_st' H7.out.1 (Nat.le_refl _) _) (Nat.le_refl _) _⟩)
     case rest =>
       obtain ⟨g, P, A, ok7, va, vc, rfl, rfl, hgl, hgx, hgo, hgn, hrd, hon⟩ := hcut
       have hon8 : Only w.heap.size r w wc := HC.out.2.2.2.2.2.1.trans (hon.mono (by omega))
       have hsc8 := hon.size
       have hglt : g < wc.heap.size := (Array.getElem?_eq_some_iff.1 hgx).1
       -- the boxes of what is returned, the tree
       have H8 : Hid (wc.heap[w3.heap.size]? = some (.cells #[.slice b1 b2 b3, .slice b4 b5 b6] 33 (0, 0)) ∧ wc.heap[w.heap.size]? = some (.cells #[.slice none 0 0, .slice none 0 0] 33 (0, 0)) ∧
           wc.heap[w.heap.size + 1]? = some (.cells #[.slice none 0 0, .int .i64 0] 28 (0, 0)) ∧ TreeQ wc (fun k => W1.heap.size ≤ k ∧ k < w3.heap.size) (.slice b1 b2 b3) (.slice b4 b5 b6) t ∧ IntsOwn wc wA.heap.size (.slice va P.length vc) P ∧ Only w.heap.size r w wc) :=
         Lib.hid ⟨(hon.block _ (by omega) (by omega)).trans HC.out.2.1, (hon.block _ (by omega) (by omega)).trans HC.out.2.2.1, (hon.block _ (by omega) (by omega)).trans HC.out.2.2.2.1, HC.out.1.same (fun k hk => hon.block k (by omega) (by omega)) (fun k hk => hk), hgo, hon8⟩
       have HG := Lib.hid (And.intro hgx hgn)
       have HPK := Lib.hid (pick_c wc r r bs (q' + 1) 24 hrd (by omega) (by omega) (by omega))
       have HRD8 := Lib.hid hrd
       have hgr : g ≠ r := by omega
       clear hgx hgo hgn hrd hon hon8 HB HRd RB HSK e1 e2 e3
       go_wp2_with fail
       refine HPK.out.mono ?_
       rintro e w9 ⟨x, m9, rfl, -, -, _, hw9⟩
       have hon9 : Only wc.heap.size r wc w9 := by rw [hw9]; exact Only.picked _ _ _ _ _
       have hrd9 : Rd w9 r r bs (q' + 2) := by rw [hw9]; exact HRD8.out.picked m9
       have hz9 := hon9.size
       have H9 := Lib.hid (And.intro hon9 hrd9)
       have hon89 : Only w.heap.size r w w9 := H8.out.2.2.2.2.2.trans (hon9.mono (by omega))
       have H89 := Lib.hid hon89
       have hbg : w9.heap[g]? = some (.cells #[.slice va P.length vc, .int .i64 A] 28 (0, 0)) := (hon9.block g hglt hgr).trans HG.out.1
       have HBG := Lib.hid hbg
       obtain ⟨xb, hxb⟩ : ∃ xb : Bool, xb = (x == 0) := ⟨_, rfl⟩
       clear hw9 hon9 hrd9 hon89 hbg
       go_upto_if 49 with (fail)
       rw [← hxb]
       clear hxb
       go_cut [] from 50 to 56 (fun wx => ∃ A2, wx.heap[g]? = some (.cells #[.slice va P.length vc, .int .i64 A2] 28 (0, 0)) ∧ (∀ k, k < wc.heap.size → k ≠ r → k ≠ g → wx.heap[k]? = wc.heap[k]?) ∧ wc.heap.size ≤ wx.heap.size ∧ Only w.heap.size r w wx)
       case first =>
         cases xb with
         | true =>
           obtain ⟨y1, y2, y3, y4⟩ := box2 HBG.out
           have hg9 : g < w9.heap.size := by omega
           have hgne : g ≠ w9.heap.size := by omega
           go_upto_region 7 with (fail)
           go_region_with
             (first
               | (go_at_call 97; refine (num_c _ r r bs (q' + 2) w9.heap.size [1, -1, 5] 3 (rd_al' (rd_drew H9.out.2) _) (by omega) (by omega) (by simp) (by simp) (fun i hi => row3 w9.drew _ _ _ i hi)).mono ?_; rintro e w10 ⟨i, m10, hi, rfl, hw10⟩; have hon10 : Only w9.heap.size r w9 w10 := (by rw [hw10]; exact (only_al' (only_drew' (Only.refl _ _ _)) _).trans (Only.picked _ _ _ _ _)); (generalize ([1, -1, 5] : List Int).getD i 0 = yy); have hb10 := (hon10.block g (by omega) hgr).trans HBG.out; obtain ⟨z1, z2, z3, z4⟩ := box2 hb10; obtain ⟨A2, hA2⟩ : ∃ A2, IntKind.i64.wrap (A + yy) = A2 := ⟨_, rfl⟩; have H10 := Lib.hid (And.intro hon10 hb10); clear hw10 hon10 hb10)
               | fail)
           all_goals (
             go_wp2_with fail
             go_meet
             exact ⟨A2, set_blk (o := 1) _ H10.out.2, (fun k h1 h2 h3 => by rw [set_other _ _ _ _ _ h3]; exact (H10.out.1.block k (by omega) h2).trans (H9.out.1.block k h1 h2)), (by have h9 := H10.out.1.size; simp; omega), only_st' (H89.out.trans (H10.out.1.mono (by omega))) (by omega) _⟩)
         | false =>
           go_wp2_with fail
           go_meet
           exact ⟨A, HBG.out, fun k h1 h2 _ => H9.out.1.block k h1 h2, hz9, H89.out⟩
       case rest =>
         rename World => wy
         obtain ⟨A2, hz2, hkeep, hzz, honz⟩ := hcut
         have hz1 := (hkeep w3.heap.size (by omega) (by omega) (by omega)).trans H8.out.1
         have hz3 := (hkeep w.heap.size (by omega) (by omega) (by omega)).trans H8.out.2.1
         have hz4 := (hkeep (w.heap.size + 1) (by omega) (by omega) (by omega)).trans H8.out.2.2.1
         have htz : TreeQ wy (fun k => W1.heap.size ≤ k ∧ k < w3.heap.size) (.slice b1 b2 b3) (.slice b4 b5 b6) t := H8.out.2.2.2.1.same (fun k hk => hkeep k (by omega) (by omega) (by omega)) (fun k hk => hk)
         have hoz : IntsOwn wy wA.heap.size (.slice va P.length vc) P := own_else8 H8.out.2.2.2.2.1 (fun k hk => hkeep k (H8.out.2.2.2.2.1.lt k hk.symm).2 (by have := (H8.out.2.2.2.2.1.lt k hk.symm).1; omega) (fun e9 => HG.out.2 (by rw [← e9]; exact hk.symm)))
         have hgx : g ≠ w.heap.size := by omega
         have hgy : g ≠ w.heap.size + 1 := by omega
         have h3x : w3.heap.size ≠ w.heap.size := by omega
         have h3y : w3.heap.size ≠ w.heap.size + 1 := by omega
         obtain ⟨x1, x2, -, -⟩ := box2 hz1
         obtain ⟨y1, y2, -, -⟩ := box2 hz2
         obtain ⟨z1, z2, z3, z4⟩ := box2 hz3
         obtain ⟨d1, d2, d3, d4⟩ := box2 hz4
         have HZ := Lib.hid (And.intro hz3 (And.intro hz4 (And.intro htz (And.intro hoz honz))))
         clear hz1 hz2 hz3 hz4 htz hoz honz hkeep HPK
         go_upto_region 8 with (fail)
         go_region_held3 (fun z => z.cell? ⟨w3.heap.size, 0, none⟩ = some (.slice b1 b2 b3) ∧ z.cell? ⟨w3.heap.size, 1, none⟩ = some (.slice b4 b5 b6) ∧ z.cell? ⟨g, 0, none⟩ = some (.slice va P.length vc) ∧ z.cell? ⟨g, 1, none⟩ = some (.int .i64 A2)) (first | with_reducible exact ⟨x1, x2, y1, y2⟩ | with_reducible exact keep8d (keep8 (keep8 ⟨x1, x2, y1, y2⟩ (Ne.symm h3x) (Ne.symm hgx)) (Ne.symm h3x) (Ne.symm hgx)) | with_reducible exact keep8d (keep8 (keep8 (keep8 (keep8 ⟨x1, x2, y1, y2⟩ (Ne.symm h3x) (Ne.symm hgx)) (Ne.symm h3x) (Ne.symm hgx)) (Ne.symm h3y) (Ne.symm hgy)) (Ne.symm h3y) (Ne.symm hgy)) | with_reducible exact keep8 (keep8 ⟨x1, x2, y1, y2⟩ (Ne.symm h3x) (Ne.symm hgx)) (Ne.symm h3x) (Ne.symm hgx) | with_reducible exact keep8 (keep8 (keep8 (keep8 ⟨x1, x2, y1, y2⟩ (Ne.symm h3x) (Ne.symm hgx)) (Ne.symm h3x) (Ne.symm hgx)) (Ne.symm h3y) (Ne.symm hgy)) (Ne.symm h3y) (Ne.symm hgy) | go_keep) (fail)
         all_goals (
           go_wp2_with fail
           obtain ⟨wf, hwf⟩ : ∃ wf, wf = (((wy.setCell ⟨w.heap.size, 0, none⟩ (.slice b1 b2 b3)).setCell ⟨w.heap.size, 1, none⟩ (.slice b4 b5 b6)).setCell ⟨w.heap.size + 1, 0, none⟩ (.slice va P.length vc)).setCell ⟨w.heap.size + 1, 1, none⟩ (.int .i64 A2) := ⟨_, rfl⟩
           have hfk : wf.heap[w.heap.size]? = some (.cells #[.slice b1 b2 b3, .slice b4 b5 b6] 33 (0, 0)) := by
             rw [hwf, set_other _ _ _ _ _ (by omega), set_other _ _ _ _ _ (by omega)]; exact set_blk (o := 1) _ (set_blk (o := 0) _ HZ.out.1)
           have hfc : wf.heap[w.heap.size + 1]? = some (.cells #[.slice va P.length vc, .int .i64 A2] 28 (0, 0)) := by
             rw [hwf]
             refine set_blk (o := 1) _ (set_blk (o := 0) (c := #[.slice none 0 0, .int .i64 0]) _ ?_)
             rw [set_other _ _ _ _ _ (by omega), set_other _ _ _ _ _ (by omega)]; exact HZ.out.2.1
           have hkf : ∀ k, k ≠ w.heap.size → k ≠ w.heap.size + 1 → wf.heap[k]? = wy.heap[k]? := fun k h1 h2 => by
             rw [hwf, set_other _ _ _ _ _ h2, set_other _ _ _ _ _ h2, set_other _ _ _ _ _ h1, set_other _ _ _ _ _ h1]
           have hsf : wf.heap.size = wy.heap.size := by rw [hwf]; simp
           have host : wf.os = wy.os ∧ wf.tape = wy.tape ∧ wf.output = wy.output := by rw [hwf]; exact ⟨rfl, rfl, rfl⟩
           rw [← hwf]
           clear hwf x1 x2 y1 y2 z1 z2 z3 z4 d1 d2 d3 d4
           obtain ⟨d1, d2, -, -⟩ := box2 hfc
           obtain ⟨r1, r2, -, -⟩ := box2 hfk
           refine bodyPost_ret (v := .tuple #[.agg #[.slice b1 b2 b3, .slice b4 b5 b6], .agg #[.slice va P.length vc, .int .i64 A2]]) (by simp [results, Tryd.results83, go_sem, d1, d2, r1, r2]) rfl ⟨_, _, t, _, P, A2, rfl, ?_, by omega, ?_, ?_⟩
           · exact HZ.out.2.2.1.same (fun k hk => hkf k (by omega) (by omega)) (fun k hk => ⟨by omega, by show k < wf.heap.size; omega⟩)
           · refine IntsOwn.lower (lo := wA.heap.size) (own_else8 HZ.out.2.2.2.1 (fun k hk => ?_)) (by omega)
             have h9 := (HZ.out.2.2.2.1.lt k hk.symm).1
             exact hkf k (by omega) (by omega)
           · exact HZ.out.2.2.2.2.trans ⟨host.1, host.2.1, host.2.2, by show wy.heap.size ≤ wf.heap.size; omega, fun k hk hne => hkf k (by omega) (by omega)⟩)
end Go.Proofs.YticfkfjijnfcbaaDoor
