/- The model draws a tree, a width and a list of numbers to delete. -/
import Derived.Test.YtananonjomfpkaaQgS3
import Derived.Deep.RegionHeld3
import Derived.Deep.Cut
/- The model opens a reader over bytes; a key is drawn. -/
namespace Go.Proofs.Ytananonjomfpkaa
open Go.RowKit
theorem num_get6k (x : Int) (hx : 0 ≤ x ∧ x < 100) (i : Nat) (h : i < 6) : -1 ≤ ([x, 0, 99, 5, -1, 100] : List Int).getD i 0 ∧ ([x, 0, 99, 5, -1, 100] : List Int).getD i 0 ≤ 100 := by
 rcases i with _ | _ | _ | _ | _ | _ | i <;> simp <;> omega
def Keyed (w : World) (B r : Nat) (bs : List Nat) (p : Nat) (t : Tr) (e : Ending) (w' : World) : Prop :=
 ∃ (key : Int) (q : Nat), e = .returned (.int .i64 key) ∧ (key ∈ t.keys ∨ (-1 ≤ key ∧ key ≤ 100)) ∧ Rd w' B r bs q ∧ q ≤ p + 3 ∧ Only w.heap.size r w w'
set_option maxHeartbeats 1000000 in
set_option maxRecDepth 100000 in
theorem key_c (w : World) (B r : Nat) (bs : List Nat) (p : Nat) (h : Rd w B r bs p) (hp : p ≤ 200000000) {kv cv : Value} {t : Tr} (ht : TreeIn w w.heap.size kv cv t) (hw : t.weight ≤ 1048576) :
   Calls Try.prog 86 #[.pointer (some ⟨r, 0, none⟩), .agg #[kv, cv]] w (Keyed w B r bs p t) := by
 have hrl := h.lt
 obtain ⟨a5, n5, m5, a6, n6, m6, rfl, rfl⟩ := ht.slices
 obtain ⟨W1, hW1⟩ : ∃ W1, W1 = w.alloc (.cells #[.slice a5 n5 m5, .slice a6 n6 m6] 26) := ⟨_, rfl⟩
 have hs1 : W1.heap.size = w.heap.size + 1 := by rw [hW1]; simp
 have hb1 : Below w.heap.size w W1 := by rw [hW1]; exact (Below.refl _ _).alloc (Nat.le_refl _) _
 have k0 : W1.heap[w.heap.size]? = some (.cells #[.slice a5 n5 m5, .slice a6 n6 m6] 26 (0, 0)) := by rw [hW1, new_blk]
 obtain ⟨x1, x2, x3, x4⟩ := box2 k0
 have HK := Lib.hid (specKeys_c ht hw W1 hb1 (by omega))
 have hkl : t.keys.length ≤ t.weight := Tr.keys_length_le t
 have H1 := Lib.hid (And.intro hb1 (h.later hb1 hrl))
 have HW1 := Lib.hid hW1
 clear hb1 k0 hW1 ht h
 go_enter Try.func86, Try.ntmps86
 go_wp2_with fail
 rw [← HW1.out]
 refine HK.out.mono ?_
 rintro e w2 ⟨v2, rfl, hown2, hb2⟩
 obtain ⟨a2, c2, rfl⟩ := hown2.shown
 have hs2 := hb2.size
 have hr2 : Rd w2 B r bs p := H1.out.2.later hb2 (by omega)
 have ho2 : Only w.heap.size r w w2 := below_only (H1.out.1.trans (hb2.mono (by omega)))
 have H2 := Lib.hid (And.intro hown2 (And.intro hr2 ho2))
 clear hown2 hb2 hr2 ho2 x1 x2 x3 x4
 by_cases hk0 : 0 < t.keys.length
 · have hk0' : ((t.keys.length : Int) > 0) := by omega
   have HP := Lib.hid (pick_c w2 B r bs p 2 H2.out.2.1 (by omega) (by omega) (by omega))
   go_wp2_with fail
   refine HP.out.mono ?_
   rintro e w3 ⟨x, m3, rfl, hx0, hx1, _, hw3⟩
   have hr3 : Rd w3 B r bs (p + 1) := by rw [hw3]; exact H2.out.2.1.picked m3
   have ho3 : Only w2.heap.size r w2 w3 := by rw [hw3]; exact Only.picked _ _ _ _ _
   have hz3 := ho3.size
   have hown3 : IntsOwn w3 W1.heap.size (.slice a2 t.keys.length c2) t.keys := IntsOwn.only H2.out.1 ho3 (Nat.le_refl _) (by omega)
   have ho3' := H2.out.2.2.trans (ho3.mono (by omega))
   have H3 := Lib.hid (And.intro hown3 (And.intro hr3 ho3'))
   clear hw3 hr3 ho3 hown3 ho3'
   by_cases hx : x = 0
   · have hxe : (x == 0) = true := by simp [hx]
     clear hx
     have HP2 := Lib.hid (pick_c w3 B r bs (p + 1) t.keys.length H3.out.2.1 (by omega) (by omega) (by omega))
     go_wp2_with fail
     refine HP2.out.mono ?_
     rintro e w4 ⟨y, m4, rfl, hy0, hy1, _, hw4⟩
     obtain ⟨iy, rfl⟩ := Int.eq_ofNat_of_zero_le hy0
     have hiy : iy < t.keys.length := by have := hy1 (by omega); omega
     have hr4 : Rd w4 B r bs (p + 1 + 1) := by rw [hw4]; exact H3.out.2.1.picked m4
     have ho4 : Only w3.heap.size r w3 w4 := by rw [hw4]; exact Only.picked _ _ _ _ _
     have hown4 := IntsOwn.only H3.out.1 ho4 (Nat.le_refl _) (by omega)
     obtain ⟨pa, pc, hpe, _, hpat⟩ := IntsIn.at (IntsOwn.in hown4)
     obtain ⟨rfl, rfl⟩ : a2 = pa ∧ c2 = pc := by simpa using hpe
     rcases hpat with h | ⟨b, o, rfl, hpat⟩
     · rw [h] at hk0; simp at hk0
     have hcell := hpat iy hiy
     have hmem : t.keys.getD iy 0 ∈ t.keys := by rw [List.getD_eq_getElem?_getD, List.getElem?_eq_getElem hiy]; exact List.getElem_mem hiy
     generalize t.keys.getD iy 0 = key at hcell hmem
     have H4 := Lib.hid (And.intro hr4 (And.intro (H3.out.2.2.trans (ho4.mono (by omega))) hmem))
     clear hr4 ho4 hown4 hpat hpe hw4 hy0 hy1 hmem
     go_wp2_with fail
     exact bodyPost_ret (v := .int .i64 key) (by simp [results, Try.results86, go_sem]) rfl ⟨key, p + 1 + 1, rfl, .inl H4.out.2.2, H4.out.1, by omega, H4.out.2.1⟩
   · have hxe : (x == 0) = false := beq_eq_false_iff_ne.2 hx
     clear hx
     have HP2 := Lib.hid (pick_c w3 B r bs (p + 1) 100 H3.out.2.1 (by omega) (by omega) (by omega))
     go_wp2_with fail
     refine HP2.out.mono ?_
     rintro e w4 ⟨y, m4, rfl, hy0, hy1, _, hw4⟩
     have hy100 : y < 100 := hy1 (by omega)
     have hr4 : Rd w4 B r bs ((p + 1) + 1) := by rw [hw4]; exact H3.out.2.1.picked m4
     have ho4 : Only w3.heap.size r w3 w4 := by rw [hw4]; exact Only.picked _ _ _ _ _
     have hz4 := ho4.size
     obtain ⟨W5, hW5⟩ : ∃ W5, W5 = w4.alloc (.cells #[.int .i64 y, .int .i64 0, .int .i64 99, .int .i64 5, .int .i64 (-1), .int .i64 100] 3) := ⟨_, rfl⟩
     have hs5 : W5.heap.size = w4.heap.size + 1 := by rw [hW5]; simp
     have hb5 : Below w4.heap.size w4 W5 := by rw [hW5]; exact (Below.refl _ _).alloc (Nat.le_refl _) _
     have hk5 : W5.heap[w4.heap.size]? = some (.cells #[.int .i64 y, .int .i64 0, .int .i64 99, .int .i64 5, .int .i64 (-1), .int .i64 100] 3 (0, 0)) := by rw [hW5, new_blk]
     have ho5 : Only w.heap.size r w W5 := (H3.out.2.2.trans (ho4.mono (by omega))).trans (below_only (hb5.mono (by omega)))
     have HN := Lib.hid (num_c W5 B r bs ((p + 1) + 1) w4.heap.size [y, 0, 99, 5, -1, 100] 6 (hr4.later hb5 (by omega)) (by omega) (by omega) (by simp) (by simp) (fun i hi => by
       have hi6 : i < 6 := by simpa using hi
       refine cell_in hk5 ?_
       rcases i with _ | _ | _ | _ | _ | _ | i
       · rfl
       · rfl
       · rfl
       · rfl
       · rfl
       · rfl
       · omega))
     have H5 := Lib.hid (And.intro (hr4.later hb5 (by omega)) ho5)
     have HW5 := Lib.hid hW5
     clear hr4 ho4 hW5 hb5 hk5 ho5 hw4 hy1
     go_wp2_with fail
     rw [← HW5.out]
     refine HN.out.mono ?_
     rintro e w6 ⟨i, m6, hi, rfl, hw6⟩
     obtain ⟨g1, g2⟩ := num_get6k y ⟨hy0, hy100⟩ i (by simpa using hi)
     generalize ([y, 0, 99, 5, -1, 100] : List Int).getD i 0 = key at g1 g2
     have hr6 : Rd w6 B r bs ((p + 1) + 1 + 1) := by rw [hw6]; exact H5.out.1.picked m6
     have ho6 : Only w.heap.size r w w6 := H5.out.2.trans (by rw [hw6]; exact (Only.picked W5.heap.size _ _ _ _).mono (by omega))
     have H6 := Lib.hid (And.intro hr6 ho6)
     clear hr6 ho6 hi hw6
     go_wp2_with fail
     exact bodyPost_ret (v := .int .i64 key) (by simp [results, Try.results86, go_sem]) rfl ⟨key, (p + 1) + 1 + 1, rfl, .inr ⟨g1, g2⟩, H6.out.1, by omega, H6.out.2⟩
 · have hk0' : ¬ ((t.keys.length : Int) > 0) := by omega
   have HP2 := Lib.hid (pick_c w2 B r bs p 100 H2.out.2.1 (by omega) (by omega) (by omega))
   go_wp2_with fail
   refine HP2.out.mono ?_
   rintro e w4 ⟨y, m4, rfl, hy0, hy1, _, hw4⟩
   have hy100 : y < 100 := hy1 (by omega)
   have hr4 : Rd w4 B r bs (p + 1) := by rw [hw4]; exact H2.out.2.1.picked m4
   have ho4 : Only w2.heap.size r w2 w4 := by rw [hw4]; exact Only.picked _ _ _ _ _
   have hz4 := ho4.size
   obtain ⟨W5, hW5⟩ : ∃ W5, W5 = w4.alloc (.cells #[.int .i64 y, .int .i64 0, .int .i64 99, .int .i64 5, .int .i64 (-1), .int .i64 100] 3) := ⟨_, rfl⟩
   have hs5 : W5.heap.size = w4.heap.size + 1 := by rw [hW5]; simp
   have hb5 : Below w4.heap.size w4 W5 := by rw [hW5]; exact (Below.refl _ _).alloc (Nat.le_refl _) _
   have hk5 : W5.heap[w4.heap.size]? = some (.cells #[.int .i64 y, .int .i64 0, .int .i64 99, .int .i64 5, .int .i64 (-1), .int .i64 100] 3 (0, 0)) := by rw [hW5, new_blk]
   have ho5 : Only w.heap.size r w W5 := (H2.out.2.2.trans (ho4.mono (by omega))).trans (below_only (hb5.mono (by omega)))
   have HN := Lib.hid (num_c W5 B r bs (p + 1) w4.heap.size [y, 0, 99, 5, -1, 100] 6 (hr4.later hb5 (by omega)) (by omega) (by omega) (by simp) (by simp) (fun i hi => by
     have hi6 : i < 6 := by simpa using hi
     refine cell_in hk5 ?_
     rcases i with _ | _ | _ | _ | _ | _ | i
     · rfl
     · rfl
     · rfl
     · rfl
     · rfl
     · rfl
     · omega))
   have H5 := Lib.hid (And.intro (hr4.later hb5 (by omega)) ho5)
   have HW5 := Lib.hid hW5
   clear hr4 ho4 hW5 hb5 hk5 ho5 hw4 hy1
   go_wp2_with fail
   rw [← HW5.out]
   refine HN.out.mono ?_
   rintro e w6 ⟨i, m6, hi, rfl, hw6⟩
   obtain ⟨g1, g2⟩ := num_get6k y ⟨hy0, hy100⟩ i (by simpa using hi)
   generalize ([y, 0, 99, 5, -1, 100] : List Int).getD i 0 = key at g1 g2
   have hr6 : Rd w6 B r bs (p + 1 + 1) := by rw [hw6]; exact H5.out.1.picked m6
   have ho6 : Only w.heap.size r w w6 := H5.out.2.trans (by rw [hw6]; exact (Only.picked W5.heap.size _ _ _ _).mono (by omega))
   have H6 := Lib.hid (And.intro hr6 ho6)
   clear hr6 ho6 hi hw6
   go_wp2_with fail
   exact bodyPost_ret (v := .int .i64 key) (by simp [results, Try.results86, go_sem]) rfl ⟨key, p + 1 + 1, rfl, .inr ⟨g1, g2⟩, H6.out.1, by omega, H6.out.2⟩
end Go.Proofs.Ytananonjomfpkaa
/- The model draws a tree, a width and a list of numbers to delete. -/
namespace Go.Proofs.Ytananonjomfpkaa
open Go.RowKit
def AllDrawn (w : World) (e : Ending) (w' : World) : Prop :=
 ∃ (kv cv v : Value) (t : Tr) (wide : Int) (ks : List Int), e = .returned (.tuple #[.agg #[kv, cv], .int .i64 wide, v]) ∧ (-1 ≤ wide ∧ wide ≤ 7) ∧ TreeQ w' (fun k => w.heap.size ≤ k ∧ k < w'.heap.size) kv cv t ∧ t.weight ≤ 400000 ∧ IntsOwn w' w.heap.size v ks ∧ ks.length ≤ 16 ∧ Below w.heap.size w w'
theorem all_get5 (i : Nat) (h : i < 5) : 0 ≤ ([4, 8, 2, 0, 16] : List Int).getD i 0 ∧ ([4, 8, 2, 0, 16] : List Int).getD i 0 ≤ 16 := by
 rcases i with _ | _ | _ | _ | _ | i <;> simp <;> omega
theorem cell_of_ints {w : World} {b : Nat} {ks : List Int} {t : TypeId} (h : w.heap[b]? = some (.cells (ks.map (Value.int .i64)).toArray t (0, 0))) (i : Nat) (hi : i < ks.length) : w.cell? ⟨b, i, none⟩ = some (.int .i64 (ks.getD i 0)) := by
 simp [World.cell?, h, hi, List.getD_eq_getElem?_getD]
theorem all_end {w W4 W : World} {x R : Nat} {a1 a2 : Value} {ty : TypeId} {b1 b4 : Option Addr} {b2 b3 b5 b6 : Nat} {t : Tr} {v : Value} {ks : List Int} (hs : w.heap.size + 1 = R) (hx : R < x) (hW : x < W4.heap.size) (ht : TreeQ W4 (fun k => R < k ∧ k < x) (.slice b1 b2 b3) (.slice b4 b5 b6) t) (hb : Below w.heap.size w W4)
   (hk : W4.heap[w.heap.size]? = some (.cells #[a1, a2] ty (0, 0))) (ho : Only W4.heap.size R W4 W) (hv : IntsOwn W W4.heap.size v ks) :
   ∃ wf, wf = (W.setCell ⟨w.heap.size, 0, none⟩ (.slice b1 b2 b3)).setCell ⟨w.heap.size, 1, none⟩ (.slice b4 b5 b6) ∧ wf.heap[w.heap.size]? = some (.cells #[.slice b1 b2 b3, .slice b4 b5 b6] ty (0, 0)) ∧
     TreeQ wf (fun k => w.heap.size ≤ k ∧ k < wf.heap.size) (.slice b1 b2 b3) (.slice b4 b5 b6) t ∧ IntsOwn wf w.heap.size v ks ∧ Below w.heap.size w wf := by
 have hsz := ho.size
 have hkW := (ho.block w.heap.size (by omega) (by omega)).trans hk
 refine ⟨_, rfl, set_blk (o := 1) _ (set_blk (o := 0) _ hkW), ?_, ?_, ?_⟩
 · refine ht.same (fun k hk => ?_) (fun k hk => ⟨by omega, by simp; omega⟩)
   rw [set_other _ _ _ _ _ (by omega), set_other _ _ _ _ _ (by omega)]
   exact ho.block k (by omega) (by omega)
 · have h1 : Only W.heap.size w.heap.size W ((W.setCell ⟨w.heap.size, 0, none⟩ (.slice b1 b2 b3)).setCell ⟨w.heap.size, 1, none⟩ (.slice b4 b5 b6)) :=
     ⟨rfl, rfl, rfl, by simp, fun k _ hne => by rw [set_other _ _ _ _ _ hne, set_other _ _ _ _ _ hne]⟩
   exact IntsOwn.lower (hv.only h1 (Nat.le_refl _) (by omega)) (by omega)
 · exact ((hb.trans (ho.below (by omega) (by omega))).setCell (by show w.heap.size ≤ w.heap.size; omega) _).setCell (by show w.heap.size ≤ w.heap.size; omega) _
set_option maxHeartbeats 4000000 in
set_option maxRecDepth 100000 in
theorem drawDelAll_c {w : World} {B : Nat} {v : Value} {bs : List Nat} (h : BytesIn w B v bs) (w' : World) (hbw : Below B w w') (hB : B ≤ w'.heap.size) :
   Calls Try.prog 40 #[v] w' (AllDrawn w') := by
 obtain ⟨W1, hW1⟩ : ∃ W1, W1 = w'.alloc (.cells #[.slice none 0 0, .slice none 0 0] 26) := ⟨_, rfl⟩
 obtain ⟨R, hRe⟩ : ∃ R, R = w'.heap.size + 1 := ⟨_, rfl⟩
 have hs1 : W1.heap.size = R := by rw [hW1, hRe]; simp
 have hR1 : w'.heap.size < R := by omega
 have hR2 : w'.heap.size + 1 = R := by omega
 have hb1 : Below w'.heap.size w' W1 := by rw [hW1]; exact (Below.refl _ _).alloc (Nat.le_refl _) _
 have hk1 : W1.heap[w'.heap.size]? = some (.cells #[.slice none 0 0, .slice none 0 0] 26 (0, 0)) := by rw [hW1, new_blk]
 have hop := open_c h W1 (hbw.trans (hb1.mono hB)) (by omega)
 rw [hs1] at hop
 have HO := Lib.hid hop
 have HR := Lib.hid hR2
 clear hop hRe hR2
 obtain ⟨va, vcap, rfl, -⟩ := h
 have HW1 := Lib.hid hW1
 have H1 := Lib.hid (And.intro hb1 hk1)
 clear hW1 hb1 hk1 hbw
 go_enter Try.func40, Try.ntmps40
 go_wp2_with fail
 rw [← HW1.out]
 refine HO.out.mono ?_
 rintro e w2 ⟨rfl, ⟨bs', hr2⟩, hb2⟩
 have hs2 := hb2.size
 have hrl2 := hr2.lt
 obtain ⟨p0, hp0, hr2⟩ : ∃ p0 : Nat, p0 ≤ 100 ∧ Rd w2 R R bs' p0 := ⟨0, by omega, hr2⟩
 have HS := Lib.hid (some_c w2 _ _ bs' p0 hr2 (by omega))
 have H2 := Lib.hid hb2
 clear hr2 hb2
 go_wp2_with fail
 refine HS.out.mono ?_
 rintro e w3 ⟨k3, c3, t, wide, q0, rfl, hwd1, hwd2, ht3, hw3, hr3, hq3, ho3⟩
 obtain ⟨b1, b2, b3, b4, b5, b6, rfl, rfl⟩ := ht3.slices
 have hs3 := ho3.size
 have hk3 := (ho3.block w'.heap.size (by omega) (by omega)).trans ((H2.out.block w'.heap.size (by omega)).trans H1.out.2)
 obtain ⟨W4, hW4⟩ : ∃ W4, W4 = w3.alloc (.cells #[.slice b1 b2 b3, .slice b4 b5 b6] 26) := ⟨_, rfl⟩
 have hs4 : w3.heap.size < W4.heap.size := by rw [hW4]; simp
 have hb4 : Below w3.heap.size w3 W4 := by rw [hW4]; exact (Below.refl _ _).alloc (Nat.le_refl _) _
 have hx4 : W4.heap[w3.heap.size]? = some (.cells #[.slice b1 b2 b3, .slice b4 b5 b6] 26 (0, 0)) := by rw [hW4, new_blk]
 have ht4 : TreeQ W4 (fun k => R < k ∧ k < w3.heap.size) (.slice b1 b2 b3) (.slice b4 b5 b6) t := ht3.same (fun k hk => hb4.block k hk.2) (fun k hk => ⟨by omega, hk.2⟩)
 have hk4 := (hb4.block w'.heap.size (by omega)).trans hk3
 have hr4 := hr3.later hb4 (by omega)
 have hbt : Below w'.heap.size w' W4 := H1.out.1.trans ((H2.out.mono (by omega)).trans ((ho3.below (B := w'.heap.size) (by omega) (by omega)).trans (hb4.mono (by omega))))
 have HW4 := Lib.hid hW4
 have H4 := Lib.hid (And.intro ht4 (And.intro hx4 (And.intro hk4 (And.intro hr4 hbt))))
 clear ht3 hr3 ho3 hk3 hW4 hb4 hx4 ht4 hk4 hr4 hbt
 go_upto_region 3 with (fail)
 rw [← HW4.out]
 -- the five numbers of which one is how many
 obtain ⟨W5, hW5⟩ : ∃ W5, W5 = (W4.alloc (.cells #[] 3)).alloc (.cells #[.int .i64 4, .int .i64 8, .int .i64 2, .int .i64 0, .int .i64 16] 3) := ⟨_, rfl⟩
 have hs5 : W5.heap.size = W4.heap.size + 2 := by rw [hW5]; simp
 have hb5 : Below W4.heap.size W4 W5 := by rw [hW5]; exact ((Below.refl _ _).alloc (Nat.le_refl _) _).alloc (by simp) _
 have hk5 : W5.heap[W4.heap.size + 1]? = some (.cells #[.int .i64 4, .int .i64 8, .int .i64 2, .int .i64 0, .int .i64 16] 3 (0, 0)) := by
   rw [hW5, show W4.heap.size + 1 = (W4.alloc (.cells #[] 3)).heap.size by simp, new_blk]
 have h00 : IntsOwn W5 W4.heap.size (.slice (some ⟨W4.heap.size, 0, none⟩) 0 0) [] := by
   rw [hW5]; exact World.ownsRow.alloc (World.ownsRow_made W4 #[] 0 (Nat.le_refl _) (by unfold maxLen; omega) rfl) _
 have hr5 : Rd W5 R R bs' q0 := H4.out.2.2.2.1.later hb5 (by omega)
 have HW5 := Lib.hid hW5
 have H5 := Lib.hid (And.intro hr5 (And.intro hk5 (And.intro h00 (below_only (r := R) hb5))))
 clear hW5 hb5 hk5 h00 hr5
 go_wp2_with fail
 rw [← HW5.out]
 refine (num_c W5 R R bs' q0 (W4.heap.size + 1) [4, 8, 2, 0, 16] 5 H5.out.1 (by omega) (by omega) (by simp) (by simp) (fun i hi => cell_of_ints H5.out.2.1 i hi)).mono ?_
 rintro e w6 ⟨i, m, hi, rfl, hw6⟩
 obtain ⟨hn1, hn2⟩ := all_get5 i (by simpa using hi)
 generalize ([4, 8, 2, 0, 16] : List Int).getD i 0 = n at hn1 hn2
 have hr6 : Rd w6 R R bs' (q0 + 1) := by rw [hw6]; exact H5.out.1.picked m
 have ho6 : Only W4.heap.size R W4 w6 := by rw [hw6]; exact H5.out.2.2.2.trans (Only.picked _ _ _ _ _)
 have hown6 : IntsOwn w6 W4.heap.size (.slice (some ⟨W4.heap.size, 0, none⟩) 0 0) [] := H5.out.2.2.1.only (by rw [hw6]; exact Only.picked W5.heap.size R q0 W5 m) (Nat.le_refl _) (by omega)
 have H6 := Lib.hid (And.intro hr6 (And.intro ho6 hown6))
 clear hr6 ho6 hown6 hi hw6
 go_wp2_with fail
 go_loopw [8, 23] (fun s8 i wr => ∃ (j : Nat) (ks : List Int) (q : Nat), i = .int .i64 j ∧ (j : Int) ≤ n ∧ ks.length = j ∧
     IntsOwn wr W4.heap.size s8 ks ∧ Rd wr R R bs' q ∧ q ≤ q0 + 1 + 3 * j ∧ Only W4.heap.size R W4 wr) (fun _ i _ => (100 - intOf i).toNat)
 case atStart => exact ⟨0, [], _, rfl, by omega, rfl, H6.out.2.2, H6.out.1, by omega, H6.out.2.1⟩
 case round =>
   obtain ⟨j, ks, q, rfl, hj, hkl, hown, hrd, hq, honly⟩ := hrel
   obtain ⟨oa, oc, rfl⟩ := IntsOwn.shown hown
   have hsz := honly.size
   have HRR := Lib.hid (And.intro hown (And.intro hrd honly))
   have HKL := Lib.hid hkl
   by_cases hlt : (j : Int) < n
   · have hbx := (honly.block w3.heap.size (by omega) (by omega)).trans H4.out.2.1
     obtain ⟨x1, x2, x3, x4⟩ := box2 hbx
     have htw : TreeIn wr wr.heap.size (.slice b1 b2 b3) (.slice b4 b5 b6) t := by
       have h0 : TreeQ wr (fun k => k < wr.heap.size) (.slice b1 b2 b3) (.slice b4 b5 b6) t := H4.out.1.same (fun k hk => honly.block k (by omega) (by omega)) (fun k hk => by have := hk.2; omega)
       exact TreeQ.tree h0 (fun _ e => e)
     have HTW := Lib.hid htw
     have HLN : Hid (ks.length + 1 ≤ 17592186044416) := Lib.hid (by rw [hkl]; omega)
     clear hown hrd honly hkl hbx htw
     go_wp2_with fail
     refine (key_c wr R R bs' q HRR.out.2.1 (by omega) HTW.out (by omega)).mono ?_
     rintro e w6 ⟨key, q6, rfl, hkey, hr6, hq6, ho6⟩
     have hs6 := ho6.size
     have hrl6 := hr6.lt
     have hon6 : Only W4.heap.size R W4 w6 := HRR.out.2.2.trans (ho6.mono hsz)
     have hown6 : IntsOwn w6 W4.heap.size (.slice oa ks.length oc) ks := HRR.out.1.only ho6 (Nat.le_refl _) (by omega)
     have HO1 := Lib.hid (IntsOwn.alloc' hown6 (.cells #[.int .i64 key] 3))
     have HS1 := Lib.hid (IntsAt.one w6 key)
     have hlo : W4.heap.size ≤ (w6.alloc (.cells #[.int .i64 key] 3)).heap.size := by simp; omega
     have HL1 : Hid (ks.length + [key].length ≤ 17592186044416) := Lib.hid (by have := HLN.out; simp; omega)
     have H6' := Lib.hid (And.intro hr6 (And.intro hon6 hkey))
     clear hr6 ho6 hon6 hown6 hkey x1 x2 x3 x4
     go_wp2_with (at_builtin; refine wpList_append_ints rfl _ _ rfl W4.heap.size _ _ ks [key] rfl HO1.out rfl HS1.out HL1.out hlo ?_; intro v8 w8 hown8 hbel8 _ hsh8; obtain ⟨a8, c8, rfl⟩ := hsh8; generalize hL8 : ks ++ [key] = L8 at hown8 ⊢; have HL8 := Lib.hid hL8; have HN := Lib.hid (And.intro hown8 hbel8); clear hown8 hbel8 hL8)
     go_roundw
     case rel =>
       have hll : L8.length = ks.length + 1 := by rw [← HL8.out]; simp
       have hb8 : Below W4.heap.size w6 w8 := ((Below.refl _ _).alloc (by omega) _).trans HN.out.2
       exact ⟨j + 1, L8, q6, by go_num, by omega, by rw [hll, HKL.out], HN.out.1, H6'.out.1.later hb8 (by omega), by omega, H6'.out.2.1.trans (below_only hb8)⟩
     case measure => simp [intOf]; omega
   · have hks : ks.length ≤ 16 := by omega
     clear hown hrd honly hkl
     go_wp2_with fail
     refine (pick_c wr R R bs' q 3 HRR.out.2.1 (by omega) (by omega) (by omega)).mono ?_
     rintro e w9 ⟨y, m9, rfl, hy0, hy1, _, hw9⟩
     have ho9 : Only W4.heap.size R W4 w9 := by rw [hw9]; exact HRR.out.2.2.trans (Only.picked _ _ _ _ _)
     have hown9 : IntsOwn w9 W4.heap.size (.slice oa ks.length oc) ks := HRR.out.1.only (by rw [hw9]; exact Only.picked wr.heap.size R q wr m9) (Nat.le_refl _) (by omega)
     have hz9 := ho9.size
     have H9 := Lib.hid (And.intro ho9 hown9)
     clear ho9 hown9 hy1 hw9
     by_cases hyz : y > 0
     · have hin9 := IntsOwn.inB H9.out.2 (Nat.le_refl _)
       have HIN := Lib.hid hin9
       have hal : Below w9.heap.size w9 (w9.alloc (.cells #[] 3)) := (Below.refl _ _).alloc (Nat.le_refl _) _
       have HL0 := Lib.hid (And.intro (World.ownsRow_made w9 #[] 0 (Nat.le_refl _) (by unfold maxLen; omega) rfl : IntsOwn (w9.alloc (.cells #[] 3)) w9.heap.size (.slice (some ⟨w9.heap.size, 0, none⟩) 0 0) []) hal)
       clear hin9 hal
       go_wp2_with fail
       go_loopw [9, 11, 38] (fun s9 s11 i wr => ∃ (j2 : Nat) (us : List Int), j2 ≤ ks.length ∧ i = .int .i64 j2 ∧ us.length ≤ j2 ∧ IntsOwn wr w9.heap.size s9 us ∧ Below w9.heap.size w9 wr) (fun _ _ i _ => ks.length - (intOf i).toNat)
       case atStart => exact ⟨0, [], Nat.zero_le _, rfl, Nat.le_refl _, HL0.out.1, HL0.out.2⟩
       case round =>
         obtain ⟨j2, us, hj2, rfl, hul, hown2, hbel2⟩ := hrel
         obtain ⟨oa2, oc2, rfl⟩ := IntsOwn.shown hown2
         have hsz2 := hbel2.size
         have HW2 := Lib.hid (And.intro hown2 hbel2)
         clear hown2
         by_cases hlt2 : j2 < ks.length
         · have hin := HIN.out
           obtain ⟨_, _, hve, -, -, -, h3⟩ := hin
           simp only [Value.slice.injEq] at hve
           obtain ⟨rfl, -, -⟩ := hve
           rcases h3 with h | ⟨b, off, rfl, hb, hat⟩
           · simp [h] at hlt2
           have ha := hat j2 hlt2
           rw [← below_cell hbel2 (by omega)] at ha
           generalize ks.getD j2 0 = k at ha
           have hjl : (j2 : Int) < (ks.length : Int) := by omega
           clear hat hb hbel2
           go_wp2_with fail
           refine (l1In_c k 0 99 _).mono ?_
           rintro e w10 ⟨rfl, heq10⟩
           subst heq10
           cases hinb : inB k 0 99 with
           | false =>
             clear hinb
             go_wp2_with fail
             go_roundw
             case rel => exact ⟨j2 + 1, us, by omega, by go_num, by omega, HW2.out.1, HW2.out.2⟩
             case measure => simp [intOf]; omega
           | true =>
             have HO2 := Lib.hid (IntsOwn.alloc' HW2.out.1 (.cells #[.int .i64 k] 3))
             have HS2 := Lib.hid (IntsAt.one wr k)
             have hlo2 : w9.heap.size ≤ (wr.alloc (.cells #[.int .i64 k] 3)).heap.size := by simp; omega
             have HL2 : Hid (us.length + [k].length ≤ 17592186044416) := Lib.hid (by simp; omega)
             clear hinb
             go_wp2_with (at_builtin; refine wpList_append_ints rfl _ _ rfl w9.heap.size _ _ us [k] rfl HO2.out rfl HS2.out HL2.out hlo2 ?_; intro v8 w8 hown8 hbel8 _ hsh8; obtain ⟨a8, c8, rfl⟩ := hsh8; generalize hL8 : us ++ [k] = L8 at hown8 ⊢; have HL8 := Lib.hid hL8; have HN := Lib.hid (And.intro hown8 hbel8); clear hown8 hbel8 hL8)
             go_roundw
             case rel =>
               have hll : L8.length = us.length + 1 := by rw [← HL8.out]; simp
               exact ⟨j2 + 1, L8, by omega, by go_num, by omega, HN.out.1, HW2.out.2.trans (((Below.refl _ _).alloc hsz2 _).trans HN.out.2)⟩
             case measure => simp [intOf]; omega
         · have hjl : ¬ (j2 : Int) < (ks.length : Int) := by omega
           have hon2 : Only W4.heap.size R W4 wr := H9.out.1.trans (below_only (HW2.out.2.mono (by omega)))
           have hbx := (hon2.block w3.heap.size (by omega) (by omega)).trans H4.out.2.1
           obtain ⟨x1, x2, x3, x4⟩ := box2 hbx
           have hres := (hon2.block w'.heap.size (by omega) (by omega)).trans H4.out.2.2.1
           obtain ⟨z1, z2, z3, z4⟩ := box2 hres
           obtain ⟨wf, hwf, hfb, ht5, ho5, hb5⟩ := all_end (x := w3.heap.size) HR.out (by omega) (by omega) H4.out.1 H4.out.2.2.2.2 H4.out.2.2.1 hon2 (IntsOwn.lower HW2.out.1 (by omega))
           obtain ⟨d1, d2, d3, -⟩ := box2 hfb
           have HE := Lib.hid (And.intro ht5 (And.intro ho5 hb5))
           have HWF := Lib.hid hwf
           clear hon2 hbx hres ht5 ho5 hb5 hwf hbel2 hfb
           go_wp2_with fail
           rw [← HWF.out]
           exact bodyPost_ret (v := .tuple #[.agg #[.slice b1 b2 b3, .slice b4 b5 b6], .int .i64 wide, .slice oa2 us.length oc2]) (by simp [results, Try.results40, go_sem, d1, d2]) rfl ⟨_, _, _, t, wide, us, rfl, ⟨hwd1, hwd2⟩, HE.out.1, by omega, HE.out.2.1, by omega, HE.out.2.2⟩
     · have hon2 := H9.out.1
       have hbx := (hon2.block w3.heap.size (by omega) (by omega)).trans H4.out.2.1
       obtain ⟨x1, x2, x3, x4⟩ := box2 hbx
       have hres := (hon2.block w'.heap.size (by omega) (by omega)).trans H4.out.2.2.1
       obtain ⟨z1, z2, z3, z4⟩ := box2 hres
       obtain ⟨wf, hwf, hfb, ht5, ho5, hb5⟩ := all_end (x := w3.heap.size) HR.out (by omega) (by omega) H4.out.1 H4.out.2.2.2.2 H4.out.2.2.1 hon2 H9.out.2
       obtain ⟨d1, d2, d3, -⟩ := box2 hfb
       have HE := Lib.hid (And.intro ht5 (And.intro ho5 hb5))
       have HWF := Lib.hid hwf
       clear hon2 hbx hres ht5 ho5 hb5 hwf hfb
       go_wp2_with fail
       rw [← HWF.out]
       exact bodyPost_ret (v := .tuple #[.agg #[.slice b1 b2 b3, .slice b4 b5 b6], .int .i64 wide, .slice oa ks.length oc]) (by simp [results, Try.results40, go_sem, d1, d2]) rfl ⟨_, _, _, t, wide, ks, rfl, ⟨hwd1, hwd2⟩, HE.out.1, by omega, HE.out.2.1, by omega, HE.out.2.2⟩
theorem drawRepOf_c {w : World} {B : Nat} {v : Value} {bs : List Nat} (h : BytesIn w B v bs) (w' : World) (hbw : Below B w w') (hB : B ≤ w'.heap.size) :
   Calls Try.prog 45 #[v] w' (AllDrawn w') := by
 obtain ⟨W1, hW1⟩ : ∃ W1, W1 = w'.alloc (.cells #[.slice none 0 0, .slice none 0 0] 26) := ⟨_, rfl⟩
 have hs1 : w'.heap.size < W1.heap.size := by rw [hW1]; simp
 have hb1 : Below w'.heap.size w' W1 := by rw [hW1]; exact (Below.refl _ _).alloc (Nat.le_refl _) _
 have hk1 : W1.heap[w'.heap.size]? = some (.cells #[.slice none 0 0, .slice none 0 0] 26 (0, 0)) := by rw [hW1, new_blk]
 have HO := Lib.hid (drawDelAll_c h W1 (hbw.trans (hb1.mono hB)) (by omega))
 obtain ⟨va, vcap, rfl, -⟩ := h
 have HW1 := Lib.hid hW1
 have H1 := Lib.hid (And.intro hb1 hk1)
 clear hW1 hb1 hk1 hbw
 go_enter Try.func45, Try.ntmps45
 go_wp2_with fail
 rw [← HW1.out]
 refine HO.out.mono ?_
 rintro e w2 ⟨kv, cv, v2, t, wide, ks, rfl, ⟨hwd1, hwd2⟩, ht2, hw2, ho2, hkl, hb2⟩
 obtain ⟨b1, b2, b3, b4, b5, b6, rfl, rfl⟩ := ht2.slices
 obtain ⟨oa, oc, rfl⟩ := IntsOwn.shown ho2
 have hs2 := hb2.size
 have hk2 := (hb2.block w'.heap.size (by omega)).trans H1.out.2
 obtain ⟨x1, x2, x3, x4⟩ := box2 hk2
 obtain ⟨wf, hwf⟩ : ∃ wf, wf = (w2.setCell ⟨w'.heap.size, 0, none⟩ (.slice b1 b2 b3)).setCell ⟨w'.heap.size, 1, none⟩ (.slice b4 b5 b6) := ⟨_, rfl⟩
 have hfb : wf.heap[w'.heap.size]? = some (.cells #[.slice b1 b2 b3, .slice b4 b5 b6] 26 (0, 0)) := by
   rw [hwf]; exact set_blk (o := 1) _ (set_blk (o := 0) _ hk2)
 have h1 : Only w2.heap.size w'.heap.size w2 wf := by rw [hwf]; exact ⟨rfl, rfl, rfl, by simp, fun k _ hne => by rw [set_other _ _ _ _ _ hne, set_other _ _ _ _ _ hne]⟩
 have hz := h1.size
 have ht5 : TreeQ wf (fun k => w'.heap.size ≤ k ∧ k < wf.heap.size) (.slice b1 b2 b3) (.slice b4 b5 b6) t := ht2.same (fun k hk => h1.block k hk.2 (by omega)) (fun k hk => ⟨by omega, by omega⟩)
 have ho5 : IntsOwn wf w'.heap.size (.slice oa ks.length oc) ks := IntsOwn.lower (ho2.only h1 (Nat.le_refl _) (by omega)) (by omega)
 have hb5 : Below w'.heap.size w' wf := by rw [hwf]; exact ((H1.out.1.trans (hb2.mono (by omega))).setCell (by show w'.heap.size ≤ w'.heap.size; omega) _).setCell (by show w'.heap.size ≤ w'.heap.size; omega) _
 obtain ⟨d1, d2, d3, -⟩ := box2 hfb
 have HE := Lib.hid (And.intro ht5 (And.intro ho5 hb5))
 have HWF := Lib.hid hwf
 clear hk2 hb2 ht5 ho5 hb5 hwf hfb h1 hz ho2 ht2
 go_wp2_with fail
 rw [← HWF.out]
 exact bodyPost_ret (v := .tuple #[.agg #[.slice b1 b2 b3, .slice b4 b5 b6], .int .i64 wide, .slice oa ks.length oc]) (by simp [results, Try.results45, go_sem, d1, d2]) rfl ⟨_, _, _, t, wide, ks, rfl, ⟨hwd1, hwd2⟩, HE.out.1, by omega, HE.out.2.1, by omega, HE.out.2.2⟩
end Go.Proofs.Ytananonjomfpkaa
