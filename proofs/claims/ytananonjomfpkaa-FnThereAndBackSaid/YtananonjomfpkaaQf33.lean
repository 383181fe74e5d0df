/- Deleting: the keys of a tree from which one is taken. -/
import Derived.Test.YtananonjomfpkaaQf32
import Derived.Test.YtananonjomfpkaaQf30
/- The contract of the program's SameTree. -/
namespace Go.Proofs.Ytananonjomfpkaa
open Go.RowKit
theorem own_drew {w : World} {b : Nat} {e : TypeId} {s n : Nat} {v : Value} {xs : List Value} (h : w.ownsRow b e s v n xs) : w.drew.ownsRow b e s v n xs := h
theorem pair_grown {wr w7 : World} {g cap n base : Nat} {x y : Value} (hgb : base ≤ g) (hs : base ≤ wr.heap.size) (hgr : (wr.alloc (.cells #[x, y] 79)).drew.grownBy w7 (Value.slice (some ⟨g, 0, none⟩) n cap).ownBlock) : Below base wr w7 := by
 have hsz : wr.heap.size + 1 ≤ w7.heap.size := by have := hgr.size; simpa using this
 refine ⟨hgr.os, hgr.tape, hgr.output, by omega, fun k hk => ?_⟩
 have h1 := hgr.block k (by simp; omega) (by simp [Value.ownBlock]; omega)
 rw [h1]
 exact old_blk wr _ k (by omega)
set_option maxRecDepth 100000 in
set_option maxHeartbeats 4000000 in
theorem impl_same_a {kv cv kv' cv' : Value} {t t' : Tr} (w' : World) (htN : TreeA w' kv cv t) (hw : t.weight ≤ 1048576) (htT' : TreeIn w' w'.heap.size kv' cv' t') :
   Calls Try.prog 18 #[.agg #[kv, cv], .agg #[kv', cv']] w' fun e w'' => e = .returned (.bool (t.sameB t')) ∧ Below w'.heap.size w' w'' := by
 obtain ⟨i0, hi0, hz0, hz1, hz2⟩ := info_parts Try.infoPair
 have htT := htN.tree
 obtain ⟨sA1, sA2, sA3, sA4, sA5, sA6, rfl, rfl⟩ := htN.slices
 obtain ⟨a6, n6, c6, a7, n7, c7, rfl, rfl⟩ := htT'.slices
 obtain ⟨W2, hW2⟩ : ∃ W2, W2 = (w'.alloc (.cells #[.slice sA1 sA2 sA3, .slice sA4 sA5 sA6] 26)).alloc (.cells #[.slice a6 n6 c6, .slice a7 n7 c7] 26) := ⟨_, rfl⟩
 have hs2 : W2.heap.size = w'.heap.size + 2 := by rw [hW2]; simp
 have hb2 : Below w'.heap.size w' W2 := by rw [hW2]; exact ((Below.refl _ _).alloc (Nat.le_refl _) _).alloc (by simp) _
 have k0 : W2.heap[w'.heap.size]? = some (.cells #[.slice sA1 sA2 sA3, .slice sA4 sA5 sA6] 26 (0, 0)) := by rw [hW2, old_blk _ _ _ (by simp), new_blk]
 have k1 : W2.heap[w'.heap.size + 1]? = some (.cells #[.slice a6 n6 c6, .slice a7 n7 c7] 26 (0, 0)) := by
   rw [hW2, show w'.heap.size + 1 = (w'.alloc (.cells #[.slice sA1 sA2 sA3, .slice sA4 sA5 sA6] 26)).heap.size by simp, new_blk]
 obtain ⟨a, ha1, ha2, ha3, ha4⟩ := (htN.later hb2 (Nat.le_refl _)).at w'.heap.size 0 ⟨_, _, k0⟩ (box2 k0).1 (box2 k0).2.1
 have hE := hasEnd_c ha4 (by unfold ATr.weight; rw [ha3]; exact hw)
 have had : a.addr = ⟨w'.heap.size, 0, none⟩ := by unfold ATr.addr; rw [ha1, ha2]
 rw [had] at hE
 have hcl : t.count ≤ 1048577 := by have := Tr.count_le t; omega
 have HE := Lib.hid hE
 have HT := Lib.hid (And.intro htT htT')
 have HW2 := Lib.hid hW2
 have H2 := Lib.hid (And.intro hb2 (And.intro k0 k1))
 clear hE htT htT' htN hW2 hb2 k0 k1 ha1 ha2 ha3 ha4 had a
 go_enter Try.func18, Try.ntmps18
 go_wp2_with fail
 rw [← HW2.out]
 refine HE.out.mono ?_
 rintro e w3 ⟨rfl, hb3⟩
 have hs3 := hb3.size
 have hb23 : Below w'.heap.size w' w3 := H2.out.1.trans (hb3.mono (by omega))
 have L0 : Sp.ok w3 w3.heap.size ⟨w'.heap.size, 0, t, w'.heap.size + 1, 0, t'⟩ := by
   have c0 := box2 ((hb3.block w'.heap.size (by omega)).trans H2.out.2.1)
   have c1 := box2 ((hb3.block (w'.heap.size + 1) (by omega)).trans H2.out.2.2)
   exact ⟨⟨_, _, c0.1, c0.2.1, by show w'.heap.size < _; omega, (HT.out.1.later hb23 (Nat.le_refl _)).wider (by omega)⟩,
     ⟨_, _, c1.1, c1.2.1, by show w'.heap.size + 1 < _; omega, (HT.out.2.later hb23 (Nat.le_refl _)).wider (by omega)⟩⟩
 have HL0 := Lib.hid L0
 have H3 := Lib.hid hb23
 clear hb3 hb23 L0
 go_wp2_with fail
 obtain ⟨W4, hW4⟩ : ∃ W4, W4 = w3.alloc (.cells #[.pointer (some ⟨w'.heap.size, 0, none⟩), .pointer (some ⟨w'.heap.size + 1, 0, none⟩)] 79) := ⟨_, rfl⟩
 rw [← hW4]
 have hs4 : W4.heap.size = w3.heap.size + 1 := by rw [hW4]; simp
 have hb4 : Below w3.heap.size w3 W4 := by rw [hW4]; exact (Below.refl _ _).alloc (Nat.le_refl _) _
 have hway : PWay W4 w3.heap.size w3.heap.size 1 [⟨w'.heap.size, 0, t, w'.heap.size + 1, 0, t'⟩] := by
   refine PWay.of (Nat.le_refl _) (by rw [hW4]; exact new_blk _ _) (by simp) (by unfold maxLen; omega) rfl rfl
 have H4 := Lib.hid (And.intro hb4 hway)
 clear hW4 hb4 hway
 go_loopg [5] t.count (fun k s5 wr => ∃ (st : List Sp) (g cap : Nat), s5 = .slice (some ⟨g, 0, none⟩) st.length cap ∧ PWay wr w3.heap.size g cap st ∧ (∀ f ∈ st, f.ok w3 w3.heap.size) ∧ st.all Sp.same = t.sameB t' ∧ Below w3.heap.size w3 wr ∧ total st ≤ k ∧ k ≤ t.count)
 case atStart => exact ⟨_, _, _, rfl, H4.out.2, fun f hf => by obtain rfl := List.mem_singleton.1 hf; exact HL0.out, by simp, H4.out.1, by simp [total], Nat.le_refl _⟩
 case round =>
   obtain ⟨st, g, cap, rfl, hway, hok, hsame, hbel, hk, hkt⟩ := hrel
   rcases List.eq_nil_or_concat st with rfl | ⟨ini, f, rfl⟩
   · have HX := Lib.hid (And.intro hbel hsame)
     clear hway hok hsame hbel
     go_wp2_with fail
     go_ret
     exact ⟨ret_bool HX.out.2, H3.out.trans (HX.out.1.mono (by omega))⟩
   · obtain ⟨b, o, ⟨ks, cs⟩, b', o', ⟨ks', cs'⟩⟩ := f
     simp only [List.concat_eq_append] at hway hok hsame hk ⊢
     obtain ⟨⟨kw, cw, q1, q2, q3, q4⟩, ⟨kw', cw', q1', q2', q3', q4'⟩⟩ := hok _ (List.mem_append_right _ (List.mem_singleton.2 rfl))
     simp only at q1 q2 q3 q4 q1' q2' q3' q4'
     obtain ⟨ka, kc, kvs, cvs, rfl, hki, hl1, hl2, hat, hkids⟩ := q4.parts
     obtain ⟨ka', kc', kvs', cvs', rfl, hki', hl1', hl2', hat', hkids'⟩ := q4'.parts
     unfold maxLen at hl2 hl2'
     obtain ⟨pk1, pk2, rfl, _⟩ := hki
     obtain ⟨pk1', pk2', rfl, _⟩ := hki'
     have hlen := length_le_total (ini ++ [⟨b, o, ⟨ks, cs⟩, b', o', ⟨ks', cs'⟩⟩])
     obtain ⟨l1, l2⟩ := hway.last
     have hll : (ini ++ [(⟨b, o, ⟨ks, cs⟩, b', o', ⟨ks', cs'⟩⟩ : Sp)]).length = ini.length + 1 := by simp
     rw [hll] at hlen ⊢
     obtain ⟨n, hn⟩ : ∃ n, n = ini.length := ⟨_, rfl⟩
     rw [← hn] at l1 l2 hlen ⊢
     have hn2 : n ≤ 1048577 := by omega
     obtain ⟨hg1, _, _, hc1, hc2, _⟩ := hway.blk
     have hc1' : n + 1 ≤ cap := by simpa [hn] using hc1
     unfold maxLen at hc2
     have hglt := hway.lt
     have hszr := hbel.size
     obtain ⟨W5, hW5⟩ : ∃ W5, W5 = wr.alloc (.cells #[.pointer (some ⟨b, o, none⟩), .pointer (some ⟨b', o', none⟩)] 79) := ⟨_, rfl⟩
     have hs5 : W5.heap.size = wr.heap.size + 1 := by rw [hW5]; simp
     have hb5 : Below wr.heap.size wr W5 := by rw [hW5]; exact (Below.refl _ _).alloc (Nat.le_refl _) _
     have kx : W5.heap[wr.heap.size]? = some (.cells #[.pointer (some ⟨b, o, none⟩), .pointer (some ⟨b', o', none⟩)] 79 (0, 0)) := by rw [hW5, new_blk]
     have hbel5 : Below w3.heap.size w3 W5 := hbel.trans (hb5.mono hszr)
     have hway5 : PWay W5 w3.heap.size g cap ini := hway.pop.kept (hb5.block g hglt)
     have p1 := (below_cell hbel5 q3).trans q1
     have p2 := (below_cell hbel5 q3).trans q2
     have p1' := (below_cell hbel5 q3').trans q1'
     have p2' := (below_cell hbel5 q3').trans q2'
     obtain ⟨x1, x2, x3, x4⟩ := box2 kx
     have hEq := fun n0 r hr => equal_c ks ks' _ _ W5 w3.heap.size (q4.parts.choose_spec.choose_spec.choose_spec.choose_spec.2.1.later hbel5 (Nat.le_refl _)) (q4'.parts.choose_spec.choose_spec.choose_spec.choose_spec.2.1.later hbel5 (Nat.le_refl _)) n0 r hr
     have HEQ := Lib.hid hEq
     have HKIDS := Lib.hid (And.intro (And.intro hat hkids) (And.intro hat' hkids'))
     have H5 := Lib.hid (And.intro hbel5 (And.intro hway5 kx))
     have HW5 := Lib.hid hW5
     have HOK := Lib.hid hok
     have HS := Lib.hid hsame
     have HK := Lib.hid hk
     have HN := Lib.hid hn
     have HWAY := Lib.hid hway
     have HQ2 := Lib.hid (And.intro q2 q2')
     clear hEq hat hkids hat' hkids' hbel5 hway5 hbel hb5 kx hW5 hok hsame hk hn hway q1 q2 q4 q1' q2' q4' hc1 hll hlen
     by_cases hks : ks = ks'
     · by_cases hls : cs.length = cs'.length
       · have hne : ((cs.length : Int) != (cs'.length : Int)) = false := by simp [hls]
         obtain ⟨ps, hp1, hp2, hp3, hp4, hp5⟩ := kid_pairs hls HKIDS.out.1.1 HKIDS.out.1.2 HKIDS.out.2.1 HKIDS.out.2.2
         have HP := Lib.hid (And.intro hp1 (And.intro hp2 (And.intro hp3 (And.intro hp4 hp5))))
         have HQ := Lib.hid (And.intro hks hls)
         clear hp1 hp2 hp3 hp4 hp5 hks hls
         go_wp2_with fail
         rw [← HW5.out]
         go_quiet ((go_at_call 60; exact HEQ.out _ true (decide_eq_true HQ.out.1)))
         go_wp2_with fail
         generalize hW6 : (W5.drewN _) = W6
         obtain ⟨m6, hW6⟩ : ∃ m, W5.drewN m = W6 := ⟨_, hW6⟩
         have hb6 : Below w3.heap.size w3 W6 := by rw [← hW6]; exact below_drewN H5.out.1 _
         have hway6 : PWay W6 w3.heap.size g cap ini := by rw [← hW6]; exact H5.out.2.1.kept rfl
         have kx6 : W6.heap[wr.heap.size]? = some (.cells #[.pointer (some ⟨b, o, none⟩), .pointer (some ⟨b', o', none⟩)] 79 (0, 0)) := by rw [← hW6]; exact H5.out.2.2
         have H6 := Lib.hid (And.intro hb6 (And.intro hway6 kx6))
         clear hW6 hb6 hway6 kx6 p1 p2 p1' p2' x1 x2 x3 x4
         go_loopw [5, 59] (fun s5 i wi => ∃ (j g2 cap2 : Nat), j ≤ cs.length ∧ i = .int .i64 j ∧ s5 = .slice (some ⟨g2, 0, none⟩) (n + j) cap2 ∧ PWay wi w3.heap.size g2 cap2 (ini ++ ps.take j) ∧ Below w3.heap.size w3 wi ∧
           wi.heap[wr.heap.size]? = some (.cells #[.pointer (some ⟨b, o, none⟩), .pointer (some ⟨b', o', none⟩)] 79 (0, 0)) ∧ g2 ≠ wr.heap.size) (fun _ i _ => cs.length - (intOf i).toNat)
         case atStart => exact ⟨0, g, cap, Nat.zero_le _, rfl, rfl, by simpa using H6.out.2.1, H6.out.1, H6.out.2.2, by omega⟩
         case round =>
           obtain ⟨j, g2, cap2, hj, rfl, rfl, hwy, hbl, hkx, hgn⟩ := hrel
           by_cases hlt : j < cs.length
           · obtain ⟨b2, o2, b2', o2', rfl, rfl, hget⟩ : ∃ b2 o2 b2' o2', ka = some ⟨b2, o2, none⟩ ∧ ka' = some ⟨b2', o2', none⟩ ∧ ∀ i, i < cs.length → ∃ t t', ps[i]? = some ⟨b2, o2 + i * 2, t, b2', o2' + i * 2, t'⟩ := by
               rcases HP.out.2.2.2.2 with h | h
               · omega
               · exact h
             obtain ⟨tj, tj', hgj⟩ := hget j hlt
             have hlt' : j < cs'.length := by rw [← HQ.out.2]; exact hlt
             have p2 := (below_cell hbl q3).trans HQ2.out.1
             have p2' := (below_cell hbl q3').trans HQ2.out.2
             obtain ⟨x1, x2, x3, x4⟩ := box2 hkx
             have hln : (ini ++ ps.take j).length = n + j := by
               rw [List.length_append, List.length_take, HP.out.1, ← HN.out]; omega
             have hown := hwy.own hln
             have hszi := hbl.size
             have hgi := hwy.lt
             have hgb := hwy.blk.1
             have hnj : n + j ≤ 2097152 := by
               have h1 := HK.out
               rw [total_append] at h1
               simp only [total, Tr.count] at h1
               have h2 := length_le_total ini
               have h3 := length_le_total ps
               rw [HP.out.1, HP.out.2.2.2.1] at h3
               have h4 := HN.out
               omega
             have HWY := Lib.hid hwy
             have HBL := Lib.hid (And.intro hbl hkx)
             have HOWN := Lib.hid hown
             have HGJ := Lib.hid hgj
             have HGN := Lib.hid hgn
             have HLN := Lib.hid hln
             clear hwy hbl hkx hget hgj hown hln hgn
             go_wp2_with fail
             go_region_law
               (first
                 | (refine step_append_lies _ (by rfl) _ _ _ (by rfl) w3.heap.size 79 i0 _ 2 16 Try.underlying80 hi0 hz0 hz1 hz2 rfl (by omega) _ (n + j) _ (by rfl) (own_drew (HOWN.out.alloc _)) ⟨wr.heap.size, 0, none⟩ 1 1 [.pointer (some ⟨b2, o2 + j * 2, none⟩), .pointer (some ⟨b2', o2' + j * 2, none⟩)] (by rfl) (by rfl) (World.news_of_block (cs := #[.pointer (some ⟨b2, o2 + j * 2, none⟩), .pointer (some ⟨b2', o2' + j * 2, none⟩)]) (t := 79) (fr := (0, 0)) (by exact heap_alloc_new wr _)) (by simp [Value.oneCell']) (by omega) (by unfold maxLen; omega) (by omega) (by simp; omega) (wr.heap.size + 1) (by simp) ?_; intro g7 cap7 w7 hown7 hgrow7 hat7 hlt7; have H7 := Lib.hid (And.intro hown7 (And.intro hgrow7 hat7)); clear hown7 hgrow7 hat7))
             all_goals (
               go_wp2_with fail
               go_roundw
               case rel =>
                 have hbx := (Array.getElem?_eq_some_iff.1 HBL.out.2).1
                 refine ⟨j + 1, g7, cap7, by omega, by go_num, rfl, ?_, HBL.out.1.trans (pair_grown hgb hszi H7.out.2.1), ?_, ?_⟩
                 · have ht := List.take_add_one (l := ps) (i := j)
                   rw [HGJ.out] at ht
                   rw [ht, Option.toList_some, ← List.append_assoc]
                   exact PWay.grown _ HLN.out H7.out.1
                 · refine (H7.out.2.1.block _ (by simp; omega) ?_).trans ((old_blk wr _ _ hbx).trans HBL.out.2)
                   intro e
                   exact HGN.out (by simpa [Value.ownBlock] using e.symm)
                 · rcases H7.out.2.2 with h | h
                   · have : g2 = g7 := by simpa [Value.ownBlock] using h
                     rw [← this]; exact HGN.out
                   · omega
               case measure => simp [intOf]; omega)
           · obtain rfl : j = cs.length := by omega
             have HX := Lib.hid (And.intro hwy (And.intro hbl hkx))
             clear hwy hbl hkx
             go_wp2_with fail
             go_roundg (gk - 1)
             case measure =>
               have h1 := HK.out
               have h2 := length_le_total (ini ++ [(⟨b, o, ⟨ks, cs⟩, b', o', ⟨ks', cs'⟩⟩ : Sp)])
               simp only [List.length_append, List.length_cons, List.length_nil] at h2
               omega
             case rel =>
               have hln : (ini ++ ps).length = n + cs.length := by rw [List.length_append, HP.out.1, ← HN.out]
               refine ⟨ini ++ ps, g2, cap2, by rw [hln], ?_, fun f hf => ?_, ?_, HX.out.2.1, ?_, by omega⟩
               · have h1 := HX.out.1
                 rw [List.take_of_length_le (by rw [HP.out.1]; exact Nat.le_refl _)] at h1
                 exact h1
               · rcases List.mem_append.1 hf with h | h
                 · exact HOK.out f (List.mem_append_left _ h)
                 · exact HP.out.2.1 f h
               · rw [← HS.out, List.all_append, List.all_append, HP.out.2.2.1]
                 simp [Sp.same, Tr.sameB, HQ.out.1, HQ.out.2]
               · have h1 := HK.out
                 rw [total_append] at h1 ⊢
                 simp only [total, Tr.count] at h1
                 rw [HP.out.2.2.2.1]
                 omega
       · have hne : ((cs.length : Int) != (cs'.length : Int)) = true := by simp; omega
         have HQ := Lib.hid (And.intro hks hls)
         clear hks hls
         go_wp2_with fail
         rw [← HW5.out]
         go_quiet ((go_at_call 60; exact HEQ.out _ true (decide_eq_true HQ.out.1)))
         go_wp2_with fail
         go_ret
         refine ⟨ret_bool ?_, H3.out.trans ((below_drewN H5.out.1 _).mono (by omega))⟩
         rw [← HS.out, List.all_append]
         simp [Sp.same, Tr.sameB, HQ.out.2]
     · have HQ := Lib.hid hks
       clear hks
       go_wp2_with fail
       rw [← HW5.out]
       go_quiet ((go_at_call 60; exact HEQ.out _ false (decide_eq_false HQ.out)))
       go_wp2_with fail
       go_ret
       refine ⟨ret_bool ?_, H3.out.trans ((below_drewN H5.out.1 _).mono (by omega))⟩
       rw [← HS.out, List.all_append]
       simp [Sp.same, Tr.sameB, HQ.out]
end Go.Proofs.Ytananonjomfpkaa
/- A tree is the same as itself: plain data. -/
namespace Go.Proofs.Ytananonjomfpkaa
open Go.RowKit
namespace Tr
mutual
theorem sameB_refl : ∀ t : Tr, sameB t t = true
 | .mk k c => by simp [sameB, samesB_refl c]
theorem samesB_refl : ∀ c : List Tr, samesB c c = true
 | [] => by simp [samesB]
 | a :: r => by simp [samesB, sameB_refl a, samesB_refl r]
end
end Tr
end Go.Proofs.Ytananonjomfpkaa
/- Inserting: the keys of a tree into which a key is put. -/
namespace Go.Proofs.Ytananonjomfpkaa
open Go.RowKit
namespace Tr
def weave : List Tr → List Int → List Int
 | [], ks => ks
 | t :: r, [] => t.keys ++ weave r []
 | t :: r, x :: ks => t.keys ++ x :: weave r ks
def tailW (r : List Tr) : List Int → List Int
 | [] => weave r []
 | x :: ks => x :: weave r ks
theorem weave_cons (t : Tr) (r : List Tr) (ks : List Int) : weave (t :: r) ks = t.keys ++ tailW r ks := by
 cases ks <;> rfl
theorem upto_cons (a : List Int) (kss : List (List Int)) (x : Int) (ks : List Int) (n : Nat) : upto (a :: kss) (x :: ks) (n + 1) = a ++ x :: upto kss ks n := by
 simp [upto, List.range_succ_eq_map, List.flatMap_map, part]
 rfl
theorem upto_cons0 (a : List Int) (kss : List (List Int)) (n : Nat) : upto (a :: kss) [] (n + 1) = a ++ upto kss [] n := by
 simp [upto, List.range_succ_eq_map, List.flatMap_map, part]
 congr 1; funext a; simp [part]
theorem upto_keys (ks : List Int) : upto [] ks ks.length = ks := by
 induction ks with
 | nil => rfl
 | cons x ks ih =>
   have h : upto [] (x :: ks) (ks.length + 1) = x :: upto [] ks ks.length := by
     simp [upto, List.range_succ_eq_map, List.flatMap_map, part]
     rfl
   rw [List.length_cons, h, ih]
theorem upto_weave : ∀ (c : List Tr) (k : List Int), upto (keyss c) k (max k.length c.length) = weave c k
 | [], k => by simp only [keyss, weave, List.length_nil, Nat.max_zero]; exact upto_keys k
 | t :: r, [] => by
   rw [weave, ← upto_weave r [], keyss, List.length_nil, Nat.zero_max, List.length_cons, upto_cons0, Nat.zero_max]
 | t :: r, x :: ks => by
   rw [weave, ← upto_weave r ks, keyss, List.length_cons, List.length_cons, Nat.succ_max_succ, upto_cons]
theorem keys_weave (k : List Int) (c : List Tr) : (Tr.mk k c).keys = weave c k := by rw [keys]; exact upto_weave c k
theorem weave_append : ∀ (c : List Tr) (k : List Int) (c2 : List Tr) (k2 : List Int), c.length = k.length → weave (c ++ c2) (k ++ k2) = weave c k ++ weave c2 k2
 | [], [], c2, k2, _ => rfl
 | [], x :: k, c2, k2, h => by simp at h
 | t :: c, [], c2, k2, h => by simp at h
 | t :: c, x :: k, c2, k2, h => by
   rw [List.cons_append, List.cons_append, weave, weave, weave_append c k c2 k2 (by simpa using h)]
   simp
theorem keys_around {k : List Int} {c : List Tr} {i : Nat} (hi : i < c.length) (hc : c.length = k.length + 1) :
   (Tr.mk k c).keys = weave (c.take i) (k.take i) ++ (c[i].keys ++ tailW (c.drop (i + 1)) (k.drop i)) := by
 rw [keys_weave, ← weave_cons, ← weave_append _ _ _ _ (by simp; omega), List.take_append_drop]
 congr 1
 rw [List.getElem_cons_drop, List.take_append_drop]
theorem keys_setKid {k : List Int} {c : List Tr} {i : Nat} (u : Tr) (hi : i < c.length) (hc : c.length = k.length + 1) :
   (Tr.mk k (setKid c i u)).keys = weave (c.take i) (k.take i) ++ (u.keys ++ tailW (c.drop (i + 1)) (k.drop i)) := by
 rw [keys_weave, setKid, ← weave_cons, ← weave_append _ _ _ _ (by simp; omega), List.take_append_drop]
theorem keys_splitKid {k : List Int} {c : List Tr} {i : Nat} (u : Tr) (hi : i < c.length) (hc : c.length = k.length + 1) :
   (splitKid k c i u).keys = weave (c.take i) (k.take i) ++ (u.leftOf.keys ++ u.midOf :: (u.rightOf.keys ++ tailW (c.drop (i + 1)) (k.drop i))) := by
 rw [splitKid, keys_weave, putAt, weave_append _ _ _ _ (by simp; omega), weave, weave_cons]
theorem keys_halves {u : Tr} (h : u.ks.length ≠ 0) (hc : u.cs.length = 0 ∨ u.cs.length = u.ks.length + 1) :
   u.keys = u.leftOf.keys ++ u.midOf :: u.rightOf.keys := by
 cases u with
 | mk k c =>
   simp only [ks, cs] at h hc
   have hm : k.length / 2 < k.length := by omega
   have hk : k = k.take (k.length / 2) ++ k.getD (k.length / 2) 0 :: k.drop (k.length / 2 + 1) := by
     rw [List.getD_eq_getElem?_getD, List.getElem?_eq_getElem hm, Option.getD_some, List.getElem_cons_drop, List.take_append_drop]
   rw [leftOf, rightOf, midOf, keys_weave, keys_weave, keys_weave]
   rcases hc with h0 | h1
   · have : c = [] := List.length_eq_zero_iff.1 h0
     subst this
     simp only [List.take_nil, List.drop_nil, weave]
     exact hk
   · obtain ⟨m, hme⟩ : ∃ m, m = k.length / 2 := ⟨_, rfl⟩
     rw [← hme] at hm hk ⊢
     have hmc : m < c.length := by omega
     have h2 := keys_around (k := k) hmc h1
     rw [keys_weave] at h2
     rw [h2, List.take_succ_eq_append_getElem hmc]
     have e1 : weave (c.take m ++ [c[m]]) (k.take m) = weave (c.take m) (k.take m) ++ c[m].keys := by
       have := weave_append (c.take m) (k.take m) [c[m]] [] (by simp; omega)
       rw [List.append_nil] at this
       rw [this, weave_cons]
       simp [tailW, weave]
     rw [e1, List.append_assoc]
     congr 2
     have e2 : k.drop m = k.getD m 0 :: k.drop (m + 1) := by
       rw [List.getD_eq_getElem?_getD, List.getElem?_eq_getElem hm, Option.getD_some, List.getElem_cons_drop]
     rw [e2]; rfl
end Tr
end Go.Proofs.Ytananonjomfpkaa
/- Deleting: the keys of a tree from which one is taken. -/
namespace Go.Proofs.Ytananonjomfpkaa
open Go.RowKit
namespace Tr
theorem weave_nil (k : List Int) : weave [] k = k := by cases k <;> rfl
theorem weave_one (t : Tr) : weave [t] [] = t.keys := by simp [weave]
theorem weave_snoc : ∀ (c : List Tr) (k : List Int) (m : Int), c.length = k.length + 1 → weave c (k ++ [m]) = weave c k ++ [m]
 | [], k, m, h => by simp at h
 | [t], [], m, _ => by simp [weave]
 | t :: u :: c, [], m, h => by simp at h
 | t :: c, x :: k, m, h => by
   rw [List.cons_append, weave, weave, weave_snoc c k m (by simpa using h)]
   simp
def Pair (x y : Tr) : Prop := (x.cs.length = 0 ∧ y.cs.length = 0) ∨ (x.cs.length = x.ks.length + 1 ∧ y.cs.length = y.ks.length + 1)
theorem join_keys {x y : Tr} (m : Int) (h : Pair x y) : (Tr.mk (x.ks ++ m :: y.ks) (x.cs ++ y.cs)).keys = x.keys ++ m :: y.keys := by
 obtain ⟨kx, cx⟩ := x
 obtain ⟨ky, cy⟩ := y
 simp only [ks, cs]
 rw [keys_weave, keys_weave, keys_weave]
 rcases h with ⟨h1, h2⟩ | ⟨h1, h2⟩
 · obtain rfl : cx = [] := List.length_eq_zero_iff.1 h1
   obtain rfl : cy = [] := List.length_eq_zero_iff.1 h2
   simp [weave_nil]
 · simp only [ks, cs] at h1 h2
   rw [show kx ++ m :: ky = (kx ++ [m]) ++ ky by simp, weave_append _ _ _ _ (by simp; omega), weave_snoc _ _ _ h1]
   simp
theorem ahead_keys {x y : Tr} (m : Int) (h : Pair x y) (h0 : 0 < x.ks.length) :
   (Tr.mk (x.ks.take (x.ks.length - 1)) (x.cs.take x.ks.length)).keys ++ x.ks.getD (x.ks.length - 1) 0 :: (Tr.mk (m :: y.ks) (oneFirst x.cs y.cs x.ks.length)).keys = x.keys ++ m :: y.keys := by
 obtain ⟨kx, cx⟩ := x
 obtain ⟨ky, cy⟩ := y
 simp only [ks, cs] at h0 ⊢
 have hk : kx = kx.take (kx.length - 1) ++ [kx.getD (kx.length - 1) 0] := by
   rw [List.getD_eq_getElem?_getD, List.getElem?_eq_getElem (by omega), Option.getD_some]
   have h := (List.drop_eq_getElem_cons (l := kx) (i := kx.length - 1) (by omega))
   rw [List.drop_eq_nil_of_le (by omega : kx.length ≤ kx.length - 1 + 1)] at h
   rw [← h, List.take_append_drop]
 rw [keys_weave, keys_weave, keys_weave, keys_weave]
 rcases h with ⟨h1, h2⟩ | ⟨h1, h2⟩
 · obtain rfl : cx = [] := List.length_eq_zero_iff.1 h1
   obtain rfl : cy = [] := List.length_eq_zero_iff.1 h2
   simp only [oneFirst, List.take_nil, weave_nil, List.length_nil, if_true]
   conv => rhs; rw [hk]
   simp
 · simp only [ks, cs] at h1 h2
   have hc : cx = cx.take kx.length ++ [kidAt cx kx.length] := by
     rw [kidAt_get (by omega)]
     have h := (List.drop_eq_getElem_cons (l := cx) (i := kx.length) (by omega))
     rw [List.drop_eq_nil_of_le (by omega : cx.length ≤ kx.length + 1)] at h
     rw [← h, List.take_append_drop]
   rw [oneFirst, if_neg (by omega), weave]
   conv => rhs; rw [hk, hc]
   rw [show (kx.take (kx.length - 1) ++ [kx.getD (kx.length - 1) 0]) = (kx.take (kx.length - 1) ++ [kx.getD (kx.length - 1) 0]) ++ [] by simp, weave_append _ _ _ _ (by simp; omega), weave_snoc _ _ _ (by simp; omega), weave_one]
   simp
theorem behind_keys {x y : Tr} (m : Int) (h : Pair x y) (h0 : 0 < y.ks.length) :
   (Tr.mk (x.ks ++ [m]) (oneMore x.cs y.cs)).keys ++ y.ks.getD 0 0 :: (Tr.mk (y.ks.drop 1) (y.cs.drop 1)).keys = x.keys ++ m :: y.keys := by
 obtain ⟨kx, cx⟩ := x
 obtain ⟨ky, cy⟩ := y
 simp only [ks, cs] at h0 ⊢
 obtain ⟨top, s, rfl⟩ : ∃ top s, ky = top :: s := by cases ky with | nil => simp at h0 | cons a b => exact ⟨a, b, rfl⟩
 rw [keys_weave, keys_weave, keys_weave, keys_weave]
 rcases h with ⟨h1, h2⟩ | ⟨h1, h2⟩
 · obtain rfl : cx = [] := List.length_eq_zero_iff.1 h1
   obtain rfl : cy = [] := List.length_eq_zero_iff.1 h2
   simp [oneMore, weave_nil]
 · simp only [ks, cs] at h1 h2
   obtain ⟨z, r, rfl⟩ : ∃ z r, cy = z :: r := by cases cy with | nil => simp at h2 | cons a b => exact ⟨a, b, rfl⟩
   rw [oneMore, if_neg (by simp), show kx ++ [m] = (kx ++ [m]) ++ [] by simp, weave_append _ _ _ _ (by simp; omega), weave_snoc _ _ _ h1, weave_one]
   simp [kidAt, weave]
theorem two_keys (A B : List Tr) (x y : Tr) (KA KB : List Int) (m : Int) (h : A.length = KA.length) :
   (Tr.mk (KA ++ m :: KB) (A ++ x :: y :: B)).keys = weave A KA ++ ((x.keys ++ m :: y.keys) ++ tailW B KB) := by
 rw [keys_weave, weave_append _ _ _ _ h, weave, weave_cons]
 simp
theorem one_keys (A B : List Tr) (u : Tr) (KA KB : List Int) (h : A.length = KA.length) :
   (Tr.mk (KA ++ KB) (A ++ u :: B)).keys = weave A KA ++ (u.keys ++ tailW B KB) := by
 rw [keys_weave, weave_append _ _ _ _ h, weave_cons]
theorem split_key {k : List Int} {i : Nat} (hi : i < k.length) : ∃ KA KB, k = KA ++ k.getD i 0 :: KB ∧ KA.length = i :=
 ⟨k.take i, k.drop (i + 1), by rw [List.getD_eq_getElem?_getD, List.getElem?_eq_getElem hi, Option.getD_some, List.getElem_cons_drop, List.take_append_drop], by simp; omega⟩
theorem set_split (KA KB : List Int) (m u : Int) : (KA ++ m :: KB).set KA.length u = KA ++ u :: KB := by
 rw [List.set_append_right _ _ (Nat.le_refl _), Nat.sub_self, List.set_cons_zero]
theorem takeAt_split (KA KB : List Int) (m : Int) : takeAt (KA ++ m :: KB) KA.length = KA ++ KB := by
 unfold takeAt
 rw [List.take_left' rfl, show KA ++ m :: KB = (KA ++ [m]) ++ KB by simp, List.drop_left' (by simp)]
theorem mended_keys {k : List Int} {c : List Tr} {j : Nat} (hc : c.length = k.length + 1) (hj : j + 1 < c.length) (hp : Pair (kidAt c j) (kidAt c (j + 1))) :
   (0 < (kidAt c j).ks.length → (ahead k c j).keys = (Tr.mk k c).keys) ∧ (0 < (kidAt c (j + 1)).ks.length → (behind k c j).keys = (Tr.mk k c).keys) ∧ (joined k c j).keys = (Tr.mk k c).keys := by
 obtain ⟨A, x, y, B, rfl, rfl⟩ := two_mid hj
 obtain ⟨KA, KB, hk, hkl⟩ := split_key (k := k) (i := A.length) (by omega)
 obtain ⟨m, hm⟩ : ∃ m, m = k.getD A.length 0 := ⟨_, rfl⟩
 rw [← hm] at hk
 subst hk
 rw [kidAt_mid, kidAt_mid1] at hp ⊢
 have hset : ∀ u, (KA ++ m :: KB).set A.length u = KA ++ u :: KB := fun u => by rw [← hkl]; exact set_split KA KB m u
 have htk : takeAt (KA ++ m :: KB) A.length = KA ++ KB := by rw [← hkl]; exact takeAt_split KA KB m
 refine ⟨fun h0 => ?_, fun h0 => ?_, ?_⟩
 · rw [ahead_mid _ _ _ _ _ h0, hset, two_keys _ _ _ _ _ _ _ hkl.symm, two_keys _ _ _ _ _ _ _ hkl.symm, ← hm, ahead_keys m hp h0]
 · rw [behind_mid, hset, two_keys _ _ _ _ _ _ _ hkl.symm, two_keys _ _ _ _ _ _ _ hkl.symm, ← hm, behind_keys m hp h0]
 · rw [joined_mid, htk, one_keys _ _ _ _ _ hkl.symm, two_keys _ _ _ _ _ _ _ hkl.symm, ← hm, join_keys m hp]
theorem repair_keys {half : Int} (hh : 0 ≤ half) {k : List Int} {c : List Tr} {i b j : Nat} (hc : c.length = k.length + 1) (hk : 1 ≤ k.length) (hi : i < c.length) (hp : ∀ j, j + 1 < c.length → Pair (kidAt c j) (kidAt c (j + 1))) :
   (repair half k c i b j).t.keys = (Tr.mk k c).keys := by
 by_cases hle : half ≤ ((kidAt c i).ks.length : Int)
 · rw [repair_none (by omega)]
 · rw [repair_eq (by omega)]
   dsimp only
   unfold mend mended
   by_cases h1 : 0 < i ∧ half < ((kidAt c (i - 1)).ks.length : Int)
   · rw [if_pos h1]
     have h2 := mended_keys hc (j := i - 1) (by omega) (hp _ (by omega))
     exact h2.1 (by omega)
   · rw [if_neg h1]
     by_cases h2 : i + 1 < c.length ∧ half < ((kidAt c (i + 1)).ks.length : Int)
     · rw [if_pos h2]
       have h3 := mended_keys hc (j := i) h2.1 (hp _ h2.1)
       exact h3.2.1 (by omega)
     · rw [if_neg h2]
       by_cases h3 : 0 < i
       · rw [if_pos h3]
         exact (mended_keys hc (j := i - 1) (by omega) (hp _ (by omega))).2.2
       · rw [if_neg h3]
         have h4 : i + 1 < c.length := by omega
         exact (mended_keys hc (j := i) h4 (hp _ h4)).2.2
theorem setKid_eq {c : List Tr} {i : Nat} (hi : i < c.length) (u : Tr) : setKid c i u = c.set i u := by
 unfold setKid
 rw [List.set_eq_take_append_cons_drop, if_pos hi]
theorem kidAt_set {c : List Tr} {i : Nat} (hi : i < c.length) (u : Tr) (j : Nat) : kidAt (setKid c i u) j = if j = i then u else kidAt c j := by
 rw [setKid_eq hi]
 unfold kidAt
 rw [List.getD_eq_getElem?_getD, List.getD_eq_getElem?_getD, List.getElem?_set]
 by_cases h : i = j
 · subst h; simp [hi]
 · rw [if_neg h, if_neg (fun e => h e.symm)]
end Tr
end Go.Proofs.Ytananonjomfpkaa
