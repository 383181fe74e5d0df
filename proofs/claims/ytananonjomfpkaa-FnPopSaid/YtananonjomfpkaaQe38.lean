/- For every slice of bytes, the law on ranks when a key is deleted returns true and leaves its arguments as they were; no conditions. -/
import Derived.Test.YtananonjomfpkaaQe37
import Derived.Test.YtananonjomfpkaaRows
import Derived.Test.YtananonjomfpkaaQeS0
/- The contract of the program's SameTree. -/
namespace Go.Proofs.Ytananonjomfpkaa
open Go.RowKit
theorem own_drew {w : World} {b : Nat} {e : TypeId} {s n : Nat} {v : Value} {xs : List Value} (h : w.ownsRow b e s v n xs) : w.drew.ownsRow b e s v n xs := h
theorem pair_grown {wr w7 : World} {g cap n base : Nat} {x y : Value} (hgb : base ≤ g) (hs : base ≤ wr.heap.size) (hgr : (wr.alloc (.cells #[x, y] 79)).drew.grownBy w7 (Value.slice (some ⟨g, 0, none⟩) n cap).ownBlock) : Below base wr w7 := by
 have hsz : wr.heap.size + 1 ≤ w7.heap.size := by have := hgr.size; simpa using this
 refine ⟨hgr.os, hgr.tape, hgr.output, by omega, fun k hk => ?_⟩
 have h1 := hgr.block k (by simp; omega) (by simp [Value.ownBlock]; omega)
 rw [h1]
 exact old_blk wr _ k (by omega)
set_option maxRecDepth 100000 in
set_option maxHeartbeats 4000000 in
theorem impl_same_a {kv cv kv' cv' : Value} {t t' : Tr} (w' : World) (htN : TreeA w' kv cv t) (hw : t.weight ≤ 1048576) (htT' : TreeIn w' w'.heap.size kv' cv' t') :
   Calls Try.prog 18 #[.agg #[kv, cv], .agg #[kv', cv']] w' fun e w'' => e = .returned (.bool (t.sameB t')) ∧ Below w'.heap.size w' w'' := by
 obtain ⟨i0, hi0, hz0, hz1, hz2⟩ := info_parts Try.infoPair
 have htT := htN.tree
 obtain ⟨sA1, sA2, sA3, sA4, sA5, sA6, rfl, rfl⟩ := htN.slices
 obtain ⟨a6, n6, c6, a7, n7, c7, rfl, rfl⟩ := htT'.slices
 obtain ⟨W2, hW2⟩ : ∃ W2, W2 = (w'.alloc (.cells #[.slice sA1 sA2 sA3, .slice sA4 sA5 sA6] 26)).alloc (.cells #[.slice a6 n6 c6, .slice a7 n7 c7] 26) := ⟨_, rfl⟩
 have hs2 : W2.heap.size = w'.heap.size + 2 := by rw [hW2]; simp
 have hb2 : Below w'.heap.size w' W2 := by rw [hW2]; exact ((Below.refl _ _).alloc (Nat.le_refl _) _).alloc (by simp) _
 have k0 : W2.heap[w'.heap.size]? = some (.cells #[.slice sA1 sA2 sA3, .slice sA4 sA5 sA6] 26 (0, 0)) := by rw [hW2, old_blk _ _ _ (by simp), new_blk]
 have k1 : W2.heap[w'.heap.size + 1]? = some (.cells #[.slice a6 n6 c6, .slice a7 n7 c7] 26 (0, 0)) := by
   rw [hW2, show w'.heap.size + 1 = (w'.alloc (.cells #[.slice sA1 sA2 sA3, .slice sA4 sA5 sA6] 26)).heap.size by simp, new_blk]
 obtain ⟨a, ha1, ha2, ha3, ha4⟩ := (htN.later hb2 (Nat.le_refl _)).at w'.heap.size 0 ⟨_, _, k0⟩ (box2 k0).1 (box2 k0).2.1
 have hE := hasEnd_c ha4 (by unfold ATr.weight; rw [ha3]; exact hw)
 have had : a.addr = ⟨w'.heap.size, 0, none⟩ := by unfold ATr.addr; rw [ha1, ha2]
 rw [had] at hE
 have hcl : t.count ≤ 1048577 := by have := Tr.count_le t; omega
 have HE := Lib.hid hE
 have HT := Lib.hid (And.intro htT htT')
 have HW2 := Lib.hid hW2
 have H2 := Lib.hid (And.intro hb2 (And.intro k0 k1))
 clear hE htT htT' htN hW2 hb2 k0 k1 ha1 ha2 ha3 ha4 had a
 go_enter Try.func18, Try.ntmps18
 go_wp2_with fail
 rw [← HW2.out]
 refine HE.out.mono ?_
 rintro e w3 ⟨rfl, hb3⟩
 have hs3 := hb3.size
 have hb23 : Below w'.heap.size w' w3 := H2.out.1.trans (hb3.mono (by omega))
 have L0 : Sp.ok w3 w3.heap.size ⟨w'.heap.size, 0, t, w'.heap.size + 1, 0, t'⟩ := by
   have c0 := box2 ((hb3.block w'.heap.size (by omega)).trans H2.out.2.1)
   have c1 := box2 ((hb3.block (w'.heap.size + 1) (by omega)).trans H2.out.2.2)
   exact ⟨⟨_, _, c0.1, c0.2.1, by show w'.heap.size < _; omega, (HT.out.1.later hb23 (Nat.le_refl _)).wider (by omega)⟩,
     ⟨_, _, c1.1, c1.2.1, by show w'.heap.size + 1 < _; omega, (HT.out.2.later hb23 (Nat.le_refl _)).wider (by omega)⟩⟩
 have HL0 := Lib.hid L0
 have H3 := Lib.hid hb23
 clear hb3 hb23 L0
 go_wp2_with fail
 obtain ⟨W4, hW4⟩ : ∃ W4, W4 = w3.alloc (.cells #[.pointer (some ⟨w'.heap.size, 0, none⟩), .pointer (some ⟨w'.heap.size + 1, 0, none⟩)] 79) := ⟨_, rfl⟩
 rw [← hW4]
 have hs4 : W4.heap.size = w3.heap.size + 1 := by rw [hW4]; simp
 have hb4 : Below w3.heap.size w3 W4 := by rw [hW4]; exact (Below.refl _ _).alloc (Nat.le_refl _) _
 have hway : PWay W4 w3.heap.size w3.heap.size 1 [⟨w'.heap.size, 0, t, w'.heap.size + 1, 0, t'⟩] := by
   refine PWay.of (Nat.le_refl _) (by rw [hW4]; exact new_blk _ _) (by simp) (by unfold maxLen; omega) rfl rfl
 have H4 := Lib.hid (And.intro hb4 hway)
 clear hW4 hb4 hway
 go_loopg [5] t.count (fun k s5 wr => ∃ (st : List Sp) (g cap : Nat), s5 = .slice (some ⟨g, 0, none⟩) st.length cap ∧ PWay wr w3.heap.size g cap st ∧ (∀ f ∈ st, f.ok w3 w3.heap.size) ∧ st.all Sp.same = t.sameB t' ∧ Below w3.heap.size w3 wr ∧ total st ≤ k ∧ k ≤ t.count)
 case atStart => exact ⟨_, _, _, rfl, H4.out.2, fun f hf => by obtain rfl := List.mem_singleton.1 hf; exact HL0.out, by simp, H4.out.1, by simp [total], Nat.le_refl _⟩
 case round =>
   obtain ⟨st, g, cap, rfl, hway, hok, hsame, hbel, hk, hkt⟩ := hrel
   rcases List.eq_nil_or_concat st with rfl | ⟨ini, f, rfl⟩
   · have HX := Lib.hid (And.intro hbel hsame)
     clear hway hok hsame hbel
     go_wp2_with fail
     go_ret
     exact ⟨ret_bool HX.out.2, H3.out.trans (HX.out.1.mono (by omega))⟩
   · obtain ⟨b, o, ⟨ks, cs⟩, b', o', ⟨ks', cs'⟩⟩ := f
     simp only [List.concat_eq_append] at hway hok hsame hk ⊢
     obtain ⟨⟨kw, cw, q1, q2, q3, q4⟩, ⟨kw', cw', q1', q2', q3', q4'⟩⟩ := hok _ (List.mem_append_right _ (List.mem_singleton.2 rfl))
     simp only at q1 q2 q3 q4 q1' q2' q3' q4'
     obtain ⟨ka, kc, kvs, cvs, rfl, hki, hl1, hl2, hat, hkids⟩ := q4.parts
     obtain ⟨ka', kc', kvs', cvs', rfl, hki', hl1', hl2', hat', hkids'⟩ := q4'.parts
     unfold maxLen at hl2 hl2'
     obtain ⟨pk1, pk2, rfl, _⟩ := hki
     obtain ⟨pk1', pk2', rfl, _⟩ := hki'
     have hlen := length_le_total (ini ++ [⟨b, o, ⟨ks, cs⟩, b', o', ⟨ks', cs'⟩⟩])
     obtain ⟨l1, l2⟩ := hway.last
     have hll : (ini ++ [(⟨b, o, ⟨ks, cs⟩, b', o', ⟨ks', cs'⟩⟩ : Sp)]).length = ini.length + 1 := by simp
     rw [hll] at hlen ⊢
     obtain ⟨n, hn⟩ : ∃ n, n = ini.length := ⟨_, rfl⟩
     rw [← hn] at l1 l2 hlen ⊢
     have hn2 : n ≤ 1048577 := by omega
     obtain ⟨hg1, _, _, hc1, hc2, _⟩ := hway.blk
     have hc1' : n + 1 ≤ cap := by simpa [hn] using hc1
     unfold maxLen at hc2
     have hglt := hway.lt
     have hszr := hbel.size
     obtain ⟨W5, hW5⟩ : ∃ W5, W5 = wr.alloc (.cells #[.pointer (some ⟨b, o, none⟩), .pointer (some ⟨b', o', none⟩)] 79) := ⟨_, rfl⟩
     have hs5 : W5.heap.size = wr.heap.size + 1 := by rw [hW5]; simp
     have hb5 : Below wr.heap.size wr W5 := by rw [hW5]; exact (Below.refl _ _).alloc (Nat.le_refl _) _
     have kx : W5.heap[wr.heap.size]? = some (.cells #[.pointer (some ⟨b, o, none⟩), .pointer (some ⟨b', o', none⟩)] 79 (0, 0)) := by rw [hW5, new_blk]
     have hbel5 : Below w3.heap.size w3 W5 := hbel.trans (hb5.mono hszr)
     have hway5 : PWay W5 w3.heap.size g cap ini := hway.pop.kept (hb5.block g hglt)
     have p1 := (below_cell hbel5 q3).trans q1
     have p2 := (below_cell hbel5 q3).trans q2
     have p1' := (below_cell hbel5 q3').trans q1'
     have p2' := (below_cell hbel5 q3').trans q2'
     obtain ⟨x1, x2, x3, x4⟩ := box2 kx
     have hEq := fun n0 r hr => equal_c ks ks' _ _ W5 w3.heap.size (q4.parts.choose_spec.choose_spec.choose_spec.choose_spec.2.1.later hbel5 (Nat.le_refl _)) (q4'.parts.choose_spec.choose_spec.choose_spec.choose_spec.2.1.later hbel5 (Nat.le_refl _)) n0 r hr
     have HEQ := Lib.hid hEq
     have HKIDS := Lib.hid (And.intro (And.intro hat hkids) (And.intro hat' hkids'))
     have H5 := Lib.hid (And.intro hbel5 (And.intro hway5 kx))
     have HW5 := Lib.hid hW5
     have HOK := Lib.hid hok
     have HS := Lib.hid hsame
     have HK := Lib.hid hk
     have HN := Lib.hid hn
     have HWAY := Lib.hid hway
     have HQ2 := Lib.hid (And.intro q2 q2')
     clear hEq hat hkids hat' hkids' hbel5 hway5 hbel hb5 kx hW5 hok hsame hk hn hway q1 q2 q4 q1' q2' q4' hc1 hll hlen
     by_cases hks : ks = ks'
     · by_cases hls : cs.length = cs'.length
       · have hne : ((cs.length : Int) != (cs'.length : Int)) = false := by simp [hls]
         obtain ⟨ps, hp1, hp2, hp3, hp4, hp5⟩ := kid_pairs hls HKIDS.out.1.1 HKIDS.out.1.2 HKIDS.out.2.1 HKIDS.out.2.2
         have HP := Lib.hid (And.intro hp1 (And.intro hp2 (And.intro hp3 (And.intro hp4 hp5))))
         have HQ := Lib.hid (And.intro hks hls)
         clear hp1 hp2 hp3 hp4 hp5 hks hls
         go_wp2_with fail
         rw [← HW5.out]
         go_quiet ((go_at_call 60; exact HEQ.out _ true (decide_eq_true HQ.out.1)))
         go_wp2_with fail
         generalize hW6 : (W5.drewN _) = W6
         obtain ⟨m6, hW6⟩ : ∃ m, W5.drewN m = W6 := ⟨_, hW6⟩
         have hb6 : Below w3.heap.size w3 W6 := by rw [← hW6]; exact below_drewN H5.out.1 _
         have hway6 : PWay W6 w3.heap.size g cap ini := by rw [← hW6]; exact H5.out.2.1.kept rfl
         have kx6 : W6.heap[wr.heap.size]? = some (.cells #[.pointer (some ⟨b, o, none⟩), .pointer (some ⟨b', o', none⟩)] 79 (0, 0)) := by rw [← hW6]; exact H5.out.2.2
         have H6 := Lib.hid (And.intro hb6 (And.intro hway6 kx6))
         clear hW6 hb6 hway6 kx6 p1 p2 p1' p2' x1 x2 x3 x4
         go_loopw [5, 59] (fun s5 i wi => ∃ (j g2 cap2 : Nat), j ≤ cs.length ∧ i = .int .i64 j ∧ s5 = .slice (some ⟨g2, 0, none⟩) (n + j) cap2 ∧ PWay wi w3.heap.size g2 cap2 (ini ++ ps.take j) ∧ Below w3.heap.size w3 wi ∧
           wi.heap[wr.heap.size]? = some (.cells #[.pointer (some ⟨b, o, none⟩), .pointer (some ⟨b', o', none⟩)] 79 (0, 0)) ∧ g2 ≠ wr.heap.size) (fun _ i _ => cs.length - (intOf i).toNat)
         case atStart => exact ⟨0, g, cap, Nat.zero_le _, rfl, rfl, by simpa using H6.out.2.1, H6.out.1, H6.out.2.2, by omega⟩
         case round =>
           obtain ⟨j, g2, cap2, hj, rfl, rfl, hwy, hbl, hkx, hgn⟩ := hrel
           by_cases hlt : j < cs.length
           · obtain ⟨b2, o2, b2', o2', rfl, rfl, hget⟩ : ∃ b2 o2 b2' o2', ka = some ⟨b2, o2, none⟩ ∧ ka' = some ⟨b2', o2', none⟩ ∧ ∀ i, i < cs.length → ∃ t t', ps[i]? = some ⟨b2, o2 + i * 2, t, b2', o2' + i * 2, t'⟩ := by
               rcases HP.out.2.2.2.2 with h | h
               · omega
               · exact h
             obtain ⟨tj, tj', hgj⟩ := hget j hlt
             have hlt' : j < cs'.length := by rw [← HQ.out.2]; exact hlt
             have p2 := (below_cell hbl q3).trans HQ2.out.1
             have p2' := (below_cell hbl q3').trans HQ2.out.2
             obtain ⟨x1, x2, x3, x4⟩ := box2 hkx
             have hln : (ini ++ ps.take j).length = n + j := by
               rw [List.length_append, List.length_take, HP.out.1, ← HN.out]; omega
             have hown := hwy.own hln
             have hszi := hbl.size
             have hgi := hwy.lt
             have hgb := hwy.blk.1
             have hnj : n + j ≤ 2097152 := by
               have h1 := HK.out
               rw [total_append] at h1
               simp only [total, Tr.count] at h1
               have h2 := length_le_total ini
               have h3 := length_le_total ps
               rw [HP.out.1, HP.out.2.2.2.1] at h3
               have h4 := HN.out
               omega
             have HWY := Lib.hid hwy
             have HBL := Lib.hid (And.intro hbl hkx)
             have HOWN := Lib.hid hown
             have HGJ := Lib.hid hgj
             have HGN := Lib.hid hgn
             have HLN := Lib.hid hln
             clear hwy hbl hkx hget hgj hown hln hgn
             go_wp2_with fail
             go_region_law
               (first
                 | (refine step_append_lies _ (by rfl) _ _ _ (by rfl) w3.heap.size 79 i0 _ 2 16 Try.underlying80 hi0 hz0 hz1 hz2 rfl (by omega) _ (n + j) _ (by rfl) (own_drew (HOWN.out.alloc _)) ⟨wr.heap.size, 0, none⟩ 1 1 [.pointer (some ⟨b2, o2 + j * 2, none⟩), .pointer (some ⟨b2', o2' + j * 2, none⟩)] (by rfl) (by rfl) (World.news_of_block (cs := #[.pointer (some ⟨b2, o2 + j * 2, none⟩), .pointer (some ⟨b2', o2' + j * 2, none⟩)]) (t := 79) (fr := (0, 0)) (by exact heap_alloc_new wr _)) (by simp [Value.oneCell']) (by omega) (by unfold maxLen; omega) (by omega) (by simp; omega) (wr.heap.size + 1) (by simp) ?_; intro g7 cap7 w7 hown7 hgrow7 hat7 hlt7; have H7 := Lib.hid (And.intro hown7 (And.intro hgrow7 hat7)); clear hown7 hgrow7 hat7))
             all_goals (
               go_wp2_with fail
               go_roundw
               case rel =>
                 have hbx := (Array.getElem?_eq_some_iff.1 HBL.out.2).1
                 refine ⟨j + 1, g7, cap7, by omega, by go_num, rfl, ?_, HBL.out.1.trans (pair_grown hgb hszi H7.out.2.1), ?_, ?_⟩
                 · have ht := List.take_add_one (l := ps) (i := j)
                   rw [HGJ.out] at ht
                   rw [ht, Option.toList_some, ← List.append_assoc]
                   exact PWay.grown _ HLN.out H7.out.1
                 · refine (H7.out.2.1.block _ (by simp; omega) ?_).trans ((old_blk wr _ _ hbx).trans HBL.out.2)
                   intro e
                   exact HGN.out (by simpa [Value.ownBlock] using e.symm)
                 · rcases H7.out.2.2 with h | h
                   · have : g2 = g7 := by simpa [Value.ownBlock] using h
                     rw [← this]; exact HGN.out
                   · omega
               case measure => simp [intOf]; omega)
           · obtain rfl : j = cs.length := by omega
             have HX := Lib.hid (And.intro hwy (And.intro hbl hkx))
             clear hwy hbl hkx
             go_wp2_with fail
             go_roundg (gk - 1)
             case measure =>
               have h1 := HK.out
               have h2 := length_le_total (ini ++ [(⟨b, o, ⟨ks, cs⟩, b', o', ⟨ks', cs'⟩⟩ : Sp)])
               simp only [List.length_append, List.length_cons, List.length_nil] at h2
               omega
             case rel =>
               have hln : (ini ++ ps).length = n + cs.length := by rw [List.length_append, HP.out.1, ← HN.out]
               refine ⟨ini ++ ps, g2, cap2, by rw [hln], ?_, fun f hf => ?_, ?_, HX.out.2.1, ?_, by omega⟩
               · have h1 := HX.out.1
                 rw [List.take_of_length_le (by rw [HP.out.1]; exact Nat.le_refl _)] at h1
                 exact h1
               · rcases List.mem_append.1 hf with h | h
                 · exact HOK.out f (List.mem_append_left _ h)
                 · exact HP.out.2.1 f h
               · rw [← HS.out, List.all_append, List.all_append, HP.out.2.2.1]
                 simp [Sp.same, Tr.sameB, HQ.out.1, HQ.out.2]
               · have h1 := HK.out
                 rw [total_append] at h1 ⊢
                 simp only [total, Tr.count] at h1
                 rw [HP.out.2.2.2.1]
                 omega
       · have hne : ((cs.length : Int) != (cs'.length : Int)) = true := by simp; omega
         have HQ := Lib.hid (And.intro hks hls)
         clear hks hls
         go_wp2_with fail
         rw [← HW5.out]
         go_quiet ((go_at_call 60; exact HEQ.out _ true (decide_eq_true HQ.out.1)))
         go_wp2_with fail
         go_ret
         refine ⟨ret_bool ?_, H3.out.trans ((below_drewN H5.out.1 _).mono (by omega))⟩
         rw [← HS.out, List.all_append]
         simp [Sp.same, Tr.sameB, HQ.out.2]
     · have HQ := Lib.hid hks
       clear hks
       go_wp2_with fail
       rw [← HW5.out]
       go_quiet ((go_at_call 60; exact HEQ.out _ false (decide_eq_false HQ.out)))
       go_wp2_with fail
       go_ret
       refine ⟨ret_bool ?_, H3.out.trans ((below_drewN H5.out.1 _).mono (by omega))⟩
       rw [← HS.out, List.all_append]
       simp [Sp.same, Tr.sameB, HQ.out]
end Go.Proofs.Ytananonjomfpkaa
/- A tree is the same as itself: plain data. -/
namespace Go.Proofs.Ytananonjomfpkaa
open Go.RowKit
namespace Tr
mutual
theorem sameB_refl : ∀ t : Tr, sameB t t = true
 | .mk k c => by simp [sameB, samesB_refl c]
theorem samesB_refl : ∀ c : List Tr, samesB c c = true
 | [] => by simp [samesB]
 | a :: r => by simp [samesB, sameB_refl a, samesB_refl r]
end
end Tr
end Go.Proofs.Ytananonjomfpkaa
/- Two lists that are the same: the laws' own function. -/
namespace Go.Proofs.Ytananonjomfpkaa
open Go.RowKit
set_option maxHeartbeats 1000000 in
theorem ftSame_c (ks : List Int) (v v' : Value) (w : World) (B : Nat) (hB : B ≤ w.heap.size) (hk : IntsIn w B v ks) (hk' : IntsIn w B v' ks) :
   Calls Try.prog 23 #[v, v'] w fun e w' => e = .returned (.bool true) ∧ Below w.heap.size w w' := by
 obtain ⟨a, cap, rfl, h1, h2, _, h3⟩ := hk
 obtain ⟨a', cap', rfl, h1', h2', _, h3'⟩ := hk'
 unfold maxLen at h2 h2'
 have HK := Lib.hid h3
 have HK' := Lib.hid h3'
 clear h3 h3'
 have heq : ((ks.length : Int) == ks.length) = true := by simp
 have hmin : min (ks.length : Int) (ks.length : Int) = (ks.length : Int) := by simp
 go_enter Try.func23, Try.ntmps23
 go_wp2_with fail
 go_loopw [5, 11] (fun s5 i wr => ∃ (j : Nat), j ≤ ks.length ∧ i = .int .i64 j ∧ Below w.heap.size w wr) (fun _ i _ => ks.length - (intOf i).toNat)
 case atStart => exact ⟨0, Nat.zero_le _, rfl, Below.refl _ _⟩
 case round =>
   obtain ⟨j, hj, rfl, hbel⟩ := hrel
   by_cases hlt : j < ks.length
   · rcases HK.out with h | ⟨b, off, rfl, hb, hat⟩
     · simp [h] at hlt
     rcases HK'.out with h | ⟨b', off', rfl, hb', hat'⟩
     · simp [h] at hlt
     have ha1 : wr.cell? ⟨b, off + j, none⟩ = some (.int .i64 (ks.getD j 0)) := by rw [below_cell hbel (by omega)]; exact hat j hlt
     have ha2 : wr.cell? ⟨b', off' + j, none⟩ = some (.int .i64 (ks.getD j 0)) := by rw [below_cell hbel (by omega)]; exact hat' j hlt
     have hne2 : ((ks.getD j 0 : Int) != ks.getD j 0) = false := by simp
     have hjl : (j : Int) < (ks.length : Int) := by omega
     clear hat hat'
     generalize ks.getD j 0 = x at ha1 ha2 hne2
     go_wp2_with fail
     go_quiet (fail)
     go_wp2_with fail
     go_roundw
     case rel => exact ⟨j + 1, by omega, by go_num, below_drewN hbel _⟩
     case measure => simp [intOf]; omega
   · obtain rfl : j = ks.length := by omega
     have hjl : ¬ ((ks.length : Nat) : Int) < (ks.length : Int) := by omega
     go_wp2_with fail
     go_ret
     exact ⟨rfl, hbel⟩
end Go.Proofs.Ytananonjomfpkaa
/- The law on popping: the walk over the contracts. -/
namespace Go.Proofs.Ytananonjomfpkaa
open Go.RowKit
theorem RowF.intsIn {w : World} {F : Cells} {v : Value} {l : List Int} (h : RowF w F v (l.map (Value.int .i64))) : IntsIn w w.heap.size v l := by
 obtain ⟨h0, a, cap, hv, h1, h2, h3, h4⟩ := h
 simp only [List.length_map] at hv h1
 refine ⟨a, cap, hv, h1, h2, h3, ?_⟩
 rcases h4 with h4 | ⟨b, o, h5, h6, h7⟩
 · left; exact List.eq_nil_of_length_eq_zero (by omega)
 · by_cases hl : l = []
   · exact .inl hl
   · have hl0 : 0 < l.length := List.length_pos_iff.2 hl
     refine .inr ⟨b, o, h5, h0 b _ (h6 0 (by omega)).1, fun i hi => ?_⟩
     rw [h7 i (by simpa using hi)]
     simp [hi]
set_option maxHeartbeats 4000000 in
set_option maxRecDepth 100000 in
theorem fnPop_c {w : World} {v : Value} {bs : List Nat} (h : BytesIn w w.heap.size v bs) :
   Calls Try.prog 4 #[v] w fun e w' => e = .returned (.bool true) ∧ Below w.heap.size w w' := by
 have H := Lib.hid h
 obtain ⟨a1, c1, rfl, -⟩ := h
 by_cases hc1 : bs.length ≤ 1048576
 case neg =>
   have hc1' : ((bs.length : Int) > 1048576) := by omega
   go_enter Try.func4, Try.ntmps4
   go_wp2_with fail
   go_ret
   exact ⟨rfl, Below.refl _ _⟩
 have hc1' : ¬ ((bs.length : Int) > 1048576) := by omega
 have HD := Lib.hid (DrawPopLeast_c H.out w (Below.refl _ _) (Nat.le_refl _))
 go_enter Try.func4, Try.ntmps4
 go_wp2_with fail
 refine HD.out.mono ?_
 rintro e w2 ⟨k2, d2, t, wide, rfl, hwd1, hwd2, ht2, hw2, hb2⟩
 obtain ⟨b1, b2, b3, b4, b5, b6, rfl, rfl⟩ := ht2.slices
 have hs2 := hb2.size
 obtain ⟨W3, hW3⟩ : ∃ W3, W3 = w2.alloc (.cells #[.slice b1 b2 b3, .slice b4 b5 b6] 26) := ⟨_, rfl⟩
 have hs3 : w2.heap.size < W3.heap.size := by rw [hW3]; simp
 have hb3 : Below w2.heap.size w2 W3 := by rw [hW3]; exact (Below.refl _ _).alloc (Nat.le_refl _) _
 have hx3 : W3.heap[w2.heap.size]? = some (.cells #[.slice b1 b2 b3, .slice b4 b5 b6] 26 (0, 0)) := by rw [hW3, new_blk]
 have hta3 : TreeA W3 (.slice b1 b2 b3) (.slice b4 b5 b6) t := (ht2.a (fun k hk => hk.2)).later hb3 (Nat.le_refl _)
 have hwt : t.weight ≤ 1048576 := by omega
 have HI3 := Lib.hid (impl_pop hta3.tree hwt wide (by omega) (by omega) W3 (Below.refl _ _) (Nat.le_refl _))
 have HS3 := Lib.hid (fun wx hx => specPop_c hta3.tree hwt wide wx hx (Below.size (w := W3) hx))
 obtain ⟨A, hA⟩ : ∃ A, A = Tr.popB wide t := ⟨_, rfl⟩
 rw [← hA] at HI3 HS3
 obtain ⟨X, hX⟩ : ∃ X, X = Tr.popT wide t := ⟨_, rfl⟩
 rw [← hX] at HI3 HS3
 obtain ⟨KK, hKK⟩ : ∃ KK, KK = Tr.popK wide t := ⟨_, rfl⟩
 rw [← hKK] at HI3 HS3
 have hkkn : (KK != KK) = false := by simp
 have hkke : (KK == KK) = true := by simp
 have hXw := Tr.pop_weight wide t
 rw [← hX] at hXw
 have HAX := Lib.hid (And.intro hA (And.intro hX hKK))
 have HTA := Lib.hid hta3
 have HBX := Lib.hid (And.intro (hb2.trans (hb3.mono (by omega))) hx3)
 have hx3x := hx3
 rw [hW3] at hx3x
 obtain ⟨x1, x2, x3, x4⟩ := box2 hx3x
 have HW3 := Lib.hid hW3
 clear ht2 hb2 hW3 hb3 hx3 hx3x hta3 hA hX hKK
 go_wp2_with fail
 rw [← HW3.out]
 refine HI3.out.mono ?_
 rintro e w4 ⟨k4, d4, P4, rfl, ho4, hb4⟩
 obtain ⟨p1, p2, p3, p4, p5, p6, rfl, rfl⟩ := ho4.tree.slices
 have hs4 := hb4.size
 obtain ⟨W5, hW5⟩ : ∃ W5, W5 = w4.alloc (.cells #[.slice p1 p2 p3, .slice p4 p5 p6] 26) := ⟨_, rfl⟩
 have hs5 : W5.heap.size = w4.heap.size + 1 := by rw [hW5]; simp
 have hb45 : Below w4.heap.size w4 W5 := by rw [hW5]; exact (Below.refl _ _).alloc (Nat.le_refl _) _
 have hb5 : Below W3.heap.size W3 W5 := hb4.trans (hb45.mono (by omega))
 have hk5 : W5.heap[w4.heap.size]? = some (.cells #[.slice p1 p2 p3, .slice p4 p5 p6] 26 (0, 0)) := by rw [hW5, new_blk]
 have hx5 := (hb5.block _ (by omega)).trans HBX.out.2
 have hx5x := hx5
 rw [hW5] at hx5x
 clear x1 x2 x3 x4
 obtain ⟨x1, x2, x3, x4⟩ := box2 hx5x
 have HX5 := Lib.hid (And.intro (ho4.later hb45 (Nat.le_refl _)) (And.intro hk5 hb5))
 have HS5 := Lib.hid (HS3.out W5 hb5)
 have HW5 := Lib.hid hW5
 clear ho4 hb4 hb45 hb5 hk5 hx5 hx5x hW5
 go_wp2_with fail
 rw [← HW5.out]
 refine HS5.out.mono ?_
 rintro e w6 ⟨k6, d6, P6, rfl, ho6, hb6⟩
 obtain ⟨q1, q2, q3, q4, q5, q6, rfl, rfl⟩ := ho6.tree.slices
 have hs6 := hb6.size
 obtain ⟨W7, hW7⟩ : ∃ W7, W7 = w6.alloc (.cells #[.slice q1 q2 q3, .slice q4 q5 q6] 26) := ⟨_, rfl⟩
 have hs7 : W7.heap.size = w6.heap.size + 1 := by rw [hW7]; simp
 have hb67 : Below w6.heap.size w6 W7 := by rw [hW7]; exact (Below.refl _ _).alloc (Nat.le_refl _) _
 have hb57 : Below W5.heap.size W5 W7 := hb6.trans (hb67.mono hs6)
 have hb7 : Below W3.heap.size W3 W7 := HX5.out.2.2.trans (hb57.mono (by omega))
 have hk7 : W7.heap[w6.heap.size]? = some (.cells #[.slice q1 q2 q3, .slice q4 q5 q6] 26 (0, 0)) := by rw [hW7, new_blk]
 have htx : TreeA W7 (.slice p1 p2 p3) (.slice p4 p5 p6) X := (HX5.out.1.later hb57 (Nat.le_refl _)).a
 have htq : TreeIn W7 W7.heap.size (.slice q1 q2 q3) (.slice q4 q5 q6) X := (ho6.later hb67 (Nat.le_refl _)).tree
 have htt : TreeA W7 (.slice b1 b2 b3) (.slice b4 b5 b6) t := HTA.out.later hb7 (Nat.le_refl _)
 have BOX1 : Hid (∀ wx : World, Below W7.heap.size W7 wx → wx.heap[w2.heap.size]? = some (.cells #[.slice b1 b2 b3, .slice b4 b5 b6] 26 (0, 0))) :=
   Lib.hid (fun wx hx => (hx.block _ (by omega)).trans ((hb7.block _ (by omega)).trans HBX.out.2))
 have BOX2 : Hid (∀ wx : World, Below W7.heap.size W7 wx → wx.heap[w4.heap.size]? = some (.cells #[.slice p1 p2 p3, .slice p4 p5 p6] 26 (0, 0))) :=
   Lib.hid (fun wx hx => (hx.block _ (by omega)).trans ((hb57.block _ (by omega)).trans HX5.out.2.1))
 have BOX3 : Hid (∀ wx : World, Below W7.heap.size W7 wx → wx.heap[w6.heap.size]? = some (.cells #[.slice q1 q2 q3, .slice q4 q5 q6] 26 (0, 0))) :=
   Lib.hid (fun wx hx => (hx.block _ (by omega)).trans hk7)
 have C1 := fun (wx : World) (hx : Below W7.heap.size W7 wx) => impl_same_a wx (htx.later hx (Nat.le_refl _)) hXw ((htq.later hx (Nat.le_refl _)).wider hx.size)
 rw [Tr.sameB_refl] at C1
 have C4 := fun (wx : World) (hx : Below W7.heap.size W7 wx) => impl_keys_a (htt.later hx (Nat.le_refl _)) hwt
 have C7 := fun (wx : World) (hx : Below W7.heap.size W7 wx) => impl_keys_a (htx.later hx (Nat.le_refl _)) hXw
 have HTT := Lib.hid htt
 have HC1 := Lib.hid C1
 have HC4 := Lib.hid C4
 have HC7 := Lib.hid C7
 have HF := Lib.hid (HBX.out.1.trans (hb7.mono (by have := HBX.out.1.size; omega)))
 have r1 := BOX1.out W7 (Below.refl _ _)
 have r2 := BOX2.out W7 (Below.refl _ _)
 have r3 := BOX3.out W7 (Below.refl _ _)
 rw [hW7] at r1 r2 r3
 clear x1 x2 x3 x4
 obtain ⟨x1, x2, x3, x4⟩ := box2 r1
 obtain ⟨y1, y2, y3, y4⟩ := box2 r2
 obtain ⟨z1, z2, z3, z4⟩ := box2 r3
 have HW7 := Lib.hid hW7
 have hAA : (A != A) = false := by simp
 have hAE : (A == A) = true := by simp
 clear ho6 hb6 hb67 hb57 hb7 hk7 htx htq htt C1 C4 C7 r1 r2 r3 hW7
 go_wp2_with fail
 rw [← HW7.out]
 refine (HC1.out W7 (Below.refl _ _)).mono ?_
 rintro e w8 ⟨rfl, hb8⟩
 have H8 := Lib.hid hb8
 clear hb8 x1 x2 x3 x4 y1 y2 y3 y4 z1 z2 z3 z4
 obtain ⟨x1, x2, x3, x4⟩ := box2 (BOX1.out w8 H8.out)
 obtain ⟨y1, y2, y3, y4⟩ := box2 (BOX2.out w8 H8.out)
 obtain ⟨z1, z2, z3, z4⟩ := box2 (BOX3.out w8 H8.out)
 cases A with
 | false =>
   go_wp2_with fail
   refine (HC1.out w8 H8.out).mono ?_
   rintro e w9 ⟨rfl, hb9⟩
   have H9 := Lib.hid (H8.out.trans (hb9.mono (by have := H8.out.size; omega)))
   clear hb9 x1 x2 x3 x4 y1 y2 y3 y4 z1 z2 z3 z4
   go_wp2_with fail
   go_ret
   exact ⟨rfl, HF.out.trans (H9.out.mono (by have := HF.out.size; omega))⟩
 | true =>
   have hpb : Tr.popB wide t = true := HAX.out.1.symm
   have hv : Tr.validB wide t = true := by have h := hpb; rw [Tr.pop_is] at h; exact (Bool.and_eq_true_iff.1 h).1
   have hsome := sorted_len (Tr.valid_keys hv)
   obtain ⟨-, hpos, -⟩ := Tr.pop_first hpb
   obtain ⟨-, s2, s3, s4⟩ := Tr.pop_step hv hpos
   rw [← HAX.out.2.2] at s2
   rw [← HAX.out.2.1] at s3 s4
   have D4 := HC4.out
   have D7 := HC7.out
   rw [s4] at D7
   obtain ⟨K, hK⟩ : ∃ K, K = t.keys := ⟨_, rfl⟩
   rw [← hK] at D4 D7 s2 hsome hpos
   have HD4 := Lib.hid D4
   have HD7 := Lib.hid D7
   have HV := Lib.hid (And.intro hv (And.intro hK s2))
   clear hpb hv s2 s3 s4 D4 D7 hK HC1 HC4 HC7 hAA hAE hkkn hkke
   go_wp2_with fail
   refine (HD4.out w8 H8.out).mono ?_
   rintro e w11 ⟨v11, rfl, ho11, hb11⟩
   obtain ⟨ka, kc, rfl⟩ := IntsOwn.shown ho11
   have hs11 : W7.heap.size ≤ w11.heap.size := by have := H8.out.size; have := hb11.size; omega
   have H11 := Lib.hid (H8.out.trans (hb11.mono (by have := H8.out.size; omega)))
   obtain ⟨F0, hstart⟩ := PopR.start (wide := wide) (HTT.out.later H11.out (Nat.le_refl _)) HV.out.1 HV.out.2.1
   have HST := Lib.hid hstart
   have HO11 := Lib.hid ho11
   clear ho11 hb11 x1 x2 x3 x4 y1 y2 y3 y4 z1 z2 z3 z4 hstart
   have hal : Below w11.heap.size w11 (w11.alloc (.cells #[] 3)) := (Below.refl _ _).alloc (Nat.le_refl _) _
   obtain ⟨x1, x2, x3, x4⟩ := box2 (BOX1.out (w11.alloc (.cells #[] 3)) (H11.out.trans (hal.mono hs11)))
   clear hal
   go_upto_region 11 with (fail)
   go_wp2_with fail
   go_loopw [12, 76] (fun s12 s76 wr => ∃ (j : Nat) (kv cv : Value) (u : Tr) (F : Cells), s76 = .int .i64 j ∧ PopR w11 (w11.heap.size + 1) wide K wr s12 j kv cv u F) (fun _ s76 _ => K.length - (intOf s76).toNat)
   case atStart => exact ⟨0, _, _, t, F0, rfl, HST.out⟩
   case round =>
     obtain ⟨j, kv, cv, u, F, rfl, hR⟩ := hrel
     obtain ⟨d1, d2, d3, d4, d5, d6, rfl, rfl⟩ := hR.tree.slices
     obtain ⟨oa, oc, hov⟩ := (hR.rows.ints 0 rfl).shown
     have hjl := hR.le
     rw [List.length_map, List.length_take, Nat.min_eq_left hjl] at hov
     subst hov
     obtain ⟨q1, q2, q3, q4⟩ := hR.rows.box 1 rfl
     have hpl : w11.heap.size + 1 < wr.heap.size := by
       have hr := hR.rows.row 1 _ rfl
       exact hr.1 _ 0 rfl
     have HR := Lib.hid hR
     have hsz := hR.bel.size
     clear hR x1 x2 x3 x4
     by_cases hlt : j < K.length
     · have hjk : (j : Int) < (K.length : Int) := by omega
       have hul : 0 < u.keys.length := by rw [HR.out.keys, List.length_drop]; omega
       obtain ⟨p1, p2, p3, p4⟩ := Tr.pop_step HR.out.val hul
       have hget : u.keys.getD 0 0 = K.getD j 0 := by rw [HR.out.keys, List.getD_eq_getElem?_getD, List.getD_eq_getElem?_getD, List.getElem?_drop]; simp
       obtain ⟨k, hk⟩ : ∃ k, k = K.getD j 0 := ⟨_, rfl⟩
       rw [hget, ← hk] at p2
       have hcall := impl_pop (TreeQ.tree HR.out.tree (fun _ e => e.1)) (by have := Tr.valid_small HR.out.val; omega) wide (by omega) (by omega) wr (Below.refl _ _) (Nat.le_refl _)
       simp only [p1, p2] at hcall
       have HCALL := Lib.hid hcall
       have HP := Lib.hid (And.intro p3 (And.intro p4 hk))
       clear hcall p1 p2 p3 p4 hget hk hul
       go_wp2_with fail
       refine HCALL.out.mono ?_
       rintro e w7' ⟨k7, c7, P7, rfl, ho7, hb7⟩
       obtain ⟨e1, e2, e3, e4, e5, e6, rfl, rfl⟩ := ho7.tree.slices
       obtain ⟨W9, hW9⟩ : ∃ W9, W9 = (w7'.alloc (.cells #[.slice e1 e2 e3, .slice e4 e5 e6] 26)).alloc (.cells #[.int .i64 k] 3) := ⟨_, rfl⟩
       have hs9 : W9.heap.size = w7'.heap.size + 2 := by rw [hW9]; simp
       have hb79 : Below w7'.heap.size w7' W9 := by rw [hW9]; exact ((Below.refl _ _).alloc (Nat.le_refl _) _).alloc (by simp) _
       have hz7 := hb7.size
       have hb9 : Below wr.heap.size wr W9 := hb7.trans (hb79.mono hz7)
       have hbox9 : W9.heap[w7'.heap.size]? = some (.cells #[.slice e1 e2 e3, .slice e4 e5 e6] 26 (0, 0)) := by rw [hW9, old_blk _ _ _ (by simp), new_blk]
       have htq9 : TreeQ W9 (fun k => wr.heap.size ≤ k ∧ k < w7'.heap.size) (.slice e1 e2 e3) (.slice e4 e5 e6) (Tr.popT wide u) := TreeQ.same ho7.q (fun k hk => hb79.block k hk.2) (fun k hk => hk)
       have hsrc : IntsAt W9 (.slice (some ⟨w7'.heap.size + 1, 0, none⟩) 1 1) [k] := by
         have h := IntsAt.one (w7'.alloc (.cells #[.slice e1 e2 e3, .slice e4 e5 e6] 26)) k
         rw [show (w7'.alloc (.cells #[.slice e1 e2 e3, .slice e4 e5 e6] 26)).heap.size = w7'.heap.size + 1 by simp] at h
         rw [hW9]; exact h
       have HSRC := Lib.hid hsrc
       have HR9 := Lib.hid (HR.out.call hb9)
       have HLN : Hid ((K.take j).length + [k].length ≤ 100000000) := Lib.hid (by rw [List.length_take]; simp; omega)
       have HT9 := Lib.hid (And.intro hb9 (And.intro hbox9 (And.intro htq9 hb7)))
       have HW9 := Lib.hid hW9
       clear ho7 hb7 hb79 hb9 hbox9 htq9 hsrc hW9 q1 q2 q3 q4
       go_wp2_with (at_builtin; rw [← HW9.out]; refine wpList_held_ints rfl _ _ rfl 0 F _ (K.take j) HR9.out rfl rfl _ [k] rfl HSRC.out HLN.out ?_; intro a1' c1' F1 w1 h1; generalize hn1 : (K.take j).length + [k].length = n1 at h1 ⊢; have h1' : HeldR W9 (fun q o => F q o ∨ boxOf (w11.heap.size + 1) q o) w1 [intsD F1 (.slice a1' n1 c1') (K.take j ++ [k]), boxD (w11.heap.size + 1) (.slice d1 d2 d3) (.slice d4 d5 d6)] := h1; obtain ⟨q1, q2, q3, q4⟩ := h1'.box 1 rfl; have hkb := h1'.kept.block' HT9.out.2.1 (fun o e => e.elim (fun e => by (have := (HR.out.rows.row 0 _ rfl).1 _ o e; omega)) (fun e => by (have e' : w7'.heap.size = w11.heap.size + 1 := e; omega))); obtain ⟨m1, m2, m3, m4⟩ := box2 hkb; have H1 := Lib.hid h1'; clear h1 h1' hkb hn1)
       go_roundw
       case rel =>
         refine ⟨j + 1, .slice e1 e2 e3, .slice e4 e5 e6, Tr.popT wide u, F1, by go_num, ?_⟩
         have h1 := H1.out
         rw [HP.out.2.2] at h1
         exact HR.out.next hlt HT9.out.1 HT9.out.2.2.1 (by omega) h1 HP.out.2.1 HP.out.1
       case measure => simp [intOf]; omega
     · have hjk : ¬ (j : Int) < (K.length : Int) := by omega
       obtain rfl : j = K.length := by omega
       have hin : IntsIn wr wr.heap.size (.slice oa K.length oc) K := by
         have h := (HR.out.rows.ints 0 rfl).intsIn
         rwa [List.take_length] at h
       have hun : u.keys = [] := by rw [HR.out.keys]; simp
       have hd2 : d2 = 0 := by
         have h0 := Tr.keys_none hun
         have ht := HR.out.tree
         cases u with
         | mk uk uc =>
           cases ht with
           | mk _ _ _ _ _ _ _ hk _ _ _ _ =>
             obtain ⟨_, _, hv, _⟩ := hk
             injection hv with _ e2 _
             rw [e2]; exact h0
       subst hd2
       have hown := IntsOwn.later HO11.out HR.out.bel (Nat.le_refl _)
       have HIN := Lib.hid (And.intro hin hown)
       have hpos' : (0 : Int) < (K.length : Int) := by omega
       clear hin hun hown q3 q4
       go_wp2_with fail
       refine (ftSame_c K _ _ wr wr.heap.size (Nat.le_refl _) HIN.out.1 (IntsOwn.inB HIN.out.2 (Nat.le_refl _))).mono ?_
       rintro e w12 ⟨rfl, hb12⟩
       have q1' : w12.cell? ⟨w11.heap.size + 1, 0, none⟩ = some (.slice d1 0 d3) := by rw [below_cell hb12 hpl]; exact q1
       have hown12 := IntsOwn.later HIN.out.2 hb12 (Nat.le_refl _)
       obtain ⟨_, _, hv12, hk1, hk2, -, hat⟩ := IntsOwn.in hown12
       injection hv12 with ev1 _ ev3
       subst ev1 ev3
       have hb712 : Below W7.heap.size W7 w12 := H11.out.trans ((HR.out.bel.trans (hb12.mono hsz)).mono hs11)
       have HB12 := Lib.hid hb712
       rcases hat with h0 | ⟨kb, ko, rfl, hkb, hat⟩
       · rw [h0] at hpos; simp at hpos
       have hcell : w12.cell? ⟨kb, ko, none⟩ = some (.int .i64 KK) := by
         have h := hat 0 hpos
         rw [← HV.out.2.2] at h
         exact h
       have hkke : (KK == KK) = true := by simp
       obtain ⟨y1, y2, y3, y4⟩ := box2 (BOX2.out w12 hb712)
       clear hb12 hown12 hat q1 q2 hb712
       go_wp2_with fail
       refine (HD7.out w12 HB12.out).mono ?_
       rintro e w13 ⟨v13, rfl, ho13, hb13⟩
       obtain ⟨xa, xc, rfl⟩ := IntsOwn.shown ho13
       have hl13 : (K.drop 1).length = K.length - 1 := by simp
       obtain ⟨n13, hn13⟩ : ∃ n, n = (K.drop 1).length := ⟨_, rfl⟩
       rw [← hn13] at hl13 ⊢
       have hw13 : IntKind.i64.wrap ((K.length : Int) - 1) = (n13 : Int) := by rw [IntKind.wrap_i64]; omega
       have hn13e : ((n13 : Int) == (n13 : Int)) = true := by simp
       have H13 := Lib.hid (HB12.out.trans (hb13.mono (by have := HB12.out.size; omega)))
       clear ho13 hb13 hn13 y1 y2 y3 y4
       go_wp2_with fail
       go_ret
       exact ⟨rfl, HF.out.trans (H13.out.mono (by have := HF.out.size; omega))⟩
end Go.Proofs.Ytananonjomfpkaa
/- The statement on ranks when a key is deleted, from the walk of its law. -/
namespace Go.Proofs.Ytananonjomfpkaa.fnPopRowP
open Go.ChangeShapes Go.WideShapes Go.ChangeAt Go.RowKit
set_option linter.unusedVariables false
theorem own : ownKnob Try.prog.godebug = none := by kernel_rfl
theorem laidOut : laidOutB Try.prog = true := by kernel_rfl
set_option maxRecDepth 100000 in
set_option maxHeartbeats 1000000 in
theorem lifted (os : Os) (started : os.Started) (H : Type) (enc : TypeId × Value → H) :
   ReturnsInHanded {} Try.checked os 4 .any (Rows.fnPopSpec.pre6 enc Try.prog Try.f4 Rows.fnPopRow.domain false) (Rows.fnPopSpec.post enc Try.prog Try.f4 false true false false) := by
 refine returnsInHanded_of_change (C := Try.checked) own started (by kernel_rfl) Try.func4
   (ChangeSpec.witness6 (enc := enc) (C := Try.checked) false ⟨#[], #[.slice none 0 0], []⟩ 8 (by kernel_rfl) (by kernel_rfl) (by kernel_rfl) (by kernel_rfl)) ?_
 intro W base args ds gs before hval0 hW hcnd _
 have hval : ∀ (j : Nat) t v, Try.f4.params[j]? = some t → args[j]? = some v → Value.okWide Try.prog W .any base t v := hval0
 have hW' := hW
 obtain ⟨p, q, hA0, hV, rfl, hfz, hnd⟩ := hW
 have hA : DataW.TrodAll enc Try.prog W 0 (fun _ => true) true Try.f4.params.toList args.toList ds p := hA0
 rw [Try.params4] at hA hval
 obtain ⟨v0, vs0, d0, ds0, p0, q0, hargs, rfl, rfl, h0, r0⟩ := trodAll_cons hA
 obtain ⟨rfl, rfl, rfl⟩ := trodAll_nil r0
 obtain rfl : args = #[v0] := by cases args; simp_all
 obtain ⟨rfl, rfl⟩ := trodVars_none hV
 obtain ⟨a0, len0, cap0, rfl⟩ := okWide_slice Try.underlying22 (hval 0 22 v0 rfl rfl)
 have k0 := h0
 have lt0 : ∀ x ∈ p0, x.block < W.heap.size := by obtain ⟨m, hm⟩ := k0; exact DataW.trod_lt m _ _ _ hm
 obtain ⟨bs0, hb0⟩ : ∃ bs, BytesIn W W.heap.size (.slice a0 len0 cap0) bs := by
   obtain ⟨fuel, hf⟩ := h0
   exact bytes_of_trod fuel (fun _ => rfl) hf
 clear hA0 hval0
 refine (fnPop_c hb0).mono fun e W' ⟨he, bel⟩ => ?_
 subst he
 exact ⟨_, rfl, _, _, _, [], _, [], hW', trodAll_mk1 (shut_bool Try.underlying4 _), (trodAll_cons_mk (Below.trod laidOut (by kernel_rfl) (of_decide_eq_true (by kernel_rfl)) k0 bel lt0) trodAll_mk0), rfl, bel.frame _, fun h => by cases h⟩
theorem closed : joinedFacts Try.prog 4 Try.f4 Rows.fnPopSpec Rows.fnPopRow = true := by
 unfold joinedFacts
 exact band (band (band (band (band (band (band (by kernel_rfl) fact_enter) fact_lifts) fact_make) (by kernel_rfl)) (by kernel_rfl)) (by kernel_rfl)) (by kernel_rfl)
theorem over : Rows.fnPopRow.holds Try.pinned (OpenSpec.ofChange Rows.fnPopSpec) :=
 OpenClaim.holds_of_wide 4 Try.f4 rfl rfl rfl rfl rfl rfl rfl ⟨rfl, rfl, rfl, rfl, rfl⟩ rfl rfl rfl rfl rfl (by kernel_rfl) Try.func4 closed
   (of_decide_eq_true (by kernel_rfl)) (by unfold Func.isWrapper; first | (rw [if_pos (by decide +kernel)]; kernel_rfl) | (rw [if_neg (by decide +kernel)]; exact ⟨rfl, rfl⟩))
   (fun os started H enc _ => lifted os started H enc)
end Go.Proofs.Ytananonjomfpkaa.fnPopRowP
/- For every slice of bytes, the law on ranks when a key is deleted returns true and leaves its arguments as they were; no conditions. -/
namespace Go.Proofs.Ytananonjomfpkaa
theorem pop_said : Rows.FnPopSaid := fnPopRowP.over
end Go.Proofs.Ytananonjomfpkaa
