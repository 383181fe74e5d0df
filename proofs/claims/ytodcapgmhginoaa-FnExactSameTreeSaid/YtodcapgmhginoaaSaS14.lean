/- The contract of the program's SameTree. -/
import Derived.Test.YtodcapgmhginoaaProg
import Derived.Test.YtodcapgmhginoaaSaS0
import Derived.Test.YtodcapgmhginoaaSaS2
import Derived.Test.YtodcapgmhginoaaSaS5
import Derived.Test.YtodcapgmhginoaaSaS10
import Derived.Test.YtodcapgmhginoaaSaS11
import Derived.RangeFuncNested
import Derived.Shelf.RegionOpen
import Derived.Test.YtodcapgmhginoaaSaS12
import Derived.Test.YtodcapgmhginoaaSaS13
import Derived.Deep.LoopGhost
import Derived.Deep.QuietTactic
import Derived.BigQuiet
import Derived.Deep.RegionLaw
import Derived.Deep.AppendLies
import Derived.WalkSmall
namespace Go.Proofs.Ytodcapgmhginoaa
open Go.RowKit

theorem own_drew {w : World} {b : Nat} {e : TypeId} {s n : Nat} {v : Value} {xs : List Value} (h : w.ownsRow b e s v n xs) : w.drew.ownsRow b e s v n xs := h

theorem pair_grown {wr w7 : World} {g cap n base : Nat} {x y : Value} (hgb : base ≤ g) (hs : base ≤ wr.heap.size) (hgr : (wr.alloc (.cells #[x, y] 81)).drew.grownBy w7 (Value.slice (some ⟨g, 0, none⟩) n cap).ownBlock) : Below base wr w7 := by
  have hsz : wr.heap.size + 1 ≤ w7.heap.size := by have := hgr.size; simpa using this
  refine ⟨hgr.os, hgr.tape, hgr.output, by omega, fun k hk => ?_⟩
  have h1 := hgr.block k (by simp; omega) (by simp [Value.ownBlock]; omega)
  rw [h1]
  exact old_blk wr _ k (by omega)

set_option maxRecDepth 100000 in
set_option maxHeartbeats 4000000 in
theorem impl_same_a {kv cv kv' cv' : Value} {t t' : Tr} (w' : World) (htN : TreeA w' kv cv t) (hw : t.weight ≤ 1048576) (htT' : TreeIn w' w'.heap.size kv' cv' t') :
    Calls Try.prog 34 #[.agg #[kv, cv], .agg #[kv', cv']] w' fun e w'' => e = .returned (.bool (t.sameB t')) ∧ Below w'.heap.size w' w'' := by
  obtain ⟨i0, hi0, hz0, hz1, hz2⟩ := info_parts Try.infoPair
  have htT := htN.tree
  obtain ⟨sA1, sA2, sA3, sA4, sA5, sA6, rfl, rfl⟩ := htN.slices
  obtain ⟨a6, n6, c6, a7, n7, c7, rfl, rfl⟩ := htT'.slices
  obtain ⟨W2, hW2⟩ : ∃ W2, W2 = (w'.alloc (.cells #[.slice sA1 sA2 sA3, .slice sA4 sA5 sA6] 30)).alloc (.cells #[.slice a6 n6 c6, .slice a7 n7 c7] 30) := ⟨_, rfl⟩
  have hs2 : W2.heap.size = w'.heap.size + 2 := by rw [hW2]; simp
  have hb2 : Below w'.heap.size w' W2 := by rw [hW2]; exact ((Below.refl _ _).alloc (Nat.le_refl _) _).alloc (by simp) _
  have k0 : W2.heap[w'.heap.size]? = some (.cells #[.slice sA1 sA2 sA3, .slice sA4 sA5 sA6] 30 (0, 0)) := by rw [hW2, old_blk _ _ _ (by simp), new_blk]
  have k1 : W2.heap[w'.heap.size + 1]? = some (.cells #[.slice a6 n6 c6, .slice a7 n7 c7] 30 (0, 0)) := by
    rw [hW2, show w'.heap.size + 1 = (w'.alloc (.cells #[.slice sA1 sA2 sA3, .slice sA4 sA5 sA6] 30)).heap.size by simp, new_blk]
  obtain ⟨a, ha1, ha2, ha3, ha4⟩ := (htN.later hb2 (Nat.le_refl _)).at w'.heap.size 0 ⟨_, _, k0⟩ (box2 k0).1 (box2 k0).2.1
  have hsz : a.ro.siz ≤ 1048576 := by have := ATr.ro_siz a; rw [ha3] at this; omega
  have hE := nestingT_c (enters_of Try.func73 (by kernel_rfl) rfl) ha4.ro hsz
  rw [ATr.ro_addr] at hE
  obtain ⟨dep, hdep⟩ : ∃ d : Int, d = (a.ro.depth : Int) := ⟨_, rfl⟩
  have hdz : (dep == 0) = false := by rw [hdep]; simpa using depth_pos a.ro
  rw [← hdep] at hE
  clear hdep hsz
  have had : a.addr = ⟨w'.heap.size, 0, none⟩ := by unfold ATr.addr; rw [ha1, ha2]
  rw [had] at hE
  have hcl : t.count ≤ 1048577 := by have := Tr.count_le t; omega
  have HE := Lib.hid hE
  have HT := Lib.hid (And.intro htT htT')
  have HW2 := Lib.hid hW2
  have H2 := Lib.hid (And.intro hb2 (And.intro k0 k1))
  clear hE htT htT' htN hW2 hb2 k0 k1 ha1 ha2 ha3 ha4 had a
  go_enter Try.func34, Try.ntmps34
  go_wp2_with fail
  rw [← HW2.out]
  refine HE.out.mono ?_
  rintro e w3 ⟨rfl, hb3⟩
  have hs3 := hb3.size
  have hb23 : Below w'.heap.size w' w3 := H2.out.1.trans (hb3.mono (by omega))
  have L0 : Sp.ok w3 w3.heap.size ⟨w'.heap.size, 0, t, w'.heap.size + 1, 0, t'⟩ := by
    have c0 := box2 ((hb3.block w'.heap.size (by omega)).trans H2.out.2.1)
    have c1 := box2 ((hb3.block (w'.heap.size + 1) (by omega)).trans H2.out.2.2)
    exact ⟨⟨_, _, c0.1, c0.2.1, by show w'.heap.size < _; omega, (HT.out.1.later hb23 (Nat.le_refl _)).wider (by omega)⟩,
      ⟨_, _, c1.1, c1.2.1, by show w'.heap.size + 1 < _; omega, (HT.out.2.later hb23 (Nat.le_refl _)).wider (by omega)⟩⟩
  have HL0 := Lib.hid L0
  have H3 := Lib.hid hb23
  clear hb3 hb23 L0
  go_wp2_with fail
  obtain ⟨W4, hW4⟩ : ∃ W4, W4 = w3.alloc (.cells #[.pointer (some ⟨w'.heap.size, 0, none⟩), .pointer (some ⟨w'.heap.size + 1, 0, none⟩)] 81) := ⟨_, rfl⟩
  rw [← hW4]
  have hs4 : W4.heap.size = w3.heap.size + 1 := by rw [hW4]; simp
  have hb4 : Below w3.heap.size w3 W4 := by rw [hW4]; exact (Below.refl _ _).alloc (Nat.le_refl _) _
  have hway : PWay W4 w3.heap.size w3.heap.size 1 [⟨w'.heap.size, 0, t, w'.heap.size + 1, 0, t'⟩] := by
    refine PWay.of (Nat.le_refl _) (by rw [hW4]; exact new_blk _ _) (by simp) (by unfold maxLen; omega) rfl rfl
  have H4 := Lib.hid (And.intro hb4 hway)
  clear hW4 hb4 hway
  go_loopg [5] t.count (fun k s5 wr => ∃ (st : List Sp) (g cap : Nat), s5 = .slice (some ⟨g, 0, none⟩) st.length cap ∧ PWay wr w3.heap.size g cap st ∧ (∀ f ∈ st, f.ok w3 w3.heap.size) ∧ st.all Sp.same = t.sameB t' ∧ Below w3.heap.size w3 wr ∧ total st ≤ k ∧ k ≤ t.count)
  case atStart => exact ⟨_, _, _, rfl, H4.out.2, fun f hf => by obtain rfl := List.mem_singleton.1 hf; exact HL0.out, by simp, H4.out.1, by simp [total], Nat.le_refl _⟩
  case round =>
    obtain ⟨st, g, cap, rfl, hway, hok, hsame, hbel, hk, hkt⟩ := hrel
    rcases List.eq_nil_or_concat st with rfl | ⟨ini, f, rfl⟩
    · have HX := Lib.hid (And.intro hbel hsame)
      clear hway hok hsame hbel
      go_wp2_with fail
      go_ret
      exact ⟨ret_bool HX.out.2, H3.out.trans (HX.out.1.mono (by omega))⟩
    · obtain ⟨b, o, ⟨ks, cs⟩, b', o', ⟨ks', cs'⟩⟩ := f
      simp only [List.concat_eq_append] at hway hok hsame hk ⊢
      obtain ⟨⟨kw, cw, q1, q2, q3, q4⟩, ⟨kw', cw', q1', q2', q3', q4'⟩⟩ := hok _ (List.mem_append_right _ (List.mem_singleton.2 rfl))
      simp only at q1 q2 q3 q4 q1' q2' q3' q4'
      obtain ⟨ka, kc, kvs, cvs, rfl, hki, hl1, hl2, hat, hkids⟩ := q4.parts
      obtain ⟨ka', kc', kvs', cvs', rfl, hki', hl1', hl2', hat', hkids'⟩ := q4'.parts
      unfold maxLen at hl2 hl2'
      obtain ⟨pk1, pk2, rfl, _⟩ := hki
      obtain ⟨pk1', pk2', rfl, _⟩ := hki'
      have hlen := length_le_total (ini ++ [⟨b, o, ⟨ks, cs⟩, b', o', ⟨ks', cs'⟩⟩])
      obtain ⟨l1, l2⟩ := hway.last
      have hll : (ini ++ [(⟨b, o, ⟨ks, cs⟩, b', o', ⟨ks', cs'⟩⟩ : Sp)]).length = ini.length + 1 := by simp
      rw [hll] at hlen ⊢
      obtain ⟨n, hn⟩ : ∃ n, n = ini.length := ⟨_, rfl⟩
      rw [← hn] at l1 l2 hlen ⊢
      have hn2 : n ≤ 1048577 := by omega
      obtain ⟨hg1, _, _, hc1, hc2, _⟩ := hway.blk
      have hc1' : n + 1 ≤ cap := by simpa [hn] using hc1
      unfold maxLen at hc2
      have hglt := hway.lt
      have hszr := hbel.size
      obtain ⟨W5, hW5⟩ : ∃ W5, W5 = wr.alloc (.cells #[.pointer (some ⟨b, o, none⟩), .pointer (some ⟨b', o', none⟩)] 81) := ⟨_, rfl⟩
      have hs5 : W5.heap.size = wr.heap.size + 1 := by rw [hW5]; simp
      have hb5 : Below wr.heap.size wr W5 := by rw [hW5]; exact (Below.refl _ _).alloc (Nat.le_refl _) _
      have kx : W5.heap[wr.heap.size]? = some (.cells #[.pointer (some ⟨b, o, none⟩), .pointer (some ⟨b', o', none⟩)] 81 (0, 0)) := by rw [hW5, new_blk]
      have hbel5 : Below w3.heap.size w3 W5 := hbel.trans (hb5.mono hszr)
      have hway5 : PWay W5 w3.heap.size g cap ini := hway.pop.kept (hb5.block g hglt)
      have p1 := (below_cell hbel5 q3).trans q1
      have p2 := (below_cell hbel5 q3).trans q2
      have p1' := (below_cell hbel5 q3').trans q1'
      have p2' := (below_cell hbel5 q3').trans q2'
      obtain ⟨x1, x2, x3, x4⟩ := box2 kx
      have hEq := fun n0 r hr => equal_c ks ks' _ _ W5 w3.heap.size (q4.parts.choose_spec.choose_spec.choose_spec.choose_spec.2.1.later hbel5 (Nat.le_refl _)) (q4'.parts.choose_spec.choose_spec.choose_spec.choose_spec.2.1.later hbel5 (Nat.le_refl _)) n0 r hr
      have HEQ := Lib.hid hEq
      have HKIDS := Lib.hid (And.intro (And.intro hat hkids) (And.intro hat' hkids'))
      have H5 := Lib.hid (And.intro hbel5 (And.intro hway5 kx))
      have HW5 := Lib.hid hW5
      have HOK := Lib.hid hok
      have HS := Lib.hid hsame
      have HK := Lib.hid hk
      have HN := Lib.hid hn
      have HWAY := Lib.hid hway
      have HQ2 := Lib.hid (And.intro q2 q2')
      clear hEq hat hkids hat' hkids' hbel5 hway5 hbel hb5 kx hW5 hok hsame hk hn hway q1 q2 q4 q1' q2' q4' hc1 hll hlen
      by_cases hks : ks = ks'
      · by_cases hls : cs.length = cs'.length
        · have hne : ((cs.length : Int) != (cs'.length : Int)) = false := by simp [hls]
          obtain ⟨ps, hp1, hp2, hp3, hp4, hp5⟩ := kid_pairs hls HKIDS.out.1.1 HKIDS.out.1.2 HKIDS.out.2.1 HKIDS.out.2.2
          have HP := Lib.hid (And.intro hp1 (And.intro hp2 (And.intro hp3 (And.intro hp4 hp5))))
          have HQ := Lib.hid (And.intro hks hls)
          clear hp1 hp2 hp3 hp4 hp5 hks hls
          go_wp2_with fail
          rw [← HW5.out]
          go_quiet ((go_at_call 75; exact HEQ.out _ true (decide_eq_true HQ.out.1)))
          go_wp2_with fail
          generalize hW6 : (W5.drewN _) = W6
          obtain ⟨m6, hW6⟩ : ∃ m, W5.drewN m = W6 := ⟨_, hW6⟩
          have hb6 : Below w3.heap.size w3 W6 := by rw [← hW6]; exact below_drewN H5.out.1 _
          have hway6 : PWay W6 w3.heap.size g cap ini := by rw [← hW6]; exact H5.out.2.1.kept rfl
          have kx6 : W6.heap[wr.heap.size]? = some (.cells #[.pointer (some ⟨b, o, none⟩), .pointer (some ⟨b', o', none⟩)] 81 (0, 0)) := by rw [← hW6]; exact H5.out.2.2
          have H6 := Lib.hid (And.intro hb6 (And.intro hway6 kx6))
          clear hW6 hb6 hway6 kx6 p1 p2 p1' p2' x1 x2 x3 x4
          go_loopw [5, 59] (fun s5 i wi => ∃ (j g2 cap2 : Nat), j ≤ cs.length ∧ i = .int .i64 j ∧ s5 = .slice (some ⟨g2, 0, none⟩) (n + j) cap2 ∧ PWay wi w3.heap.size g2 cap2 (ini ++ ps.take j) ∧ Below w3.heap.size w3 wi ∧
            wi.heap[wr.heap.size]? = some (.cells #[.pointer (some ⟨b, o, none⟩), .pointer (some ⟨b', o', none⟩)] 81 (0, 0)) ∧ g2 ≠ wr.heap.size) (fun _ i _ => cs.length - (intOf i).toNat)
          case atStart => exact ⟨0, g, cap, Nat.zero_le _, rfl, rfl, by simpa using H6.out.2.1, H6.out.1, H6.out.2.2, by omega⟩
          case round =>
            obtain ⟨j, g2, cap2, hj, rfl, rfl, hwy, hbl, hkx, hgn⟩ := hrel
            by_cases hlt : j < cs.length
            · obtain ⟨b2, o2, b2', o2', rfl, rfl, hget⟩ : ∃ b2 o2 b2' o2', ka = some ⟨b2, o2, none⟩ ∧ ka' = some ⟨b2', o2', none⟩ ∧ ∀ i, i < cs.length → ∃ t t', ps[i]? = some ⟨b2, o2 + i * 2, t, b2', o2' + i * 2, t'⟩ := by
                rcases HP.out.2.2.2.2 with h | h
                · omega
                · exact h
              obtain ⟨tj, tj', hgj⟩ := hget j hlt
              have hlt' : j < cs'.length := by rw [← HQ.out.2]; exact hlt
              have p2 := (below_cell hbl q3).trans HQ2.out.1
              have p2' := (below_cell hbl q3').trans HQ2.out.2
              obtain ⟨x1, x2, x3, x4⟩ := box2 hkx
              have hln : (ini ++ ps.take j).length = n + j := by
                rw [List.length_append, List.length_take, HP.out.1, ← HN.out]; omega
              have hown := hwy.own hln
              have hszi := hbl.size
              have hgi := hwy.lt
              have hgb := hwy.blk.1
              have hnj : n + j ≤ 2097152 := by
                have h1 := HK.out
                rw [total_append] at h1
                simp only [total, Tr.count] at h1
                have h2 := length_le_total ini
                have h3 := length_le_total ps
                rw [HP.out.1, HP.out.2.2.2.1] at h3
                have h4 := HN.out
                omega
              have HWY := Lib.hid hwy
              have HBL := Lib.hid (And.intro hbl hkx)
              have HOWN := Lib.hid hown
              have HGJ := Lib.hid hgj
              have HGN := Lib.hid hgn
              have HLN := Lib.hid hln
              clear hwy hbl hkx hget hgj hown hln hgn
              go_wp2_with fail
              go_region_law
                (first
                  | (refine step_append_lies _ (by rfl) _ _ _ (by rfl) w3.heap.size 81 i0 _ 2 16 Try.underlying82 hi0 hz0 hz1 hz2 rfl (by omega) _ (n + j) _ (by rfl) (own_drew (HOWN.out.alloc _)) ⟨wr.heap.size, 0, none⟩ 1 1 [.pointer (some ⟨b2, o2 + j * 2, none⟩), .pointer (some ⟨b2', o2' + j * 2, none⟩)] (by rfl) (by rfl) (World.news_of_block (cs := #[.pointer (some ⟨b2, o2 + j * 2, none⟩), .pointer (some ⟨b2', o2' + j * 2, none⟩)]) (t := 81) (fr := (0, 0)) (by exact heap_alloc_new wr _)) (by simp [Value.oneCell']) (by omega) (by unfold maxLen; omega) (by omega) (by simp; omega) (wr.heap.size + 1) (by simp) ?_; intro g7 cap7 w7 hown7 hgrow7 hat7 hlt7; have H7 := Lib.hid (And.intro hown7 (And.intro hgrow7 hat7)); clear hown7 hgrow7 hat7))
              all_goals (
                go_wp2_with fail
                go_roundw
                case rel =>
                  have hbx := (Array.getElem?_eq_some_iff.1 HBL.out.2).1
                  refine ⟨j + 1, g7, cap7, by omega, by go_num, rfl, ?_, HBL.out.1.trans (pair_grown hgb hszi H7.out.2.1), ?_, ?_⟩
                  · have ht := List.take_add_one (l := ps) (i := j)
                    rw [HGJ.out] at ht
                    rw [ht, Option.toList_some, ← List.append_assoc]
                    exact PWay.grown _ HLN.out H7.out.1
                  · refine (H7.out.2.1.block _ (by simp; omega) ?_).trans ((old_blk wr _ _ hbx).trans HBL.out.2)
                    intro e
                    exact HGN.out (by simpa [Value.ownBlock] using e.symm)
                  · rcases H7.out.2.2 with h | h
                    · have : g2 = g7 := by simpa [Value.ownBlock] using h
                      rw [← this]; exact HGN.out
                    · omega
                case measure => simp [intOf]; omega)
            · obtain rfl : j = cs.length := by omega
              have HX := Lib.hid (And.intro hwy (And.intro hbl hkx))
              clear hwy hbl hkx
              go_wp2_with fail
              go_roundg (gk - 1)
              case measure =>
                have h1 := HK.out
                have h2 := length_le_total (ini ++ [(⟨b, o, ⟨ks, cs⟩, b', o', ⟨ks', cs'⟩⟩ : Sp)])
                simp only [List.length_append, List.length_cons, List.length_nil] at h2
                omega
              case rel =>
                have hln : (ini ++ ps).length = n + cs.length := by rw [List.length_append, HP.out.1, ← HN.out]
                refine ⟨ini ++ ps, g2, cap2, by rw [hln], ?_, fun f hf => ?_, ?_, HX.out.2.1, ?_, by omega⟩
                · have h1 := HX.out.1
                  rw [List.take_of_length_le (by rw [HP.out.1]; exact Nat.le_refl _)] at h1
                  exact h1
                · rcases List.mem_append.1 hf with h | h
                  · exact HOK.out f (List.mem_append_left _ h)
                  · exact HP.out.2.1 f h
                · rw [← HS.out, List.all_append, List.all_append, HP.out.2.2.1]
                  simp [Sp.same, Tr.sameB, HQ.out.1, HQ.out.2]
                · have h1 := HK.out
                  rw [total_append] at h1 ⊢
                  simp only [total, Tr.count] at h1
                  rw [HP.out.2.2.2.1]
                  omega
        · have hne : ((cs.length : Int) != (cs'.length : Int)) = true := by simp; omega
          have HQ := Lib.hid (And.intro hks hls)
          clear hks hls
          go_wp2_with fail
          rw [← HW5.out]
          go_quiet ((go_at_call 75; exact HEQ.out _ true (decide_eq_true HQ.out.1)))
          go_wp2_with fail
          go_ret
          refine ⟨ret_bool ?_, H3.out.trans ((below_drewN H5.out.1 _).mono (by omega))⟩
          rw [← HS.out, List.all_append]
          simp [Sp.same, Tr.sameB, HQ.out.2]
      · have HQ := Lib.hid hks
        clear hks
        go_wp2_with fail
        rw [← HW5.out]
        go_quiet ((go_at_call 75; exact HEQ.out _ false (decide_eq_false HQ.out)))
        go_wp2_with fail
        go_ret
        refine ⟨ret_bool ?_, H3.out.trans ((below_drewN H5.out.1 _).mono (by omega))⟩
        rw [← HS.out, List.all_append]
        simp [Sp.same, Tr.sameB, HQ.out]

theorem impl_same {w0 : World} {lo : Nat} {kv cv kv' cv' : Value} {t t' : Tr} (ht : TreeNew w0 lo kv cv t) (hw : t.weight ≤ 1048576) (ht' : TreeIn w0 w0.heap.size kv' cv' t') (w' : World) (hbw : Below w0.heap.size w0 w') :
    Calls Try.prog 34 #[.agg #[kv, cv], .agg #[kv', cv']] w' fun e w'' => e = .returned (.bool (t.sameB t')) ∧ Below w'.heap.size w' w'' :=
  impl_same_a w' ((ht.a hw).later hbw (Nat.le_refl _)) hw ((ht'.later hbw (Nat.le_refl _)).wider hbw.size)
end Go.Proofs.Ytodcapgmhginoaa
