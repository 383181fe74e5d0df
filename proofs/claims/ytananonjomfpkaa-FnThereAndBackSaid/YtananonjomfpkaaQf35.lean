/- For every slice of bytes, the law on inserting a key and deleting it again returns true and leaves its arguments as they were; no conditions. -/
import Derived.Test.YtananonjomfpkaaQf34
import Derived.Test.YtananonjomfpkaaQfS17
import Derived.Test.YtananonjomfpkaaQf24
import Derived.Test.YtananonjomfpkaaRows
import Derived.Test.YtananonjomfpkaaQfS0
/- A list of keys inserted, and the same list backwards: plain data. -/
namespace Go.Proofs.Ytananonjomfpkaa
open Go.RowKit
namespace Tr
end Tr
end Go.Proofs.Ytananonjomfpkaa
/- Deleting takes a key out of its place. -/
namespace Go.Proofs.Ytananonjomfpkaa
open Go.RowKit
namespace Tr
end Tr
end Go.Proofs.Ytananonjomfpkaa
/- A key that is inserted without a split and deleted again: plain data. -/
namespace Go.Proofs.Ytananonjomfpkaa
open Go.RowKit
namespace Tr
theorem place_put (key : Int) (k : List Int) : place key (putAt k (place key k) key) = place key k := by
 have hp := place_le key k
 unfold putAt
 rw [place_append_lt (fun x hx => ?_)]
 · rw [List.length_take, Nat.min_eq_left hp, place, if_neg (by omega)]
   omega
 · obtain ⟨i, hi, rfl⟩ := List.mem_iff_getElem.1 hx
   rw [List.length_take] at hi
   have := place_lt (c := key) (k := k) (i := i) (by omega)
   rw [List.getElem_take]
   rwa [List.getD_eq_getElem?_getD, List.getElem?_eq_getElem (by omega)] at this
theorem take_put {α : Type} (k : List α) {p : Nat} (h : p ≤ k.length) (x : α) : takeAt (putAt k p x) p = k := by
 unfold takeAt putAt
 rw [List.take_left' (by simp; omega), show k.take p ++ x :: k.drop p = (k.take p ++ [x]) ++ k.drop p by simp, List.drop_left' (by simp; omega), List.take_append_drop]
theorem grow_back {wide : Int} (hw : 2 ≤ wide) (key : Int) : ∀ (n : Nat) (least d : Int) (t : Tr), (grow wide key t).1.weight < n → nodesB wide least d t = true → (t.path key).2 = false → (grow wide key t).2 = 0 →
   (del (wide / 2) n key (grow wide key t).1).t = t := by
 intro n
 induction n with
 | zero => intro least d t h; omega
 | succ n ih =>
   rintro least d ⟨k, c⟩ hn hnode hpath h0
   have hp := place_le key k
   obtain ⟨hsz, hsh⟩ := nodes_mem hnode
   by_cases hc : c.length = 0
   · rw [grow_leaf hc, del_leaf rfl, place_put, take_put k hp]
     rw [List.length_eq_zero_iff.1 hc]
   · rcases hsh with ⟨h, _⟩ | ⟨_, _, hcl, hk0, hkids⟩
     · exact absurd h hc
     · have hi : place key k < c.length := by omega
       have hno : ¬ ownKey key k := fun ho => by rw [path_found ho] at hpath; cases hpath
       rw [path_inner hno hi] at hpath
       rw [grow_inner hi] at h0 hn ⊢
       unfold growStep at h0 hn ⊢
       by_cases hs : wide < ((grow wide key c[place key k]).1.ks.length : Int)
       · rw [if_pos hs] at h0; simp at h0
       · rw [if_neg hs] at h0 hn ⊢
         have hlen : (setKid c (place key k) (grow wide key c[place key k]).1).length ≠ 0 := by rw [setKid_length hi]; exact hc
         have hkw : (grow wide key c[place key k]).1.weight < n := by
           have h1 := kidAt_weight (setKid c (place key k) (grow wide key c[place key k]).1) (place key k)
           rw [kidAt_set hi, if_pos rfl] at h1
           simp only [weight] at hn
           have h2 : 0 < (setKid c (place key k) (grow wide key c[place key k]).1).length := by omega
           omega
         have hnk := hkids _ (List.getElem_mem hi)
         have hih := ih (wide / 2) (d - 1) c[place key k] hkw hnk hpath h0
         show (del (wide / 2) (n + 1) key (.mk k (setKid c (place key k) (grow wide key c[place key k]).1))).t = .mk k c
         rw [del_miss hlen hno]
         rw [kidAt_set hi, if_pos rfl]
         rw [hih]
         have hset : setKid (setKid c (place key k) (grow wide key c[place key k]).1) (place key k) c[place key k] = c := by
           rw [setKid_eq hi, setKid_eq (by rw [List.length_set]; exact hi), List.set_set, List.set_getElem_self]
         rw [hset]
         have hhalf : wide / 2 ≤ ((kidAt c (place key k)).ks.length : Int) := by
           rw [kidAt_get hi]
           generalize c[place key k] = u at hnk
           obtain ⟨ck, cc⟩ := u
           exact (nodes_mem hnk).1.1
         unfold repair
         rw [if_pos hhalf]
theorem back_tree {wide key : Int} {t : Tr} (h : askedB wide key t = true) (hn : insN wide key t = 0) : delT wide key (insT wide key t) = t := by
 obtain ⟨hv, hp⟩ := asked_path h
 have hnode := hv
 unfold validB at hnode
 obtain ⟨-, h2⟩ := Bool.and_eq_true_iff.1 hnode
 obtain ⟨h3, -⟩ := Bool.and_eq_true_iff.1 h2
 have hu : ¬ wide < ((grow wide key t).1.ks.length : Int) := fun hx => by
   unfold insN at hn
   rw [if_pos hx] at hn
   omega
 have h0 : (grow wide key t).2 = 0 := by
   unfold insN at hn
   rw [if_neg hu] at hn
   exact hn
 have hi : insT wide key t = (grow wide key t).1 := by
   unfold insT
   rw [if_neg hu]
 rw [hi]
 have hb := grow_back (valid_wide hv).1 key ((grow wide key t).1.weight + 1) 0 _ t (Nat.lt_succ_self _) h3 hp h0
 unfold delT
 simp only [hb]
 rw [if_neg]
 rintro ⟨h4, h5⟩
 obtain ⟨k, c⟩ := t
 rcases (nodes_mem h3).2 with ⟨h6, -⟩ | ⟨-, -, -, h6, -⟩
 · exact h5 h6
 · exact h6 h4
theorem there_facts {wide key : Int} {t : Tr} (h : askedB wide key t = true) :
   lacksB wide key (insT wide key t) = true ∧ validB wide (delT wide key (insT wide key t)) = true ∧ (delT wide key (insT wide key t)).keys = t.keys := by
 obtain ⟨hv, hp⟩ := asked_path h
 obtain ⟨vi, mi⟩ := ins_more h
 have hl : lacksB wide key (insT wide key t) = true := by
   unfold lacksB
   rw [vi, (path_has vi).2 ((mi key).2 (.inl rfl))]
   rfl
 obtain ⟨vd, ⟨A, B, hA, hB⟩, -⟩ := delT_facts hl
 refine ⟨hl, vd, sorted_ext _ _ (pairwise_of_sorted (valid_keys vd)) (pairwise_of_sorted (valid_keys hv)) (fun x => ?_)⟩
 have hk : key ∉ t.keys := fun hm => by rw [(path_has hv).2 hm] at hp; cases hp
 have hs := pairwise_of_sorted (valid_keys vi)
 rw [hA] at hs
 obtain ⟨-, h2, h3⟩ := List.pairwise_append.1 hs
 obtain ⟨h4, -⟩ := List.pairwise_cons.1 h2
 have hm := mi x
 rw [hA] at hm
 rw [hB]
 simp only [List.mem_append, List.mem_cons] at hm ⊢
 constructor
 · intro hx
   have hne : x ≠ key := by
     rcases hx with hx | hx
     · have := h3 x hx key (by simp); omega
     · have := h4 x hx; omega
   rcases hm.1 (hx.imp id .inr) with h5 | h5
   · exact absurd h5 hne
   · exact h5
 · intro hx
   have hne : x ≠ key := fun e => hk (e ▸ hx)
   rcases hm.2 (.inr hx) with h5 | h5 | h5
   · exact .inl h5
   · exact absurd h5 hne
   · exact .inr h5
end Tr
end Go.Proofs.Ytananonjomfpkaa
/- Two lists that are the same: the laws' own function. -/
namespace Go.Proofs.Ytananonjomfpkaa
open Go.RowKit
set_option maxHeartbeats 1000000 in
theorem ftSame_c (ks : List Int) (v v' : Value) (w : World) (B : Nat) (hB : B ≤ w.heap.size) (hk : IntsIn w B v ks) (hk' : IntsIn w B v' ks) :
   Calls Try.prog 23 #[v, v'] w fun e w' => e = .returned (.bool true) ∧ Below w.heap.size w w' := by
 obtain ⟨a, cap, rfl, h1, h2, _, h3⟩ := hk
 obtain ⟨a', cap', rfl, h1', h2', _, h3'⟩ := hk'
 unfold maxLen at h2 h2'
 have HK := Lib.hid h3
 have HK' := Lib.hid h3'
 clear h3 h3'
 have heq : ((ks.length : Int) == ks.length) = true := by simp
 have hmin : min (ks.length : Int) (ks.length : Int) = (ks.length : Int) := by simp
 go_enter Try.func23, Try.ntmps23
 go_wp2_with fail
 go_loopw [5, 11] (fun s5 i wr => ∃ (j : Nat), j ≤ ks.length ∧ i = .int .i64 j ∧ Below w.heap.size w wr) (fun _ i _ => ks.length - (intOf i).toNat)
 case atStart => exact ⟨0, Nat.zero_le _, rfl, Below.refl _ _⟩
 case round =>
   obtain ⟨j, hj, rfl, hbel⟩ := hrel
   by_cases hlt : j < ks.length
   · rcases HK.out with h | ⟨b, off, rfl, hb, hat⟩
     · simp [h] at hlt
     rcases HK'.out with h | ⟨b', off', rfl, hb', hat'⟩
     · simp [h] at hlt
     have ha1 : wr.cell? ⟨b, off + j, none⟩ = some (.int .i64 (ks.getD j 0)) := by rw [below_cell hbel (by omega)]; exact hat j hlt
     have ha2 : wr.cell? ⟨b', off' + j, none⟩ = some (.int .i64 (ks.getD j 0)) := by rw [below_cell hbel (by omega)]; exact hat' j hlt
     have hne2 : ((ks.getD j 0 : Int) != ks.getD j 0) = false := by simp
     have hjl : (j : Int) < (ks.length : Int) := by omega
     clear hat hat'
     generalize ks.getD j 0 = x at ha1 ha2 hne2
     go_wp2_with fail
     go_quiet (fail)
     go_wp2_with fail
     go_roundw
     case rel => exact ⟨j + 1, by omega, by go_num, below_drewN hbel _⟩
     case measure => simp [intOf]; omega
   · obtain rfl : j = ks.length := by omega
     have hjl : ¬ ((ks.length : Nat) : Int) < (ks.length : Int) := by omega
     go_wp2_with fail
     go_ret
     exact ⟨rfl, hbel⟩
end Go.Proofs.Ytananonjomfpkaa
/- The law on inserting a key and deleting it again: the walk over the contracts. -/
namespace Go.Proofs.Ytananonjomfpkaa
open Go.RowKit
set_option maxHeartbeats 4000000 in
set_option maxRecDepth 100000 in
theorem fnThereAndBack_c {w : World} {v1 : Value} {bs1 : List Nat} (h1 : BytesIn w w.heap.size v1 bs1) :
   Calls Try.prog 9 #[v1] w fun e w' => e = .returned (.bool true) ∧ Below w.heap.size w w' := by
 have H1 := Lib.hid h1
 obtain ⟨a1, c1, rfl, -⟩ := h1
 by_cases hc1 : bs1.length ≤ 1048576
 case neg =>
   have hc1' : ((bs1.length : Int) > 1048576) := by omega
   go_enter Try.func9, Try.ntmps9
   go_wp2_with fail
   go_ret
   exact ⟨rfl, Below.refl _ _⟩
 have hc1' : ¬ ((bs1.length : Int) > 1048576) := by omega
 have HD1 := Lib.hid (DrawDeleteKey_c H1.out w (Below.refl _ _) (Nat.le_refl _))
 go_enter Try.func9, Try.ntmps9
 go_wp2_with fail
 refine HD1.out.mono ?_
 rintro e w2 ⟨k2, d2, t, wide, key, rfl, ⟨hwd1, hwd2⟩, ht2, hw2, hkey, hb2⟩
 obtain ⟨b1, b2, b3, b4, b5, b6, rfl, rfl⟩ := ht2.slices
 have hs2 := hb2.size
 obtain ⟨W3, hW3⟩ : ∃ W3, W3 = w2.alloc (.cells #[.slice b1 b2 b3, .slice b4 b5 b6] 26) := ⟨_, rfl⟩
 have hs3 : w2.heap.size < W3.heap.size := by rw [hW3]; simp
 have hb3 : Below w2.heap.size w2 W3 := by rw [hW3]; exact (Below.refl _ _).alloc (Nat.le_refl _) _
 have hx3 : W3.heap[w2.heap.size]? = some (.cells #[.slice b1 b2 b3, .slice b4 b5 b6] 26 (0, 0)) := by rw [hW3, new_blk]
 have hta3 : TreeA W3 (.slice b1 b2 b3) (.slice b4 b5 b6) t := (ht2.a (fun k hk => hk.2)).later hb3 (Nat.le_refl _)
 have hwt : t.weight ≤ 1048576 := by omega
 have HTA := Lib.hid hta3
 have HBX := Lib.hid (And.intro (hb2.trans (hb3.mono (by omega))) hx3)
 have HI3 := Lib.hid (impl_insert hta3.tree hwt wide key (by omega) (by omega) W3 (Below.refl _ _) (Nat.le_refl _))
 obtain ⟨A, hA⟩ : ∃ A, A = Tr.askedB wide key t := ⟨_, rfl⟩
 rw [← hA] at HI3
 have HA := Lib.hid hA
 have HW3 := Lib.hid hW3
 clear ht2 hb2 hW3 hb3 hx3 hta3 hA hkey
 go_upto_region 4 with (fail)
 rw [← HW3.out]
 obtain ⟨x1, x2, -⟩ := box2 HBX.out.2
 go_wp2_with fail
 refine HI3.out.mono ?_
 rintro e w4 ⟨k4, c4, P4, rfl, ho4, hb4⟩
 obtain ⟨p1, p2, p3, p4, p5, p6, rfl, rfl⟩ := ho4.tree.slices
 have hs4 := hb4.size
 obtain ⟨W5, hW5⟩ : ∃ W5, W5 = w4.alloc (.cells #[.slice p1 p2 p3, .slice p4 p5 p6] 26) := ⟨_, rfl⟩
 have hs5 : w4.heap.size < W5.heap.size := by rw [hW5]; simp
 have hb45 : Below w4.heap.size w4 W5 := by rw [hW5]; exact (Below.refl _ _).alloc (Nat.le_refl _) _
 have hb5 : Below W3.heap.size W3 W5 := hb4.trans (hb45.mono (by omega))
 have hk5 : W5.heap[w4.heap.size]? = some (.cells #[.slice p1 p2 p3, .slice p4 p5 p6] 26 (0, 0)) := by rw [hW5, new_blk]
 have htx5 : TreeA W5 (.slice p1 p2 p3) (.slice p4 p5 p6) (Tr.insKeyT wide key t) := (ho4.later hb45 (Nat.le_refl _)).a
 have HTX5 := Lib.hid htx5
 have HS5 := Lib.hid (specInsertKey_c HTA.out.tree hwt wide key W5 hb5 (by omega))
 rw [← HA.out] at HS5
 have hq5 := (hb5.block _ hs3).trans HBX.out.2
 have HB5 := Lib.hid (And.intro hb5 (And.intro hq5 hk5))
 have HW5 := Lib.hid hW5
 clear ho4 hb4 hW5 hb45 hb5 hk5 htx5 hq5 x1 x2
 go_upto_region 5 with (fail)
 rw [← HW5.out]
 obtain ⟨x1, x2, -⟩ := box2 HB5.out.2.1
 go_wp2_with fail
 refine HS5.out.mono ?_
 rintro e w6 ⟨k6, c6, P6, rfl, ho6, hb6⟩
 obtain ⟨q1, q2, q3, q4, q5, q6, rfl, rfl⟩ := ho6.tree.slices
 have hs6 := hb6.size
 obtain ⟨W7, hW7⟩ : ∃ W7, W7 = w6.alloc (.cells #[.slice q1 q2 q3, .slice q4 q5 q6] 26) := ⟨_, rfl⟩
 have hs7 : w6.heap.size < W7.heap.size := by rw [hW7]; simp
 have hb57 : Below W5.heap.size W5 W7 := hb6.trans (by rw [hW7]; exact (Below.refl _ _).alloc hs6 _)
 have hb37 : Below W3.heap.size W3 W7 := HB5.out.1.trans (hb57.mono (by omega))
 have htx7 : TreeA W7 (.slice p1 p2 p3) (.slice p4 p5 p6) (Tr.insKeyT wide key t) := HTX5.out.later hb57 (Nat.le_refl _)
 have HTX7 := Lib.hid htx7
 have BOX7 : Hid (∀ wx : World, Below W7.heap.size W7 wx → wx.heap[w2.heap.size]? = some (.cells #[.slice b1 b2 b3, .slice b4 b5 b6] 26 (0, 0)) ∧ wx.heap[w4.heap.size]? = some (.cells #[.slice p1 p2 p3, .slice p4 p5 p6] 26 (0, 0))) :=
   Lib.hid (fun wx hx => ⟨(hx.block _ (by omega)).trans ((hb57.block _ (by omega)).trans HB5.out.2.1), (hx.block _ (by omega)).trans ((hb57.block _ (by omega)).trans HB5.out.2.2)⟩)
 have HF7 := Lib.hid (HBX.out.1.trans (hb37.mono (by have := HBX.out.1.size; omega)))
 have HB37 := Lib.hid hb37
 have hneb : (A != A) = false := by simp
 have HW7 := Lib.hid hW7
 clear ho6 hb6 hW7 hb57 hb37 htx7 x1 x2
 cases A with
 | false =>
   go_wp2_with fail
   rw [← HW7.out]
   go_ret
   exact ⟨rfl, HF7.out⟩
 | true =>
   have hask := HA.out.symm
   have hie : Tr.insKeyT wide key t = Tr.insT wide key t := by simp [Tr.insKeyT, hask]
   obtain ⟨hlk, hvd, hkd⟩ := Tr.there_facts hask
   have hde : Tr.delKeyT wide key (Tr.insT wide key t) = Tr.delT wide key (Tr.insT wide key t) := by simp [Tr.delKeyT, hlk]
   have hwx := Tr.insKey_weight wide key t
   have htx := HTX7.out
   rw [hie] at htx hwx
   have HI7 := Lib.hid (impl_delete htx.tree hwx wide key (by omega) (by omega) W7 (Below.refl _ _) (Nat.le_refl _))
   have hwy : (Tr.delT wide key (Tr.insT wide key t)).weight ≤ 1048576 := by have := Tr.valid_small hvd; omega
   rw [hlk, hde] at HI7
   have hback : Tr.insN wide key t = 0 → Tr.delT wide key (Tr.insT wide key t) = t := fun h => Tr.back_tree hask h
   have hsp : Tr.splitsB wide key t = (Tr.insN wide key t : Int) := by simp [Tr.splitsB, hask]
   obtain ⟨Y, hY⟩ : ∃ Y, Y = Tr.delT wide key (Tr.insT wide key t) := ⟨_, rfl⟩
   rw [← hY] at HI7 hvd hkd hwy hback
   have HY := Lib.hid (And.intro hvd (And.intro hkd (And.intro hback hsp)))
   clear hask hie hlk hvd hkd hde htx hback hY hsp
   go_upto_region 10 with (fail)
   rw [← HW7.out]
   obtain ⟨x1, x2, -⟩ := box2 (BOX7.out W7 (Below.refl _ _)).2
   go_wp2_with fail
   refine HI7.out.mono ?_
   rintro e w8 ⟨k8, c8, P8, rfl, ho8, hb8⟩
   obtain ⟨r1, r2, r3, r4, r5, r6, rfl, rfl⟩ := ho8.tree.slices
   have hs8 := hb8.size
   obtain ⟨W9, hW9⟩ : ∃ W9, W9 = w8.alloc (.cells #[.slice r1 r2 r3, .slice r4 r5 r6] 26) := ⟨_, rfl⟩
   have hs9 : w8.heap.size < W9.heap.size := by rw [hW9]; simp
   have hb89 : Below w8.heap.size w8 W9 := by rw [hW9]; exact (Below.refl _ _).alloc (Nat.le_refl _) _
   have hb79 : Below W7.heap.size W7 W9 := hb8.trans (hb89.mono hs8)
   have hk9 : W9.heap[w8.heap.size]? = some (.cells #[.slice r1 r2 r3, .slice r4 r5 r6] 26 (0, 0)) := by rw [hW9, new_blk]
   have hty : TreeA W9 (.slice r1 r2 r3) (.slice r4 r5 r6) Y := (ho8.later hb89 (Nat.le_refl _)).a
   have htt : TreeA W9 (.slice b1 b2 b3) (.slice b4 b5 b6) t := HTA.out.later (HB37.out.trans (hb79.mono (by have := HB37.out.size; omega))) (Nat.le_refl _)
   have BOX9 : Hid (∀ wx : World, Below W9.heap.size W9 wx → wx.heap[w2.heap.size]? = some (.cells #[.slice b1 b2 b3, .slice b4 b5 b6] 26 (0, 0)) ∧ wx.heap[w8.heap.size]? = some (.cells #[.slice r1 r2 r3, .slice r4 r5 r6] 26 (0, 0))) :=
     Lib.hid (fun wx hx => ⟨(BOX7.out wx (hb79.trans (hx.mono (by omega)))).1, (hx.block _ hs9).trans hk9⟩)
   have HKY := Lib.hid (fun (wx : World) (hx : Below W9.heap.size W9 wx) => impl_keys_a (hty.later hx (Nat.le_refl _)) hwy)
   have HKT := Lib.hid (fun (wx : World) (hx : Below W9.heap.size W9 wx) => impl_keys_a (htt.later hx (Nat.le_refl _)) hwt)
   have hvy := fun (wx : World) (hx : Below W9.heap.size W9 wx) => impl_valid _ _ _ _ _ wide hty.tree hwy (by omega) (by omega) wx hx hx.size
   rw [HY.out.1] at hvy
   have HVY := Lib.hid hvy
   have hsplit := fun (wx : World) (hx : Below W9.heap.size W9 wx) => impl_splits_a htt.tree hwt wide key (by omega) (by omega) wx hx hx.size
   rw [HY.out.2.2.2] at hsplit
   have HSPL := Lib.hid hsplit
   have HTY := Lib.hid hty
   have HTT := Lib.hid htt
   have HF9 := Lib.hid (HF7.out.trans (hb79.mono (by have := HF7.out.size; omega)))
   have HW9 := Lib.hid hW9
   clear ho8 hb8 hW9 hb89 hb79 hk9 hty htt hvy hsplit x1 x2
   go_upto_region 11 with (fail)
   rw [← HW9.out]
   obtain ⟨x1, x2, -⟩ := box2 (BOX9.out W9 (Below.refl _ _)).1
   obtain ⟨x3, x4, -⟩ := box2 (BOX9.out W9 (Below.refl _ _)).2
   go_region_held3 (fun x => x.cell? ⟨w2.heap.size, 0, none⟩ = some (.slice b1 b2 b3) ∧ x.cell? ⟨w2.heap.size, 1, none⟩ = some (.slice b4 b5 b6) ∧ x.cell? ⟨w8.heap.size, 0, none⟩ = some (.slice r1 r2 r3) ∧ x.cell? ⟨w8.heap.size, 1, none⟩ = some (.slice r4 r5 r6))
     (first | exact ⟨x1, x2, x3, x4⟩ | exact ⟨z1, z2, z3, z4⟩ | exact ⟨q1', q2', q3', q4'⟩ | exact ⟨j1, j2, j3, j4⟩ | exact ⟨l1, l2, l3, l4⟩ | go_keep)
     (first
       | (go_at_call 19; refine (HVY.out _ HB18.out).mono ?_; rintro e w19 ⟨rfl, hb19⟩; have hB19 : Below W9.heap.size W9 w19 := HB18.out.trans (hb19.mono (by have := HB18.out.size; omega)); obtain ⟨l1, l2, -⟩ := box2 (BOX9.out w19 hB19).1; obtain ⟨l3, l4, -⟩ := box2 (BOX9.out w19 hB19).2; have HB19 := Lib.hid hB19; clear hb19 hB19)
       | (go_at_call 23; refine (ftSame_c _ _ _ w17 w17.heap.size (Nat.le_refl _) HO17.out.1 HO17.out.2).mono ?_; rintro e w18 ⟨rfl, hb18⟩; have hB18 : Below W9.heap.size W9 w18 := HB17.out.trans (hb18.mono (by have := HB17.out.size; omega)); obtain ⟨j1, j2, -⟩ := box2 (BOX9.out w18 hB18).1; obtain ⟨j3, j4, -⟩ := box2 (BOX9.out w18 hB18).2; have HB18 := Lib.hid hB18; clear hb18 hB18)
       | (go_at_call 21; refine (HKT.out _ HB16.out).mono ?_; rintro e w17 ⟨v17, rfl, ho17, hb17⟩; have ho16' := IntsOwn.later HO16.out hb17 (Nat.le_refl _); obtain ⟨va17, vc17, rfl⟩ := IntsOwn.shown ho17; have hB17 : Below W9.heap.size W9 w17 := HB16.out.trans (hb17.mono (by have := HB16.out.size; omega)); have HO17 := Lib.hid (And.intro (show IntsIn w17 w17.heap.size _ t.keys from by rw [← HY.out.2.1]; exact IntsOwn.inB ho16' (Nat.le_refl _)) (IntsOwn.inB ho17 (Nat.le_refl _))); obtain ⟨q1', q2', -⟩ := box2 (BOX9.out w17 hB17).1; obtain ⟨q3', q4', -⟩ := box2 (BOX9.out w17 hB17).2; have HB17 := Lib.hid hB17; clear hb17 hB17 ho17 ho16')
       | (go_at_call 21; refine (HKY.out _ (Below.refl _ _).drew).mono ?_; rintro e w16 ⟨v16, rfl, ho16, hb16⟩; obtain ⟨va16, vc16, rfl⟩ := IntsOwn.shown ho16; have hB16 : Below W9.heap.size W9 w16 := ((Below.refl _ _).drew).trans hb16; obtain ⟨z1, z2, -⟩ := box2 (BOX9.out w16 hB16).1; obtain ⟨z3, z4, -⟩ := box2 (BOX9.out w16 hB16).2; have HB16 := Lib.hid hB16; have HO16 := Lib.hid ho16; clear hb16 hB16 ho16))
   go_wp2_with fail
   refine (HSPL.out w19 HB19.out).mono ?_
   rintro e w20 ⟨rfl, hb20⟩
   have hB20 : Below W9.heap.size W9 w20 := HB19.out.trans (hb20.mono HB19.out.size)
   have HB20 := Lib.hid hB20
   clear hb20 hB20 x1 x2 x3 x4 z1 z2 z3 z4 q1' q2' q3' q4' j1 j2 j3 j4 l1 l2 l3 l4
   by_cases h0 : Tr.insN wide key t = 0
   · have hye := HY.out.2.2.1 h0
     have hsame := fun (wx : World) (hx : Below W9.heap.size W9 wx) => impl_same_a wx (HTY.out.later hx (Nat.le_refl _)) hwy (t' := t) ((HTT.out.later hx (Nat.le_refl _)).tree)
     rw [hye, Tr.sameB_refl] at hsame
     have HSM := Lib.hid hsame
     rw [h0]
     obtain ⟨x1, x2, -⟩ := box2 (BOX9.out w20 HB20.out).1
     obtain ⟨x3, x4, -⟩ := box2 (BOX9.out w20 HB20.out).2
     clear h0 hye hsame
     go_wp2_with fail
     refine (HSM.out w20 HB20.out).mono ?_
     rintro e w21 ⟨rfl, hb21⟩
     have HB21 := Lib.hid (HB20.out.trans (hb21.mono HB20.out.size))
     clear hb21
     go_wp2_with fail
     go_ret
     exact ⟨rfl, HF9.out.trans (HB21.out.mono (by have := HF9.out.size; omega))⟩
   · have hpos : (Tr.insN wide key t : Int) > 0 := by omega
     generalize (Tr.insN wide key t : Int) = N at hpos
     clear h0
     go_wp2_with fail
     go_ret
     exact ⟨rfl, HF9.out.trans (HB20.out.mono (by have := HF9.out.size; omega))⟩
end Go.Proofs.Ytananonjomfpkaa
/- The statement on inserting a key and deleting it again, from the walk of its law. -/
namespace Go.Proofs.Ytananonjomfpkaa.fnThereAndBackRowP
open Go.ChangeShapes Go.WideShapes Go.ChangeAt Go.RowKit
set_option linter.unusedVariables false
theorem own : ownKnob Try.prog.godebug = none := by kernel_rfl
theorem laidOut : laidOutB Try.prog = true := by kernel_rfl
set_option maxRecDepth 100000 in
set_option maxHeartbeats 1000000 in
theorem lifted (os : Os) (started : os.Started) (H : Type) (enc : TypeId × Value → H) :
   ReturnsInHanded {} Try.checked os 9 .any (Rows.fnThereAndBackSpec.pre6 enc Try.prog Try.f9 Rows.fnThereAndBackRow.domain false) (Rows.fnThereAndBackSpec.post enc Try.prog Try.f9 false true false false) := by
 refine returnsInHanded_of_change (C := Try.checked) own started (by kernel_rfl) Try.func9
   (ChangeSpec.witness6 (enc := enc) (C := Try.checked) false ⟨#[], #[.slice none 0 0], []⟩ 8 (by kernel_rfl) (by kernel_rfl) (by kernel_rfl) (by kernel_rfl)) ?_
 intro W base args ds gs before hval0 hW hcnd _
 have hval : ∀ (j : Nat) t v, Try.f9.params[j]? = some t → args[j]? = some v → Value.okWide Try.prog W .any base t v := hval0
 have hW' := hW
 obtain ⟨p, q, hA0, hV, rfl, hfz, hnd⟩ := hW
 have hA : DataW.TrodAll enc Try.prog W 0 (fun _ => true) true Try.f9.params.toList args.toList ds p := hA0
 rw [Try.params9] at hA hval
 obtain ⟨v0, vs0, d0, ds0, p0, q0, hargs, rfl, rfl, h0, r0⟩ := trodAll_cons hA
 obtain ⟨rfl, rfl, rfl⟩ := trodAll_nil r0
 obtain rfl : args = #[v0] := by cases args; simp_all
 obtain ⟨rfl, rfl⟩ := trodVars_none hV
 obtain ⟨a0, len0, cap0, rfl⟩ := okWide_slice Try.underlying22 (hval 0 22 v0 rfl rfl)
 have k0 := h0
 have lt0 : ∀ x ∈ p0, x.block < W.heap.size := by obtain ⟨m, hm⟩ := k0; exact DataW.trod_lt m _ _ _ hm
 obtain ⟨bs0, hb0⟩ : ∃ bs, BytesIn W W.heap.size (.slice a0 len0 cap0) bs := by
   obtain ⟨fuel, hf⟩ := h0
   exact bytes_of_trod fuel (fun _ => rfl) hf
 clear hA0 hval0
 refine (fnThereAndBack_c hb0).mono fun e W' ⟨he, bel⟩ => ?_
 subst he
 exact ⟨_, rfl, _, _, _, [], _, [], hW', trodAll_mk1 (shut_bool Try.underlying4 _), (trodAll_cons_mk (Below.trod laidOut (by kernel_rfl) (of_decide_eq_true (by kernel_rfl)) k0 bel lt0) trodAll_mk0), rfl, bel.frame _, fun h => by cases h⟩
theorem closed : joinedFacts Try.prog 9 Try.f9 Rows.fnThereAndBackSpec Rows.fnThereAndBackRow = true := by
 unfold joinedFacts
 exact band (band (band (band (band (band (band (by kernel_rfl) fact_enter) fact_lifts) fact_make) (by kernel_rfl)) (by kernel_rfl)) (by kernel_rfl)) (by kernel_rfl)
theorem over : Rows.fnThereAndBackRow.holds Try.pinned (OpenSpec.ofChange Rows.fnThereAndBackSpec) :=
 OpenClaim.holds_of_wide 9 Try.f9 rfl rfl rfl rfl rfl rfl rfl ⟨rfl, rfl, rfl, rfl, rfl⟩ rfl rfl rfl rfl rfl (by kernel_rfl) Try.func9 closed
   (of_decide_eq_true (by kernel_rfl)) (by unfold Func.isWrapper; first | (rw [if_pos (by decide +kernel)]; kernel_rfl) | (rw [if_neg (by decide +kernel)]; exact ⟨rfl, rfl⟩))
   (fun os started H enc _ => lifted os started H enc)
end Go.Proofs.Ytananonjomfpkaa.fnThereAndBackRowP
/- For every slice of bytes, the law on inserting a key and deleting it again returns true and leaves its arguments as they were; no conditions. -/
namespace Go.Proofs.Ytananonjomfpkaa
theorem there_and_back_said : Rows.FnThereAndBackSaid := fnThereAndBackRowP.over
end Go.Proofs.Ytananonjomfpkaa
