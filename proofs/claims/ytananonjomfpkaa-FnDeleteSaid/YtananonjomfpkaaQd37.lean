/- For every slice of bytes, the law on ranks when a key is deleted returns true and leaves its arguments as they were; no conditions. -/
import Derived.Test.YtananonjomfpkaaQdS15
import Derived.Test.YtananonjomfpkaaQd35
import Derived.Test.YtananonjomfpkaaQd36
import Derived.Test.YtananonjomfpkaaRows
import Derived.Test.YtananonjomfpkaaQdS0
/- The law on deleting: the walk over the contracts. -/
namespace Go.Proofs.Ytananonjomfpkaa
open Go.RowKit
set_option maxHeartbeats 4000000 in
set_option maxRecDepth 100000 in
theorem fnDelete_c {w : World} {v : Value} {bs : List Nat} (h : BytesIn w w.heap.size v bs) :
   Calls Try.prog 3 #[v] w fun e w' => e = .returned (.bool true) ∧ Below w.heap.size w w' := by
 have H := Lib.hid h
 obtain ⟨a1, c1, rfl, -⟩ := h
 by_cases hc1 : bs.length ≤ 1048576
 case neg =>
   have hc1' : ((bs.length : Int) > 1048576) := by omega
   go_enter Try.func3, Try.ntmps3
   go_wp2_with fail
   go_ret
   exact ⟨rfl, Below.refl _ _⟩
 have hc1' : ¬ ((bs.length : Int) > 1048576) := by omega
 have HD := Lib.hid (DrawDeleteKey_c H.out w (Below.refl _ _) (Nat.le_refl _))
 go_enter Try.func3, Try.ntmps3
 go_wp2_with fail
 refine HD.out.mono ?_
 rintro e w2 ⟨k2, d2, t, wide, key, rfl, ⟨hwd1, hwd2⟩, ht2, hw2, -, hb2⟩
 obtain ⟨b1, b2, b3, b4, b5, b6, rfl, rfl⟩ := ht2.slices
 have hs2 := hb2.size
 obtain ⟨W3, hW3⟩ : ∃ W3, W3 = w2.alloc (.cells #[.slice b1 b2 b3, .slice b4 b5 b6] 26) := ⟨_, rfl⟩
 have hs3 : w2.heap.size < W3.heap.size := by rw [hW3]; simp
 have hb3 : Below w2.heap.size w2 W3 := by rw [hW3]; exact (Below.refl _ _).alloc (Nat.le_refl _) _
 have hx3 : W3.heap[w2.heap.size]? = some (.cells #[.slice b1 b2 b3, .slice b4 b5 b6] 26 (0, 0)) := by rw [hW3, new_blk]
 have hta3 : TreeA W3 (.slice b1 b2 b3) (.slice b4 b5 b6) t := (ht2.a (fun k hk => hk.2)).later hb3 (Nat.le_refl _)
 have hwt : t.weight ≤ 1048576 := by omega
 have HI3 := Lib.hid (impl_delete hta3.tree hwt wide key (by omega) (by omega) W3 (Below.refl _ _) (Nat.le_refl _))
 have HS3 := Lib.hid (fun wx hx => specDeleteKey_c hta3.tree hwt wide key wx hx (Below.size (w := W3) hx))
 obtain ⟨A, hA⟩ : ∃ A, A = Tr.lacksB wide key t := ⟨_, rfl⟩
 rw [← hA] at HI3 HS3
 obtain ⟨X, hX⟩ : ∃ X, X = Tr.delKeyT wide key t := ⟨_, rfl⟩
 rw [← hX] at HI3 HS3
 have hXw := Tr.delKey_weight wide key t
 rw [← hX] at hXw
 have HAX := Lib.hid (And.intro hA hX)
 have HTA := Lib.hid hta3
 have HBX := Lib.hid (And.intro (hb2.trans (hb3.mono (by omega))) hx3)
 have hx3x := hx3
 rw [hW3] at hx3x
 obtain ⟨x1, x2, x3, x4⟩ := box2 hx3x
 have HW3 := Lib.hid hW3
 clear ht2 hb2 hW3 hb3 hx3 hx3x hta3 hA hX
 go_wp2_with fail
 rw [← HW3.out]
 refine HI3.out.mono ?_
 rintro e w4 ⟨k4, d4, P4, rfl, ho4, hb4⟩
 obtain ⟨p1, p2, p3, p4, p5, p6, rfl, rfl⟩ := ho4.tree.slices
 have hs4 := hb4.size
 obtain ⟨W5, hW5⟩ : ∃ W5, W5 = w4.alloc (.cells #[.slice p1 p2 p3, .slice p4 p5 p6] 26) := ⟨_, rfl⟩
 have hs5 : W5.heap.size = w4.heap.size + 1 := by rw [hW5]; simp
 have hb45 : Below w4.heap.size w4 W5 := by rw [hW5]; exact (Below.refl _ _).alloc (Nat.le_refl _) _
 have hb5 : Below W3.heap.size W3 W5 := hb4.trans (hb45.mono (by omega))
 have hk5 : W5.heap[w4.heap.size]? = some (.cells #[.slice p1 p2 p3, .slice p4 p5 p6] 26 (0, 0)) := by rw [hW5, new_blk]
 have hx5 := (hb5.block _ (by omega)).trans HBX.out.2
 have hx5x := hx5
 rw [hW5] at hx5x
 clear x1 x2 x3 x4
 obtain ⟨x1, x2, x3, x4⟩ := box2 hx5x
 have HX5 := Lib.hid (And.intro (ho4.later hb45 (Nat.le_refl _)) (And.intro hk5 hb5))
 have HS5 := Lib.hid (HS3.out W5 hb5)
 have HW5 := Lib.hid hW5
 clear ho4 hb4 hb45 hb5 hk5 hx5 hx5x hW5
 go_wp2_with fail
 rw [← HW5.out]
 refine HS5.out.mono ?_
 rintro e w6 ⟨k6, d6, P6, rfl, ho6, hb6⟩
 obtain ⟨q1, q2, q3, q4, q5, q6, rfl, rfl⟩ := ho6.tree.slices
 have hs6 := hb6.size
 obtain ⟨W7, hW7⟩ : ∃ W7, W7 = w6.alloc (.cells #[.slice q1 q2 q3, .slice q4 q5 q6] 26) := ⟨_, rfl⟩
 have hs7 : W7.heap.size = w6.heap.size + 1 := by rw [hW7]; simp
 have hb67 : Below w6.heap.size w6 W7 := by rw [hW7]; exact (Below.refl _ _).alloc (Nat.le_refl _) _
 have hb57 : Below W5.heap.size W5 W7 := hb6.trans (hb67.mono hs6)
 have hb7 : Below W3.heap.size W3 W7 := HX5.out.2.2.trans (hb57.mono (by omega))
 have hk7 : W7.heap[w6.heap.size]? = some (.cells #[.slice q1 q2 q3, .slice q4 q5 q6] 26 (0, 0)) := by rw [hW7, new_blk]
 have htx : TreeA W7 (.slice p1 p2 p3) (.slice p4 p5 p6) X := (HX5.out.1.later hb57 (Nat.le_refl _)).a
 have htq : TreeIn W7 W7.heap.size (.slice q1 q2 q3) (.slice q4 q5 q6) X := (ho6.later hb67 (Nat.le_refl _)).tree
 have htt : TreeA W7 (.slice b1 b2 b3) (.slice b4 b5 b6) t := HTA.out.later hb7 (Nat.le_refl _)
 have BOX1 : Hid (∀ wx : World, Below W7.heap.size W7 wx → wx.heap[w2.heap.size]? = some (.cells #[.slice b1 b2 b3, .slice b4 b5 b6] 26 (0, 0))) :=
   Lib.hid (fun wx hx => (hx.block _ (by omega)).trans ((hb7.block _ (by omega)).trans HBX.out.2))
 have BOX2 : Hid (∀ wx : World, Below W7.heap.size W7 wx → wx.heap[w4.heap.size]? = some (.cells #[.slice p1 p2 p3, .slice p4 p5 p6] 26 (0, 0))) :=
   Lib.hid (fun wx hx => (hx.block _ (by omega)).trans ((hb57.block _ (by omega)).trans HX5.out.2.1))
 have BOX3 : Hid (∀ wx : World, Below W7.heap.size W7 wx → wx.heap[w6.heap.size]? = some (.cells #[.slice q1 q2 q3, .slice q4 q5 q6] 26 (0, 0))) :=
   Lib.hid (fun wx hx => (hx.block _ (by omega)).trans hk7)
 have C1 := fun (wx : World) (hx : Below W7.heap.size W7 wx) => impl_same_a wx (htx.later hx (Nat.le_refl _)) hXw ((htq.later hx (Nat.le_refl _)).wider hx.size)
 rw [Tr.sameB_refl] at C1
 have C2 := fun (wx : World) (hx : Below W7.heap.size W7 wx) => impl_valid _ _ _ _ _ wide htt.tree hwt (by omega) (by omega) wx hx hx.size
 have C3 := fun (wx : World) (hx : Below W7.heap.size W7 wx) => impl_has htt.tree hwt key wx hx hx.size
 have C4 := fun (wx : World) (hx : Below W7.heap.size W7 wx) => impl_keys_a (htt.later hx (Nat.le_refl _)) hwt
 have C5 := fun (wx : World) (hx : Below W7.heap.size W7 wx) => impl_rank htt.tree hwt key wx hx hx.size
 have C6 := fun (wx : World) (hx : Below W7.heap.size W7 wx) => impl_valid _ _ _ _ _ wide htx.tree hXw (by omega) (by omega) wx hx hx.size
 have C7 := fun (wx : World) (hx : Below W7.heap.size W7 wx) => impl_keys_a (htx.later hx (Nat.le_refl _)) hXw
 have C8 := fun (wx : World) (hx : Below W7.heap.size W7 wx) => impl_has htx.tree hXw key wx hx hx.size
 have hxp : X = .mk [] [] → p2 = 0 := fun e => by
   have h := htx.tree
   rw [e] at h
   obtain ⟨_, _, _, _, _, ⟨_, _, hv, _⟩, _⟩ := h.parts
   injection hv with _ e2 _
 obtain ⟨V, hV⟩ : ∃ V, V = Tr.validB wide t := ⟨_, rfl⟩
 obtain ⟨Hk, hHk⟩ : ∃ Hk, Hk = (t.pathB key).2 := ⟨_, rfl⟩
 rw [← hV] at C2
 rw [← hHk] at C3
 have HP := Lib.hid (And.intro hxp (And.intro hV hHk))
 have HC1 := Lib.hid C1
 have HC2 := Lib.hid C2
 have HC3 := Lib.hid C3
 have HC4 := Lib.hid C4
 have HC5 := Lib.hid C5
 have HC6 := Lib.hid C6
 have HC7 := Lib.hid C7
 have HC8 := Lib.hid C8
 have HF := Lib.hid (HBX.out.1.trans (hb7.mono (by have := HBX.out.1.size; omega)))
 have r1 := BOX1.out W7 (Below.refl _ _)
 have r2 := BOX2.out W7 (Below.refl _ _)
 have r3 := BOX3.out W7 (Below.refl _ _)
 rw [hW7] at r1 r2 r3
 clear x1 x2 x3 x4
 obtain ⟨x1, x2, x3, x4⟩ := box2 r1
 obtain ⟨y1, y2, y3, y4⟩ := box2 r2
 obtain ⟨z1, z2, z3, z4⟩ := box2 r3
 have HW7 := Lib.hid hW7
 have hAA : (A != A) = false := by simp
 have hAE : (A == A) = true := by simp
 have HAs : Hid (A = (V && Hk)) := Lib.hid (by
   rw [HAX.out.1, hV, hHk]
   unfold Tr.lacksB
   by_cases hv : t.validB wide = true
   · rw [(someB_path key t).1 (Tr.someB_valid hv)]
   · simp [hv])
 clear ho6 hb6 hb67 hb57 hb7 hk7 htx htq htt C1 C2 C3 C4 C5 C6 C7 C8 hxp hV hHk r1 r2 r3 hW7
 go_wp2_with fail
 rw [← HW7.out]
 refine (HC1.out W7 (Below.refl _ _)).mono ?_
 rintro e w8 ⟨rfl, hb8⟩
 have H8 := Lib.hid hb8
 clear hb8 x1 x2 x3 x4 y1 y2 y3 y4 z1 z2 z3 z4
 obtain ⟨x1, x2, x3, x4⟩ := box2 (BOX1.out w8 H8.out)
 obtain ⟨y1, y2, y3, y4⟩ := box2 (BOX2.out w8 H8.out)
 obtain ⟨z1, z2, z3, z4⟩ := box2 (BOX3.out w8 H8.out)
 go_wp2_with fail
 refine (HC2.out w8 H8.out).mono ?_
 rintro e w9 ⟨rfl, hb9⟩
 have H9 := Lib.hid (H8.out.trans (hb9.mono (by have := H8.out.size; omega)))
 clear hb9 x1 x2 x3 x4 y1 y2 y3 y4 z1 z2 z3 z4
 obtain ⟨x1, x2, x3, x4⟩ := box2 (BOX1.out w9 H9.out)
 obtain ⟨y1, y2, y3, y4⟩ := box2 (BOX2.out w9 H9.out)
 obtain ⟨z1, z2, z3, z4⟩ := box2 (BOX3.out w9 H9.out)
 cases A with
 | false =>
   have hX0 : X = .mk [] [] := by rw [HAX.out.2, Tr.delKeyT, if_neg (by rw [← HAX.out.1]; simp)]
   have hp20 := HP.out.1 hX0
   subst hp20
   clear hX0 hAA hAE
   cases V with
   | false =>
     go_wp2_with fail
     refine (HC1.out w9 H9.out).mono ?_
     rintro e w10 ⟨rfl, hb10⟩
     have H10 := Lib.hid (H9.out.trans (hb10.mono (by have := H9.out.size; omega)))
     clear hb10 x1 x2 x3 x4 y1 y2 y3 y4 z1 z2 z3 z4
     obtain ⟨x1, x2, x3, x4⟩ := box2 (BOX1.out w10 H10.out)
     obtain ⟨y1, y2, y3, y4⟩ := box2 (BOX2.out w10 H10.out)
     obtain ⟨z1, z2, z3, z4⟩ := box2 (BOX3.out w10 H10.out)
     go_wp2_with fail
     go_ret
     exact ⟨rfl, HF.out.trans (H10.out.mono (by have := HF.out.size; omega))⟩
   | true =>
     have hHt : Hk = false := by
       have := HAs.out; simpa using this.symm
     subst hHt
     go_wp2_with fail
     refine (HC3.out w9 H9.out).mono ?_
     rintro e w10 ⟨rfl, hb10⟩
     have H10 := Lib.hid (H9.out.trans (hb10.mono (by have := H9.out.size; omega)))
     clear hb10 x1 x2 x3 x4 y1 y2 y3 y4 z1 z2 z3 z4
     obtain ⟨x1, x2, x3, x4⟩ := box2 (BOX1.out w10 H10.out)
     obtain ⟨y1, y2, y3, y4⟩ := box2 (BOX2.out w10 H10.out)
     obtain ⟨z1, z2, z3, z4⟩ := box2 (BOX3.out w10 H10.out)
     go_wp2_with fail
     refine (HC1.out w10 H10.out).mono ?_
     rintro e w11 ⟨rfl, hb11⟩
     have H11 := Lib.hid (H10.out.trans (hb11.mono (by have := H10.out.size; omega)))
     clear hb11 x1 x2 x3 x4 y1 y2 y3 y4 z1 z2 z3 z4
     obtain ⟨x1, x2, x3, x4⟩ := box2 (BOX1.out w11 H11.out)
     obtain ⟨y1, y2, y3, y4⟩ := box2 (BOX2.out w11 H11.out)
     obtain ⟨z1, z2, z3, z4⟩ := box2 (BOX3.out w11 H11.out)
     go_wp2_with fail
     go_ret
     exact ⟨rfl, HF.out.trans (H11.out.mono (by have := HF.out.size; omega))⟩
 | true =>
   have hAs' := HAs.out.symm
   simp only [Bool.and_eq_true] at hAs'
   obtain ⟨hVt, hHf⟩ := hAs'
   subst hVt hHf
   clear hAA
   go_wp2_with fail
   refine (HC3.out w9 H9.out).mono ?_
   rintro e w10 ⟨rfl, hb10⟩
   have H10 := Lib.hid (H9.out.trans (hb10.mono (by have := H9.out.size; omega)))
   clear hb10 x1 x2 x3 x4 y1 y2 y3 y4 z1 z2 z3 z4
   obtain ⟨x1, x2, x3, x4⟩ := box2 (BOX1.out w10 H10.out)
   obtain ⟨y1, y2, y3, y4⟩ := box2 (BOX2.out w10 H10.out)
   obtain ⟨z1, z2, z3, z4⟩ := box2 (BOX3.out w10 H10.out)
   have hlk : Tr.lacksB wide key t = true := HAX.out.1.symm
   obtain ⟨hv, m1, -, hplace, hkeys, hhx⟩ := Tr.del_takes hlk
   have hsome := Tr.valid_some hv
   have hrank := (rankB_is key t).1 hsome
   have hie : X = Tr.delT wide key t := by rw [HAX.out.2, Tr.delKeyT, if_pos hlk]
   rw [← hie] at m1 hkeys hhx
   have hfew := sorted_len (Tr.valid_keys hv)
   have D5 := HC5.out
   have D6 := HC6.out
   have D7 := HC7.out
   have D8 := HC8.out
   have D4 := HC4.out
   rw [hrank] at D5
   rw [m1] at D6
   rw [hkeys] at D7
   rw [hhx] at D8
   obtain ⟨K, hK⟩ : ∃ K, K = t.keys := ⟨_, rfl⟩
   rw [← hK] at D4 D5 D7 hfew hplace
   obtain ⟨i, hi⟩ : ∃ i, i = place key K := ⟨_, rfl⟩
   rw [← hi] at D5 D7 hplace
   have HD4 := Lib.hid D4
   have HD5 := Lib.hid D5
   have HD6 := Lib.hid D6
   have HD7 := Lib.hid D7
   have HD8 := Lib.hid D8
   clear D4 D5 D6 D7 D8 hv hsome hrank hie hkeys m1 hhx hK hi hlk HC4 HC5 HC6 HC7 HC8
   go_wp2_with fail
   refine (HD4.out w10 H10.out).mono ?_
   rintro e w11 ⟨v11, rfl, ho11, hb11⟩
   obtain ⟨ka, kc, rfl⟩ := IntsOwn.shown ho11
   have HO11 := Lib.hid ho11
   have H11 := Lib.hid (H10.out.trans (hb11.mono (by have := H10.out.size; omega)))
   clear ho11 hb11 x1 x2 x3 x4 y1 y2 y3 y4 z1 z2 z3 z4
   obtain ⟨x1, x2, x3, x4⟩ := box2 (BOX1.out w11 H11.out)
   go_wp2_with fail
   refine (HD5.out w11 H11.out).mono ?_
   rintro e w12 ⟨rfl, hb12⟩
   have H12 := Lib.hid (H11.out.trans (hb12.mono (by have := H11.out.size; omega)))
   have HO12 := Lib.hid (IntsOwn.inB (IntsOwn.later HO11.out hb12 (Nat.le_refl _)) (Nat.le_refl _))
   clear hb12 x1 x2 x3 x4
   go_upto_region 10 with (fail)
   go_cut [12] from 80 to 89 (fun s12 wc => ∃ (a12 : Option Addr) (c12 : Nat), s12 = .slice a12 (takeAt K i).length c12 ∧ IntsOwn wc w12.heap.size s12 (takeAt K i) ∧ Below w12.heap.size w12 wc)
   case first =>
     obtain ⟨ka', kc', hkv, hkl, hkm, hkn, hkat⟩ := HO12.out
     injection hkv with e1 _ e3
     subst e1 e3
     unfold maxLen at hkm
     rcases hkat with h4 | ⟨b, o, rfl, h5, h6⟩
     · rw [h4] at hplace; simp at hplace
     have hfront : ∀ W, Below w12.heap.size w12 W → IntsAt W (.slice (some ⟨b, o, none⟩) i kc) (K.take i) := fun W hb => by
       have h := IntsAt.part (w := W) (b := b) (o := o) (n := i) (ks := K) (fun j hj => by rw [below_cell hb (by omega)]; exact h6 j hj) 0 i kc (by omega) (by omega) (by omega)
       simpa using h
     obtain ⟨J, hJ⟩ : ∃ J, J = i + 1 := ⟨_, rfl⟩
     have hback : ∀ W, Below w12.heap.size w12 W → ∀ c', IntsAt W (.slice (some ⟨b, o + J, none⟩) (K.length - J) c') (K.drop J) := fun W hb c' => by
       have h := IntsAt.part (w := W) (b := b) (o := o) (n := K.length - J) (ks := K) (fun j hj => by rw [below_cell hb (by omega)]; exact h6 j hj) J K.length c' (by omega) (Nat.le_refl _) rfl
       rwa [List.take_of_length_le (by simp)] at h
     have HFR := Lib.hid hfront
     have HBK := Lib.hid hback
     have HL0 : Hid (([] : List Int).length + (K.take i).length ≤ 17592186044416) := Lib.hid (by simp; omega)
     have HBW : Hid (Below w12.heap.size w12 (w12.alloc (.cells #[] 3)).drew) := Lib.hid (((Below.refl w12.heap.size w12).alloc (Nat.le_refl _) _).drew)
     have hii : (i : Int) ≤ (K.length : Int) := by omega
     have hi0 : (0 : Int) ≤ (i : Int) := by omega
     have hi1 : (J : Int) ≤ (K.length : Int) := by omega
     have hwm : IntKind.i64.wrap ((i : Int) + 1) = (J : Int) := by rw [IntKind.wrap_i64]; omega
     have hj0 : (0 : Int) ≤ (J : Int) := by omega
     have hij : (i : Int) ≤ (J : Int) := by omega
     have HJ := Lib.hid hJ
     have hic : (i : Int) ≤ (kc : Int) := by omega
     have hKc : (K.length : Int) ≤ (kc : Int) := by omega
     clear hfront hback h6 h5 hJ
     by_cases hik : J < K.length
     · have hci : ¬ kc = J := by omega
       go_region_held3 (fun _ => True) (trivial)
         (first
           | ((refine step_append_ints (by rfl) (.tmp 84) (.tmp 88) (by rfl) w12.heap.size (.slice a3 L3.length c3) (.slice _ _ _) L3 (K.drop J) (by rfl) H3.out.1 (by rfl) (HBK.out _ H3.out.2.2 _) (by have h1 := H3.out.2.1; rw [← h1]; simp; omega) H3.out.2.2.size ?_; intro v5 w5 hown5 hbel5 hgrow5 hsh5; obtain ⟨a5, c5, rfl⟩ := hsh5; generalize hL5 : L3 ++ K.drop J = L5 at hown5 ⊢; have H5 := Lib.hid (And.intro hown5 (And.intro hL5 (H3.out.2.2.trans hbel5))); clear hown5 hbel5 hgrow5 hL5))
           | ((refine step_append_ints (by rfl) (.tmp 80) (.tmp 83) (by rfl) w12.heap.size (.slice (some ⟨_, 0, none⟩) 0 0) (.slice _ i _) [] (K.take i) (by rfl) (made1 w12) (by rfl) (HFR.out _ HBW.out) HL0.out (by simp <;> omega) ?_; intro v3 w3 hown3 hbel3 hgrow3 hsh3; obtain ⟨a3, c3, rfl⟩ := hsh3; generalize hL3 : ([] : List Int) ++ K.take i = L3 at hown3 ⊢; have H3 := Lib.hid (And.intro hown3 (And.intro hL3 (HBW.out.trans hbel3))); clear hown3 hbel3 hgrow3 hL3))
           | fail)
       all_goals (
         go_wp2_with fail
         go_meet
         have hpe : L5 = takeAt K i := by rw [← H5.out.2.1, ← H3.out.2.1]; unfold takeAt; rw [← HJ.out]; simp
         subst hpe
         exact ⟨a5, c5, rfl, H5.out.1, H5.out.2.2⟩)
     · have hd : K.drop J = [] := List.drop_eq_nil_of_le (by omega)
       have HD := Lib.hid hd
       clear hd
       have hkl' : K.length = J := by omega
       have HKL := Lib.hid hkl'
       clear hkl'
       by_cases hci : kc = J
       · have hci' := hci.symm
         clear hci
         subst hci'
         go_region_held3 (fun _ => True) (trivial)
           (first
             | ((refine step_append_ints (by rfl) (.tmp 84) (.tmp 88) (by rfl) w12.heap.size (.slice a3 L3.length c3) (.slice _ _ _) L3 (K.drop J) (by rfl) H3.out.1 (by rfl) (by rw [HD.out]; first | exact IntsAt.none' _ _ (fun h => by first | rfl | simp | simp at h) | (rw [show K.length - J = 0 by (have := HKL.out; omega)]; exact IntsAt.none' _ _ (fun h => by first | rfl | simp | simp at h))) (by have h1 := H3.out.2.1; rw [← h1]; simp; omega) H3.out.2.2.size ?_; intro v5 w5 hown5 hbel5 hgrow5 hsh5; obtain ⟨a5, c5, rfl⟩ := hsh5; generalize hL5 : L3 ++ K.drop J = L5 at hown5 ⊢; have H5 := Lib.hid (And.intro hown5 (And.intro hL5 (H3.out.2.2.trans hbel5))); clear hown5 hbel5 hgrow5 hL5))
             | ((refine step_append_ints (by rfl) (.tmp 80) (.tmp 83) (by rfl) w12.heap.size (.slice (some ⟨_, 0, none⟩) 0 0) (.slice _ i _) [] (K.take i) (by rfl) (made1 w12) (by rfl) (HFR.out _ HBW.out) HL0.out (by simp <;> omega) ?_; intro v3 w3 hown3 hbel3 hgrow3 hsh3; obtain ⟨a3, c3, rfl⟩ := hsh3; generalize hL3 : ([] : List Int) ++ K.take i = L3 at hown3 ⊢; have H3 := Lib.hid (And.intro hown3 (And.intro hL3 (HBW.out.trans hbel3))); clear hown3 hbel3 hgrow3 hL3))
             | fail)
         all_goals (
           go_wp2_with fail
           go_meet
           have hpe : L5 = takeAt K i := by rw [← H5.out.2.1, ← H3.out.2.1]; unfold takeAt; rw [← HJ.out]; simp
           subst hpe
           exact ⟨a5, c5, rfl, H5.out.1, H5.out.2.2⟩)
       · go_region_held3 (fun _ => True) (trivial)
           (first
             | ((refine step_append_ints (by rfl) (.tmp 84) (.tmp 88) (by rfl) w12.heap.size (.slice a3 L3.length c3) (.slice _ _ _) L3 (K.drop J) (by rfl) H3.out.1 (by rfl) (by rw [HD.out]; first | exact IntsAt.none' _ _ (fun h => by first | rfl | simp | simp at h) | (rw [show K.length - J = 0 by (have := HKL.out; omega)]; exact IntsAt.none' _ _ (fun h => by first | rfl | simp | simp at h))) (by have h1 := H3.out.2.1; rw [← h1]; simp; omega) H3.out.2.2.size ?_; intro v5 w5 hown5 hbel5 hgrow5 hsh5; obtain ⟨a5, c5, rfl⟩ := hsh5; generalize hL5 : L3 ++ K.drop J = L5 at hown5 ⊢; have H5 := Lib.hid (And.intro hown5 (And.intro hL5 (H3.out.2.2.trans hbel5))); clear hown5 hbel5 hgrow5 hL5))
             | ((refine step_append_ints (by rfl) (.tmp 80) (.tmp 83) (by rfl) w12.heap.size (.slice (some ⟨_, 0, none⟩) 0 0) (.slice _ i _) [] (K.take i) (by rfl) (made1 w12) (by rfl) (HFR.out _ HBW.out) HL0.out (by simp <;> omega) ?_; intro v3 w3 hown3 hbel3 hgrow3 hsh3; obtain ⟨a3, c3, rfl⟩ := hsh3; generalize hL3 : ([] : List Int) ++ K.take i = L3 at hown3 ⊢; have H3 := Lib.hid (And.intro hown3 (And.intro hL3 (HBW.out.trans hbel3))); clear hown3 hbel3 hgrow3 hL3))
             | fail)
         all_goals (
           go_wp2_with fail
           go_meet
           have hpe : L5 = takeAt K i := by rw [← H5.out.2.1, ← H3.out.2.1]; unfold takeAt; rw [← HJ.out]; simp
           subst hpe
           exact ⟨a5, c5, rfl, H5.out.1, H5.out.2.2⟩)
   case rest =>
     rename World => w13
     obtain ⟨a12, c12, rfl, ho13, hb13⟩ := hcut
     have H13 := Lib.hid (H12.out.trans (hb13.mono (by have := H12.out.size; omega)))
     have HO13 := Lib.hid ho13
     clear ho13 hb13
     obtain ⟨y1, y2, y3, y4⟩ := box2 (BOX2.out w13 H13.out)
     go_wp2_with fail
     refine (HD6.out w13 H13.out).mono ?_
     rintro e w14 ⟨rfl, hb14⟩
     have H14 := Lib.hid (H13.out.trans (hb14.mono (by have := H13.out.size; omega)))
     have HO14 := Lib.hid (IntsOwn.later HO13.out hb14 (Nat.le_refl _))
     clear hb14 y1 y2 y3 y4
     obtain ⟨y1, y2, y3, y4⟩ := box2 (BOX2.out w14 H14.out)
     go_wp2_with fail
     refine (HD7.out w14 H14.out).mono ?_
     rintro e w15 ⟨v15, rfl, ho15, hb15⟩
     obtain ⟨va15, vc15, rfl⟩ := IntsOwn.shown ho15
     have H15 := Lib.hid (H14.out.trans (hb15.mono (by have := H14.out.size; omega)))
     have HO15 := Lib.hid (And.intro (IntsOwn.later HO14.out hb15 (Nat.le_refl _)) ho15)
     clear hb15 ho15 y1 y2 y3 y4
     go_wp2_with fail
     refine (ftSame_c (takeAt K i) _ _ w15 w15.heap.size (Nat.le_refl _) (IntsOwn.inB HO15.out.2 (Nat.le_refl _)) (IntsOwn.inB HO15.out.1 (Nat.le_refl _))).mono ?_
     rintro e w16 ⟨rfl, hb16⟩
     have H16 := Lib.hid (H15.out.trans (hb16.mono (by have := H15.out.size; omega)))
     clear hb16
     obtain ⟨y1, y2, y3, y4⟩ := box2 (BOX2.out w16 H16.out)
     go_wp2_with fail
     refine (HD8.out w16 H16.out).mono ?_
     rintro e w17 ⟨rfl, hb17⟩
     have H17 := Lib.hid (H16.out.trans (hb17.mono (by have := H16.out.size; omega)))
     clear hb17 y1 y2 y3 y4
     go_wp2_with fail
     go_ret
     exact ⟨rfl, HF.out.trans (H17.out.mono (by have := HF.out.size; omega))⟩
end Go.Proofs.Ytananonjomfpkaa
/- The statement on ranks when a key is deleted, from the walk of its law. -/
namespace Go.Proofs.Ytananonjomfpkaa.fnDeleteRowP
open Go.ChangeShapes Go.WideShapes Go.ChangeAt Go.RowKit
set_option linter.unusedVariables false
theorem own : ownKnob Try.prog.godebug = none := by kernel_rfl
theorem laidOut : laidOutB Try.prog = true := by kernel_rfl
set_option maxRecDepth 100000 in
set_option maxHeartbeats 1000000 in
theorem lifted (os : Os) (started : os.Started) (H : Type) (enc : TypeId × Value → H) :
   ReturnsInHanded {} Try.checked os 3 .any (Rows.fnDeleteSpec.pre6 enc Try.prog Try.f3 Rows.fnDeleteRow.domain false) (Rows.fnDeleteSpec.post enc Try.prog Try.f3 false true false false) := by
 refine returnsInHanded_of_change (C := Try.checked) own started (by kernel_rfl) Try.func3
   (ChangeSpec.witness6 (enc := enc) (C := Try.checked) false ⟨#[], #[.slice none 0 0], []⟩ 8 (by kernel_rfl) (by kernel_rfl) (by kernel_rfl) (by kernel_rfl)) ?_
 intro W base args ds gs before hval0 hW hcnd _
 have hval : ∀ (j : Nat) t v, Try.f3.params[j]? = some t → args[j]? = some v → Value.okWide Try.prog W .any base t v := hval0
 have hW' := hW
 obtain ⟨p, q, hA0, hV, rfl, hfz, hnd⟩ := hW
 have hA : DataW.TrodAll enc Try.prog W 0 (fun _ => true) true Try.f3.params.toList args.toList ds p := hA0
 rw [Try.params3] at hA hval
 obtain ⟨v0, vs0, d0, ds0, p0, q0, hargs, rfl, rfl, h0, r0⟩ := trodAll_cons hA
 obtain ⟨rfl, rfl, rfl⟩ := trodAll_nil r0
 obtain rfl : args = #[v0] := by cases args; simp_all
 obtain ⟨rfl, rfl⟩ := trodVars_none hV
 obtain ⟨a0, len0, cap0, rfl⟩ := okWide_slice Try.underlying22 (hval 0 22 v0 rfl rfl)
 have k0 := h0
 have lt0 : ∀ x ∈ p0, x.block < W.heap.size := by obtain ⟨m, hm⟩ := k0; exact DataW.trod_lt m _ _ _ hm
 obtain ⟨bs0, hb0⟩ : ∃ bs, BytesIn W W.heap.size (.slice a0 len0 cap0) bs := by
   obtain ⟨fuel, hf⟩ := h0
   exact bytes_of_trod fuel (fun _ => rfl) hf
 clear hA0 hval0
 refine (fnDelete_c hb0).mono fun e W' ⟨he, bel⟩ => ?_
 subst he
 exact ⟨_, rfl, _, _, _, [], _, [], hW', trodAll_mk1 (shut_bool Try.underlying4 _), (trodAll_cons_mk (Below.trod laidOut (by kernel_rfl) (of_decide_eq_true (by kernel_rfl)) k0 bel lt0) trodAll_mk0), rfl, bel.frame _, fun h => by cases h⟩
theorem closed : joinedFacts Try.prog 3 Try.f3 Rows.fnDeleteSpec Rows.fnDeleteRow = true := by
 unfold joinedFacts
 exact band (band (band (band (band (band (band (by kernel_rfl) fact_enter) fact_lifts) fact_make) (by kernel_rfl)) (by kernel_rfl)) (by kernel_rfl)) (by kernel_rfl)
theorem over : Rows.fnDeleteRow.holds Try.pinned (OpenSpec.ofChange Rows.fnDeleteSpec) :=
 OpenClaim.holds_of_wide 3 Try.f3 rfl rfl rfl rfl rfl rfl rfl ⟨rfl, rfl, rfl, rfl, rfl⟩ rfl rfl rfl rfl rfl (by kernel_rfl) Try.func3 closed
   (of_decide_eq_true (by kernel_rfl)) (by unfold Func.isWrapper; first | (rw [if_pos (by decide +kernel)]; kernel_rfl) | (rw [if_neg (by decide +kernel)]; exact ⟨rfl, rfl⟩))
   (fun os started H enc _ => lifted os started H enc)
end Go.Proofs.Ytananonjomfpkaa.fnDeleteRowP
/- For every slice of bytes, the law on ranks when a key is deleted returns true and leaves its arguments as they were; no conditions. -/
namespace Go.Proofs.Ytananonjomfpkaa
theorem delete_said : Rows.FnDeleteSaid := fnDeleteRowP.over
end Go.Proofs.Ytananonjomfpkaa
