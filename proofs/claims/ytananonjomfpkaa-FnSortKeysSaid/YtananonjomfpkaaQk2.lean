/- The model draws a list of keys to sort. -/
import Derived.Test.YtananonjomfpkaaQk1
/- The model draws a width and an order of keys. -/
namespace Go.Proofs.Ytananonjomfpkaa
open Go.RowKit
def Ordered (w : World) (e : Ending) (w' : World) : Prop :=
 ∃ (wide : Int) (v : Value) (ks : List Int), e = .returned (.tuple #[.int .i64 wide, v]) ∧ (1 ≤ wide ∧ wide ≤ 7) ∧ IntsOwn w' w.heap.size v ks ∧ ks.length ≤ 26
theorem ord_get8 (i : Nat) (h : i < 8) : 1 ≤ ([2, 3, 4, 2, 5, 6, 3, 2] : List Int).getD i 0 ∧ ([2, 3, 4, 2, 5, 6, 3, 2] : List Int).getD i 0 ≤ 7 := by
 rcases i with _ | _ | _ | _ | _ | _ | _ | _ | i <;> simp <;> omega
theorem ord_get4 (i : Nat) (h : i < 4) : 1 ≤ ([1, 7, 3, 37] : List Int).getD i 0 ∧ ([1, 7, 3, 37] : List Int).getD i 0 ≤ 37 := by
 rcases i with _ | _ | _ | _ | i <;> simp <;> omega
theorem ord_get6 (i : Nat) (h : i < 6) : 0 ≤ ([6, 9, 4, 14, 0, 25] : List Int).getD i 0 ∧ ([6, 9, 4, 14, 0, 25] : List Int).getD i 0 ≤ 25 := by
 rcases i with _ | _ | _ | _ | _ | _ | i <;> simp <;> omega
theorem ord_get2 (i : Nat) (h : i < 2) : 1 ≤ ([1, 7] : List Int).getD i 0 ∧ ([1, 7] : List Int).getD i 0 ≤ 7 := by
 rcases i with _ | _ | i <;> simp <;> omega
theorem blk_cell {w : World} {b : Nat} {ks : List Int} {t : TypeId} (h : w.heap[b]? = some (.cells (ks.map (Value.int .i64)).toArray t (0, 0))) (i : Nat) (hi : i < ks.length) : w.cell? ⟨b, i, none⟩ = some (.int .i64 (ks.getD i 0)) := by
 simp [World.cell?, h, hi, List.getD_eq_getElem?_getD]
set_option maxHeartbeats 2000000 in
set_option maxRecDepth 100000 in
theorem order_c (w : World) (B r : Nat) (bs : List Nat) (p : Nat) (h : Rd w B r bs p) (hp : p ≤ 1000000) :
   Calls Try.prog 95 #[.pointer (some ⟨r, 0, none⟩)] w fun e w' => Ordered w e w' ∧ Only w.heap.size r w w' := by
 have hrl := h.lt
 obtain ⟨W1, hW1⟩ : ∃ W1, W1 = w.alloc (.cells #[.int .i64 2, .int .i64 3, .int .i64 4, .int .i64 2, .int .i64 5, .int .i64 6, .int .i64 3, .int .i64 2] 3) := ⟨_, rfl⟩
 have hb1 : Below w.heap.size w W1 := by rw [hW1]; exact (Below.refl _ _).alloc (Nat.le_refl _) _
 have hr1 : Rd W1 B r bs p := h.later hb1 hrl
 have hk1 : W1.heap[w.heap.size]? = some (.cells #[.int .i64 2, .int .i64 3, .int .i64 4, .int .i64 2, .int .i64 5, .int .i64 6, .int .i64 3, .int .i64 2] 3 (0, 0)) := by rw [hW1, new_blk]
 have hz1 := hb1.size
 have HW1 := Lib.hid hW1
 have HX := Lib.hid (And.intro hb1 (And.intro hr1 hk1))
 clear hW1 hb1 hr1 hk1 h
 go_enter Try.func95, Try.ntmps95
 go_wp2_with fail
 rw [← HW1.out]
 refine (num_c W1 B r bs p w.heap.size [2, 3, 4, 2, 5, 6, 3, 2] 8 HX.out.2.1 (by omega) (by omega) (by simp) (by simp) (fun i hi => blk_cell HX.out.2.2 i hi)).mono ?_
 rintro e w2 ⟨i, m, hi, rfl, hw2⟩
 obtain ⟨hwd1, hwd2⟩ := ord_get8 i (by simpa using hi)
 generalize ([2, 3, 4, 2, 5, 6, 3, 2] : List Int).getD i 0 = wide at hwd1 hwd2
 have hr2 : Rd w2 B r bs (p + 1) := by rw [hw2]; exact HX.out.2.1.picked m
 have ho2 : Only w.heap.size r w w2 := by rw [hw2]; exact (below_only HX.out.1).trans (Only.picked _ _ _ _ _)
 have hz2 := ho2.size
 obtain ⟨W3, hW3⟩ : ∃ W3, W3 = (w2.alloc (.cells #[] 3)).alloc (.cells #[.int .i64 1, .int .i64 7, .int .i64 3, .int .i64 37] 3) := ⟨_, rfl⟩
 have hs3 : W3.heap.size = w2.heap.size + 2 := by rw [hW3]; simp
 have hb3 : Below w2.heap.size w2 W3 := by rw [hW3]; exact ((Below.refl _ _).alloc (Nat.le_refl _) _).alloc (by simp) _
 have hr3 : Rd W3 B r bs (p + 1) := hr2.later hb3 (by omega)
 have hk3 : W3.heap[w2.heap.size + 1]? = some (.cells #[.int .i64 1, .int .i64 7, .int .i64 3, .int .i64 37] 3 (0, 0)) := by
   rw [hW3, show w2.heap.size + 1 = (w2.alloc (.cells #[] 3)).heap.size by simp, new_blk]
 have h00 : IntsOwn W3 w.heap.size (.slice (some ⟨w2.heap.size, 0, none⟩) 0 0) [] := by
   rw [hW3]; exact World.ownsRow.alloc (World.ownsRow_made w2 #[] 0 hz2 (by unfold maxLen; omega) rfl) _
 have ho3 : Only w.heap.size r w W3 := ho2.trans (below_only (hb3.mono hz2))
 have HW3 := Lib.hid hW3
 have H3 := Lib.hid (And.intro hr3 (And.intro hk3 (And.intro h00 ho3)))
 clear hr2 ho2 hi hw2 hW3 hb3 hr3 hk3 h00 ho3
 go_wp2_with fail
 rw [← HW3.out]
 refine (num_c W3 B r bs (p + 1) (w2.heap.size + 1) [1, 7, 3, 37] 4 H3.out.1 (by omega) (by omega) (by simp) (by simp) (fun i hi => blk_cell H3.out.2.1 i hi)).mono ?_
 rintro e w4 ⟨i, m, hi, rfl, hw4⟩
 obtain ⟨hst1, hst2⟩ := ord_get4 i (by simpa using hi)
 generalize ([1, 7, 3, 37] : List Int).getD i 0 = step at hst1 hst2
 have hr4 : Rd w4 B r bs (p + 1 + 1) := by rw [hw4]; exact H3.out.1.picked m
 have ho4 : Only w.heap.size r w w4 := by rw [hw4]; exact H3.out.2.2.2.trans (Only.picked _ _ _ _ _)
 have hown4 : IntsOwn w4 w.heap.size (.slice (some ⟨w2.heap.size, 0, none⟩) 0 0) [] := H3.out.2.2.1.only (by rw [hw4]; exact Only.picked W3.heap.size r (p + 1) W3 m) (Nat.le_refl _) hrl
 have H4 := Lib.hid (And.intro hr4 (And.intro ho4 hown4))
 clear hr4 ho4 hown4 hi hw4
 go_wp2_with fail
 refine (pick_c w4 B r bs (p + 1 + 1) 100 H4.out.1 (by omega) (by omega) (by omega)).mono ?_
 rintro e w5 ⟨k0, m5, rfl, hk0, hk1', _, hw5⟩
 have hk99 : k0 < 100 := hk1' (by omega)
 have hr5 : Rd w5 B r bs (p + 1 + 1 + 1) := by rw [hw5]; exact H4.out.1.picked m5
 have ho5 : Only w.heap.size r w w5 := by rw [hw5]; exact H4.out.2.1.trans (Only.picked _ _ _ _ _)
 have hown5 : IntsOwn w5 w.heap.size (.slice (some ⟨w2.heap.size, 0, none⟩) 0 0) [] := H4.out.2.2.only (by rw [hw5]; exact Only.picked w4.heap.size r (p + 1 + 1) w4 m5) (Nat.le_refl _) hrl
 have hz5 := ho5.size
 obtain ⟨W6, hW6⟩ : ∃ W6, W6 = w5.alloc (.cells #[.int .i64 6, .int .i64 9, .int .i64 4, .int .i64 14, .int .i64 0, .int .i64 25] 3) := ⟨_, rfl⟩
 have hb6 : Below w5.heap.size w5 W6 := by rw [hW6]; exact (Below.refl _ _).alloc (Nat.le_refl _) _
 have hr6 : Rd W6 B r bs (p + 1 + 1 + 1) := hr5.later hb6 (by omega)
 have hk6 : W6.heap[w5.heap.size]? = some (.cells #[.int .i64 6, .int .i64 9, .int .i64 4, .int .i64 14, .int .i64 0, .int .i64 25] 3 (0, 0)) := by rw [hW6, new_blk]
 have ho6 : Only w.heap.size r w W6 := ho5.trans (below_only (hb6.mono hz5))
 have hown6 : IntsOwn W6 w.heap.size (.slice (some ⟨w2.heap.size, 0, none⟩) 0 0) [] := IntsOwn.later hown5 hb6 (Nat.le_refl _)
 have HW6 := Lib.hid hW6
 have H6 := Lib.hid (And.intro hr6 (And.intro hk6 (And.intro hown6 ho6)))
 clear hk1' hr5 ho5 hown5 hw5 hW6 hb6 hr6 hk6 ho6 hown6
 go_wp2_with fail
 rw [← HW6.out]
 refine (num_c W6 B r bs (p + 1 + 1 + 1) w5.heap.size [6, 9, 4, 14, 0, 25] 6 H6.out.1 (by omega) (by omega) (by simp) (by simp) (fun i hi => blk_cell H6.out.2.1 i hi)).mono ?_
 rintro e w7 ⟨i, m, hi, rfl, hw7⟩
 obtain ⟨hn1, hn2⟩ := ord_get6 i (by simpa using hi)
 generalize ([6, 9, 4, 14, 0, 25] : List Int).getD i 0 = n at hn1 hn2
 have hr7 : Rd w7 B r bs (p + 1 + 1 + 1 + 1) := by rw [hw7]; exact H6.out.1.picked m
 have ho7 : Only w.heap.size r w w7 := by rw [hw7]; exact H6.out.2.2.2.trans (Only.picked _ _ _ _ _)
 have hown7 : IntsOwn w7 w.heap.size (.slice (some ⟨w2.heap.size, 0, none⟩) 0 0) [] := H6.out.2.2.1.only (by rw [hw7]; exact Only.picked W6.heap.size r (p + 1 + 1 + 1) W6 m) (Nat.le_refl _) hrl
 have H7 := Lib.hid (And.intro hr7 (And.intro ho7 hown7))
 clear hr7 ho7 hown7 hi hw7
 go_wp2_with fail
 go_loopw [5, 7, 20, 32] (fun s5 s7 i s32 wr => ∃ (j : Nat) (ks : List Int) (k : Int) (q : Nat), i = .int .i64 j ∧ (j : Int) ≤ n ∧ s7 = .int .i64 k ∧ 0 ≤ k ∧ k ≤ 99 ∧ ks.length = j ∧
     IntsOwn wr w.heap.size s5 ks ∧ Rd wr B r bs q ∧ q ≤ p + 4 + 2 * j ∧ Only w.heap.size r w wr) (fun _ _ i _ _ => (100 - intOf i).toNat)
 case atStart => exact ⟨0, [], k0, _, rfl, by omega, rfl, hk0, by omega, rfl, H7.out.2.2, H7.out.1, by omega, H7.out.2.1⟩
 case round =>
   obtain ⟨j, ks, k, q, rfl, hj, rfl, hk0', hk99', hkl, hown, hrd, hq, honly⟩ := hrel
   obtain ⟨oa, oc, rfl⟩ := IntsOwn.shown hown
   have hsz := honly.size
   have HR := Lib.hid (And.intro hown (And.intro hrd honly))
   have HKL := Lib.hid hkl
   clear hown hrd honly
   by_cases hlt : (j : Int) < n
   · have hj25 : (j : Int) < 25 := by omega
     have HO1 := Lib.hid (IntsOwn.alloc' HR.out.1 (.cells #[.int .i64 k] 3))
     have HS := Lib.hid (IntsAt.one wr k)
     have hlo : w.heap.size ≤ (wr.alloc (.cells #[.int .i64 k] 3)).heap.size := by simp; omega
     have HLN : Hid (ks.length + [k].length ≤ 17592186044416) := Lib.hid (by have := HKL.out; simp; omega)
     clear hkl
     go_wp2_with (at_builtin; refine wpList_append_ints rfl _ _ rfl w.heap.size _ _ ks [k] rfl HO1.out rfl HS.out HLN.out hlo ?_; intro v4 w8 hown8 hbel8 _ hsh8; obtain ⟨a8, c8, rfl⟩ := hsh8; generalize hL8 : ks ++ [k] = L8 at hown8 ⊢; have HL8 := Lib.hid hL8; have HN := Lib.hid (And.intro hown8 hbel8); clear hown8 hbel8 hL8)
     have hb8 : Below w.heap.size wr w8 := ((Below.refl _ _).alloc hsz _).trans HN.out.2
     have hr8 : Rd w8 B r bs q := HR.out.2.1.later hb8 hrl
     have H8 := Lib.hid (And.intro hb8 hr8)
     clear hb8 hr8
     refine (pick_c w8 B r bs q 3 H8.out.2 (by omega) (by omega) (by omega)).mono ?_
     rintro e w9 ⟨y, m9, rfl, hy0, hy1, _, hw9⟩
     have hr9 : Rd w9 B r bs (q + 1) := by rw [hw9]; exact H8.out.2.picked m9
     have ho9 : Only w.heap.size r w w9 := by rw [hw9]; exact (HR.out.2.2.trans (below_only H8.out.1)).trans (Only.picked _ _ _ _ _)
     have hown9 : IntsOwn w9 w.heap.size (.slice a8 L8.length c8) L8 := HN.out.1.only (by rw [hw9]; exact Only.picked w8.heap.size r q w8 m9) (Nat.le_refl _) hrl
     have H9 := Lib.hid (And.intro hr9 (And.intro ho9 hown9))
     clear hr9 ho9 hown9 hy1 hw9
     by_cases hyz : y = 0
     · subst hyz
       go_wp2_with fail
       refine (pick_c w9 B r bs (q + 1) 100 H9.out.1 (by omega) (by omega) (by omega)).mono ?_
       rintro e w10 ⟨k', m10, rfl, hk0'', hk1'', _, hw10⟩
       have hk9'' : k' < 100 := hk1'' (by omega)
       have hr10 : Rd w10 B r bs (q + 1 + 1) := by rw [hw10]; exact H9.out.1.picked m10
       have ho10 : Only w.heap.size r w w10 := by rw [hw10]; exact H9.out.2.1.trans (Only.picked _ _ _ _ _)
       have hown10 : IntsOwn w10 w.heap.size (.slice a8 L8.length c8) L8 := H9.out.2.2.only (by rw [hw10]; exact Only.picked w9.heap.size r (q + 1) w9 m10) (Nat.le_refl _) hrl
       have H10 := Lib.hid (And.intro hr10 (And.intro ho10 hown10))
       clear hr10 ho10 hown10 hk1'' hw10
       go_wp2_with fail
       go_roundw
       case rel =>
         have hll : L8.length = ks.length + 1 := by rw [← HL8.out]; simp
         exact ⟨j + 1, L8, k', _, by go_num, by omega, rfl, hk0'', by omega, by rw [hll, HKL.out], H10.out.2.2, H10.out.1, by omega, H10.out.2.1⟩
       case measure => simp [intOf]; omega
     · have hyz' : (y == 0) = false := by simp [hyz]
       have ht : Int.tmod (k + step) 100 = (k + step) % 100 := Int.tmod_eq_emod_of_nonneg (by omega)
       go_wp2_with fail
       go_roundw
       case rel =>
         have hll : L8.length = ks.length + 1 := by rw [← HL8.out]; simp
         exact ⟨j + 1, L8, (k + step) % 100, _, by go_num, by omega, by first | rfl | rw [ht] | simp [ht], by omega, by omega, by rw [hll, HKL.out], H9.out.2.2, H9.out.1, by omega, H9.out.2.1⟩
       case measure => simp [intOf]; omega
   · have hks : ks.length ≤ 25 := by omega
     clear hkl
     go_wp2_with fail
     refine (pick_c wr B r bs q 24 HR.out.2.1 (by omega) (by omega) (by omega)).mono ?_
     rintro e w9 ⟨y, m9, rfl, hy0, hy1, _, hw9⟩
     have hr9 : Rd w9 B r bs (q + 1) := by rw [hw9]; exact HR.out.2.1.picked m9
     have ho9 : Only w.heap.size r w w9 := by rw [hw9]; exact HR.out.2.2.trans (Only.picked _ _ _ _ _)
     have hown9 : IntsOwn w9 w.heap.size (.slice oa ks.length oc) ks := HR.out.1.only (by rw [hw9]; exact Only.picked wr.heap.size r q wr m9) (Nat.le_refl _) hrl
     have hz9 := ho9.size
     have H9 := Lib.hid (And.intro hr9 (And.intro ho9 hown9))
     clear hr9 ho9 hown9 hy1 hw9
     by_cases hyz : y = 0
     · subst hyz
       obtain ⟨W10, hW10⟩ : ∃ W10, W10 = w9.alloc (.cells #[.int .i64 1, .int .i64 7] 3) := ⟨_, rfl⟩
       have hb10 : Below w9.heap.size w9 W10 := by rw [hW10]; exact (Below.refl _ _).alloc (Nat.le_refl _) _
       have hr10 : Rd W10 B r bs (q + 1) := H9.out.1.later hb10 (by omega)
       have hk10 : W10.heap[w9.heap.size]? = some (.cells #[.int .i64 1, .int .i64 7] 3 (0, 0)) := by rw [hW10, new_blk]
       have H10 := Lib.hid (And.intro hr10 (And.intro hk10 (And.intro (IntsOwn.later H9.out.2.2 hb10 (Nat.le_refl _)) (H9.out.2.1.trans (below_only (hb10.mono hz9))))))
       have HW10 := Lib.hid hW10
       clear hW10 hb10 hr10 hk10
       go_wp2_with fail
       rw [← HW10.out]
       refine (num_c W10 B r bs (q + 1) w9.heap.size [1, 7] 2 H10.out.1 (by omega) (by omega) (by simp) (by simp) (fun i hi => blk_cell H10.out.2.1 i hi)).mono ?_
       rintro e w11 ⟨i, m, hi, rfl, hw11⟩
       obtain ⟨hv1, hv2⟩ := ord_get2 i (by simpa using hi)
       generalize ([1, 7] : List Int).getD i 0 = wd at hv1 hv2
       have ho11 : Only w.heap.size r w w11 := by rw [hw11]; exact H10.out.2.2.2.trans (Only.picked _ _ _ _ _)
       have hown11 : IntsOwn w11 w.heap.size (.slice oa ks.length oc) ks := H10.out.2.2.1.only (by rw [hw11]; exact Only.picked W10.heap.size r (q + 1) W10 m) (Nat.le_refl _) hrl
       have H11 := Lib.hid (And.intro ho11 hown11)
       clear ho11 hown11 hi hw11
       go_wp2_with fail
       exact bodyPost_ret (v := .tuple #[.int .i64 wd, .slice oa ks.length oc]) (by simp [results, Try.results95]) rfl ⟨⟨wd, _, ks, rfl, ⟨hv1, hv2⟩, H11.out.2, by omega⟩, H11.out.1⟩
     · by_cases hyo : y = 1
       · subst hyo
         obtain ⟨W10, hW10⟩ : ∃ W10, W10 = w9.alloc (.cells #[.int .i64 100, .int .i64 (-1)] 3) := ⟨_, rfl⟩
         have hb10 : Below w9.heap.size w9 W10 := by rw [hW10]; exact (Below.refl _ _).alloc (Nat.le_refl _) _
         have hr10 : Rd W10 B r bs (q + 1) := H9.out.1.later hb10 (by omega)
         have hk10 : W10.heap[w9.heap.size]? = some (.cells #[.int .i64 100, .int .i64 (-1)] 3 (0, 0)) := by rw [hW10, new_blk]
         have H10 := Lib.hid (And.intro hr10 (And.intro hk10 (And.intro (IntsOwn.later H9.out.2.2 hb10 (Nat.le_refl _)) (H9.out.2.1.trans (below_only (hb10.mono hz9))))))
         have HW10 := Lib.hid hW10
         clear hW10 hb10 hr10 hk10
         go_wp2_with fail
         rw [← HW10.out]
         refine (num_c W10 B r bs (q + 1) w9.heap.size [100, -1] 2 H10.out.1 (by omega) (by omega) (by simp) (by simp) (fun i hi => blk_cell H10.out.2.1 i hi)).mono ?_
         rintro e w11 ⟨i, m, hi, rfl, hw11⟩
         generalize ([100, -1] : List Int).getD i 0 = x
         have ho11 : Only w.heap.size r w w11 := by rw [hw11]; exact H10.out.2.2.2.trans (Only.picked _ _ _ _ _)
         have hown11 : IntsOwn w11 w.heap.size (.slice oa ks.length oc) ks := H10.out.2.2.1.only (by rw [hw11]; exact Only.picked W10.heap.size r (q + 1) W10 m) (Nat.le_refl _) hrl
         have hz11 := ho11.size
         have H11 := Lib.hid (And.intro ho11 hown11)
         have HO1 := Lib.hid (IntsOwn.alloc' hown11 (.cells #[.int .i64 x] 3))
         have HS := Lib.hid (IntsAt.one w11 x)
         have hlo : w.heap.size ≤ (w11.alloc (.cells #[.int .i64 x] 3)).heap.size := by simp; omega
         have HLN : Hid (ks.length + [x].length ≤ 17592186044416) := Lib.hid (by simp; omega)
         clear ho11 hown11 hi hw11
         go_wp2_with (at_builtin; refine wpList_append_ints rfl _ _ rfl w.heap.size _ _ ks [x] rfl HO1.out rfl HS.out HLN.out hlo ?_; intro v4 w12 hown12 hbel12 _ hsh12; obtain ⟨a12, c12, rfl⟩ := hsh12; generalize hL12 : ks ++ [x] = L12 at hown12 ⊢; have HL12 := Lib.hid hL12; have HN := Lib.hid (And.intro hown12 hbel12); clear hown12 hbel12 hL12)
         have hll : L12.length = ks.length + 1 := by rw [← HL12.out]; simp
         exact bodyPost_ret (v := .tuple #[.int .i64 wide, .slice a12 L12.length c12]) (by simp [results, Try.results95]) rfl ⟨⟨wide, _, L12, rfl, ⟨hwd1, hwd2⟩, HN.out.1, by omega⟩, H11.out.1.trans (below_only (((Below.refl _ _).alloc hz11 _).trans HN.out.2))⟩
       · have hyz' : (y == 0) = false := by simp [hyz]
         have hyo' : (y == 1) = false := by simp [hyo]
         go_wp2_with fail
         exact bodyPost_ret (v := .tuple #[.int .i64 wide, .slice oa ks.length oc]) (by simp [results, Try.results95]) rfl ⟨⟨wide, _, ks, rfl, ⟨hwd1, hwd2⟩, H9.out.2.2, by omega⟩, H9.out.2.1⟩
def OrderDrawn (w : World) (e : Ending) (w' : World) : Prop := Ordered w e w' ∧ Below w.heap.size w w'
end Go.Proofs.Ytananonjomfpkaa
/- The model draws a list of keys to sort. -/
namespace Go.Proofs.Ytananonjomfpkaa
open Go.RowKit
def ListDrawn (w : World) (e : Ending) (w' : World) : Prop :=
 ∃ (v : Value) (ks : List Int), e = .returned v ∧ IntsOwn w' w.heap.size v ks ∧ ks.length ≤ 26 ∧ Below w.heap.size w w'
set_option maxHeartbeats 1000000 in
theorem drawSort_c {w : World} {B : Nat} {v : Value} {bs : List Nat} (h : BytesIn w B v bs) (w' : World) (hbw : Below B w w') (hB : B ≤ w'.heap.size) :
   Calls Try.prog 52 #[v] w' (ListDrawn w') := by
 have HO := Lib.hid (open_c h w' hbw hB)
 obtain ⟨va, vcap, rfl, -⟩ := h
 clear hbw
 go_enter Try.func52, Try.ntmps52
 go_wp2_with fail
 refine HO.out.mono ?_
 rintro e w1 ⟨rfl, ⟨bs', hr1⟩, hb1⟩
 have hrl1 := hr1.lt
 have hs1 := hb1.size
 have HD := Lib.hid (order_c w1 w'.heap.size w'.heap.size bs' 0 hr1 (by omega))
 have H1 := Lib.hid hb1
 clear hb1 hr1
 go_wp2_with fail
 refine HD.out.mono ?_
 rintro e w2 ⟨⟨wide, v2, ks, rfl, hwd, hown, hkl⟩, ho2⟩
 obtain ⟨oa, oc, rfl⟩ := IntsOwn.shown hown
 have H2 := Lib.hid (And.intro (IntsOwn.lower hown hs1) (H1.out.trans (ho2.below (B := w'.heap.size) hs1 (Nat.le_refl _))))
 clear hown ho2
 go_wp2_with fail
 exact bodyPost_ret (v := .slice oa ks.length oc) (by simp [results, Try.results52]) rfl ⟨_, ks, rfl, H2.out.1, hkl, H2.out.2⟩
end Go.Proofs.Ytananonjomfpkaa
