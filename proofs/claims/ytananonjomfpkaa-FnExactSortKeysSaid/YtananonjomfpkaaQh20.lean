/- The contract of the program's SortKeys. -/
import Derived.Test.YtananonjomfpkaaQhS26
/- The library's CompactFunc over a row of ints that ascends, and what the program makes of both. -/
namespace Go.Proofs.Ytananonjomfpkaa
open Go.RowKit
def eqFn (q : Nat) : Value := .func (.func 119) #[] #[.pointer (some ⟨q, 0, none⟩)]
set_option maxRecDepth 100000 in
set_option maxHeartbeats 4000000 in
theorem compact_c {w : World} {g cap q : Nat} {L : List Int} (h : RowC w g cap L) (hc : cap ≤ maxLen) (hn : L.length ≤ 1048576) (hqg : q < w.heap.size) (hne : q ≠ g) (hq : w.cell? ⟨q, 0, none⟩ = some (.func (.func 94) #[] #[])) :
   Calls Try.prog 118 #[.slice (some ⟨g, 0, none⟩) L.length cap, eqFn q] w fun e w' => e = .returned (.slice (some ⟨g, 0, none⟩) (dd L L.length).length cap) ∧ RowC w' g cap (dd L L.length) ∧ Only w.heap.size g w w' := by
 unfold eqFn
 have HR := Lib.hid h
 have hlc : L.length ≤ cap := by obtain ⟨cur, h1, h2, h3, h4⟩ := h; exact h3
 unfold maxLen at hc
 have HQ : Hid (∀ wx : World, Only w.heap.size g w wx → wx.cell? ⟨q, 0, none⟩ = some (.func (.func 94) #[] #[])) := Lib.hid (fun wx hx => (by have h1 := hx.block q hqg hne; simp only [World.cell?, h1] at hq ⊢; exact hq))
 clear h hq
 by_cases h2 : L.length < 2
 · have hdd : dd L L.length = L := by
     match L, h2 with
     | [], _ => rfl
     | [a], _ => simp [dd]
   have HD := Lib.hid hdd
   have hl2 : (L.length : Int) < 2 := by omega
   clear hdd
   go_enter Try.func118, Try.ntmps118
   go_wp2_with fail
   go_ret
   exact ⟨by rw [HD.out]; rfl, by rw [HD.out]; exact HR.out, Only.refl _ _ _⟩
 · have hl2 : ¬ (L.length : Int) < 2 := by omega
   go_enter Try.func118, Try.ntmps118
   go_wp2_with fail
   go_loopw [5] (fun s5 wr => ∃ k : Nat, 1 ≤ k ∧ k ≤ L.length ∧ s5 = .int .i64 k ∧ RowC wr g cap L ∧ Only w.heap.size g w wr ∧ dd L k = L.take k) (fun s5 _ => L.length - (intOf s5).toNat)
   case atStart => exact ⟨1, Nat.le_refl _, by omega, rfl, HR.out, Only.refl _ _ _, by
     match L, h2 with
     | a :: b :: r, _ => simp [dd]
     | [], h => simp at h
     | [a], h => simp at h⟩
   case round =>
     obtain ⟨k, hk1, hk2, rfl, hrow, hon, hdk⟩ := hrel
     have HW := Lib.hid (And.intro hrow (And.intro hon hdk))
     by_cases hlt : k < L.length
     · have hkl : (k : Int) < (L.length : Int) := by omega
       obtain ⟨p, hp⟩ : ∃ p, p + 1 = k := ⟨k - 1, by omega⟩
       have hc1 := (hrow.cell k hlt).1
       have hc2 := (hrow.cell p (by omega)).1
       have hwr1 : IntKind.i64.wrap ((k : Int) - 1) = (p : Int) := by rw [IntKind.wrap_i64]; omega
       have hpl : (p : Int) < (L.length : Int) := by omega
       have hp0 : (0 : Int) ≤ (p : Int) := by omega
       have hk0 : (0 : Int) ≤ (k : Int) := by omega
       have HWD := Lib.hid (show RowC wr.drew g cap L ∧ Only w.heap.size g w wr.drew from ⟨hrow.same rfl, hon.trans ⟨rfl, rfl, rfl, Nat.le_refl _, fun _ _ _ => rfl⟩⟩)
       have HK := Lib.hid (show k ≠ 0 ∧ k - 1 = p from ⟨by omega, by omega⟩)
       have HP := Lib.hid hp
       clear hrow hon hdk hp
       obtain ⟨x, hx⟩ : ∃ x, x = L.getD k 0 := ⟨_, rfl⟩
       obtain ⟨y, hy⟩ : ∃ y, y = L.getD p 0 := ⟨_, rfl⟩
       rw [← hx] at hc1
       rw [← hy] at hc2
       have HXY := Lib.hid (And.intro hx hy)
       clear hx hy
       go_wp2_with fail
       go_region_held3 (fun z => z.cell? ⟨g, k, none⟩ = some (.int .i64 x) ∧ z.cell? ⟨g, p, none⟩ = some (.int .i64 y))
         (first | exact ⟨hc1, hc2⟩ | go_keep)
         (first
           | (go_at_call 119; refine (eqClos_c x y q wr.drew (HQ.out wr.drew HWD.out.2)).mono ?_; rintro e w6 ⟨rfl, hw6⟩; subst hw6))
       by_cases hxy : x = y
       · have hxe : decide (x = y) = true := by simp [hxy]
         rw [hxe]
         have HDD := Lib.hid (show dd L (k + 1) = L.take k by rw [dd_one HK.out.1 (by rw [HK.out.2, ← HXY.out.1, ← HXY.out.2, hxy]), HW.out.2.2])
         clear hxe hxy hc1 hc2
         have hkc : (k : Int) ≤ (cap : Int) := by omega
         go_wp2_with fail
         go_loopw [5, 7] (fun s5 s7 wx => ∃ (kk k2 : Nat) (C : List Int), s5 = .int .i64 kk ∧ s7 = .int .i64 k2 ∧ 1 ≤ k2 ∧ k + k2 ≤ L.length ∧ kk + 1 ≤ k + k2 ∧ C.length = L.length ∧ RowC wx g cap C ∧ Only w.heap.size g w wx ∧
           Hid (C.take kk = dd L (k + k2) ∧ kk = (dd L (k + k2)).length ∧ ∀ i, k + k2 ≤ i + 1 → i < L.length → C.getD i 0 = L.getD i 0)) (fun _ s7 _ => L.length - (intOf s7).toNat)
         case atStart =>
           exact ⟨k, 1, L, rfl, rfl, Nat.le_refl _, by omega, Nat.le_refl _, rfl, HWD.out.1, HWD.out.2, Lib.hid ⟨HDD.out.symm, by rw [HDD.out, List.length_take]; omega, fun _ _ _ => rfl⟩⟩
         case round =>
           obtain ⟨kk, k2, C, rfl, rfl, hk21, hk22, hkk, hcl, hrow, hon, HC⟩ := hrel
           have HX := Lib.hid (And.intro hrow hon)
           by_cases hlt2 : k + k2 < L.length
           · obtain ⟨j2, hj2⟩ : ∃ j2, j2 + 1 = k2 := ⟨k2 - 1, by omega⟩
             have hcA := (hrow.cell (k + k2) (by omega)).1
             have hcB := (hrow.cell (k + j2) (by omega)).1
             obtain ⟨hcC, hcF⟩ := hrow.cell kk (by omega)
             rw [HC.out.2.2 (k + k2) (by omega) hlt2] at hcA
             rw [HC.out.2.2 (k + j2) (by omega) (by omega)] at hcB
             obtain ⟨u, hu⟩ : ∃ u, u = L.getD (k + k2) 0 := ⟨_, rfl⟩
             obtain ⟨v, hv⟩ : ∃ v, v = L.getD (k + j2) 0 := ⟨_, rfl⟩
             rw [← hu] at hcA
             rw [← hv] at hcB
             generalize C.getD kk 0 = old at hcC
             have hw2 : IntKind.i64.wrap ((k2 : Int) - 1) = (j2 : Int) := by rw [IntKind.wrap_i64]; omega
             have hb1 : (k2 : Int) < ((L.length - k : Nat) : Int) := by omega
             have hb2 : (j2 : Int) < ((L.length - k : Nat) : Int) := by omega
             have hb3 : (0 : Int) ≤ (j2 : Int) := by omega
             have hb4 : (0 : Int) ≤ (k2 : Int) := by omega
             have hb5 : (kk : Int) < (L.length : Int) := by omega
             have hb6 : (0 : Int) ≤ (kk : Int) := by omega
             have HUV := Lib.hid (show u = L.getD (k + k2) 0 ∧ v = L.getD (k + k2 - 1) 0 from ⟨hu, by rw [hv, show k + k2 - 1 = k + j2 by omega]⟩)
             have HXD := Lib.hid (show RowC wr.drew g cap C ∧ Only w.heap.size g w wr.drew from ⟨hrow.same rfl, hon.trans ⟨rfl, rfl, rfl, Nat.le_refl _, fun _ _ _ => rfl⟩⟩)
             clear hrow hon hu hv
             go_wp2_with fail
             go_region_held3 (fun z => z.cell? ⟨g, k + k2, none⟩ = some (.int .i64 u) ∧ z.cell? ⟨g, k + j2, none⟩ = some (.int .i64 v))
               (first | exact ⟨hcA, hcB⟩ | go_keep)
               (first
                 | (go_at_call 119; refine (eqClos_c u v q wr.drew (HQ.out wr.drew HXD.out.2)).mono ?_; rintro e w6 ⟨rfl, hw6⟩; subst hw6))
             by_cases huv : u = v
             · have hue : decide (u = v) = true := by simp [huv]
               rw [hue]
               have HDE := Lib.hid (show dd L (k + (k2 + 1)) = dd L (k + k2) from dd_one (k := k + k2) (by omega) (by rw [← HUV.out.1, ← HUV.out.2, huv]))
               clear hue huv hcA hcB hcC hcF
               go_wp2_with fail
               go_roundw
               case rel => exact ⟨kk, k2 + 1, C, rfl, by go_num, by omega, by omega, by omega, hcl, HXD.out.1, HXD.out.2, Lib.hid ⟨by rw [HDE.out]; exact HC.out.1, by rw [HDE.out]; exact HC.out.2.1, fun i h1 h2 => HC.out.2.2 i (by omega) h2⟩⟩
               case measure => simp [intOf]; omega
             · have hue : decide (u = v) = false := by simp [huv]
               rw [hue]
               have HDE := Lib.hid (show dd L (k + (k2 + 1)) = dd L (k + k2) ++ [u] by rw [HUV.out.1]; exact dd_more (k := k + k2) (by rw [← HUV.out.1, ← HUV.out.2]; exact huv))
               have hcA' : wr.drew.cell? ⟨g, k + k2, none⟩ = some (.int .i64 u) := hcA
               have hcC' : wr.drew.cell? ⟨g, kk, none⟩ = some (.int .i64 old) := hcC
               have hcF' : wr.drew.frozen? ⟨g, kk, none⟩ = false := hcF
               clear hue huv hcA hcB hcC hcF
               go_wp2_with fail
               go_roundw
               case rel =>
                 refine ⟨kk + 1, k2 + 1, C.set kk u, by go_num, by go_num, by omega, by omega, by omega, by rw [List.length_set]; exact hcl, ?_, ?_, Lib.hid ⟨?_, ?_, fun i h1 h2 => ?_⟩⟩
                 · exact (HXD.out.1.put kk (by omega) u).same rfl
                 · exact HXD.out.2.trans ⟨rfl, rfl, rfl, by simp, fun b _ hbn => set_other _ _ _ _ _ hbn⟩
                 · rw [HDE.out, ← HC.out.1, List.take_add_one, List.take_set_of_le (Nat.le_refl _), List.getElem?_set, if_pos rfl, if_pos (by omega)]
                   rfl
                 · rw [HDE.out, List.length_append, ← HC.out.2.1]
                   rfl
                 · rw [List.getD_eq_getElem?_getD, List.getElem?_set, if_neg (by omega), ← List.getD_eq_getElem?_getD]
                   exact HC.out.2.2 i (by omega) h2
               case measure => simp [intOf]; omega
           · have hpe : k + k2 = L.length := by omega
             obtain ⟨M, hM⟩ : ∃ M, M = L.length - kk := ⟨_, rfl⟩
             have hcl' : ∀ ty, (Builtin.clear_ #[23] ty #[.slice (some ⟨g, kk, none⟩) (L.length - kk) (cap - kk)]).run Try.prog wr = .ok (.tuple #[]) (wr.setCells g kk (List.replicate (L.length - kk) (.int .i64 0))) := fun ty =>
               Lib.run_clear_slice wr _ _ ty _ Try.underlying23 (fun w => Try.zeroValue3 w) rfl rfl g kk _ _ (by omega) (fun j hj => by rw [(hrow.cell (kk + j) (by omega)).1]; rfl) (fun j hj => (hrow.cell (kk + j) (by omega)).2)
             obtain ⟨hw1, hw2⟩ := RowC.wiped (List.replicate (L.length - kk) (.int .i64 0)) kk wr (L := C.take kk) (by rw [List.length_take]; omega) (hrow.cut kk (by omega))
             have HWP := Lib.hid (And.intro hw1 hw2)
             have HDF := Lib.hid (show C.take kk = dd L L.length ∧ kk = (dd L L.length).length by have h := HC.out; rw [hpe] at h; exact ⟨h.1, h.2.1⟩)
             have hb7 : (kk : Int) ≤ (L.length : Int) := by omega
             have hb8 : (kk : Int) ≤ (cap : Int) := by omega
             have hb9 : (0 : Int) ≤ (kk : Int) := by omega
             have hb10 : ¬ (k2 : Int) < ((L.length - k : Nat) : Int) := by omega
             clear hrow hon hw1 hw2 hM
             go_wp2_with fail
             go_ret
             have hoo := HX.out.2.trans (HWP.out.2.mono HX.out.2.size)
             have hrr := HWP.out.1
             rw [HDF.out.1] at hrr
             exact ⟨by rw [← HDF.out.2]; rfl, hrr, hoo⟩
       · have hxe : decide (x = y) = false := by simp [hxy]
         rw [hxe]
         have HDD := Lib.hid (show dd L (k + 1) = L.take (k + 1) by
           rw [dd_more (by rw [HK.out.2, ← HXY.out.1, ← HXY.out.2]; exact hxy), HW.out.2.2, List.take_add_one, List.getElem?_eq_getElem hlt, List.getD_eq_getElem?_getD, List.getElem?_eq_getElem hlt]
           rfl)
         clear hxe hxy hc1 hc2
         go_wp2_with fail
         go_roundw
         case rel => exact ⟨k + 1, by omega, by omega, by go_num, HWD.out.1, HWD.out.2, HDD.out⟩
         case measure => simp [intOf]; omega
     · have hke : k = L.length := by omega
       have hkl : ¬ (k : Int) < (L.length : Int) := by omega
       have HD := Lib.hid (show dd L L.length = L by have h := HW.out.2.2; rw [hke, List.take_length] at h; exact h)
       clear hrow hon hdk hke
       go_wp2_with fail
       go_ret
       exact ⟨by rw [HD.out]; rfl, by rw [HD.out]; exact HW.out.1, HW.out.2.1⟩
end Go.Proofs.Ytananonjomfpkaa
/- The contract of the program's SortKeys. -/
namespace Go.Proofs.Ytananonjomfpkaa
open Go.RowKit
theorem compact_none (p : Option Addr) (cap : Nat) (fv : Value) (w : World) :
   Calls Try.prog 118 #[.slice p 0 cap, fv] w fun e w' => e = .returned (.slice p 0 cap) ∧ w' = w := by
 go_enter Try.func118, Try.ntmps118
 go_wp2_with fail
 go_ret
 exact ⟨rfl, rfl⟩
theorem sort_none (p : Option Addr) (cap : Nat) (fv : Value) (w : World) :
   Calls Try.prog 117 #[.slice p 0 cap, fv] w fun e w' => e = .returned (.tuple #[]) ∧ w' = w := by
 have h := Go.Proofs.AnyF.slices_SortFunc_none (P := Try.prog) (ρ := sortRen) { sortLay with } p cap fv w
 exact h
theorem sorted_is {ks : List Int} (h : keysOk ks = true) : dd (ks.mergeSort fun x y => decide (x ≤ y)) ks.length = sortL ks := by
 have hs : (ks.mergeSort fun x y => decide (x ≤ y)).Pairwise (· ≤ ·) := by
   have h0 := List.pairwise_mergeSort (le := fun x y : Int => decide (x ≤ y)) (fun a b c h1 h2 => by simp at *; omega) (fun a b => by simp; omega) ks
   exact h0.imp (fun h => by simpa using h)
 have hl : (ks.mergeSort fun x y => decide (x ≤ y)).length = ks.length := List.length_mergeSort _
 obtain ⟨h1, h2, -⟩ := dd_facts hs ks.length (by omega)
 rw [← hl, List.take_length, hl] at h2
 have e : sortL ks = sortedTo ks 100 := by simp [sortL, h]
 rw [e]
 refine sorted_ext _ _ h1 (sorted_sortedTo ks 100) (fun x => ?_)
 rw [h2 x, mem_sortedTo, List.mem_mergeSort]
 refine ⟨fun hx => ?_, fun hx => hx.1⟩
 have hb : ∀ y ∈ ks, 0 ≤ y ∧ y ≤ 99 := fun y hy => by
   obtain ⟨i, hi, rfl⟩ := List.mem_iff_getElem.1 hy
   have := (keysOk_at h).1 i hi
   rw [List.getD_eq_getElem?_getD, List.getElem?_eq_getElem hi] at this
   simp only [inB, Bool.and_eq_true, decide_eq_true_eq, Option.getD_some] at this
   exact this
 have := hb x hx
 exact ⟨hx, by omega, by omega⟩
set_option maxRecDepth 100000 in
set_option maxHeartbeats 2000000 in
theorem ascending_c {v : Value} {ks : List Int} (w : World) (hk : IntsAt w v ks) (hko : keysOk ks = true) :
   Calls Try.prog 93 #[v, .func (.func 94) #[] #[]] w fun e w' => ∃ v', e = .returned v' ∧ IntsOwn w' w.heap.size v' (sortL ks) ∧ Below w.heap.size w w' := by
 have hn := keysOk_few hko
 have hdd := sorted_is hko
 obtain ⟨W1, hW1⟩ : ∃ W1, W1 = w.alloc (.cells #[.func (.func 94) #[] #[]] 122) := ⟨_, rfl⟩
 have hs1 : W1.heap.size = w.heap.size + 1 := by rw [hW1]; simp
 have hb1 : Below w.heap.size w W1 := by rw [hW1]; exact (Below.refl _ _).alloc (Nat.le_refl _) _
 have kb : W1.heap[w.heap.size]? = some (.cells #[.func (.func 94) #[] #[]] 122 (0, 0)) := by rw [hW1, new_blk]
 have HW1 := Lib.hid hW1
 have hkt : IntsAt W1 v ks := by
   obtain ⟨a, cap, hv, hnl, h3⟩ := hk
   refine ⟨a, cap, hv, hnl, ?_⟩
   rcases h3 with h3 | ⟨b, o, h4, h5⟩
   · exact .inl h3
   · by_cases h0 : ks = []
     · exact .inl h0
     · refine .inr ⟨b, o, h4, fun i hi => ?_⟩
       have hlt := World.block_lt_of_cell? w ⟨b, o + 0, none⟩ (h5 0 (List.length_pos_iff.2 h0))
       rw [below_cell hb1 hlt]
       exact h5 i hi
 have hv : ∃ a c, v = .slice a ks.length c := by obtain ⟨a, cap, hv, -⟩ := hk; exact ⟨a, cap, hv⟩
 obtain ⟨va, vc, rfl⟩ := hv
 have HCL := Lib.hid (clone_c W1 hkt (by omega))
 have H1 := Lib.hid (And.intro hb1 kb)
 have HDD := Lib.hid hdd
 clear hW1 hb1 kb hk hkt hdd
 go_enter Try.func93, Try.ntmps93
 go_wp2_with fail
 rw [← HW1.out]
 refine HCL.out.mono ?_
 rintro e w2 ⟨v2, rfl, hown2, hb2⟩
 have hs2 := hb2.size
 have hkb2 := (hb2.block w.heap.size (by omega)).trans H1.out.2
 have hcell : ∀ wx : World, wx.heap[w.heap.size]? = w2.heap[w.heap.size]? → wx.cell? ⟨w.heap.size, 0, none⟩ = some (.func (.func 94) #[] #[]) ∧ wx.frozen? ⟨w.heap.size, 0, none⟩ = false := fun wx hx => by
   have h := hx.trans hkb2
   exact ⟨by simp [World.cell?, h], by simp [World.frozen?, h]⟩
 have HCE := Lib.hid hcell
 have HB2 := Lib.hid hb2
 obtain ⟨x1, x2⟩ := hcell w2 rfl
 clear hb2 hkb2 hcell
 by_cases h0 : ks.length = 0
 · have hk0 : ks = [] := List.length_eq_zero_iff.1 h0
   have HE := Lib.hid (show sortL ks = [] by rw [hk0]; decide)
   have HSH := Lib.hid hown2
   obtain ⟨a2, c2, rfl⟩ := IntsOwn.shown hown2
   rw [h0]
   have HO := Lib.hid (show IntsOwn w2 w.heap.size (.slice a2 0 c2) [] by
     have h := IntsOwn.lower hown2 (show w.heap.size ≤ W1.heap.size by omega)
     rw [hk0] at h
     exact h)
   clear hown2 h0 hk0 HSH
   go_wp2_with fail
   refine (sort_none _ _ _ w2).mono ?_
   rintro e w3 ⟨rfl, hw3⟩
   subst hw3
   go_wp2_with fail
   refine (compact_none _ _ _ w3).mono ?_
   rintro e w4 ⟨rfl, hw4⟩
   subst hw4
   go_wp2_with fail
   go_ret
   exact ⟨_, rfl, by rw [HE.out]; exact HO.out, H1.out.1.trans (HB2.out.mono (by omega))⟩
 · obtain ⟨g, cap, rfl, hg1, hg2, hcm, hrow⟩ := RowC.of_own hown2 h0
   have HSRT := Lib.hid (sort_c hrow hg1 hg2 hcm (by omega))
   have hne : w.heap.size ≠ g := by omega
   obtain ⟨S, hS⟩ : ∃ S, S = ks.mergeSort fun x y => decide (x ≤ y) := ⟨_, rfl⟩
   have hSl : S.length = ks.length := by rw [hS]; exact List.length_mergeSort _
   rw [← hS] at HSRT HDD
   clear hown2 hS
   go_wp2_with fail
   refine HSRT.out.mono ?_
   rintro e w3 ⟨rfl, hrow3, hb3, hk3⟩
   have hs3 := hb3.size
   have hce3 := HCE.out w3 (hk3 _ (by omega) hne)
   have HCO := Lib.hid (compact_c hrow3 hcm (by omega) (show w.heap.size < w3.heap.size by omega) hne hce3.1)
   unfold eqFn at HCO
   rw [hSl] at HCO
   have HB3 := Lib.hid hb3
   clear hrow3 hb3 hk3 hce3 x1 x2
   go_wp2_with fail
   refine HCO.out.mono ?_
   rintro e w4 ⟨rfl, hrow4, ho4⟩
   rw [HDD.out] at hrow4
   rw [HDD.out]
   have HO := Lib.hid (hrow4.own (lo := w.heap.size) (by omega) hcm)
   have HBL := Lib.hid (H1.out.1.trans ((HB2.out.mono (by omega)).trans ((HB3.out.mono (by omega)).trans (ho4.below (B := w.heap.size) (by omega) (by omega)))))
   clear hrow4 ho4
   go_wp2_with fail
   go_ret
   exact ⟨_, rfl, HO.out, HBL.out⟩
set_option maxRecDepth 100000 in
set_option maxHeartbeats 1000000 in
theorem impl_sortKeys {v : Value} {ks : List Int} (w : World) (B : Nat) (hk : IntsIn w B v ks) :
   Calls Try.prog 50 #[v] w fun e w' => ∃ v', e = .returned (.tuple #[v', .bool (keysOk ks)]) ∧ IntsOwn w' w.heap.size v' (sortL ks) ∧ Below w.heap.size w w' := by
 have HA := Lib.hid (areKeys_c w B hk)
 have HAT := Lib.hid (IntsIn.at hk)
 obtain ⟨a, cap, rfl, -⟩ := hk
 go_enter Try.func50, Try.ntmps50
 go_wp2_with fail
 refine HA.out.mono ?_
 rintro e w2 ⟨rfl, hw2⟩
 subst hw2
 cases hko : keysOk ks with
 | false =>
   have HS := Lib.hid (show sortL ks = [] by simp [sortL, hko])
   have HKO := Lib.hid hko
   clear hko
   go_wp2_with fail
   exact bodyPost_ret (v := .tuple #[.slice none 0 0, .bool false]) (by simp [results, Try.results50]) rfl ⟨_, by rw [HKO.out], by rw [HS.out]; exact ⟨rfl, .inl ⟨rfl, rfl⟩⟩, Below.refl _ _⟩
 | true =>
   have HKO := Lib.hid hko
   have HASC := Lib.hid (ascending_c w2 HAT.out hko)
   clear hko
   go_wp2_with fail
   refine HASC.out.mono ?_
   rintro e w3 ⟨v3, rfl, hown3, hb3⟩
   obtain ⟨a3, c3, rfl⟩ := IntsOwn.shown hown3
   have H3 := Lib.hid (And.intro hown3 hb3)
   clear hown3 hb3
   go_wp2_with fail
   exact bodyPost_ret (v := .tuple #[.slice a3 (sortL ks).length c3, .bool true]) (by simp [results, Try.results50]) rfl ⟨_, by rw [HKO.out], H3.out.1, H3.out.2⟩
end Go.Proofs.Ytananonjomfpkaa
