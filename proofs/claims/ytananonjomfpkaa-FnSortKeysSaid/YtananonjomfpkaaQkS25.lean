/- The library's CompactFunc over a row of ints that ascends, and what the program makes of both. -/
import Derived.Test.YtananonjomfpkaaQk25
namespace Go.Proofs.Ytananonjomfpkaa
open Go.RowKit
def eqFn (q : Nat) : Value := .func (.func 119) #[] #[.pointer (some ⟨q, 0, none⟩)]
set_option maxRecDepth 100000 in
set_option maxHeartbeats 4000000 in
theorem compact_c {w : World} {g cap q : Nat} {L : List Int} (h : RowC w g cap L) (hc : cap ≤ maxLen) (hn : L.length ≤ 1048576) (hqg : q < w.heap.size) (hne : q ≠ g) (hq : w.cell? ⟨q, 0, none⟩ = some (.func (.func 94) #[] #[])) :
   Calls Try.prog 118 #[.slice (some ⟨g, 0, none⟩) L.length cap, eqFn q] w fun e w' => e = .returned (.slice (some ⟨g, 0, none⟩) (dd L L.length).length cap) ∧ RowC w' g cap (dd L L.length) ∧ Only w.heap.size g w w' := by
 unfold eqFn
 have HR := Lib.hid h
 have hlc : L.length ≤ cap := by obtain ⟨cur, h1, h2, h3, h4⟩ := h; exact h3
 unfold maxLen at hc
 have HQ : Hid (∀ wx : World, Only w.heap.size g w wx → wx.cell? ⟨q, 0, none⟩ = some (.func (.func 94) #[] #[])) := Lib.hid (fun wx hx => (by have h1 := hx.block q hqg hne; simp only [World.cell?, h1] at hq ⊢; exact hq))
 clear h hq
 by_cases h2 : L.length < 2
 · have hdd : dd L L.length = L := by
     match L, h2 with
     | [], _ => rfl
     | [a], _ => simp [dd]
   have HD := Lib.hid hdd
   have hl2 : (L.length : Int) < 2 := by omega
   clear hdd
   go_enter Try.func118, Try.ntmps118
   go_wp2_with fail
   go_ret
   exact ⟨by rw [HD.out]; rfl, by rw [HD.out]; exact HR.out, Only.refl _ _ _⟩
 · have hl2 : ¬ (L.length : Int) < 2 := by omega
   go_enter Try.func118, Try.ntmps118
   go_wp2_with fail
   go_loopw [5] (fun s5 wr => ∃ k : Nat, 1 ≤ k ∧ k ≤ L.length ∧ s5 = .int .i64 k ∧ RowC wr g cap L ∧ Only w.heap.size g w wr ∧ dd L k = L.take k) (fun s5 _ => L.length - (intOf s5).toNat)
   case atStart => exact ⟨1, Nat.le_refl _, by omega, rfl, HR.out, Only.refl _ _ _, by
     match L, h2 with
     | a :: b :: r, _ => simp [dd]
     | [], h => simp at h
     | [a], h => simp at h⟩
   case round =>
     obtain ⟨k, hk1, hk2, rfl, hrow, hon, hdk⟩ := hrel
     have HW := Lib.hid (And.intro hrow (And.intro hon hdk))
     by_cases hlt : k < L.length
     · have hkl : (k : Int) < (L.length : Int) := by omega
       obtain ⟨p, hp⟩ : ∃ p, p + 1 = k := ⟨k - 1, by omega⟩
       have hc1 := (hrow.cell k hlt).1
       have hc2 := (hrow.cell p (by omega)).1
       have hwr1 : IntKind.i64.wrap ((k : Int) - 1) = (p : Int) := by rw [IntKind.wrap_i64]; omega
       have hpl : (p : Int) < (L.length : Int) := by omega
       have hp0 : (0 : Int) ≤ (p : Int) := by omega
       have hk0 : (0 : Int) ≤ (k : Int) := by omega
       have HWD := Lib.hid (show RowC wr.drew g cap L ∧ Only w.heap.size g w wr.drew from ⟨hrow.same rfl, hon.trans ⟨rfl, rfl, rfl, Nat.le_refl _, fun _ _ _ => rfl⟩⟩)
       have HK := Lib.hid (show k ≠ 0 ∧ k - 1 = p from ⟨by omega, by omega⟩)
       have HP := Lib.hid hp
       clear hrow hon hdk hp
       obtain ⟨x, hx⟩ : ∃ x, x = L.getD k 0 := ⟨_, rfl⟩
       obtain ⟨y, hy⟩ : ∃ y, y = L.getD p 0 := ⟨_, rfl⟩
       rw [← hx] at hc1
       rw [← hy] at hc2
       have HXY := Lib.hid (And.intro hx hy)
       clear hx hy
       go_wp2_with fail
       go_region_held3 (fun z => z.cell? ⟨g, k, none⟩ = some (.int .i64 x) ∧ z.cell? ⟨g, p, none⟩ = some (.int .i64 y))
         (first | exact ⟨hc1, hc2⟩ | go_keep)
         (first
           | (go_at_call 119; refine (eqClos_c x y q wr.drew (HQ.out wr.drew HWD.out.2)).mono ?_; rintro e w6 ⟨rfl, hw6⟩; subst hw6))
       by_cases hxy : x = y
       · have hxe : decide (x = y) = true := by simp [hxy]
         rw [hxe]
         have HDD := Lib.hid (show dd L (k + 1) = L.take k by rw [dd_one HK.out.1 (by rw [HK.out.2, ← HXY.out.1, ← HXY.out.2, hxy]), HW.out.2.2])
         clear hxe hxy hc1 hc2
         have hkc : (k : Int) ≤ (cap : Int) := by omega
         go_wp2_with fail
         go_loopw [5, 7] (fun s5 s7 wx => ∃ (kk k2 : Nat) (C : List Int), s5 = .int .i64 kk ∧ s7 = .int .i64 k2 ∧ 1 ≤ k2 ∧ k + k2 ≤ L.length ∧ kk + 1 ≤ k + k2 ∧ C.length = L.length ∧ RowC wx g cap C ∧ Only w.heap.size g w wx ∧
           Hid (C.take kk = dd L (k + k2) ∧ kk = (dd L (k + k2)).length ∧ ∀ i, k + k2 ≤ i + 1 → i < L.length → C.getD i 0 = L.getD i 0)) (fun _ s7 _ => L.length - (intOf s7).toNat)
         case atStart =>
           exact ⟨k, 1, L, rfl, rfl, Nat.le_refl _, by omega, Nat.le_refl _, rfl, HWD.out.1, HWD.out.2, Lib.hid ⟨HDD.out.symm, by rw [HDD.out, List.length_take]; omega, fun _ _ _ => rfl⟩⟩
         case round =>
           obtain ⟨kk, k2, C, rfl, rfl, hk21, hk22, hkk, hcl, hrow, hon, HC⟩ := hrel
           have HX := Lib.hid (And.intro hrow hon)
           by_cases hlt2 : k + k2 < L.length
           · obtain ⟨j2, hj2⟩ : ∃ j2, j2 + 1 = k2 := ⟨k2 - 1, by omega⟩
             have hcA := (hrow.cell (k + k2) (by omega)).1
             have hcB := (hrow.cell (k + j2) (by omega)).1
             obtain ⟨hcC, hcF⟩ := hrow.cell kk (by omega)
             rw [HC.out.2.2 (k + k2) (by omega) hlt2] at hcA
             rw [HC.out.2.2 (k + j2) (by omega) (by omega)] at hcB
             obtain ⟨u, hu⟩ : ∃ u, u = L.getD (k + k2) 0 := ⟨_, rfl⟩
             obtain ⟨v, hv⟩ : ∃ v, v = L.getD (k + j2) 0 := ⟨_, rfl⟩
             rw [← hu] at hcA
             rw [← hv] at hcB
             generalize C.getD kk 0 = old at hcC
             have hw2 : IntKind.i64.wrap ((k2 : Int) - 1) = (j2 : Int) := by rw [IntKind.wrap_i64]; omega
             have hb1 : (k2 : Int) < ((L.length - k : Nat) : Int) := by omega
             have hb2 : (j2 : Int) < ((L.length - k : Nat) : Int) := by omega
             have hb3 : (0 : Int) ≤ (j2 : Int) := by omega
             have hb4 : (0 : Int) ≤ (k2 : Int) := by omega
             have hb5 : (kk : Int) < (L.length : Int) := by omega
             have hb6 : (0 : Int) ≤ (kk : Int) := by omega
             have HUV := Lib.hid (show u = L.getD (k + k2) 0 ∧ v = L.getD (k + k2 - 1) 0 from ⟨hu, by rw [hv, show k + k2 - 1 = k + j2 by omega]⟩)
             have HXD := Lib.hid (show RowC wr.drew g cap C ∧ Only w.heap.size g w wr.drew from ⟨hrow.same rfl, hon.trans ⟨rfl, rfl, rfl, Nat.le_refl _, fun _ _ _ => rfl⟩⟩)
             clear hrow hon hu hv
             go_wp2_with fail
             go_region_held3 (fun z => z.cell? ⟨g, k + k2, none⟩ = some (.int .i64 u) ∧ z.cell? ⟨g, k + j2, none⟩ = some (.int .i64 v))
               (first | exact ⟨hcA, hcB⟩ | go_keep)
               (first
                 | (go_at_call 119; refine (eqClos_c u v q wr.drew (HQ.out wr.drew HXD.out.2)).mono ?_; rintro e w6 ⟨rfl, hw6⟩; subst hw6))
             by_cases huv : u = v
             · have hue : decide (u = v) = true := by simp [huv]
               rw [hue]
               have HDE := Lib.hid (show dd L (k + (k2 + 1)) = dd L (k + k2) from dd_one (k := k + k2) (by omega) (by rw [← HUV.out.1, ← HUV.out.2, huv]))
               clear hue huv hcA hcB hcC hcF
               go_wp2_with fail
               go_roundw
               case rel => exact ⟨kk, k2 + 1, C, rfl, by go_num, by omega, by omega, by omega, hcl, HXD.out.1, HXD.out.2, Lib.hid ⟨by rw [HDE.out]; exact HC.out.1, by rw [HDE.out]; exact HC.out.2.1, fun i h1 h2 => HC.out.2.2 i (by omega) h2⟩⟩
               case measure => simp [intOf]; omega
             · have hue : decide (u = v) = false := by simp [huv]
               rw [hue]
               have HDE := Lib.hid (show dd L (k + (k2 + 1)) = dd L (k + k2) ++ [u] by rw [HUV.out.1]; exact dd_more (k := k + k2) (by rw [← HUV.out.1, ← HUV.out.2]; exact huv))
               have hcA' : wr.drew.cell? ⟨g, k + k2, none⟩ = some (.int .i64 u) := hcA
               have hcC' : wr.drew.cell? ⟨g, kk, none⟩ = some (.int .i64 old) := hcC
               have hcF' : wr.drew.frozen? ⟨g, kk, none⟩ = false := hcF
               clear hue huv hcA hcB hcC hcF
               go_wp2_with fail
               go_roundw
               case rel =>
                 refine ⟨kk + 1, k2 + 1, C.set kk u, by go_num, by go_num, by omega, by omega, by omega, by rw [List.length_set]; exact hcl, ?_, ?_, Lib.hid ⟨?_, ?_, fun i h1 h2 => ?_⟩⟩
                 · exact (HXD.out.1.put kk (by omega) u).same rfl
                 · exact HXD.out.2.trans ⟨rfl, rfl, rfl, by simp, fun b _ hbn => set_other _ _ _ _ _ hbn⟩
                 · rw [HDE.out, ← HC.out.1, List.take_add_one, List.take_set_of_le (Nat.le_refl _), List.getElem?_set, if_pos rfl, if_pos (by omega)]
                   rfl
                 · rw [HDE.out, List.length_append, ← HC.out.2.1]
                   rfl
                 · rw [List.getD_eq_getElem?_getD, List.getElem?_set, if_neg (by omega), ← List.getD_eq_getElem?_getD]
                   exact HC.out.2.2 i (by omega) h2
               case measure => simp [intOf]; omega
           · have hpe : k + k2 = L.length := by omega
             obtain ⟨M, hM⟩ : ∃ M, M = L.length - kk := ⟨_, rfl⟩
             have hcl' : ∀ ty, (Builtin.clear_ #[23] ty #[.slice (some ⟨g, kk, none⟩) (L.length - kk) (cap - kk)]).run Try.prog wr = .ok (.tuple #[]) (wr.setCells g kk (List.replicate (L.length - kk) (.int .i64 0))) := fun ty =>
               Lib.run_clear_slice wr _ _ ty _ Try.underlying23 (fun w => Try.zeroValue3 w) rfl rfl g kk _ _ (by omega) (fun j hj => by rw [(hrow.cell (kk + j) (by omega)).1]; rfl) (fun j hj => (hrow.cell (kk + j) (by omega)).2)
             obtain ⟨hw1, hw2⟩ := RowC.wiped (List.replicate (L.length - kk) (.int .i64 0)) kk wr (L := C.take kk) (by rw [List.length_take]; omega) (hrow.cut kk (by omega))
             have HWP := Lib.hid (And.intro hw1 hw2)
             have HDF := Lib.hid (show C.take kk = dd L L.length ∧ kk = (dd L L.length).length by have h := HC.out; rw [hpe] at h; exact ⟨h.1, h.2.1⟩)
             have hb7 : (kk : Int) ≤ (L.length : Int) := by omega
             have hb8 : (kk : Int) ≤ (cap : Int) := by omega
             have hb9 : (0 : Int) ≤ (kk : Int) := by omega
             have hb10 : ¬ (k2 : Int) < ((L.length - k : Nat) : Int) := by omega
             clear hrow hon hw1 hw2 hM
             go_wp2_with fail
             go_ret
             have hoo := HX.out.2.trans (HWP.out.2.mono HX.out.2.size)
             have hrr := HWP.out.1
             rw [HDF.out.1] at hrr
             exact ⟨by rw [← HDF.out.2]; rfl, hrr, hoo⟩
       · have hxe : decide (x = y) = false := by simp [hxy]
         rw [hxe]
         have HDD := Lib.hid (show dd L (k + 1) = L.take (k + 1) by
           rw [dd_more (by rw [HK.out.2, ← HXY.out.1, ← HXY.out.2]; exact hxy), HW.out.2.2, List.take_add_one, List.getElem?_eq_getElem hlt, List.getD_eq_getElem?_getD, List.getElem?_eq_getElem hlt]
           rfl)
         clear hxe hxy hc1 hc2
         go_wp2_with fail
         go_roundw
         case rel => exact ⟨k + 1, by omega, by omega, by go_num, HWD.out.1, HWD.out.2, HDD.out⟩
         case measure => simp [intOf]; omega
     · have hke : k = L.length := by omega
       have hkl : ¬ (k : Int) < (L.length : Int) := by omega
       have HD := Lib.hid (show dd L L.length = L by have h := HW.out.2.2; rw [hke, List.take_length] at h; exact h)
       clear hrow hon hdk hke
       go_wp2_with fail
       go_ret
       exact ⟨by rw [HD.out]; rfl, by rw [HD.out]; exact HW.out.1, HW.out.2.1⟩
end Go.Proofs.Ytananonjomfpkaa
