/- Whether a list ascends: the laws' own function. -/
import Derived.Test.YtananonjomfpkaaQk19
import Derived.Test.YtananonjomfpkaaQkS25
/- The contract of the program's SortKeys. -/
namespace Go.Proofs.Ytananonjomfpkaa
open Go.RowKit
theorem compact_none (p : Option Addr) (cap : Nat) (fv : Value) (w : World) :
   Calls Try.prog 118 #[.slice p 0 cap, fv] w fun e w' => e = .returned (.slice p 0 cap) ∧ w' = w := by
 go_enter Try.func118, Try.ntmps118
 go_wp2_with fail
 go_ret
 exact ⟨rfl, rfl⟩
theorem sort_none (p : Option Addr) (cap : Nat) (fv : Value) (w : World) :
   Calls Try.prog 117 #[.slice p 0 cap, fv] w fun e w' => e = .returned (.tuple #[]) ∧ w' = w := by
 have h := Go.Proofs.AnyF.slices_SortFunc_none (P := Try.prog) (ρ := sortRen) { sortLay with } p cap fv w
 exact h
theorem sorted_is {ks : List Int} (h : keysOk ks = true) : dd (ks.mergeSort fun x y => decide (x ≤ y)) ks.length = sortL ks := by
 have hs : (ks.mergeSort fun x y => decide (x ≤ y)).Pairwise (· ≤ ·) := by
   have h0 := List.pairwise_mergeSort (le := fun x y : Int => decide (x ≤ y)) (fun a b c h1 h2 => by simp at *; omega) (fun a b => by simp; omega) ks
   exact h0.imp (fun h => by simpa using h)
 have hl : (ks.mergeSort fun x y => decide (x ≤ y)).length = ks.length := List.length_mergeSort _
 obtain ⟨h1, h2, -⟩ := dd_facts hs ks.length (by omega)
 rw [← hl, List.take_length, hl] at h2
 have e : sortL ks = sortedTo ks 100 := by simp [sortL, h]
 rw [e]
 refine sorted_ext _ _ h1 (sorted_sortedTo ks 100) (fun x => ?_)
 rw [h2 x, mem_sortedTo, List.mem_mergeSort]
 refine ⟨fun hx => ?_, fun hx => hx.1⟩
 have hb : ∀ y ∈ ks, 0 ≤ y ∧ y ≤ 99 := fun y hy => by
   obtain ⟨i, hi, rfl⟩ := List.mem_iff_getElem.1 hy
   have := (keysOk_at h).1 i hi
   rw [List.getD_eq_getElem?_getD, List.getElem?_eq_getElem hi] at this
   simp only [inB, Bool.and_eq_true, decide_eq_true_eq, Option.getD_some] at this
   exact this
 have := hb x hx
 exact ⟨hx, by omega, by omega⟩
set_option maxRecDepth 100000 in
set_option maxHeartbeats 2000000 in
theorem ascending_c {v : Value} {ks : List Int} (w : World) (hk : IntsAt w v ks) (hko : keysOk ks = true) :
   Calls Try.prog 93 #[v, .func (.func 94) #[] #[]] w fun e w' => ∃ v', e = .returned v' ∧ IntsOwn w' w.heap.size v' (sortL ks) ∧ Below w.heap.size w w' := by
 have hn := keysOk_few hko
 have hdd := sorted_is hko
 obtain ⟨W1, hW1⟩ : ∃ W1, W1 = w.alloc (.cells #[.func (.func 94) #[] #[]] 122) := ⟨_, rfl⟩
 have hs1 : W1.heap.size = w.heap.size + 1 := by rw [hW1]; simp
 have hb1 : Below w.heap.size w W1 := by rw [hW1]; exact (Below.refl _ _).alloc (Nat.le_refl _) _
 have kb : W1.heap[w.heap.size]? = some (.cells #[.func (.func 94) #[] #[]] 122 (0, 0)) := by rw [hW1, new_blk]
 have HW1 := Lib.hid hW1
 have hkt : IntsAt W1 v ks := by
   obtain ⟨a, cap, hv, hnl, h3⟩ := hk
   refine ⟨a, cap, hv, hnl, ?_⟩
   rcases h3 with h3 | ⟨b, o, h4, h5⟩
   · exact .inl h3
   · by_cases h0 : ks = []
     · exact .inl h0
     · refine .inr ⟨b, o, h4, fun i hi => ?_⟩
       have hlt := World.block_lt_of_cell? w ⟨b, o + 0, none⟩ (h5 0 (List.length_pos_iff.2 h0))
       rw [below_cell hb1 hlt]
       exact h5 i hi
 have hv : ∃ a c, v = .slice a ks.length c := by obtain ⟨a, cap, hv, -⟩ := hk; exact ⟨a, cap, hv⟩
 obtain ⟨va, vc, rfl⟩ := hv
 have HCL := Lib.hid (clone_c W1 hkt (by omega))
 have H1 := Lib.hid (And.intro hb1 kb)
 have HDD := Lib.hid hdd
 clear hW1 hb1 kb hk hkt hdd
 go_enter Try.func93, Try.ntmps93
 go_wp2_with fail
 rw [← HW1.out]
 refine HCL.out.mono ?_
 rintro e w2 ⟨v2, rfl, hown2, hb2⟩
 have hs2 := hb2.size
 have hkb2 := (hb2.block w.heap.size (by omega)).trans H1.out.2
 have hcell : ∀ wx : World, wx.heap[w.heap.size]? = w2.heap[w.heap.size]? → wx.cell? ⟨w.heap.size, 0, none⟩ = some (.func (.func 94) #[] #[]) ∧ wx.frozen? ⟨w.heap.size, 0, none⟩ = false := fun wx hx => by
   have h := hx.trans hkb2
   exact ⟨by simp [World.cell?, h], by simp [World.frozen?, h]⟩
 have HCE := Lib.hid hcell
 have HB2 := Lib.hid hb2
 obtain ⟨x1, x2⟩ := hcell w2 rfl
 clear hb2 hkb2 hcell
 by_cases h0 : ks.length = 0
 · have hk0 : ks = [] := List.length_eq_zero_iff.1 h0
   have HE := Lib.hid (show sortL ks = [] by rw [hk0]; decide)
   have HSH := Lib.hid hown2
   obtain ⟨a2, c2, rfl⟩ := IntsOwn.shown hown2
   rw [h0]
   have HO := Lib.hid (show IntsOwn w2 w.heap.size (.slice a2 0 c2) [] by
     have h := IntsOwn.lower hown2 (show w.heap.size ≤ W1.heap.size by omega)
     rw [hk0] at h
     exact h)
   clear hown2 h0 hk0 HSH
   go_wp2_with fail
   refine (sort_none _ _ _ w2).mono ?_
   rintro e w3 ⟨rfl, hw3⟩
   subst hw3
   go_wp2_with fail
   refine (compact_none _ _ _ w3).mono ?_
   rintro e w4 ⟨rfl, hw4⟩
   subst hw4
   go_wp2_with fail
   go_ret
   exact ⟨_, rfl, by rw [HE.out]; exact HO.out, H1.out.1.trans (HB2.out.mono (by omega))⟩
 · obtain ⟨g, cap, rfl, hg1, hg2, hcm, hrow⟩ := RowC.of_own hown2 h0
   have HSRT := Lib.hid (sort_c hrow hg1 hg2 hcm (by omega))
   have hne : w.heap.size ≠ g := by omega
   obtain ⟨S, hS⟩ : ∃ S, S = ks.mergeSort fun x y => decide (x ≤ y) := ⟨_, rfl⟩
   have hSl : S.length = ks.length := by rw [hS]; exact List.length_mergeSort _
   rw [← hS] at HSRT HDD
   clear hown2 hS
   go_wp2_with fail
   refine HSRT.out.mono ?_
   rintro e w3 ⟨rfl, hrow3, hb3, hk3⟩
   have hs3 := hb3.size
   have hce3 := HCE.out w3 (hk3 _ (by omega) hne)
   have HCO := Lib.hid (compact_c hrow3 hcm (by omega) (show w.heap.size < w3.heap.size by omega) hne hce3.1)
   unfold eqFn at HCO
   rw [hSl] at HCO
   have HB3 := Lib.hid hb3
   clear hrow3 hb3 hk3 hce3 x1 x2
   go_wp2_with fail
   refine HCO.out.mono ?_
   rintro e w4 ⟨rfl, hrow4, ho4⟩
   rw [HDD.out] at hrow4
   rw [HDD.out]
   have HO := Lib.hid (hrow4.own (lo := w.heap.size) (by omega) hcm)
   have HBL := Lib.hid (H1.out.1.trans ((HB2.out.mono (by omega)).trans ((HB3.out.mono (by omega)).trans (ho4.below (B := w.heap.size) (by omega) (by omega)))))
   clear hrow4 ho4
   go_wp2_with fail
   go_ret
   exact ⟨_, rfl, HO.out, HBL.out⟩
set_option maxRecDepth 100000 in
set_option maxHeartbeats 1000000 in
theorem impl_sortKeys {v : Value} {ks : List Int} (w : World) (B : Nat) (hk : IntsIn w B v ks) :
   Calls Try.prog 50 #[v] w fun e w' => ∃ v', e = .returned (.tuple #[v', .bool (keysOk ks)]) ∧ IntsOwn w' w.heap.size v' (sortL ks) ∧ Below w.heap.size w w' := by
 have HA := Lib.hid (areKeys_c w B hk)
 have HAT := Lib.hid (IntsIn.at hk)
 obtain ⟨a, cap, rfl, -⟩ := hk
 go_enter Try.func50, Try.ntmps50
 go_wp2_with fail
 refine HA.out.mono ?_
 rintro e w2 ⟨rfl, hw2⟩
 subst hw2
 cases hko : keysOk ks with
 | false =>
   have HS := Lib.hid (show sortL ks = [] by simp [sortL, hko])
   have HKO := Lib.hid hko
   clear hko
   go_wp2_with fail
   exact bodyPost_ret (v := .tuple #[.slice none 0 0, .bool false]) (by simp [results, Try.results50]) rfl ⟨_, by rw [HKO.out], by rw [HS.out]; exact ⟨rfl, .inl ⟨rfl, rfl⟩⟩, Below.refl _ _⟩
 | true =>
   have HKO := Lib.hid hko
   have HASC := Lib.hid (ascending_c w2 HAT.out hko)
   clear hko
   go_wp2_with fail
   refine HASC.out.mono ?_
   rintro e w3 ⟨v3, rfl, hown3, hb3⟩
   obtain ⟨a3, c3, rfl⟩ := IntsOwn.shown hown3
   have H3 := Lib.hid (And.intro hown3 hb3)
   clear hown3 hb3
   go_wp2_with fail
   exact bodyPost_ret (v := .tuple #[.slice a3 (sortL ks).length c3, .bool true]) (by simp [results, Try.results50]) rfl ⟨_, by rw [HKO.out], H3.out.1, H3.out.2⟩
end Go.Proofs.Ytananonjomfpkaa
/- Two lists that are the same: the laws' own function. -/
namespace Go.Proofs.Ytananonjomfpkaa
open Go.RowKit
set_option maxHeartbeats 1000000 in
theorem ftSame_c (ks : List Int) (v v' : Value) (w : World) (B : Nat) (hB : B ≤ w.heap.size) (hk : IntsIn w B v ks) (hk' : IntsIn w B v' ks) :
   Calls Try.prog 23 #[v, v'] w fun e w' => e = .returned (.bool true) ∧ Below w.heap.size w w' := by
 obtain ⟨a, cap, rfl, h1, h2, _, h3⟩ := hk
 obtain ⟨a', cap', rfl, h1', h2', _, h3'⟩ := hk'
 unfold maxLen at h2 h2'
 have HK := Lib.hid h3
 have HK' := Lib.hid h3'
 clear h3 h3'
 have heq : ((ks.length : Int) == ks.length) = true := by simp
 have hmin : min (ks.length : Int) (ks.length : Int) = (ks.length : Int) := by simp
 go_enter Try.func23, Try.ntmps23
 go_wp2_with fail
 go_loopw [5, 11] (fun s5 i wr => ∃ (j : Nat), j ≤ ks.length ∧ i = .int .i64 j ∧ Below w.heap.size w wr) (fun _ i _ => ks.length - (intOf i).toNat)
 case atStart => exact ⟨0, Nat.zero_le _, rfl, Below.refl _ _⟩
 case round =>
   obtain ⟨j, hj, rfl, hbel⟩ := hrel
   by_cases hlt : j < ks.length
   · rcases HK.out with h | ⟨b, off, rfl, hb, hat⟩
     · simp [h] at hlt
     rcases HK'.out with h | ⟨b', off', rfl, hb', hat'⟩
     · simp [h] at hlt
     have ha1 : wr.cell? ⟨b, off + j, none⟩ = some (.int .i64 (ks.getD j 0)) := by rw [below_cell hbel (by omega)]; exact hat j hlt
     have ha2 : wr.cell? ⟨b', off' + j, none⟩ = some (.int .i64 (ks.getD j 0)) := by rw [below_cell hbel (by omega)]; exact hat' j hlt
     have hne2 : ((ks.getD j 0 : Int) != ks.getD j 0) = false := by simp
     have hjl : (j : Int) < (ks.length : Int) := by omega
     clear hat hat'
     generalize ks.getD j 0 = x at ha1 ha2 hne2
     go_wp2_with fail
     go_quiet (fail)
     go_wp2_with fail
     go_roundw
     case rel => exact ⟨j + 1, by omega, by go_num, below_drewN hbel _⟩
     case measure => simp [intOf]; omega
   · obtain rfl : j = ks.length := by omega
     have hjl : ¬ ((ks.length : Nat) : Int) < (ks.length : Int) := by omega
     go_wp2_with fail
     go_ret
     exact ⟨rfl, hbel⟩
end Go.Proofs.Ytananonjomfpkaa
/- Whether a list has a number: the laws' own function. -/
namespace Go.Proofs.Ytananonjomfpkaa
open Go.RowKit
set_option maxHeartbeats 1000000 in
theorem ftHas_c (ks : List Int) (n : Int) (v : Value) (w : World) (B : Nat) (hB : B ≤ w.heap.size) (hk : IntsIn w B v ks) :
   Calls Try.prog 44 #[v, .int .i64 n] w fun e w' => e = .returned (.bool (decide (n ∈ ks))) ∧ Below w.heap.size w w' := by
 obtain ⟨a, cap, rfl, h1, h2, _, h3⟩ := hk
 unfold maxLen at h2
 have HK := Lib.hid h3
 clear h3
 go_enter Try.func44, Try.ntmps44
 go_wp2_with fail
 go_loopw [6, 9] (fun s6 i wr => ∃ (j : Nat), j ≤ ks.length ∧ i = .int .i64 j ∧ Hid (n ∉ ks.take j) ∧ Below w.heap.size w wr) (fun _ i _ => ks.length - (intOf i).toNat)
 case atStart => exact ⟨0, Nat.zero_le _, rfl, Lib.hid (by simp), Below.refl _ _⟩
 case round =>
   obtain ⟨j, hj, rfl, HN, hbel⟩ := hrel
   by_cases hlt : j < ks.length
   · rcases HK.out with h | ⟨b, off, rfl, hb, hat⟩
     · simp [h] at hlt
     have ha1 : wr.cell? ⟨b, off + j, none⟩ = some (.int .i64 (ks.getD j 0)) := by rw [below_cell hbel (by omega)]; exact hat j hlt
     have hjl : (j : Int) < (ks.length : Int) := by omega
     have HM : Hid (ks.getD j 0 ∈ ks ∧ ∀ m, m ∈ ks.take (j + 1) ↔ m ∈ ks.take j ∨ m = ks.getD j 0) := Lib.hid (by
       have e : ks.getD j 0 = ks[j] := by simp [List.getD_eq_getElem?_getD, hlt]
       refine ⟨by rw [e]; exact List.getElem_mem hlt, fun m => ?_⟩
       rw [List.take_succ_eq_append_getElem hlt, e, List.mem_append, List.mem_singleton])
     clear hat
     generalize ks.getD j 0 = x at ha1 HM
     by_cases hx : x = n
     · subst hx
       have hD : decide (x ∈ ks) = true := by simp [HM.out.1]
       have hxx : (x == x) = true := by simp
       have HD := Lib.hid hD
       clear hD
       go_wp2_with fail
       go_ret
       exact ⟨ret_bool HD.out.symm, hbel⟩
     · have hxn : (x == n) = false := by simp [hx]
       have HN' : Hid (n ∉ ks.take (j + 1)) := Lib.hid (fun h => ((HM.out.2 n).1 h).elim HN.out (fun e => hx e.symm))
       clear hx
       go_wp2_with fail
       go_roundw
       case rel => exact ⟨j + 1, by omega, by go_num, HN', hbel⟩
       case measure => simp [intOf]; omega
   · obtain rfl : j = ks.length := by omega
     have hjl : ¬ ((ks.length : Nat) : Int) < (ks.length : Int) := by omega
     have hD : decide (n ∈ ks) = false := by have := HN.out; rw [List.take_length] at this; simp [this]
     have HD := Lib.hid hD
     clear hD
     go_wp2_with fail
     go_ret
     exact ⟨ret_bool HD.out.symm, hbel⟩
end Go.Proofs.Ytananonjomfpkaa
/- Whether a list ascends: the laws' own function. -/
namespace Go.Proofs.Ytananonjomfpkaa
open Go.RowKit
set_option maxHeartbeats 1000000 in
theorem ftSorted_c (ks : List Int) (hp : ks.Pairwise (· < ·)) (v : Value) (w : World) (B : Nat) (hB : B ≤ w.heap.size) (hk : IntsIn w B v ks) :
   Calls Try.prog 53 #[v] w fun e w' => e = .returned (.bool true) ∧ Below w.heap.size w w' := by
 obtain ⟨a, cap, rfl, h1, h2, _, h3⟩ := hk
 unfold maxLen at h2
 have HK := Lib.hid h3
 have hlt : ∀ j, 0 < j → j < ks.length → ks.getD (j - 1) 0 < ks.getD j 0 := fun j h0 hj => by
   have := List.pairwise_iff_getElem.1 hp (j - 1) j (by omega) hj (by omega)
   rw [List.getD_eq_getElem?_getD, List.getD_eq_getElem?_getD, List.getElem?_eq_getElem hj, List.getElem?_eq_getElem (by omega)]
   exact this
 have HP := Lib.hid hlt
 clear h3 hp hlt
 go_enter Try.func53, Try.ntmps53
 go_wp2_with fail
 go_loopw [3, 6] (fun s3 i wr => ∃ (j : Nat), j ≤ ks.length ∧ i = .int .i64 j ∧ Below w.heap.size w wr) (fun _ i _ => ks.length - (intOf i).toNat)
 case atStart => exact ⟨0, Nat.zero_le _, rfl, Below.refl _ _⟩
 case round =>
   obtain ⟨j, hj, rfl, hbel⟩ := hrel
   by_cases hlt : j < ks.length
   · have hjl : (j : Int) < (ks.length : Int) := by omega
     rcases j with _ | m
     · have h00 : decide ((0 : Int) > 0) = false := by decide
       go_wp2_with fail
       go_quiet (fail)
       go_wp2_with fail
       go_roundw
       case rel => exact ⟨1, by omega, by go_num, below_drewN hbel _⟩
       case measure => simp [intOf]; omega
     rcases HK.out with h | ⟨b, off, rfl, hb, hat⟩
     · simp [h] at hlt
     have ha1 : wr.cell? ⟨b, off + m, none⟩ = some (.int .i64 (ks.getD m 0)) := by rw [below_cell hbel (by omega)]; exact hat m (by omega)
     have ha2 : wr.cell? ⟨b, off + (m + 1), none⟩ = some (.int .i64 (ks.getD (m + 1) 0)) := by rw [below_cell hbel (by omega)]; exact hat (m + 1) hlt
     have hxy := HP.out (m + 1) (by omega) hlt
     rw [show m + 1 - 1 = m by omega] at hxy
     clear hat
     generalize ks.getD m 0 = x at ha1 hxy
     generalize ks.getD (m + 1) 0 = y at ha2 hxy
     have hge : decide (x ≥ y) = false := by simp <;> omega
     have hg0 : decide (((m + 1 : Nat) : Int) > 0) = true := by simp <;> omega
     have hwr : IntKind.i64.wrap (((m + 1 : Nat) : Int) - 1) = (m : Int) := by rw [IntKind.wrap_i64]; omega
     have hml : (m : Int) < (ks.length : Int) := by omega
     clear hxy
     go_wp2_with fail
     go_quiet (fail)
     go_wp2_with fail
     go_roundw
     case rel => exact ⟨m + 1 + 1, by omega, by go_num, below_drewN hbel _⟩
     case measure => simp [intOf]; omega
   · obtain rfl : j = ks.length := by omega
     have hjl : ¬ ((ks.length : Nat) : Int) < (ks.length : Int) := by omega
     go_wp2_with fail
     go_ret
     exact ⟨rfl, hbel⟩
end Go.Proofs.Ytananonjomfpkaa
