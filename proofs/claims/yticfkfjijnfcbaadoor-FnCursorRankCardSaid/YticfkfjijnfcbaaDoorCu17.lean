/- Finding: the closures lessThan and notMoreThan, the place that a binary search finds by them. -/
import Derived.Test.YticfkfjijnfcbaaDoorCuS18
/- The key at which a walker stands. -/
namespace Go.Proofs.YticfkfjijnfcbaaDoor
open Go.RowKit
set_option maxHeartbeats 1000000 in
set_option maxRecDepth 100000 in
theorem lowest_c {w : World} {b D : Nat} {f : Nat → Value × Int} (h : Walker w b f (D + 1)) (hD : D < 6) :
   Calls Tryd.prog 108 #[.pointer (some ⟨b, 0, none⟩)] w fun e w' => e = .returned (.pointer (some ⟨b, D * 2, none⟩)) ∧ Below w.heap.size w w' ∧ w'.heap = w.heap := by
 obtain ⟨C, hx, hC, h12, hat⟩ := h.blk
 have x1 : w.cell? ⟨b, 12, none⟩ = some (.int .i64 ((D : Int) + 1)) := by simp [World.cell?, hx, h12]
 have hDi : (D : Int) < 6 := by omega
 have hD0 : (0 : Int) ≤ (D : Int) := by omega
 have hwr : IntKind.i64.wrap ((D : Int) + 1 - 1) = (D : Int) := by rw [IntKind.wrap_i64]; omega
 have hsub : (D : Int) + 1 - 1 = (D : Int) := by omega
 clear h hx hC h12 hat
 go_enter Tryd.func108, Tryd.ntmps108
 go_wp2_with fail
 go_quiet (fail)
 go_wp2_with fail
 go_ret
 refine ⟨?_, ?_, ?_⟩
 · first | rfl | simp
 · first | exact drewN_below _ _ _ | exact Below.refl _ _
 · rfl
set_option maxHeartbeats 1000000 in
set_option maxRecDepth 100000 in
theorem key_c {w : World} {b D p lo hi : Nat} {f : Nat → Value × Int} {a : Int} {k : List Int} {c : List Tr} (h : Walker w b f (D + 1)) (hD : D < 6) (hf : f D = (.pointer (some ⟨p, 0, none⟩), a)) (hn : NodeAt w lo hi p (.mk k c)) (ha : 0 ≤ a ∧ a < (k.length : Int)) :
   Calls Tryd.prog 82 #[.pointer (some ⟨b, 0, none⟩)] w fun e w' => e = .returned (.int .i64 (k.getD a.toNat 0)) ∧ Below w.heap.size w w' := by
 have HLW := Lib.hid (lowest_c h hD)
 obtain ⟨C, hx, hC, h12, hat⟩ := h.blk
 obtain ⟨N, rfl⟩ : ∃ N : Nat, a = N := ⟨a.toNat, by omega⟩
 rw [Int.toNat_natCast]
 have hN : N < k.length := by omega
 have hd := hat D (by omega)
 rw [hf] at hd
 have hc1 : C[D * 2]? = some (.pointer (some ⟨p, 0, none⟩)) := by rw [show D * 2 = 2 * D by omega]; exact hd.1
 have hc2 : C[D * 2 + 1]? = some (.int .i64 (N : Int)) := by rw [show D * 2 + 1 = 2 * D + 1 by omega]; exact hd.2
 obtain ⟨ukv, ca, ccap, ps, -, -, hbox, hik, -, -, -, -⟩ := hn.parts
 obtain ⟨ka, kcap, rfl, hk1, hk2, -, hk3⟩ := hik
 unfold maxLen at hk2
 rcases hk3 with h0 | ⟨kb, ko, rfl, -, -, hkc⟩
 · simp [h0] at hN
 have hkN := hkc N hN
 have CE : Hid (∀ wx : World, wx.heap = w.heap → wx.cell? ⟨b, D * 2, none⟩ = some (.pointer (some ⟨p, 0, none⟩)) ∧ wx.cell? ⟨b, D * 2 + 1, none⟩ = some (.int .i64 (N : Int)) ∧ wx.cell? ⟨p, 0, none⟩ = some (.slice (some ⟨kb, ko, none⟩) k.length kcap) ∧ wx.cell? ⟨kb, ko + N, none⟩ = some (.int .i64 (k.getD N 0))) :=
   Lib.hid (fun wx he => by
     refine ⟨?_, ?_, ?_, ?_⟩
     · simp [World.cell?, he, hx, hc1]
     · simp [World.cell?, he, hx, hc2]
     · simp [World.cell?, he, hbox]
     · have e : wx.cell? ⟨kb, ko + N, none⟩ = w.cell? ⟨kb, ko + N, none⟩ := by simp [World.cell?, he]
       rw [e]; exact hkN)
 have hNl : (N : Int) < (k.length : Int) := by omega
 clear h hx hC h12 hat hd hc1 hc2 hbox hkc hkN ha hf hn
 obtain ⟨K, hK⟩ : ∃ K, K = k.getD N 0 := ⟨_, rfl⟩
 rw [← hK] at CE ⊢
 clear hK
 go_enter Tryd.func82, Tryd.ntmps82
 go_wp2_with fail
 refine HLW.out.mono ?_
 rintro e w2 ⟨rfl, hb2, hh⟩
 obtain ⟨x1, x2, x3, x4⟩ := CE.out w2 hh
 have H2 := Lib.hid hb2
 clear hb2 hh
 go_wp2_with fail
 go_quiet (fail)
 go_wp2_with fail
 go_ret
 exact ⟨rfl, H2.out.trans (drewN_below _ _ _)⟩
end Go.Proofs.YticfkfjijnfcbaaDoor
/- Finding: the closures lessThan and notMoreThan, the place that a binary search finds by them. -/
namespace Go.Proofs.YticfkfjijnfcbaaDoor
open Go.RowKit
theorem place_pair {c : Int} {ks : List Int} (hs : ks.Pairwise (· < ·)) {i j : Nat} (hij : i ≤ j) (hj : j < ks.length) (h : ks.getD j 0 < c) : ks.getD i 0 < c := by
 by_cases e : i = j
 · subst e; exact h
 · have h1 := List.pairwise_iff_getElem.1 hs i j (by omega) hj (by omega)
   have e1 : ks.getD i 0 = ks[i] := by simp [List.getD_eq_getElem?_getD, show i < ks.length by omega]
   have e2 : ks.getD j 0 = ks[j] := by simp [List.getD_eq_getElem?_getD, hj]
   rw [e1]; rw [e2] at h; omega
theorem mid_le {l h : Nat} (hl : l < h) : l ≤ (l + h) / 2 ∧ (l + h) / 2 < h := by omega
theorem less1_c (k n : Int) (q : Nat) (w : World) (hq : w.cell? ⟨q, 0, none⟩ = some (.int .i64 n)) :
   Calls Tryd.prog 109 #[.int .i64 k, .pointer (some ⟨q, 0, none⟩)] w fun e w' => e = .returned (.bool (decide (k < n))) ∧ w' = w := by
 go_enter Tryd.func109, Tryd.ntmps109
 go_wp2_with fail
 go_ret
 exact ⟨rfl, rfl⟩
theorem less_c (n : Int) (w : World) :
   Calls Tryd.prog 74 #[.int .i64 n] w fun e w' => e = .returned (.func (.func 109) #[] #[.pointer (some ⟨w.heap.size, 0, none⟩)]) ∧ w' = w.alloc (.cells #[.int .i64 n] 3) := by
 go_enter Tryd.func74, Tryd.ntmps74
 go_wp2_with fail
 go_ret
 exact ⟨rfl, rfl⟩
set_option maxRecDepth 100000 in
set_option maxHeartbeats 1000000 in
theorem place_less_c {v : Value} {ks : List Int} (w : World) (B : Nat) (hk : IntsIn w B v ks) (hs : ks.Pairwise (· < ·)) (hn : ks.length ≤ 1048576) (n c : Int) (hc : Hid (c = n)) (q : Nat) (hq : w.cell? ⟨q, 0, none⟩ = some (.int .i64 n)) :
   Calls Tryd.prog 102 #[v, .func (.func 109) #[] #[.pointer (some ⟨q, 0, none⟩)]] w fun e w' => e = .returned (.int .i64 (place c ks)) ∧ w' = w := by
 obtain ⟨a, cap, rfl, h1, h2, _, h3⟩ := hk
 unfold maxLen at h2
 have HK := Lib.hid h3
 have HS := Lib.hid hs
 clear h3 hs
 go_enter Tryd.func102, Tryd.ntmps102
 go_wp2_with fail
 go_loop [5, 6] (fun u v => ∃ (l h : Nat), l ≤ h ∧ h ≤ ks.length ∧ u = .int .i64 l ∧ v = .int .i64 h ∧ (∀ i, i < l → ks.getD i 0 < c) ∧ (∀ i, h ≤ i → i < ks.length → c ≤ ks.getD i 0)) (fun u v => (intOf v).toNat - (intOf u).toNat)
 case atStart => exact ⟨0, ks.length, Nat.zero_le _, Nat.le_refl _, rfl, rfl, fun i h => by omega, fun i h h' => by omega⟩
 case round =>
   obtain ⟨l, h, hlh, hhl, rfl, rfl, hlo, hhi⟩ := hrel
   have HLO := Lib.hid hlo
   have HHI := Lib.hid hhi
   clear hlo hhi
   by_cases hlt : l < h
   · obtain ⟨m, hm⟩ : ∃ m, m = (l + h) / 2 := ⟨_, rfl⟩
     have hmm := mid_le hlt
     rw [← hm] at hmm
     have hmi : ((l : Int) + (h : Int)) / 2 = (m : Int) := by omega
     have HM := Lib.hid hm
     clear hm
     obtain ⟨m1, m2⟩ := hmm
     rcases HK.out with h0 | ⟨b, off, rfl, hb, hat⟩
     · rw [h0] at hhl; simp at hhl; omega
     have ha' : w.cell? ⟨b, off + m, none⟩ = some (.int .i64 (ks.getD m 0)) := hat m (by omega)
     obtain ⟨x, hx⟩ : ∃ x, x = ks.getD m 0 := ⟨_, rfl⟩
     rw [← hx] at ha'
     have HX := Lib.hid hx
     clear hat hx
     have m3 : (m : Int) < (ks.length : Int) := by omega
     by_cases hT : x < n
     · go_wp2_with fail
       refine (less1_c x n q w hq).mono ?_
       rintro e w' ⟨rfl, rfl⟩
       go_wp2_with fail
       go_round
       case rel =>
         refine ⟨m + 1, h, by omega, hhl, by go_num, rfl, fun i hi => place_pair HS.out (show i ≤ m by omega) (by omega) (by rw [← HX.out]; have := hc.out; omega), HHI.out⟩
       case measure => simp [intOf]; omega
     · go_wp2_with fail
       refine (less1_c x n q w hq).mono ?_
       rintro e w' ⟨rfl, rfl⟩
       go_wp2_with fail
       go_round
       case rel =>
         refine ⟨l, m, m1, by omega, rfl, rfl, HLO.out, fun i hi hi2 => Int.not_lt.1 (fun hlt2 => ?_)⟩
         have h1 := place_pair HS.out hi hi2 hlt2
         have h2 := hc.out
         rw [← HX.out] at h1; omega
       case measure => simp [intOf]; omega
   · obtain rfl : l = h := by omega
     have hp : place c ks = l := place_eq hhl HLO.out (fun h => Int.not_lt.2 (HHI.out l (Nat.le_refl _) h))
     have HP := Lib.hid hp
     clear hp
     go_wp2_with fail
     go_ret
     exact ⟨ret_int (by rw [HP.out]), rfl⟩
theorem place_less_d {v : Value} {ks : List Int} (w : World) (B : Nat) (hk : IntsIn w B v ks) (hs : ks.Pairwise (· < ·)) (hn : ks.length ≤ 1048576) (n c : Int) (hc : Hid (c = n)) (q : Nat) (hq : w.cell? ⟨q, 0, none⟩ = some (.int .i64 n)) (m : Nat) :
   Calls Tryd.prog 102 #[v, .func (.func 109) #[] #[.pointer (some ⟨q, 0, none⟩)]] (w.drewN m) fun e w' => e = .returned (.int .i64 (place c ks)) ∧ w' = w.drewN m :=
 place_less_c (w.drewN m) B hk hs hn n c hc q hq
theorem upTo1_c (k n : Int) (q : Nat) (w : World) (hq : w.cell? ⟨q, 0, none⟩ = some (.int .i64 n)) :
   Calls Tryd.prog 121 #[.int .i64 k, .pointer (some ⟨q, 0, none⟩)] w fun e w' => e = .returned (.bool (decide (k ≤ n))) ∧ w' = w := by
 go_enter Tryd.func121, Tryd.ntmps121
 go_wp2_with fail
 go_ret
 exact ⟨rfl, rfl⟩
theorem upTo_c (n : Int) (w : World) :
   Calls Tryd.prog 92 #[.int .i64 n] w fun e w' => e = .returned (.func (.func 121) #[] #[.pointer (some ⟨w.heap.size, 0, none⟩)]) ∧ w' = w.alloc (.cells #[.int .i64 n] 3) := by
 go_enter Tryd.func92, Tryd.ntmps92
 go_wp2_with fail
 go_ret
 exact ⟨rfl, rfl⟩
set_option maxRecDepth 100000 in
set_option maxHeartbeats 1000000 in
theorem place_upTo_c {v : Value} {ks : List Int} (w : World) (B : Nat) (hk : IntsIn w B v ks) (hs : ks.Pairwise (· < ·)) (hn : ks.length ≤ 1048576) (n c : Int) (hc : Hid (c = n + 1)) (q : Nat) (hq : w.cell? ⟨q, 0, none⟩ = some (.int .i64 n)) :
   Calls Tryd.prog 102 #[v, .func (.func 121) #[] #[.pointer (some ⟨q, 0, none⟩)]] w fun e w' => e = .returned (.int .i64 (place c ks)) ∧ w' = w := by
 obtain ⟨a, cap, rfl, h1, h2, _, h3⟩ := hk
 unfold maxLen at h2
 have HK := Lib.hid h3
 have HS := Lib.hid hs
 clear h3 hs
 go_enter Tryd.func102, Tryd.ntmps102
 go_wp2_with fail
 go_loop [5, 6] (fun u v => ∃ (l h : Nat), l ≤ h ∧ h ≤ ks.length ∧ u = .int .i64 l ∧ v = .int .i64 h ∧ (∀ i, i < l → ks.getD i 0 < c) ∧ (∀ i, h ≤ i → i < ks.length → c ≤ ks.getD i 0)) (fun u v => (intOf v).toNat - (intOf u).toNat)
 case atStart => exact ⟨0, ks.length, Nat.zero_le _, Nat.le_refl _, rfl, rfl, fun i h => by omega, fun i h h' => by omega⟩
 case round =>
   obtain ⟨l, h, hlh, hhl, rfl, rfl, hlo, hhi⟩ := hrel
   have HLO := Lib.hid hlo
   have HHI := Lib.hid hhi
   clear hlo hhi
   by_cases hlt : l < h
   · obtain ⟨m, hm⟩ : ∃ m, m = (l + h) / 2 := ⟨_, rfl⟩
     have hmm := mid_le hlt
     rw [← hm] at hmm
     have hmi : ((l : Int) + (h : Int)) / 2 = (m : Int) := by omega
     have HM := Lib.hid hm
     clear hm
     obtain ⟨m1, m2⟩ := hmm
     rcases HK.out with h0 | ⟨b, off, rfl, hb, hat⟩
     · rw [h0] at hhl; simp at hhl; omega
     have ha' : w.cell? ⟨b, off + m, none⟩ = some (.int .i64 (ks.getD m 0)) := hat m (by omega)
     obtain ⟨x, hx⟩ : ∃ x, x = ks.getD m 0 := ⟨_, rfl⟩
     rw [← hx] at ha'
     have HX := Lib.hid hx
     clear hat hx
     have m3 : (m : Int) < (ks.length : Int) := by omega
     by_cases hT : x ≤ n
     · go_wp2_with fail
       refine (upTo1_c x n q w hq).mono ?_
       rintro e w' ⟨rfl, rfl⟩
       go_wp2_with fail
       go_round
       case rel =>
         refine ⟨m + 1, h, by omega, hhl, by go_num, rfl, fun i hi => place_pair HS.out (show i ≤ m by omega) (by omega) (by rw [← HX.out]; have := hc.out; omega), HHI.out⟩
       case measure => simp [intOf]; omega
     · go_wp2_with fail
       refine (upTo1_c x n q w hq).mono ?_
       rintro e w' ⟨rfl, rfl⟩
       go_wp2_with fail
       go_round
       case rel =>
         refine ⟨l, m, m1, by omega, rfl, rfl, HLO.out, fun i hi hi2 => Int.not_lt.1 (fun hlt2 => ?_)⟩
         have h1 := place_pair HS.out hi hi2 hlt2
         have h2 := hc.out
         rw [← HX.out] at h1; omega
       case measure => simp [intOf]; omega
   · obtain rfl : l = h := by omega
     have hp : place c ks = l := place_eq hhl HLO.out (fun h => Int.not_lt.2 (HHI.out l (Nat.le_refl _) h))
     have HP := Lib.hid hp
     clear hp
     go_wp2_with fail
     go_ret
     exact ⟨ret_int (by rw [HP.out]), rfl⟩
theorem place_upTo_d {v : Value} {ks : List Int} (w : World) (B : Nat) (hk : IntsIn w B v ks) (hs : ks.Pairwise (· < ·)) (hn : ks.length ≤ 1048576) (n c : Int) (hc : Hid (c = n + 1)) (q : Nat) (hq : w.cell? ⟨q, 0, none⟩ = some (.int .i64 n)) (m : Nat) :
   Calls Tryd.prog 102 #[v, .func (.func 121) #[] #[.pointer (some ⟨q, 0, none⟩)]] (w.drewN m) fun e w' => e = .returned (.int .i64 (place c ks)) ∧ w' = w.drewN m :=
 place_upTo_c (w.drewN m) B hk hs hn n c hc q hq
end Go.Proofs.YticfkfjijnfcbaaDoor
