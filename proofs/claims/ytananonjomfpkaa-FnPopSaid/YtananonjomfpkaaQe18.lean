/- Finding: the closures lessThan and notMoreThan, the place that a binary search finds by them. -/
import Derived.Test.YtananonjomfpkaaQe15
/- The model's l2Place and PathOf. -/
namespace Go.Proofs.Ytananonjomfpkaa
open Go.RowKit
set_option maxRecDepth 100000 in
set_option maxHeartbeats 1000000 in
theorem l2Place_c {v : Value} {ks : List Int} (w : World) (B : Nat) (hk : IntsIn w B v ks) (key : Int) :
   Calls Try.prog 123 #[v, .int .i64 key] w fun e w' => e = .returned (.int .i64 (place key ks)) ∧ Below w.heap.size w w' := by
 obtain ⟨a, cap, rfl, h1, h2, _, h3⟩ := hk
 unfold maxLen at h2
 have HK := Lib.hid h3
 clear h3
 go_enter Try.func123, Try.ntmps123
 go_wp2_with fail
 go_loopw [5] (fun i wr => ∃ (j : Nat), j ≤ ks.length ∧ i = .int .i64 j ∧ (∀ q, q < j → ks.getD q 0 < key) ∧ Below w.heap.size w wr) (fun i _ => ks.length - (intOf i).toNat)
 case atStart => exact ⟨0, Nat.zero_le _, rfl, fun q h => by omega, Below.refl _ _⟩
 case round =>
   obtain ⟨j, hj, rfl, hall, hbel⟩ := hrel
   have HALL := Lib.hid hall
   have HBEL := Lib.hid hbel
   clear hall
   by_cases hlt : j < ks.length
   · rcases HK.out with h | ⟨b, off, rfl, hb, hat⟩
     · simp [h] at hlt
     have ha' : wr.cell? ⟨b, off + j, none⟩ = some (.int .i64 (ks.getD j 0)) := by
       have h := hat j hlt
       rw [below_cell hbel (World.block_lt_of_cell? w _ h)]; exact h
     have hjlt : (j : Int) < (ks.length : Int) := by omega
     by_cases hx : ks.getD j 0 < key
     · obtain ⟨x, hxe⟩ : ∃ x, x = ks.getD j 0 := ⟨_, rfl⟩
       rw [← hxe] at ha' hx
       have HX := Lib.hid hxe
       clear hat hxe hbel
       go_wp2_with fail
       go_roundw
       case rel =>
         refine ⟨j + 1, by omega, by go_num, fun q hq => ?_, HBEL.out⟩
         by_cases hqj : q = j
         · rw [hqj, ← HX.out]; exact hx
         · exact HALL.out q (by omega)
       case measure => simp [intOf]; omega
     · have hpl : place key ks = j := place_eq hj HALL.out (fun _ => hx)
       have HPL := Lib.hid hpl
       obtain ⟨x, hxe⟩ : ∃ x, x = ks.getD j 0 := ⟨_, rfl⟩
       rw [← hxe] at ha' hx
       clear hat hxe hbel hpl
       go_wp2_with fail
       go_ret
       exact ⟨ret_int (by rw [HPL.out]), HBEL.out⟩
   · have hpl : place key ks = j := place_eq hj HALL.out (fun h => absurd h hlt)
     have HPL := Lib.hid hpl
     have hjlt : ¬ (j : Int) < (ks.length : Int) := by omega
     clear hbel hpl
     go_wp2_with fail
     go_ret
     exact ⟨ret_int (by rw [HPL.out]), HBEL.out⟩
end Go.Proofs.Ytananonjomfpkaa
/- Appends of one int onto a slice of the call's own, inside a fence. -/
namespace Go.Proofs.Ytananonjomfpkaa
open Go.RowKit
theorem wpListIn_append_one {F : Fence} {nF : Nat} {W : World} {ops : Array Oper} {rest : List Oper} {o : Oper} {a : Act} {Q : Exit → Act → World → Prop} (hgd : o.guard = none) (s x : Operand)
   (ho : o.op = .call { callee := .builtin .append, args := #[s, x], argTypes := #[23, 23] }) (lo : Nat) (v : Value) (xs : List Int) (k : Int)
   (hs : a.eval s = v) (hown : IntsOwn W lo v xs) (hx : a.eval x = .slice (some ⟨W.heap.size, 0, none⟩) 1 1) (hlen : xs.length ≤ 1048577) (hlo : lo ≤ W.heap.size)
   (h : ∀ a' c' w' (L : List Int), Hid (L = xs ++ [k]) → IntsOwn w' lo (.slice a' L.length c') L → Keep (fun q => v.ownBlock ≠ some q) W w' → ((Value.slice a' L.length c').ownBlock = v.ownBlock ∨ (Value.slice a' L.length c').ownBlock = some (W.heap.size + 1)) →
     wpListIn F nF Try.prog ops Q rest (a.put o.dst (.slice a' L.length c')) w') : wpListIn F nF Try.prog ops Q (o :: rest) a (W.alloc (.cells #[.int .i64 k] 3)) := by
 obtain ⟨i0, hi0, hz0, hz1, hz2⟩ := info_parts Try.appInfo
 refine wpListIn_append_own_at _ hgd s x _ ho lo 3 i0 _ 1 8 Try.underlying23 hi0 hz0 hz1 hz2 rfl (by decide) v xs.length (xs.map (Value.int .i64)) hs (IntsOwn.alloc' hown _) ⟨W.heap.size, 0, none⟩ 1 1 [.int .i64 k] hx (by rfl) (World.news_of_block (cs := #[.int .i64 k]) (t := 3) (fr := (0, 0)) (heap_alloc_new W _)) (by simp [Value.oneCell']) (by unfold maxLen; omega) (by omega) (by simp; omega) ?_
 intro v' w' hown' hgrow _ hat
 have hown2 : IntsOwn w' lo v' (xs ++ [k]) := by
   unfold IntsOwn
   rw [List.length_append, List.map_append]
   exact hown'
 obtain ⟨a', c', rfl⟩ := IntsOwn.shown hown2
 refine h a' c' w' _ (Lib.hid rfl) hown2 ?_ (by simpa using hat)
 refine ⟨hgrow.os, hgrow.tape, hgrow.output, by have := hgrow.size; simp at this; omega, fun q h1 h2 => ?_⟩
 rw [hgrow.block q (by simp; omega) (fun e => h2 e.symm), old_blk _ _ _ h1]
end Go.Proofs.Ytananonjomfpkaa
/- Finding: the closures lessThan and notMoreThan, the place that a binary search finds by them. -/
namespace Go.Proofs.Ytananonjomfpkaa
open Go.RowKit
theorem place_pair {c : Int} {ks : List Int} (hs : ks.Pairwise (· < ·)) {i j : Nat} (hij : i ≤ j) (hj : j < ks.length) (h : ks.getD j 0 < c) : ks.getD i 0 < c := by
 by_cases e : i = j
 · subst e; exact h
 · have h1 := List.pairwise_iff_getElem.1 hs i j (by omega) hj (by omega)
   have e1 : ks.getD i 0 = ks[i] := by simp [List.getD_eq_getElem?_getD, show i < ks.length by omega]
   have e2 : ks.getD j 0 = ks[j] := by simp [List.getD_eq_getElem?_getD, hj]
   rw [e1]; rw [e2] at h; omega
theorem mid_le {l h : Nat} (hl : l < h) : l ≤ (l + h) / 2 ∧ (l + h) / 2 < h := by omega
theorem less1_c (k n : Int) (q : Nat) (w : World) (hq : w.cell? ⟨q, 0, none⟩ = some (.int .i64 n)) :
   Calls Try.prog 106 #[.int .i64 k, .pointer (some ⟨q, 0, none⟩)] w fun e w' => e = .returned (.bool (decide (k < n))) ∧ w' = w := by
 go_enter Try.func106, Try.ntmps106
 go_wp2_with fail
 go_ret
 exact ⟨rfl, rfl⟩
theorem less_c (n : Int) (w : World) :
   Calls Try.prog 70 #[.int .i64 n] w fun e w' => e = .returned (.func (.func 106) #[] #[.pointer (some ⟨w.heap.size, 0, none⟩)]) ∧ w' = w.alloc (.cells #[.int .i64 n] 3) := by
 go_enter Try.func70, Try.ntmps70
 go_wp2_with fail
 go_ret
 exact ⟨rfl, rfl⟩
set_option maxRecDepth 100000 in
set_option maxHeartbeats 1000000 in
theorem place_less_c {v : Value} {ks : List Int} (w : World) (B : Nat) (hk : IntsIn w B v ks) (hs : ks.Pairwise (· < ·)) (hn : ks.length ≤ 1048576) (n c : Int) (hc : Hid (c = n)) (q : Nat) (hq : w.cell? ⟨q, 0, none⟩ = some (.int .i64 n)) :
   Calls Try.prog 105 #[v, .func (.func 106) #[] #[.pointer (some ⟨q, 0, none⟩)]] w fun e w' => e = .returned (.int .i64 (place c ks)) ∧ w' = w := by
 obtain ⟨a, cap, rfl, h1, h2, _, h3⟩ := hk
 unfold maxLen at h2
 have HK := Lib.hid h3
 have HS := Lib.hid hs
 clear h3 hs
 go_enter Try.func105, Try.ntmps105
 go_wp2_with fail
 go_loop [5, 6] (fun u v => ∃ (l h : Nat), l ≤ h ∧ h ≤ ks.length ∧ u = .int .i64 l ∧ v = .int .i64 h ∧ (∀ i, i < l → ks.getD i 0 < c) ∧ (∀ i, h ≤ i → i < ks.length → c ≤ ks.getD i 0)) (fun u v => (intOf v).toNat - (intOf u).toNat)
 case atStart => exact ⟨0, ks.length, Nat.zero_le _, Nat.le_refl _, rfl, rfl, fun i h => by omega, fun i h h' => by omega⟩
 case round =>
   obtain ⟨l, h, hlh, hhl, rfl, rfl, hlo, hhi⟩ := hrel
   have HLO := Lib.hid hlo
   have HHI := Lib.hid hhi
   clear hlo hhi
   by_cases hlt : l < h
   · obtain ⟨m, hm⟩ : ∃ m, m = (l + h) / 2 := ⟨_, rfl⟩
     have hmm := mid_le hlt
     rw [← hm] at hmm
     have hmi : ((l : Int) + (h : Int)) / 2 = (m : Int) := by omega
     have HM := Lib.hid hm
     clear hm
     obtain ⟨m1, m2⟩ := hmm
     rcases HK.out with h0 | ⟨b, off, rfl, hb, hat⟩
     · rw [h0] at hhl; simp at hhl; omega
     have ha' : w.cell? ⟨b, off + m, none⟩ = some (.int .i64 (ks.getD m 0)) := hat m (by omega)
     obtain ⟨x, hx⟩ : ∃ x, x = ks.getD m 0 := ⟨_, rfl⟩
     rw [← hx] at ha'
     have HX := Lib.hid hx
     clear hat hx
     have m3 : (m : Int) < (ks.length : Int) := by omega
     by_cases hT : x < n
     · go_wp2_with fail
       refine (less1_c x n q w hq).mono ?_
       rintro e w' ⟨rfl, rfl⟩
       go_wp2_with fail
       go_round
       case rel =>
         refine ⟨m + 1, h, by omega, hhl, by go_num, rfl, fun i hi => place_pair HS.out (show i ≤ m by omega) (by omega) (by rw [← HX.out]; have := hc.out; omega), HHI.out⟩
       case measure => simp [intOf]; omega
     · go_wp2_with fail
       refine (less1_c x n q w hq).mono ?_
       rintro e w' ⟨rfl, rfl⟩
       go_wp2_with fail
       go_round
       case rel =>
         refine ⟨l, m, m1, by omega, rfl, rfl, HLO.out, fun i hi hi2 => Int.not_lt.1 (fun hlt2 => ?_)⟩
         have h1 := place_pair HS.out hi hi2 hlt2
         have h2 := hc.out
         rw [← HX.out] at h1; omega
       case measure => simp [intOf]; omega
   · obtain rfl : l = h := by omega
     have hp : place c ks = l := place_eq hhl HLO.out (fun h => Int.not_lt.2 (HHI.out l (Nat.le_refl _) h))
     have HP := Lib.hid hp
     clear hp
     go_wp2_with fail
     go_ret
     exact ⟨ret_int (by rw [HP.out]), rfl⟩
theorem place_less_d {v : Value} {ks : List Int} (w : World) (B : Nat) (hk : IntsIn w B v ks) (hs : ks.Pairwise (· < ·)) (hn : ks.length ≤ 1048576) (n c : Int) (hc : Hid (c = n)) (q : Nat) (hq : w.cell? ⟨q, 0, none⟩ = some (.int .i64 n)) (m : Nat) :
   Calls Try.prog 105 #[v, .func (.func 106) #[] #[.pointer (some ⟨q, 0, none⟩)]] (w.drewN m) fun e w' => e = .returned (.int .i64 (place c ks)) ∧ w' = w.drewN m :=
 place_less_c (w.drewN m) B hk hs hn n c hc q hq
end Go.Proofs.Ytananonjomfpkaa
