/- The program's evenDepth: plain data and contract. -/
import Derived.Test.YtananonjomfpkaaQc11
/- The contracts of isKey and isWide. -/
namespace Go.Proofs.Ytananonjomfpkaa
open Go.RowKit
theorem isKey_c (n : Int) (w : World) : Calls Try.prog 102 #[.int .i64 n] w fun e w' => e = .returned (.bool (inB n 0 99)) ∧ w' = w := by
 by_cases h1 : 0 ≤ n
 · by_cases h2 : n ≤ 99
   · have hin : inB n 0 99 = true := inB_true h1 h2
     have HI := Lib.hid hin
     clear hin
     go_enter Try.func102, Try.ntmps102
     go_wp2
     go_ret
     exact ⟨ret_bool HI.out.symm, rfl⟩
   · have hin : inB n 0 99 = false := inB_false (by omega)
     have HI := Lib.hid hin
     clear hin
     go_enter Try.func102, Try.ntmps102
     go_wp2
     go_ret
     exact ⟨ret_bool HI.out.symm, rfl⟩
 · have hin : inB n 0 99 = false := inB_false (by omega)
   have HI := Lib.hid hin
   clear hin
   go_enter Try.func102, Try.ntmps102
   go_wp2
   go_ret
   exact ⟨ret_bool HI.out.symm, rfl⟩
theorem isWide_c (n : Int) (w : World) : Calls Try.prog 61 #[.int .i64 n] w fun e w' => e = .returned (.bool (inB n 2 6)) ∧ w' = w := by
 by_cases h1 : 2 ≤ n
 · by_cases h2 : n ≤ 6
   · have hin : inB n 2 6 = true := inB_true h1 h2
     have HI := Lib.hid hin
     clear hin
     go_enter Try.func61, Try.ntmps61
     go_wp2
     go_ret
     exact ⟨ret_bool HI.out.symm, rfl⟩
   · have hin : inB n 2 6 = false := inB_false (by omega)
     have HI := Lib.hid hin
     clear hin
     go_enter Try.func61, Try.ntmps61
     go_wp2
     go_ret
     exact ⟨ret_bool HI.out.symm, rfl⟩
 · have hin : inB n 2 6 = false := inB_false (by omega)
   have HI := Lib.hid hin
   clear hin
   go_enter Try.func61, Try.ntmps61
   go_wp2
   go_ret
   exact ⟨ret_bool HI.out.symm, rfl⟩
end Go.Proofs.Ytananonjomfpkaa
/- The iterator inOrder, and the contracts of ascends, isWide, isKey. -/
namespace Go.Proofs.Ytananonjomfpkaa
open Go.RowKit
attribute [local go_sem] Oper.semAt_some
set_option maxRecDepth 100000 in
set_option maxHeartbeats 1000000 in
theorem inOrder_iter {w₀ : World} {lo hi b : Nat} {t : Tr} (ht : NodeIn w₀ lo hi b t) (hwt : t.weight ≤ 1048576) (hhi : hi ≤ w₀.heap.size) :
   Iter Try.prog 101 #[.pointer (some ⟨b, 0, none⟩)] #[] intEnc (fun k => lo ≤ k ∧ k < hi) t.keys w₀ := by
 intro l J Jx Pv W hkeep hRd hbnd hJ hJx hY h0
 have hc := yieldKeys_c ht hwt hhi l J Jx t.keys [] Pv Pv W W hkeep (fun k h1 h2 => hRd k ⟨h1, h2⟩) hbnd hJ hJx hY (Keep.refl _ _) (fun _ h => h) h0 (List.prefix_refl _)
 have HC := Lib.hid hc
 clear hc ht hY h0 hJ hJx hkeep hRd hbnd
 show Calls Try.prog 101 #[.pointer (some ⟨b, 0, none⟩), .func (.yield l) #[] #[]] W _
 go_enter Try.func101, Try.ntmps101
 go_wp2_with fail
 refine HC.out.mono ?_
 rintro e W' ⟨hk, (⟨rfl, hj⟩ | ⟨rfl, q, hq, hx⟩)⟩
 · go_wp2_with fail
   go_end0
   exact ⟨⟨_, rfl⟩, hk, .inl hj⟩
 · go_wp2_with fail
   go_end0
   exact ⟨⟨_, rfl⟩, hk, .inr ⟨q, hq, hx⟩⟩
def lastOf (pre : List Int) : Int := pre.getLast?.getD (-1)
theorem lastOf_snoc (pre : List Int) (x : Int) : lastOf (pre ++ [x]) = x := by simp [lastOf]
theorem okAt_iff {ks pre : List Int} {x : Int} (h : pre ++ [x] <+: ks) : okAt ks pre.length = (decide (lastOf pre < x) && inB x 0 99) := by
 obtain ⟨r, rfl⟩ := h
 have e1 : (pre ++ [x] ++ r).getD pre.length 0 = x := by simp [List.getD_eq_getElem?_getD]
 unfold okAt
 rw [e1]
 rcases List.eq_nil_or_concat pre with rfl | ⟨p, y, rfl⟩
 · simp only [lastOf, inB, List.length_nil]
   by_cases h : (0 : Int) ≤ x
   · have : (-1 : Int) < x := by omega
     simp [h, this]
   · simp [h]
 · have e2 : (p ++ [y] ++ [x] ++ r).getD ((p ++ [y]).length - 1) 0 = y := by simp [List.getD_eq_getElem?_getD]
   simp only [List.concat_eq_append] at *
   rw [e2, lastOf_snoc]
   have e3 : ¬ (p ++ [y]).length = 0 := by simp
   simp only [e3, decide_false, Bool.false_or]
   exact Bool.and_comm _ _
set_option maxRecDepth 100000 in
set_option maxHeartbeats 2000000 in
theorem ascends_c {w : World} {lo hi b : Nat} {t : Tr} (ht : NodeIn w lo hi b t) (hwt : t.weight ≤ 1048576) (hhi : hi ≤ w.heap.size) :
   Calls Try.prog 64 #[.pointer (some ⟨b, 0, none⟩)] w fun e w' => e = .returned (.bool (sortedB t.keys)) ∧ Below w.heap.size w w' := by
 have hit := inOrder_iter ht hwt hhi
 have HIT := Lib.hid hit
 have hlt0 := ht.range
 clear hit ht
 refine (callsIn_wide (n := 9)).1 (callsIn_of_wp_marks Try.func64 rfl trivial ?_ rfl)
 simp only [Try.ntmps64, List.size_toArray, List.length_cons, List.length_nil, Nat.reduceAdd, Nat.reduceSub, Array.replicate_succ, Array.replicate_zero, List.push_toArray, List.append_toArray, List.nil_append, List.cons_append]
 gi_wp2
 obtain ⟨W2, hW2⟩ : ∃ W2, W2 = (w.alloc (.cells #[.bool false] 4)).alloc (.cells #[.int .i64 (-1)] 3) := ⟨_, rfl⟩
 rw [← hW2]
 have hs2 : W2.heap.size = w.heap.size + 2 := by rw [hW2]; simp
 have hk2 : ∀ K, Keep K w W2 := fun K => by rw [hW2]; exact (Keep.alloc K _ _).trans (Keep.alloc K _ _)
 have b3 : W2.heap[w.heap.size]? = some (.cells #[.bool false] 4 (0, 0)) := by rw [hW2, old_blk _ _ _ (by simp), new_blk]
 have b4 : W2.heap[w.heap.size + 1]? = some (.cells #[.int .i64 (-1)] 3 (0, 0)) := by
   rw [hW2]
   have h := new_blk (w.alloc (.cells #[.bool false] 4)) (.cells #[.int .i64 (-1)] 3)
   rw [World.size_alloc] at h; exact h
 have B34 := Lib.hid (And.intro b3 b4)
 clear hW2 b3 b4
 refine wp_loop (fb := #[.pointer (some ⟨b, 0, none⟩)]) (lb := #[]) rfl (enters_of Try.func101 (by kernel_rfl) rfl) HIT.out (hk2 _) (fun x => rfl)
   (fun k => k < w.heap.size) (fun k h => by omega) (fun k h => by omega)
   (fun pre Pv W => ¬ Pv w.heap.size ∧ ¬ Pv (w.heap.size + 1) ∧ W.heap[w.heap.size]? = some (.cells #[.bool false] 4 (0, 0)) ∧ W.heap[w.heap.size + 1]? = some (.cells #[.int .i64 (lastOf pre)] 3 (0, 0)) ∧ ∀ i, i < pre.length → okAt t.keys i = true)
   (fun c pre Pv W => c = .ret ∧ ¬ Pv w.heap.size ∧ W.heap[w.heap.size]? = some (.cells #[.bool false] 4 (0, 0)) ∧ sortedB t.keys = false)
   (fun pre Pv A Pv' B h hk hp => by
     obtain ⟨h1, h2, h3, h4, h5⟩ := h
     have l3 := (Array.getElem?_eq_some_iff.1 h3).1
     have l4 := (Array.getElem?_eq_some_iff.1 h4).1
     refine ⟨fun h => ?_, fun h => ?_, (hk.block _ l3 h1).trans h3, (hk.block _ l4 h2).trans h4, h5⟩
     · rcases hp _ h with h | h
       · exact h1 h
       · omega
     · rcases hp _ h with h | h
       · exact h2 h
       · omega)
   (fun c pre Pv A Pv' B h hk hp => by
     obtain ⟨h0, h1, h3, h5⟩ := h
     have l3 := (Array.getElem?_eq_some_iff.1 h3).1
     refine ⟨h0, fun h => ?_, (hk.block _ l3 h1).trans h3, h5⟩
     rcases hp _ h with h | h
     · exact h1 h
     · omega)
   ⟨by omega, by omega, B34.out.1, B34.out.2, fun i h => by simp at h⟩
   (fun x => { tmps := #[.pointer (some ⟨b, 0, none⟩), undef, .pointer (some ⟨w.heap.size, 0, none⟩), .pointer (some ⟨w.heap.size + 1, 0, none⟩), .int .i64 x, .pointer (some ⟨b, 0, none⟩), .func (.func 101) #[.pointer (some ⟨b, 0, none⟩)] #[], .int .i64 x, undef, undef, undef, undef, undef, undef, undef, undef, undef], defers := [] })
   ?assign ?body ?done ?stop
 case assign =>
   intro l' m x W' K hK
   dsimp only [intEnc]
   gi_wp2
   exact hK
 case body =>
   intro l' m pre x Pv W' hI hkW hsub hbnd hp
   obtain ⟨h1, h2, h3, h4, h5⟩ := hI
   obtain ⟨c3, f3⟩ := box1 h3
   obtain ⟨c4, f4⟩ := box1 h4
   have hok := okAt_iff hp
   have hpl : pre.length < t.keys.length := by have := hp.length_le; simp at this; omega
   have H34 := Lib.hid (And.intro h3 h4)
   have H5 := Lib.hid h5
   have HOK := Lib.hid hok
   generalize hlast : lastOf pre = la at c4
   have HLA := Lib.hid hlast
   clear h3 h4 h5 hok hp hlast
   have fin : sortedB t.keys = false → Keep Pv W' (W'.setCell ⟨w.heap.size, 0, none⟩ (.bool false)) ∧ (Code.ret = Code.ret ∧ ¬ Pv w.heap.size ∧ (W'.setCell ⟨w.heap.size, 0, none⟩ (.bool false)).heap[w.heap.size]? = some (.cells #[.bool false] 4 (0, 0)) ∧ sortedB t.keys = false) :=
     fun h => ⟨Keep.setCell _ _ _ _ h1, rfl, h1, set_blk (.bool false) H34.out.1, h⟩
   have FIN := Lib.hid fin
   clear fin
   by_cases g1 : x ≤ la
   · have hno : sortedB t.keys = false := sortedB_not pre.length hpl (by rw [HOK.out, HLA.out]; simp; intro h; omega)
     have HNO := Lib.hid hno
     clear hno
     gi_wp2
     refine ⟨trivial, ?_⟩
     gi_wp2
     exact ⟨(FIN.out HNO.out).1, rfl, (FIN.out HNO.out).2.2⟩
   · have g1' : decide (x ≤ la) = false := by simpa using g1
     cases hin : inB x 0 99 with
     | false =>
       have hno : sortedB t.keys = false := sortedB_not pre.length hpl (by rw [HOK.out, HLA.out, hin]; simp)
       have HNO := Lib.hid hno
       have HIN := Lib.hid hin
       clear hno hin
       gi_wp2
       refine ⟨trivial, fun h => (by cases h), ?_⟩
       refine (CallsIn.inRound l' ((callsIn_wide (n := m - 1)).2 (isKey_c x W'))).mono ?_
       rintro e W4 ⟨rfl, rfl⟩
       rw [HIN.out]
       gi_wp2
       exact ⟨(FIN.out HNO.out).1, rfl, (FIN.out HNO.out).2.2⟩
     | true =>
       have hyes : okAt t.keys pre.length = true := by rw [HOK.out, HLA.out, hin]; simp; omega
       have HYES := Lib.hid hyes
       have HIN := Lib.hid hin
       clear hyes hin
       gi_wp2
       refine ⟨trivial, fun h => (by cases h), ?_⟩
       refine (CallsIn.inRound l' ((callsIn_wide (n := m - 1)).2 (isKey_c x W'))).mono ?_
       rintro e W4 ⟨rfl, rfl⟩
       rw [HIN.out]
       gi_wp2
       refine ⟨Keep.setCell _ _ _ _ h2, h1, h2, ?_, ?_, fun i hi => ?_⟩
       · rw [set_other _ _ _ _ _ (by omega)]; exact H34.out.1
       · rw [lastOf_snoc]; exact set_blk (.int .i64 x) H34.out.2
       · by_cases hh : i = pre.length
         · rw [hh]; exact HYES.out
         · exact H5.out i (by simp at hi; omega)
 case done =>
   intro W3 hk3 hI hlt hD
   obtain ⟨h1, h2, h3, h4, h5⟩ := hI
   obtain ⟨c3, f3⟩ := box1 h3
   have hyes : sortedB t.keys = true := sortedB_of h5
   have HYES := Lib.hid hyes
   rw [hs2] at hD
   have HD := Lib.hid hD
   have H3 := Lib.hid h3
   clear h3 h4 h5 hyes hD
   gi_wp2
   have hD2 : (W3.setCell ⟨w.heap.size, 0, none⟩ (.bool true)).heap[w.heap.size + 2]? = some (.deferred (some [])) := by rw [set_other _ _ _ _ _ (by omega)]; exact HD.out
   have hc2 := (box1 (set_blk (o := 0) (.bool true) H3.out)).1
   refine ⟨by simp, .inl ⟨_, _, rfl, run_takeDeferred hD2, ?_⟩⟩
   obtain ⟨W5, hW5⟩ : ∃ W5, W5 = ((W3.setCell ⟨w.heap.size, 0, none⟩ (.bool true)).putObj (w.heap.size + 2) (.deferred none)) := ⟨_, rfl⟩
   have hc5 : W5.cell? ⟨w.heap.size, 0, none⟩ = some (.bool true) := by rw [hW5]; exact (cell_of_blk (World.putObj_heap_other (by omega))).trans hc2
   have hk5 : Keep (fun k => k < w.heap.size) W3 W5 := by rw [hW5]; exact (Keep.setCell _ _ _ _ (by simp)).trans (Keep.putObj _ _ _ _ (by omega))
   rw [← hW5]
   exact ⟨.bool true, by simp [results, Try.results64, go_sem, hc5], by rw [HYES.out], (((hk2 _).trans hk3).trans hk5).below (Nat.le_refl _) (fun k h => h)⟩
 case stop =>
   rintro c pre' W3 hk3 hp ⟨rfl, h1, h3, h5⟩ hlt hD
   rw [hs2] at hD
   have H5 := Lib.hid h5
   have H3 := Lib.hid h3
   clear h5 h3
   gi_wp2
   refine ⟨by simp, .inl ⟨_, _, rfl, run_takeDeferred hD, ?_⟩⟩
   obtain ⟨W5, hW5⟩ : ∃ W5, W5 = W3.putObj (w.heap.size + 2) (.deferred none) := ⟨_, rfl⟩
   have hc5 : W5.cell? ⟨w.heap.size, 0, none⟩ = some (.bool false) := by rw [hW5]; exact (cell_of_blk (World.putObj_heap_other (by omega))).trans (box1 H3.out).1
   have hk5 : Keep (fun k => k < w.heap.size) W3 W5 := by rw [hW5]; exact Keep.putObj _ _ _ _ (by omega)
   rw [← hW5]
   exact ⟨.bool false, by simp [results, Try.results64, go_sem, hc5], by rw [H5.out], (((hk2 _).trans hk3).trans hk5).below (Nat.le_refl _) (fun k h => h)⟩
end Go.Proofs.Ytananonjomfpkaa
/- Whether the numbers of a list are keys, and not too many: the contracts of the model's l3Keys and the program's areKeys. -/
namespace Go.Proofs.Ytananonjomfpkaa
open Go.RowKit
def keysOk (ks : List Int) : Bool := (List.range ks.length).all (fun i => inB (ks.getD i 0) 0 99) && decide (ks.length ≤ 200)
theorem keysOk_not {ks : List Int} (i : Nat) (hi : i < ks.length) (h : inB (ks.getD i 0) 0 99 = false) : keysOk ks = false := by
 have h1 : (List.range ks.length).all (fun i => inB (ks.getD i 0) 0 99) = false := by
   rw [List.all_eq_false]
   exact ⟨i, List.mem_range.2 hi, by rw [h]; simp⟩
 unfold keysOk
 rw [h1, Bool.false_and]
theorem keysOk_of {ks : List Int} (h : ∀ i, i < ks.length → inB (ks.getD i 0) 0 99 = true) : keysOk ks = decide (ks.length ≤ 200) := by
 have h1 : (List.range ks.length).all (fun i => inB (ks.getD i 0) 0 99) = true := by
   rw [List.all_eq_true]
   exact fun i hi => h i (List.mem_range.1 hi)
 unfold keysOk
 rw [h1, Bool.true_and]
set_option maxRecDepth 100000 in
set_option maxHeartbeats 1000000 in
theorem l3Keys_c {v : Value} {ks : List Int} (w : World) (B : Nat) (hk : IntsIn w B v ks) :
   Calls Try.prog 82 #[v] w fun e w' => e = .returned (.bool (keysOk ks)) ∧ w' = w := by
 obtain ⟨a, cap, rfl, h1, h2, _, h3⟩ := hk
 unfold maxLen at h2
 have HK := Lib.hid h3
 clear h3
 go_enter Try.func82, Try.ntmps82
 go_wp2_with fail
 go_loopw [4, 7] (fun s4 i wr => ∃ (j : Nat), j ≤ ks.length ∧ i = .int .i64 j ∧ (∀ q, q < j → inB (ks.getD q 0) 0 99 = true) ∧ wr = w) (fun _ i _ => ks.length - (intOf i).toNat)
 case atStart => exact ⟨0, Nat.zero_le _, rfl, fun q h => by omega, rfl⟩
 case round =>
   obtain ⟨j, hj, rfl, hall, rfl⟩ := hrel
   have HALL := Lib.hid hall
   clear hall
   by_cases hlt : j < ks.length
   · rcases HK.out with h | ⟨b, off, rfl, hb, hat⟩
     · simp [h] at hlt
     have ha' := hat j hlt
     obtain ⟨x, hx⟩ : ∃ x, x = ks.getD j 0 := ⟨_, rfl⟩
     rw [← hx] at ha'
     have hjl : (j : Int) < (ks.length : Int) := by omega
     have HX := Lib.hid hx
     clear hx hat
     go_wp2_with fail
     refine (l1In_c x 0 99 _).mono ?_
     rintro e w5 ⟨rfl, rfl⟩
     cases hin : inB x 0 99 with
     | false =>
       have HNO := Lib.hid (keysOk_not j hlt (by rw [← HX.out]; exact hin))
       clear hin
       go_wp2_with fail
       go_ret
       exact ⟨ret_bool (by rw [HNO.out]), rfl⟩
     | true =>
       have HIN := Lib.hid hin
       clear hin
       go_wp2_with fail
       go_roundw
       case rel =>
         refine ⟨j + 1, by omega, by go_num, fun q hq => ?_, trivial⟩
         by_cases hqj : q = j
         · rw [hqj, ← HX.out]; exact HIN.out
         · exact HALL.out q (by omega)
       case measure => simp [intOf]; omega
   · have hje : j = ks.length := by omega
     have HOK := Lib.hid (keysOk_of (ks := ks) (fun q h => HALL.out q (by omega)))
     have hjl : ¬ (j : Int) < (ks.length : Int) := by omega
     clear hje
     go_wp2_with fail
     go_ret
     refine ⟨ret_bool ?_, rfl⟩
     rw [HOK.out]
     simp
     omega
set_option maxRecDepth 100000 in
set_option maxHeartbeats 1000000 in
theorem areKeys_c {v : Value} {ks : List Int} (w : World) (B : Nat) (hk : IntsIn w B v ks) :
   Calls Try.prog 92 #[v] w fun e w' => e = .returned (.bool (keysOk ks)) ∧ w' = w := by
 obtain ⟨a, cap, rfl, h1, h2, _, h3⟩ := hk
 unfold maxLen at h2
 have HK := Lib.hid h3
 clear h3
 go_enter Try.func92, Try.ntmps92
 by_cases hbig : ks.length ≤ 200
 · have hb' : ¬ ((ks.length : Int) > 200) := by omega
   have HBIG := Lib.hid hbig
   clear hbig
   go_wp2_with fail
   go_loopw [4, 10] (fun s4 i wr => ∃ (j : Nat), j ≤ ks.length ∧ i = .int .i64 j ∧ (∀ q, q < j → inB (ks.getD q 0) 0 99 = true) ∧ wr = w) (fun _ i _ => ks.length - (intOf i).toNat)
   case atStart => exact ⟨0, Nat.zero_le _, rfl, fun q h => by omega, rfl⟩
   case round =>
     obtain ⟨j, hj, rfl, hall, rfl⟩ := hrel
     have HALL := Lib.hid hall
     clear hall
     by_cases hlt : j < ks.length
     · rcases HK.out with h | ⟨b, off, rfl, hb, hat⟩
       · simp [h] at hlt
       have ha' := hat j hlt
       obtain ⟨x, hx⟩ : ∃ x, x = ks.getD j 0 := ⟨_, rfl⟩
       rw [← hx] at ha'
       have hjl : (j : Int) < (ks.length : Int) := by omega
       have HX := Lib.hid hx
       clear hx hat
       go_wp2_with fail
       refine (isKey_c x _).mono ?_
       rintro e w5 ⟨rfl, rfl⟩
       cases hin : inB x 0 99 with
       | false =>
         have HNO := Lib.hid (keysOk_not j hlt (by rw [← HX.out]; exact hin))
         clear hin
         go_wp2_with fail
         go_ret
         exact ⟨ret_bool (by rw [HNO.out]), rfl⟩
       | true =>
         have HIN := Lib.hid hin
         clear hin
         go_wp2_with fail
         go_roundw
         case rel =>
           refine ⟨j + 1, by omega, by go_num, fun q hq => ?_, trivial⟩
           by_cases hqj : q = j
           · rw [hqj, ← HX.out]; exact HIN.out
           · exact HALL.out q (by omega)
         case measure => simp [intOf]; omega
     · have HOK := Lib.hid (keysOk_of (ks := ks) (fun q h => HALL.out q (by omega)))
       have hjl : ¬ (j : Int) < (ks.length : Int) := by omega
       go_wp2_with fail
       go_ret
       exact ⟨ret_bool (by rw [HOK.out]; exact (decide_eq_true HBIG.out).symm), rfl⟩
 · have hb' : ((ks.length : Int) > 200) := by omega
   have HNO : Hid (keysOk ks = false) := Lib.hid (by unfold keysOk; rw [decide_eq_false hbig, Bool.and_false])
   clear hbig
   go_wp2_with fail
   go_ret
   exact ⟨ret_bool (by rw [HNO.out]), rfl⟩
end Go.Proofs.Ytananonjomfpkaa
/- The program's evenDepth: plain data and contract. -/
namespace Go.Proofs.Ytananonjomfpkaa
open Go.RowKit
def evenF (ds : List Nat) : Nat := if ds.getD 0 0 ≠ 0 ∧ ∀ x ∈ ds, x = ds.getD 0 0 then ds.getD 0 0 + 1 else 0
def Tr.evenD (wide : Int) : Nat → Int → Tr → Nat
 | 0, _, _ => 0
 | l + 1, least, .mk ks cs =>
   if (ks.length : Int) < least ∨ wide < (ks.length : Int) then 0
   else if cs.length = 0 then 1
   else if cs.length ≠ ks.length + 1 then 0
   else evenF (cs.map (Tr.evenD wide l (wide / 2)))
theorem evenF_no {ds : List Nat} (j : Nat) (hj : j < ds.length) (h : ds[j] = 0 ∨ ds[j] ≠ ds.getD 0 0) : evenF ds = 0 := by
 unfold evenF
 rw [if_neg]
 rintro ⟨h1, h2⟩
 have h3 := h2 ds[j] (List.getElem_mem hj)
 rcases h with h | h
 · exact h1 (by rw [← h3, h])
 · exact h h3
theorem evenF_yes {ds : List Nat} {d : Nat} (h0 : 0 < ds.length) (hd : d ≠ 0) (h : ∀ i (hi : i < ds.length), ds[i] = d) : evenF ds = d + 1 := by
 have e0 : ds.getD 0 0 = d := by have h1 := h 0 h0; simpa [List.getD_eq_getElem?_getD, h0] using h1
 unfold evenF
 rw [e0, if_pos]
 refine ⟨hd, fun x hx => ?_⟩
 obtain ⟨i, hi, rfl⟩ := List.getElem_of_mem hx
 exact h i hi
theorem Tr.evenD_le (wide : Int) : ∀ (l : Nat) (least : Int) (t : Tr), t.evenD wide l least ≤ l
 | 0, _, _ => by simp [Tr.evenD]
 | l + 1, least, .mk ks cs => by
   unfold Tr.evenD
   split
   · omega
   split
   · omega
   split
   · omega
   · unfold evenF
     split
     · rename_i _ h _ _
       cases cs with
       | nil => exact absurd rfl h
       | cons c r =>
         have := Tr.evenD_le wide l (wide / 2) c
         simp; omega
     · omega
set_option maxRecDepth 100000 in
set_option maxHeartbeats 2000000 in
theorem evenDepth_c (wide : Int) (hw1 : 2 ≤ wide) (hw2 : wide ≤ 6) : ∀ (l : Nat) (_hl : l ≤ 6) {w : World} {B : Nat} {kv cv : Value} {t : Tr} (_ht : TreeIn w B kv cv t) (_hwt : t.weight ≤ 1048576) (b o : Nat) (least : Int),
   -9223372036854775808 ≤ least → least ≤ 9223372036854775807 → w.cell? ⟨b, o, none⟩ = some kv → w.cell? ⟨b, o + 1, none⟩ = some cv → b < B → ∀ w', Below B w w' → B ≤ w'.heap.size →
   Calls Try.prog 62 #[.pointer (some ⟨b, o, none⟩), .int .i64 least, .int .i64 wide, .int .i64 l] w' fun e w'' => e = .returned (.int .i64 (t.evenD wide l least)) ∧ Below w'.heap.size w' w'' := by
 intro l
 induction l with
 | zero =>
   intro hl w B kv cv t ht hwt b o least hl1 hl2 c1 c2 hbB w' hbw hB
   obtain ⟨a5, n5, m5, a6, n6, m6, rfl, rfl⟩ := ht.slices
   have d1 : w'.cell? ⟨b, o, none⟩ = some _ := (below_cell hbw hbB).trans c1
   have d2 : w'.cell? ⟨b, o + 1, none⟩ = some _ := (below_cell hbw hbB).trans c2
   have hfin : t.evenD wide 0 least = 0 := rfl
   clear c1 c2
   go_enter Try.func62, Try.ntmps62
   go_wp2_with fail
   go_quiet (fail)
   go_wp2_with fail
   go_ret
   exact ⟨ret_int (by rw [hfin]; rfl), below_drewN (Below.refl _ _) _⟩
 | succ l ih =>
   intro hl w B kv cv t ht hwt b o least hl1 hl2 c1 c2 hbB w' hbw hB
   cases t with
   | mk ks cs =>
     obtain ⟨a, cap, kvs, cvs, rfl, hk, hlen, hcap, hat, hkids⟩ := ht.parts
     obtain ⟨ka, kcap, rfl, _⟩ := hk
     simp only [Tr.weight] at hwt
     have hl0 := Tr.length_le_weights cs
     have d1 : w'.cell? ⟨b, o, none⟩ = some _ := (below_cell hbw hbB).trans c1
     have d2 : w'.cell? ⟨b, o + 1, none⟩ = some _ := (below_cell hbw hbB).trans c2
     obtain ⟨L, hL⟩ : ∃ L : Int, L = ((l + 1 : Nat) : Int) := ⟨_, rfl⟩
     rw [← hL]
     have hL1 : 1 ≤ L := by omega
     have hL6 : L ≤ 6 := by omega
     have hLne : (L == 0) = false := by simp; omega
     have HL := Lib.hid hL
     have HAT := Lib.hid hat
     have HKI := Lib.hid hkids
     have IH := Lib.hid ih
     have HBW := Lib.hid hbw
     clear c1 c2 hL hat hkids ih hbw ht
     by_cases g1 : (ks.length : Int) < least
     · have hfin : Tr.evenD wide (l + 1) least (.mk ks cs) = 0 := by simp only [Tr.evenD]; rw [if_pos (.inl g1)]
       have HF := Lib.hid hfin
       clear hfin
       go_enter Try.func62, Try.ntmps62
       go_wp2_with fail
       go_quiet (fail)
       go_wp2_with fail
       go_ret
       exact ⟨ret_int (by rw [HF.out]; rfl), below_drewN (Below.refl _ _) _⟩
     have b1 : decide ((ks.length : Int) < least) = false := by simpa using g1
     by_cases g2 : wide < (ks.length : Int)
     · have hfin : Tr.evenD wide (l + 1) least (.mk ks cs) = 0 := by simp only [Tr.evenD]; rw [if_pos (.inr g2)]
       have HF := Lib.hid hfin
       clear hfin
       go_enter Try.func62, Try.ntmps62
       go_wp2_with fail
       go_quiet (fail)
       go_wp2_with fail
       go_ret
       exact ⟨ret_int (by rw [HF.out]; rfl), below_drewN (Below.refl _ _) _⟩
     have b2 : decide (wide < (ks.length : Int)) = false := by simpa using g2
     by_cases g3 : cs.length = 0
     · have hfin : Tr.evenD wide (l + 1) least (.mk ks cs) = 1 := by simp only [Tr.evenD]; rw [if_neg (by omega), if_pos g3]
       have HF := Lib.hid hfin
       have g3' : ((cs.length : Int) == 0) = true := by simp [g3]
       clear hfin
       go_enter Try.func62, Try.ntmps62
       go_wp2_with fail
       go_quiet (fail)
       go_wp2_with fail
       go_ret
       exact ⟨ret_int (by rw [HF.out]; rfl), below_drewN (Below.refl _ _) _⟩
     have g3' : ((cs.length : Int) == 0) = false := by rw [beq_eq_false_iff_ne]; omega
     by_cases g4 : cs.length ≠ ks.length + 1
     · have hfin : Tr.evenD wide (l + 1) least (.mk ks cs) = 0 := by simp only [Tr.evenD]; rw [if_neg (by omega), if_neg g3, if_pos g4]
       have HF := Lib.hid hfin
       have g4' : ((cs.length : Int) != (ks.length : Int) + 1) = true := by simp; omega
       clear hfin g4
       go_enter Try.func62, Try.ntmps62
       go_wp2_with fail
       go_quiet (fail)
       go_wp2_with fail
       go_ret
       exact ⟨ret_int (by rw [HF.out]; rfl), below_drewN (Below.refl _ _) _⟩
     have g4' : ((cs.length : Int) != (ks.length : Int) + 1) = false := by simp; omega
     have hfin : Tr.evenD wide (l + 1) least (.mk ks cs) = evenF (cs.map (Tr.evenD wide l (wide / 2))) := by simp only [Tr.evenD]; rw [if_neg (by omega), if_neg g3, if_neg g4]
     have HF := Lib.hid hfin
     clear hfin g4
     go_enter Try.func62, Try.ntmps62
     go_wp2_with fail
     go_quiet (fail)
     go_wp2_with fail
     obtain ⟨ds, hds⟩ : ∃ ds, ds = cs.map (Tr.evenD wide l (wide / 2)) := ⟨_, rfl⟩
     have hdl : ds.length = cs.length := by rw [hds]; simp
     have hdi : ∀ i (h : i < cs.length), ds.getD i 0 = Tr.evenD wide l (wide / 2) cs[i] := fun i h => by rw [hds]; simp [List.getD_eq_getElem?_getD, h]
     have HDS := Lib.hid hds
     have HDL := Lib.hid hdl
     have HDI := Lib.hid hdi
     obtain ⟨D, hD⟩ : ∃ D, D = ds.getD 0 0 := ⟨_, rfl⟩
     have HD := Lib.hid hD
     have hD6 : D ≤ 6 := by rw [hD, hdi 0 (by omega)]; have := Tr.evenD_le wide l (wide / 2) cs[0]; omega
     clear hds hdl hdi hD
     go_loopw [11, 47] (fun d i wr => ∃ (j E : Nat), j ≤ cs.length ∧ i = .int .i64 j ∧ d = .int .i64 E ∧ (j = 0 → E = 0) ∧ (0 < j → E = D) ∧ (∀ i', i' < cs.length → i' < j → ds.getD i' 0 = D ∧ D ≠ 0) ∧ Below w'.heap.size w' wr) (fun _ i _ => cs.length - (intOf i).toNat)
     case atStart => exact ⟨0, 0, Nat.zero_le _, rfl, rfl, fun _ => rfl, fun h => by omega, fun i _ h => by omega, below_drewN (Below.refl _ _) _⟩
     case round =>
       obtain ⟨j, E, hj, rfl, rfl, hE0, hE1, hall, hbel⟩ := hrel
       have HE0 := Lib.hid hE0
       have HE1 := Lib.hid hE1
       have HALL := Lib.hid hall
       have HBEL := Lib.hid hbel
       by_cases hlt : j < cs.length
       · rcases HAT.out with h | ⟨b2, off, rfl, hb, hat⟩
         · omega
         obtain ⟨ha, hc⟩ := hat j hlt
         have e2 : wr.cell? ⟨b, o + 1, none⟩ = some _ := (below_cell hbel (by omega)).trans d2
         have HA := Lib.hid ha
         have HC := Lib.hid hc
         clear ha hc hat hE0 hE1 hall hbel d1 d2
         go_wp2_with fail
         have hLl : L - 1 = (l : Int) := by have := HL.out; omega
         rw [hLl]
         clear hLl
         refine (IH.out (by omega) (HKI.out j hlt) (by have := Tr.weight_get_le cs j hlt; omega) b2 (off + j * 2) (wide / 2) (by omega) (by omega) HA.out HC.out hb wr (HBW.out.trans (HBEL.out.mono hB)) (by have := HBEL.out.size; omega)).mono ?_
         rintro e w1 ⟨rfl, hb1⟩
         have hX := HDI.out j hlt
         generalize Tr.evenD wide l (wide / 2) cs[j] = X at hX ⊢
         have hX6 : X ≤ 6 := by
           have := HDI.out j hlt
           have h2 := Tr.evenD_le wide l (wide / 2) cs[j]
           omega
         have HX := Lib.hid hX
         have hb1' := HBEL.out.trans (hb1.mono HBEL.out.size)
         have HB1 := Lib.hid hb1'
         clear hX hb1 hb1'
         by_cases x0 : X = 0
         · have x0' : ((X : Int) == 0) = true := by simp [x0]
           go_wp2_with fail
           go_ret
           refine ⟨ret_int ?_, HB1.out⟩
           rw [HF.out, ← HDS.out, evenF_no j (by rw [HDL.out]; exact hlt) (.inl ?_)]
           · rfl
           · have := HX.out; rw [List.getD_eq_getElem?_getD] at this; simp [HDL.out, hlt] at this; omega
         have x0' : ((X : Int) == 0) = false := by rw [beq_eq_false_iff_ne]; omega
         by_cases j0 : j = 0
         · have j0' : decide ((0 : Int) < (j : Int)) = false := by simp [j0]
           go_wp2_with fail
           go_roundw
           case rel =>
             refine ⟨j + 1, X, by omega, by go_num, rfl, fun h => by omega, fun _ => ?_, fun i hi hij => ?_, HB1.out⟩
             · rw [HD.out, ← HX.out, j0]
             · obtain rfl : i = j := by omega
               have h1 := HX.out
               have h2 := HD.out
               subst j0
               omega
           case measure => simp [intOf]; omega
         have j0' : decide ((0 : Int) < (j : Int)) = true := by simp; omega
         by_cases xe : X = E
         · have xe' : ((X : Int) != (E : Int)) = false := by simp [xe]
           go_wp2_with fail
           go_roundw
           case rel =>
             refine ⟨j + 1, X, by omega, by go_num, by rw [xe], fun h => by omega, fun _ => ?_, fun i hi hij => ?_, HB1.out⟩
             · rw [xe, HE1.out (by omega)]
             · by_cases hij' : i = j
               · subst hij'
                 have h1 := HX.out
                 have h2 := HE1.out (by omega)
                 omega
               · exact HALL.out i hi (by omega)
           case measure => simp [intOf]; omega
         · have xe' : ((X : Int) != (E : Int)) = true := by rw [bne_iff_ne]; omega
           go_wp2_with fail
           go_ret
           refine ⟨ret_int ?_, HB1.out⟩
           rw [HF.out, ← HDS.out, evenF_no j (by rw [HDL.out]; exact hlt) (.inr ?_)]
           · rfl
           · have h1 := HX.out
             have h2 := HE1.out (by omega)
             have h3 := HD.out
             rw [List.getD_eq_getElem?_getD] at h1
             simp only [HDL.out, hlt, List.getElem?_eq_getElem, Option.getD_some] at h1
             omega
       · obtain rfl : j = cs.length := by omega
         clear hE0 hE1 hall hbel
         have hE : E ≤ 6 := by have := HE1.out (by omega); omega
         go_wp2_with fail
         go_ret
         refine ⟨ret_int ?_, HBEL.out⟩
         have h0 := HALL.out 0 (by omega) (by omega)
         rw [HF.out, ← HDS.out, evenF_yes (d := D) (by rw [HDL.out]; omega) h0.2 (fun i hi => ?_)]
         · have := HE1.out (by omega); omega
         · have hi' : i < cs.length := by rw [HDL.out] at hi; exact hi
           have := (HALL.out i hi' hi').1
           rw [List.getD_eq_getElem?_getD] at this
           simpa [hi] using this
end Go.Proofs.Ytananonjomfpkaa
