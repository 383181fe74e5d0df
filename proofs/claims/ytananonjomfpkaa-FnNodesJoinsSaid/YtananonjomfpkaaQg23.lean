/- The contract of hasAt: whether a key is the one at a place of a node. -/
import Derived.Test.YtananonjomfpkaaQg22
import Derived.Maps.OwnIn
import Derived.Sort.LoopGhostIn
import Derived.RangeFuncCalls
/- The law on TreeValid: the walk over the contracts. -/
namespace Go.Proofs.Ytananonjomfpkaa
open Go.RowKit
def ImplTreeValid : Prop := ∀ (w0 : World) (B : Nat) (kv cv : Value) (t : Tr) (n : Int), TreeIn w0 B kv cv t → t.weight ≤ 1048576 → -9223372036854775808 ≤ n → n ≤ 9223372036854775807 → ∀ w', Below B w0 w' → B ≤ w'.heap.size →
 Calls Try.prog 19 #[.agg #[kv, cv], .int .i64 n] w' fun e w'' => e = .returned (.bool (Tr.validB n t)) ∧ Below w'.heap.size w' w''
-- END
end Go.Proofs.Ytananonjomfpkaa
/- The contract of the program's TreeValid. -/
namespace Go.Proofs.Ytananonjomfpkaa
open Go.RowKit
set_option maxRecDepth 100000 in
set_option maxHeartbeats 2000000 in
theorem impl_valid : ImplTreeValid := by
 intro w0 B kv cv t n ht hwt hn1 hn2 w' hbw hB
 cases t with
 | mk ks cs =>
   have ht' := ht.later hbw (Nat.le_refl _)
   obtain ⟨a5, n5, m5, a6, n6, m6, rfl, rfl⟩ := ht.slices
   obtain ⟨a, cap, kvs, cvs, hcv, hk, hlen, hcap, hat, hkids⟩ := ht.parts
   simp only [Value.slice.injEq] at hcv
   obtain ⟨rfl, rfl, rfl⟩ := hcv
   clear hk hlen hcap hat hkids ht hbw
   obtain ⟨W1, hW1⟩ : ∃ W1, W1 = w'.alloc (.cells #[.slice a5 n5 m5, .slice a6 cs.length m6] 26) := ⟨_, rfl⟩
   have hs1 : W1.heap.size = w'.heap.size + 1 := by rw [hW1]; simp
   have hb1 : Below w'.heap.size w' W1 := by rw [hW1]; exact (Below.refl _ _).alloc (Nat.le_refl _) _
   have kb : W1.heap[w'.heap.size]? = some (.cells #[.slice a5 n5 m5, .slice a6 cs.length m6] 26 (0, 0)) := by rw [hW1, new_blk]
   have ht1 : TreeIn W1 W1.heap.size (.slice a5 n5 m5) (.slice a6 cs.length m6) (.mk ks cs) := (ht'.later hb1 hB).wider (by omega)
   obtain ⟨x1, x2, x3, x4⟩ := box2 kb
   have HT1 := Lib.hid ht1
   have HW1 := Lib.hid hW1
   have HB1 := Lib.hid (And.intro hb1 kb)
   have hval0 : inB n 2 6 = false → Tr.validB n (.mk ks cs) = false := fun h => by simp only [Tr.validB, h]; rfl
   have HV0 := Lib.hid hval0
   clear ht' ht1 hW1 hb1 kb hval0
   by_cases hwd : 2 ≤ n ∧ n ≤ 6
   · have hin := inB_true hwd.1 hwd.2
     have hval := even_valid hwd.1 hwd.2 ks cs
     have hel := Tr.evenD_le n 6 ((min cs.length 1 : Nat) : Int) (.mk ks cs)
     have hc := evenDepth_c n hwd.1 hwd.2 6 (Nat.le_refl _) HT1.out hwt w'.heap.size 0 ((min cs.length 1 : Nat) : Int) (by omega) (by omega) x1 x2 (by omega) W1 (Below.refl _ _) (Nat.le_refl _)
     generalize Tr.evenD n 6 ((min cs.length 1 : Nat) : Int) (.mk ks cs) = E at hval hel hc
     obtain ⟨EI, hEI⟩ : ∃ EI : Int, EI = (E : Int) := ⟨_, rfl⟩
     rw [← hEI] at hc
     have HEI := Lib.hid hEI
     clear hEI
     have HIN := Lib.hid hin
     have HVAL := Lib.hid hval
     have HC := Lib.hid hc
     clear hin hval hc
     go_enter Try.func19, Try.ntmps19
     go_wp2_with fail
     rw [← HW1.out]
     refine (isWide_c n W1).mono ?_
     rintro e w1 ⟨rfl, rfl⟩
     rw [HIN.out]
     rcases Nat.lt_or_ge cs.length 2 with h0 | h1
     · have h0' : ((cs.length : Nat) : Int) ≤ 1 := by omega
       have H0 := Lib.hid h0
       clear h0
       go_wp2_with fail
       have hc' := HC.out
       have e9 : ((min cs.length 1 : Nat) : Int) = (cs.length : Int) := by omega
       rw [e9] at hc'
       refine hc'.mono ?_
       clear hc' e9
       rintro e w2 ⟨rfl, hb2⟩
       have hs2 := hb2.size
       have kb2 := (hb2.block w'.heap.size (by omega)).trans HB1.out.2
       clear x1 x2 x3 x4
       obtain ⟨x1, x2, x3, x4⟩ := box2 kb2
       have HB2 := Lib.hid hb2
       clear hb2 kb2
       by_cases hE : E = 0
       · have hv : Tr.validB n (.mk ks cs) = false := by rw [HVAL.out, hE]; rfl
         have hE' : ¬ (0 : Int) < EI := by rw [HEI.out, hE]; decide
         have HV := Lib.hid hv
         clear hv hE
         go_wp2_with fail
         go_ret
         exact ⟨ret_bool HV.out.symm, HB1.out.1.trans (HB2.out.mono (by omega))⟩
       · have hv : Tr.validB n (.mk ks cs) = sortedB (Tr.mk ks cs).keys := by rw [HVAL.out, decide_eq_true (by omega), Bool.true_and]
         have hE' : (0 : Int) < EI := by rw [HEI.out]; omega
         have HV := Lib.hid hv
         have HE := Lib.hid hE
         clear hv hE
         go_wp2_with fail
         refine (plant_c HT1.out hwt w2 HB2.out hs2).mono ?_
         rintro e w3 ⟨nb, rfl, hnd, hb3⟩
         have hs3 := hb3.size
         have HND := Lib.hid hnd
         have HB3 := Lib.hid hb3
         clear hnd hb3 x1 x2 x3 x4
         go_wp2_with fail
         refine (ascends_c HND.out hwt (Nat.le_refl _)).mono ?_
         rintro e w4 ⟨rfl, hb4⟩
         have HB4 := Lib.hid hb4
         clear hb4
         go_wp2_with fail
         go_ret
         exact ⟨ret_bool HV.out.symm, HB1.out.1.trans ((HB2.out.mono (by omega)).trans ((HB3.out.mono (by omega)).trans (HB4.out.mono (by omega))))⟩
     · have h1' : (1 : Int) < ((cs.length : Nat) : Int) := by omega
       have H1 := Lib.hid h1
       clear h1
       go_wp2_with fail
       have hc' := HC.out
       have e9 : ((min cs.length 1 : Nat) : Int) = 1 := by omega
       rw [e9] at hc'
       refine hc'.mono ?_
       clear hc' e9
       rintro e w2 ⟨rfl, hb2⟩
       have hs2 := hb2.size
       have kb2 := (hb2.block w'.heap.size (by omega)).trans HB1.out.2
       clear x1 x2 x3 x4
       obtain ⟨x1, x2, x3, x4⟩ := box2 kb2
       have HB2 := Lib.hid hb2
       clear hb2 kb2
       by_cases hE : E = 0
       · have hv : Tr.validB n (.mk ks cs) = false := by rw [HVAL.out, hE]; rfl
         have hE' : ¬ (0 : Int) < EI := by rw [HEI.out, hE]; decide
         have HV := Lib.hid hv
         clear hv hE
         go_wp2_with fail
         go_ret
         exact ⟨ret_bool HV.out.symm, HB1.out.1.trans (HB2.out.mono (by omega))⟩
       · have hv : Tr.validB n (.mk ks cs) = sortedB (Tr.mk ks cs).keys := by rw [HVAL.out, decide_eq_true (by omega), Bool.true_and]
         have hE' : (0 : Int) < EI := by rw [HEI.out]; omega
         have HV := Lib.hid hv
         have HE := Lib.hid hE
         clear hv hE
         go_wp2_with fail
         refine (plant_c HT1.out hwt w2 HB2.out hs2).mono ?_
         rintro e w3 ⟨nb, rfl, hnd, hb3⟩
         have hs3 := hb3.size
         have HND := Lib.hid hnd
         have HB3 := Lib.hid hb3
         clear hnd hb3 x1 x2 x3 x4
         go_wp2_with fail
         refine (ascends_c HND.out hwt (Nat.le_refl _)).mono ?_
         rintro e w4 ⟨rfl, hb4⟩
         have HB4 := Lib.hid hb4
         clear hb4
         go_wp2_with fail
         go_ret
         exact ⟨ret_bool HV.out.symm, HB1.out.1.trans ((HB2.out.mono (by omega)).trans ((HB3.out.mono (by omega)).trans (HB4.out.mono (by omega))))⟩
   · have hin := inB_false hwd
     have HIN := Lib.hid hin
     clear hin
     go_enter Try.func19, Try.ntmps19
     go_wp2_with fail
     rw [← HW1.out]
     refine (isWide_c n W1).mono ?_
     rintro e w1 ⟨rfl, rfl⟩
     rw [HIN.out]
     go_wp2_with fail
     go_ret
     exact ⟨ret_bool (HV0.out HIN.out).symm, HB1.out.1⟩
end Go.Proofs.Ytananonjomfpkaa
/- Whether a tree is valid for some width: the program. -/
namespace Go.Proofs.Ytananonjomfpkaa
open Go.RowKit
end Go.Proofs.Ytananonjomfpkaa
/- Appends of one int onto a slice of the call's own, inside a fence. -/
namespace Go.Proofs.Ytananonjomfpkaa
open Go.RowKit
theorem wpListIn_append_one {F : Fence} {nF : Nat} {W : World} {ops : Array Oper} {rest : List Oper} {o : Oper} {a : Act} {Q : Exit → Act → World → Prop} (hgd : o.guard = none) (s x : Operand)
   (ho : o.op = .call { callee := .builtin .append, args := #[s, x], argTypes := #[23, 23] }) (lo : Nat) (v : Value) (xs : List Int) (k : Int)
   (hs : a.eval s = v) (hown : IntsOwn W lo v xs) (hx : a.eval x = .slice (some ⟨W.heap.size, 0, none⟩) 1 1) (hlen : xs.length ≤ 1048577) (hlo : lo ≤ W.heap.size)
   (h : ∀ a' c' w' (L : List Int), Hid (L = xs ++ [k]) → IntsOwn w' lo (.slice a' L.length c') L → Keep (fun q => v.ownBlock ≠ some q) W w' → ((Value.slice a' L.length c').ownBlock = v.ownBlock ∨ (Value.slice a' L.length c').ownBlock = some (W.heap.size + 1)) →
     wpListIn F nF Try.prog ops Q rest (a.put o.dst (.slice a' L.length c')) w') : wpListIn F nF Try.prog ops Q (o :: rest) a (W.alloc (.cells #[.int .i64 k] 3)) := by
 obtain ⟨i0, hi0, hz0, hz1, hz2⟩ := info_parts Try.appInfo
 refine wpListIn_append_own_at _ hgd s x _ ho lo 3 i0 _ 1 8 Try.underlying23 hi0 hz0 hz1 hz2 rfl (by decide) v xs.length (xs.map (Value.int .i64)) hs (IntsOwn.alloc' hown _) ⟨W.heap.size, 0, none⟩ 1 1 [.int .i64 k] hx (by rfl) (World.news_of_block (cs := #[.int .i64 k]) (t := 3) (fr := (0, 0)) (heap_alloc_new W _)) (by simp [Value.oneCell']) (by unfold maxLen; omega) (by omega) (by simp; omega) ?_
 intro v' w' hown' hgrow _ hat
 have hown2 : IntsOwn w' lo v' (xs ++ [k]) := by
   unfold IntsOwn
   rw [List.length_append, List.map_append]
   exact hown'
 obtain ⟨a', c', rfl⟩ := IntsOwn.shown hown2
 refine h a' c' w' _ (Lib.hid rfl) hown2 ?_ (by simpa using hat)
 refine ⟨hgrow.os, hgrow.tape, hgrow.output, by have := hgrow.size; simp at this; omega, fun q h1 h2 => ?_⟩
 rw [hgrow.block q (by simp; omega) (fun e => h2 e.symm), old_blk _ _ _ h1]
end Go.Proofs.Ytananonjomfpkaa
/- Finding: wayDown, and the iterator that it returns. -/
namespace Go.Proofs.Ytananonjomfpkaa
open Go.RowKit
attribute [local go_sem] Oper.semAt_some
theorem wide_fn (f : Nat) : Fence.wide.fn f = True := rfl
attribute [local go_sem] wide_fn
theorem wayDown_c (b q gf : Nat) (w : World) :
   Calls Try.prog 69 #[.pointer (some ⟨b, 0, none⟩), .func (.func gf) #[] #[.pointer (some ⟨q, 0, none⟩)]] w fun e w' => e = .returned (.func (.func 104) #[] #[.pointer (some ⟨w.heap.size, 0, none⟩), .pointer (some ⟨w.heap.size + 1, 0, none⟩)]) ∧
     w' = (w.alloc (.cells #[.pointer (some ⟨b, 0, none⟩)] 70)).alloc (.cells #[.func (.func gf) #[] #[.pointer (some ⟨q, 0, none⟩)]] 81) := by
 go_enter Try.func69, Try.ntmps69
 go_wp2_with fail
 go_ret
 exact ⟨rfl, rfl⟩
set_option maxRecDepth 100000 in
set_option maxHeartbeats 4000000 in
theorem way_less_iter {w₀ : World} {lo hi b : Nat} {t : Tr} {xs : List (Nat × Tr)} (n c : Int) (hc : Hid (c = n)) (hxs : WayIn w₀ lo hi c b t xs) (hhi : hi ≤ w₀.heap.size) (bn bf q : Nat)
   (hbn : w₀.heap[bn]? = some (.cells #[.pointer (some ⟨b, 0, none⟩)] 70 (0, 0)))
   (hbf : w₀.heap[bf]? = some (.cells #[.func (.func 106) #[] #[.pointer (some ⟨q, 0, none⟩)]] 81 (0, 0)))
   (hq : w₀.heap[q]? = some (.cells #[.int .i64 n] 3 (0, 0))) :
   Iter Try.prog 104 #[] #[.pointer (some ⟨bn, 0, none⟩), .pointer (some ⟨bf, 0, none⟩)] (wayEnc c) (fun k => (lo ≤ k ∧ k < hi) ∨ k = bn ∨ k = bf ∨ k = q) xs w₀ := by
 intro l J Jx Pv W hkeep hRd hbnd hJ hJx hY h0
 have l1 := (Array.getElem?_eq_some_iff.1 hbn).1
 have l2 := (Array.getElem?_eq_some_iff.1 hbf).1
 have l3 := (Array.getElem?_eq_some_iff.1 hq).1
 have hbn' := (hkeep.block bn l1 (.inr (.inl rfl))).trans hbn
 obtain ⟨x1, x2⟩ := box1 hbn'
 have HQ := Lib.hid (And.intro hbf hq)
 have HY := Lib.hid hY
 have HXS := Lib.hid hxs
 have HJ := Lib.hid (And.intro hJ hJx)
 have HK := Lib.hid hkeep
 have HRD := Lib.hid hRd
 have HBND := Lib.hid hbnd
 clear hbn hbf hq hbn' hY hxs hkeep hRd hbnd hJ hJx
 show Calls Try.prog 104 #[.func (.yield l) #[] #[], .pointer (some ⟨bn, 0, none⟩), .pointer (some ⟨bf, 0, none⟩)] W _
 refine callsIn_wide (n := 9).1 (callsIn_of_wp Try.func104 rfl trivial ?_ rfl)
 simp only [Try.ntmps104, List.size_toArray, List.length_cons, List.length_nil, Nat.reduceAdd, Nat.reduceSub, Array.replicate_succ, Array.replicate_zero, List.push_toArray, List.append_toArray, List.nil_append, List.cons_append]
 gi_wp2
 gi_loopg [4] xs.length (fun k s4 wr => ∃ (pre : List (Nat × Tr)) (b' : Nat) (t' : Tr) (rest : List (Nat × Tr)), xs = pre ++ rest ∧ WayIn w₀ lo hi c b' t' rest ∧ s4 = .pointer (some ⟨b', 0, none⟩) ∧ rest.length ≤ k ∧ J pre Pv wr ∧ Keep Pv W wr)
 case atStart => exact ⟨[], b, t, xs, rfl, HXS.out, rfl, Nat.le_refl _, h0, Keep.refl _ _⟩
 case round =>
   obtain ⟨pre, b', t', rest, hsplit, hwi, rfl, hlen, hJs, hkp⟩ := hrel
   clear x1 x2 h0
   have hk0 : Keep (fun k => (lo ≤ k ∧ k < hi) ∨ k = bn ∨ k = bf ∨ k = q) w₀ wr := HK.out.trans (hkp.mono (fun k _ h => HRD.out k h))
   obtain ⟨x1, x2⟩ := box1 ((hk0.block bf l2 (.inr (.inr (.inl rfl)))).trans HQ.out.1)
   obtain ⟨x3, x4⟩ := box1 ((hk0.block q l3 (.inr (.inr (.inr rfl)))).trans HQ.out.2)
   have hbl : ∀ k, lo ≤ k → k < hi → wr.heap[k]? = w₀.heap[k]? := fun k h1 h2 => hk0.block k (by omega) (.inl ⟨h1, h2⟩)
   have HBL := Lib.hid hbl
   have HSP := Lib.hid hsplit
   have HLEN := Lib.hid hlen
   have HJS := Lib.hid hJs
   have HKP := Lib.hid hkp
   clear hbl hsplit hlen hk0 hJs hkp
   cases hwi with
   | leaf b' t' kv a cap hs h0 =>
     obtain ⟨ks, cs⟩ := t'
     have hks : IntsR wr lo hi kv ks := hs.keys.same HBL.out
     have hki : IntsIn wr hi kv ks := hks.in
     have hbox := (HBL.out b' hs.low hs.high).trans hs.box
     have hbx0 := hs.box
     have hpw := Tr.Well.keys hs.well
     have hlt0 := hs.light
     have hkl : ks.length ≤ 1048576 := by simp only [Tr.weight] at hlt0; omega
     have hbW : b' < wr.heap.size := (Array.getElem?_eq_some_iff.1 hbox).1
     obtain ⟨ka, kcap, rfl, _⟩ := hks
     simp only [Tr.cs] at hbox h0
     obtain ⟨y1, y2, y3, y4⟩ := box2 hbox
     have hleaf : ((cs.length : Int) == 0) = true := by simp [h0]
     have HKI := Lib.hid hki
     have HPW := Lib.hid hpw
     have HKL := Lib.hid hkl
     have HBOX := Lib.hid hbox
     have HH0 := Lib.hid h0
     have hlow := hs.low
     have hhigh := hs.high
     clear hki hpw hbox hbx0 hs h0 hlt0
     gi_wp2
     gi_quiet ((gi_at_call 105; exact CallsIn.quiet_of_same ((callsIn_wide (n := _)).2 (place_less_d _ hi HKI.out HPW.out HKL.out n c hc q x3 _))))
     obtain ⟨fn, tmps, assign, body, hy, hR⟩ := HY.out pre (b', .mk ks cs) Pv (wr.drewN nq) (HJ.out.1 _ _ _ _ _ HJS.out (Keep.drewN _ _ _) (fun k h => .inl h)) (HKP.out.trans (Keep.drewN _ _ _)) (fun _ h => h) (fun k h => Nat.lt_of_lt_of_le (HBND.out k h) HKP.out.size) (by rw [HSP.out]; exact List.prefix_refl _)
     dsimp only [wayEnc, Tr.ks] at hy
     have HR := Lib.hid hR
     clear hR
     gi_wp2
     refine (HR.out _).mono ?_
     rintro e W3 ⟨hk3, (⟨rfl, hJ3⟩ | ⟨rfl, hJx3⟩)⟩
     · have hk3' : Keep Pv W W3 := (HKP.out.trans (Keep.drewN _ _ _)).trans hk3
       clear y1 y2 y3 y4
       obtain ⟨y1, y2, y3, y4⟩ := box2 ((hk3.block b' hbW (HRD.out b' (.inl ⟨hlow, hhigh⟩))).trans HBOX.out)
       have HJ3 := Lib.hid (And.intro hk3' hJ3)
       clear hk3 hk3' hJ3 hy
       gi_wp2
       refine bodyPost_ret (results_none rfl _ _ _) rfl ?_
       exact ⟨⟨_, rfl⟩, HJ3.out.1, .inl (by rw [HSP.out]; exact HJ3.out.2)⟩
     · have hk3' : Keep Pv W W3 := (HKP.out.trans (Keep.drewN _ _ _)).trans hk3
       have HJ3 := Lib.hid (And.intro hk3' hJx3)
       clear hk3 hk3' hJx3 hy y1 y2 y3 y4
       gi_wp2
       refine bodyPost_ret (results_none rfl _ _ _) rfl ?_
       exact ⟨⟨_, rfl⟩, HJ3.out.1, .inr ⟨_, by rw [HSP.out]; exact List.prefix_refl _, HJ3.out.2⟩⟩
   | inner b' t' kv qb qo cap p u xs' hs h0 q1 q2 hp hr =>
     obtain ⟨ks, cs⟩ := t'
     have hks : IntsR wr lo hi kv ks := hs.keys.same HBL.out
     have hki : IntsIn wr hi kv ks := hks.in
     have hbox := (HBL.out b' hs.low hs.high).trans hs.box
     have hbx0 := hs.box
     have hpw := Tr.Well.keys hs.well
     have hlt0 := hs.light
     have hkl : ks.length ≤ 1048576 := by simp only [Tr.weight] at hlt0; omega
     have hbW : b' < wr.heap.size := (Array.getElem?_eq_some_iff.1 hbox).1
     obtain ⟨ka, kcap, rfl, _⟩ := hks
     simp only [Tr.cs, Tr.ks] at hbox h0 hp
     obtain ⟨y1, y2, y3, y4⟩ := box2 hbox
     have hbq : qb < wr.heap.size := World.block_lt_of_cell? wr _ ((cell_of_blk (HBL.out qb q1 q2)).trans hp)
     have hz : wr.cell? ⟨qb, qo + place c ks, none⟩ = some (.pointer (some ⟨p, 0, none⟩)) := (cell_of_blk (HBL.out qb q1 q2)).trans hp
     have HZ := Lib.hid hz
     have HR' := Lib.hid hr
     have HP := Lib.hid hp
     have hleaf : ((cs.length : Int) == 0) = false := by rw [beq_eq_false_iff_ne]; omega
     have HKI := Lib.hid hki
     have HPW := Lib.hid hpw
     have HKL := Lib.hid hkl
     have HBOX := Lib.hid hbox
     have HH0 := Lib.hid h0
     have hlow := hs.low
     have hhigh := hs.high
     clear hki hpw hbox hbx0 hs h0 hlt0 hz hr hp
     gi_wp2
     gi_quiet ((gi_at_call 105; exact CallsIn.quiet_of_same ((callsIn_wide (n := _)).2 (place_less_d _ hi HKI.out HPW.out HKL.out n c hc q x3 _))))
     obtain ⟨fn, tmps, assign, body, hy, hR⟩ := HY.out pre (b', .mk ks cs) Pv (wr.drewN nq) (HJ.out.1 _ _ _ _ _ HJS.out (Keep.drewN _ _ _) (fun k h => .inl h)) (HKP.out.trans (Keep.drewN _ _ _)) (fun _ h => h) (fun k h => Nat.lt_of_lt_of_le (HBND.out k h) HKP.out.size) (by rw [HSP.out]; exact ⟨xs', by simp⟩)
     dsimp only [wayEnc, Tr.ks] at hy
     have HR := Lib.hid hR
     clear hR
     gi_wp2
     refine (HR.out _).mono ?_
     rintro e W3 ⟨hk3, (⟨rfl, hJ3⟩ | ⟨rfl, hJx3⟩)⟩
     · have hk3' : Keep Pv W W3 := (HKP.out.trans (Keep.drewN _ _ _)).trans hk3
       clear y1 y2 y3 y4
       obtain ⟨y1, y2, y3, y4⟩ := box2 ((hk3.block b' hbW (HRD.out b' (.inl ⟨hlow, hhigh⟩))).trans HBOX.out)
       have hq3 : W3.heap[qb]? = wr.heap[qb]? := hk3.block qb hbq (HRD.out qb (.inl ⟨q1, q2⟩))
       have HJ3 := Lib.hid (And.intro hk3' hJ3)
       clear hk3 hk3' hJ3 hy
       have z1 : W3.cell? ⟨qb, qo + place c ks, none⟩ = some (.pointer (some ⟨p, 0, none⟩)) := (cell_of_blk (hq3 )).trans HZ.out
       have hpl' : (place c ks : Int) < (cs.length : Int) := by have := HH0.out; have := place_le c ks; omega
       clear hq3
       gi_wp2
       gi_roundg xs'.length
       case measure => have := HLEN.out; simp at this; omega
       case rel => exact ⟨pre ++ [(b', .mk ks cs)], p, u, xs', by rw [HSP.out]; simp, HR'.out, rfl, Nat.le_refl _, HJ3.out.2, HJ3.out.1⟩
     · have hk3' : Keep Pv W W3 := (HKP.out.trans (Keep.drewN _ _ _)).trans hk3
       have HJ3 := Lib.hid (And.intro hk3' hJx3)
       clear hk3 hk3' hJx3 hy y1 y2 y3 y4
       gi_wp2
       refine bodyPost_ret (results_none rfl _ _ _) rfl ?_
       exact ⟨⟨_, rfl⟩, HJ3.out.1, .inr ⟨_, by rw [HSP.out]; exact ⟨xs', by simp⟩, HJ3.out.2⟩⟩
end Go.Proofs.Ytananonjomfpkaa
/- Regions that draw their order and only read, inside a round of a loop over an iterator. -/
namespace Go.Proofs.Ytananonjomfpkaa
open Go.RowKit
def undeferred (o : Oper) : Bool := match o.op with | .defer _ => false | _ => true
variable {F : Fence} {n : Nat} {P : Program} {ops : Array Oper} {Q : Exit → Act → World → Prop} {md : Region.Mode}
end Go.Proofs.Ytananonjomfpkaa
/- The contract of hasAt: whether a key is the one at a place of a node. -/
namespace Go.Proofs.Ytananonjomfpkaa
open Go.RowKit
set_option maxRecDepth 100000 in
set_option maxHeartbeats 1000000 in
theorem hasAt_c {w : World} {b : Nat} {kv cv : Value} {ks : List Int} (hbox : w.heap[b]? = some (.cells #[kv, cv] 99 (0, 0))) (hk : IntsAt w kv ks) (_hl : ks.length ≤ 9223372036854775807) (i : Nat) (hi : i ≤ ks.length) (key : Int) :
   Calls Try.prog 128 #[.pointer (some ⟨b, 0, none⟩), .int .i64 (i : Int), .int .i64 key] w fun e w' => e = .returned (.bool (decide (i < ks.length ∧ ks.getD i 0 = key))) ∧ w' = w := by
 obtain ⟨ka, kcap, rfl, k1, k2⟩ := hk
 obtain ⟨x1, x2, x3, x4⟩ := box2 hbox
 by_cases f1 : i < ks.length
 · rcases k2 with h0 | ⟨kb, ko, rfl, g3⟩
   · rw [h0] at f1; simp at f1
   have z1 := g3 i f1
   have f1' : ((i : Int) < (ks.length : Int)) := by omega
   have hd : decide (i < ks.length ∧ ks.getD i 0 = key) = (ks.getD i 0 == key) := by
     rw [Bool.eq_iff_iff]; simp [f1]
   rw [hd]
   clear g3 hd f1 k1 hbox
   generalize ks.getD i 0 = x at z1 ⊢
   go_enter Try.func128, Try.ntmps128
   go_wp2_with fail
   go_ret
   exact ⟨rfl, rfl⟩
 · have hd : decide (i < ks.length ∧ ks.getD i 0 = key) = false := by simp [f1]
   rw [hd]
   have f1' : ¬ ((i : Int) < (ks.length : Int)) := by omega
   clear hd f1 k1 k2 hbox
   go_enter Try.func128, Try.ntmps128
   go_wp2_with fail
   go_ret
   exact ⟨rfl, rfl⟩
end Go.Proofs.Ytananonjomfpkaa
