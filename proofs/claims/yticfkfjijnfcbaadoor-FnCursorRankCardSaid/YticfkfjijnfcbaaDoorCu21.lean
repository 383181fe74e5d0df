/- The cursor at which a walker stands. -/
import Derived.Test.YticfkfjijnfcbaaDoorChecked
import Derived.LaidEql
import Derived.Stop.Asserts
import Derived.RowKitTokens
import Derived.Test.YticfkfjijnfcbaaDoorCuS21
/- The laws' own comparing of cursors, whatever they are. -/
namespace Go.Proofs.YticfkfjijnfcbaaDoor
open Go.RowKit
theorem lists_same {ks ls : List Int} {m : Nat} (hm : m = ks.length ∨ m = ls.length) (h : ∀ i, i < m → ks.getD i 0 = ls.getD i 0) : decide (ks = ls) = decide (ks.length = ls.length) := by
 by_cases he : ks.length = ls.length
 · have : ks = ls := by
     apply List.ext_getElem he
     intro i h1 h2
     have := h i (by omega)
     simpa [List.getD_eq_getElem?_getD, h1, h2] using this
   simp [this]
 · have : ks ≠ ls := fun e => he (by rw [e])
   simp [he, this]
set_option maxHeartbeats 1000000 in
theorem ftSameG_c (ks ls : List Int) (v v' : Value) (w : World) (B : Nat) (hB : B ≤ w.heap.size) (hk : IntsIn w B v ks) (hk' : IntsIn w B v' ls) :
   Calls Tryd.prog 53 #[v, v'] w fun e w' => e = .returned (.bool (decide (ks = ls))) ∧ Below w.heap.size w w' := by
 obtain ⟨a, cap, rfl, h1, h2, _, h3⟩ := hk
 obtain ⟨a', cap', rfl, h1', h2', _, h3'⟩ := hk'
 unfold maxLen at h2 h2'
 have HK := Lib.hid h3
 have HK' := Lib.hid h3'
 clear h3 h3'
 rcases Nat.lt_or_ge ls.length ks.length with hle | hle
 · have hle' : (ls.length : Int) < (ks.length : Int) := by omega
   go_enter Tryd.func53, Tryd.ntmps53
   go_wp2_with fail
   go_loopw [5, 11] (fun s5 i wr => ∃ (j : Nat), j ≤ ls.length ∧ i = .int .i64 j ∧ Below w.heap.size w wr ∧ Hid (∀ i, i < j → ks.getD i 0 = ls.getD i 0)) (fun _ i _ => ls.length - (intOf i).toNat)
   case atStart => exact ⟨0, Nat.zero_le _, rfl, Below.refl _ _, Lib.hid (fun i h => by omega)⟩
   case round =>
     obtain ⟨j, hj, rfl, hbel, HS⟩ := hrel
     by_cases hlt : j < ls.length
     · have hn1 : j < ks.length := by omega
       have hn2 : j < ls.length := by omega
       rcases HK.out with h | ⟨b, off, rfl, hb, hat⟩
       · simp [h] at hn1
       rcases HK'.out with h | ⟨b', off', rfl, hb', hat'⟩
       · simp [h] at hn2
       have ha1 : wr.cell? ⟨b, off + j, none⟩ = some (.int .i64 (ks.getD j 0)) := by rw [below_cell hbel (by omega)]; exact hat j (by omega)
       have ha2 : wr.cell? ⟨b', off' + j, none⟩ = some (.int .i64 (ls.getD j 0)) := by rw [below_cell hbel (by omega)]; exact hat' j (by omega)
       have hjl : (j : Int) < (ls.length : Int) := by omega
       have hjk : (j : Int) < (ks.length : Int) := by omega
       have hjm : (j : Int) < (ls.length : Int) := by omega
       clear hat hat' hn1 hn2
       obtain ⟨x, hx⟩ : ∃ x, x = ks.getD j 0 := ⟨_, rfl⟩
       obtain ⟨y, hy⟩ : ∃ y, y = ls.getD j 0 := ⟨_, rfl⟩
       rw [← hx] at ha1
       rw [← hy] at ha2
       have HX := Lib.hid (And.intro hx hy)
       clear hx hy
       by_cases hxy : x = y
       · have hne2 : (x != y) = false := by simp [hxy]
         have HXY := Lib.hid hxy
         clear hxy
         go_wp2_with fail
         go_quiet (fail)
         go_wp2_with fail
         go_roundw
         case rel => exact ⟨j + 1, by omega, by go_num, below_drewN hbel _, Lib.hid (fun i hi => by
           by_cases he : i = j
           · rw [he, ← HX.out.1, ← HX.out.2, HXY.out]
           · exact HS.out i (by omega))⟩
         case measure => simp [intOf]; omega
       · have hne2 : (x != y) = true := by simp [hxy]
         have hd : decide (ks = ls) = false := by
           rw [decide_eq_false_iff_not]
           intro e
           exact hxy (by rw [HX.out.1, HX.out.2, e])
         have HDD := Lib.hid hd
         clear hxy hd
         go_wp2_with fail
         go_quiet (fail)
         go_wp2_with fail
         go_ret
         exact ⟨ret_bool (by rw [HDD.out]), below_drewN hbel _⟩
     · obtain rfl : j = ls.length := by omega
       have hjl : ¬ ((ls.length : Nat) : Int) < (ls.length : Int) := by omega
       have hd := lists_same (ks := ks) (ls := ls) (m := ls.length) (by simp) HS.out
       have hlen : (((ks.length : Nat) : Int) == ((ls.length : Nat) : Int)) = decide (ks.length = ls.length) := by
         by_cases he : ks.length = ls.length
         · simp [he]
         · rw [decide_eq_false he, beq_eq_false_iff_ne]; omega
       have HDD := Lib.hid (And.intro hd hlen)
       have HB := Lib.hid hbel
       clear hd hlen hbel HS
       go_wp2_with fail
       go_ret
       exact ⟨ret_bool (by rw [HDD.out.1, HDD.out.2]), HB.out⟩
 · have hle' : ¬ (ls.length : Int) < (ks.length : Int) := by omega
   go_enter Tryd.func53, Tryd.ntmps53
   go_wp2_with fail
   go_loopw [5, 11] (fun s5 i wr => ∃ (j : Nat), j ≤ ks.length ∧ i = .int .i64 j ∧ Below w.heap.size w wr ∧ Hid (∀ i, i < j → ks.getD i 0 = ls.getD i 0)) (fun _ i _ => ks.length - (intOf i).toNat)
   case atStart => exact ⟨0, Nat.zero_le _, rfl, Below.refl _ _, Lib.hid (fun i h => by omega)⟩
   case round =>
     obtain ⟨j, hj, rfl, hbel, HS⟩ := hrel
     by_cases hlt : j < ks.length
     · have hn1 : j < ks.length := by omega
       have hn2 : j < ls.length := by omega
       rcases HK.out with h | ⟨b, off, rfl, hb, hat⟩
       · simp [h] at hn1
       rcases HK'.out with h | ⟨b', off', rfl, hb', hat'⟩
       · simp [h] at hn2
       have ha1 : wr.cell? ⟨b, off + j, none⟩ = some (.int .i64 (ks.getD j 0)) := by rw [below_cell hbel (by omega)]; exact hat j (by omega)
       have ha2 : wr.cell? ⟨b', off' + j, none⟩ = some (.int .i64 (ls.getD j 0)) := by rw [below_cell hbel (by omega)]; exact hat' j (by omega)
       have hjl : (j : Int) < (ks.length : Int) := by omega
       have hjk : (j : Int) < (ks.length : Int) := by omega
       have hjm : (j : Int) < (ls.length : Int) := by omega
       clear hat hat' hn1 hn2
       obtain ⟨x, hx⟩ : ∃ x, x = ks.getD j 0 := ⟨_, rfl⟩
       obtain ⟨y, hy⟩ : ∃ y, y = ls.getD j 0 := ⟨_, rfl⟩
       rw [← hx] at ha1
       rw [← hy] at ha2
       have HX := Lib.hid (And.intro hx hy)
       clear hx hy
       by_cases hxy : x = y
       · have hne2 : (x != y) = false := by simp [hxy]
         have HXY := Lib.hid hxy
         clear hxy
         go_wp2_with fail
         go_quiet (fail)
         go_wp2_with fail
         go_roundw
         case rel => exact ⟨j + 1, by omega, by go_num, below_drewN hbel _, Lib.hid (fun i hi => by
           by_cases he : i = j
           · rw [he, ← HX.out.1, ← HX.out.2, HXY.out]
           · exact HS.out i (by omega))⟩
         case measure => simp [intOf]; omega
       · have hne2 : (x != y) = true := by simp [hxy]
         have hd : decide (ks = ls) = false := by
           rw [decide_eq_false_iff_not]
           intro e
           exact hxy (by rw [HX.out.1, HX.out.2, e])
         have HDD := Lib.hid hd
         clear hxy hd
         go_wp2_with fail
         go_quiet (fail)
         go_wp2_with fail
         go_ret
         exact ⟨ret_bool (by rw [HDD.out]), below_drewN hbel _⟩
     · obtain rfl : j = ks.length := by omega
       have hjl : ¬ ((ks.length : Nat) : Int) < (ks.length : Int) := by omega
       have hd := lists_same (ks := ks) (ls := ls) (m := ks.length) (by simp) HS.out
       have hlen : (((ks.length : Nat) : Int) == ((ls.length : Nat) : Int)) = decide (ks.length = ls.length) := by
         by_cases he : ks.length = ls.length
         · simp [he]
         · rw [decide_eq_false he, beq_eq_false_iff_ne]; omega
       have HDD := Lib.hid (And.intro hd hlen)
       have HB := Lib.hid hbel
       clear hd hlen hbel HS
       go_wp2_with fail
       go_ret
       exact ⟨ret_bool (by rw [HDD.out.1, HDD.out.2]), HB.out⟩
set_option maxHeartbeats 1000000 in
set_option maxRecDepth 100000 in
theorem ftCursorG_c (ks ls : List Int) (v v' : Value) (at1 at2 : Int) (w : World) (B : Nat) (hB : B ≤ w.heap.size) (hk : IntsIn w B v ks) (hk' : IntsIn w B v' ls) :
   Calls Tryd.prog 35 #[.agg #[v, .int .i64 at1], .agg #[v', .int .i64 at2]] w fun e w' => e = .returned (.bool (decide (ks = ls) && at1 == at2)) ∧ Below w.heap.size w w' := by
 have HK := Lib.hid hk
 have HK' := Lib.hid hk'
 obtain ⟨va, vcap, rfl, -⟩ := hk
 obtain ⟨vb, vcap', rfl, -⟩ := hk'
 obtain ⟨W2, hW2⟩ : ∃ W2, W2 = ((w.alloc (.cells #[.slice va ks.length vcap, .int .i64 at1] 28)).alloc (.cells #[.slice vb ls.length vcap', .int .i64 at2] 28)) := ⟨_, rfl⟩
 have hb2 : Below w.heap.size w W2 := by rw [hW2]; exact ((Below.refl _ _).alloc (Nat.le_refl _) _).alloc (by simp) _
 have hs2 : W2.heap.size = w.heap.size + 2 := by rw [hW2]; simp
 have k0 : W2.heap[w.heap.size]? = some (.cells #[.slice va ks.length vcap, .int .i64 at1] 28 (0, 0)) := by rw [hW2, old_blk _ _ _ (by simp), new_blk]
 have k1 : W2.heap[w.heap.size + 1]? = some (.cells #[.slice vb ls.length vcap', .int .i64 at2] 28 (0, 0)) := by
   rw [hW2, show w.heap.size + 1 = (w.alloc (.cells #[.slice va ks.length vcap, .int .i64 at1] 28)).heap.size by simp, new_blk]
 have k0x := k0
 have k1x := k1
 rw [hW2] at k0x k1x
 obtain ⟨x1, x2, x3, x4⟩ := box2 k0x
 obtain ⟨y1, y2, y3, y4⟩ := box2 k1x
 have HX := Lib.hid (And.intro hb2 (And.intro hs2 (And.intro k0 k1)))
 have HW2 := Lib.hid hW2
 clear hb2 hs2 k0 k1 k0x k1x hW2
 go_enter Tryd.func35, Tryd.ntmps35
 go_wp2_with fail
 rw [← HW2.out]
 refine (ftSameG_c ks ls _ _ W2 B (by have := HX.out.2.1; omega) (HK.out.later HX.out.1 hB) (HK'.out.later HX.out.1 hB)).mono ?_
 rintro e w3 ⟨rfl, hb3⟩
 have hs2 := HX.out.2.1
 have j0 := (hb3.block w.heap.size (by omega)).trans HX.out.2.2.1
 have j1 := (hb3.block (w.heap.size + 1) (by omega)).trans HX.out.2.2.2
 clear x1 x2 x3 x4 y1 y2 y3 y4
 obtain ⟨x1, x2, x3, x4⟩ := box2 j0
 obtain ⟨y1, y2, y3, y4⟩ := box2 j1
 have H3 := Lib.hid (HX.out.1.trans (hb3.mono (by omega)))
 obtain ⟨d, hd⟩ : ∃ d, d = decide (ks = ls) := ⟨_, rfl⟩
 rw [← hd]
 have HDD := Lib.hid hd
 clear hb3 j0 j1 hs2 hd
 cases d with
 | true =>
   go_wp2_with fail
   go_ret
   exact ⟨by rw [← HDD.out]; simp, H3.out⟩
 | false =>
   go_wp2_with fail
   go_ret
   exact ⟨by rw [← HDD.out]; simp, H3.out⟩
end Go.Proofs.YticfkfjijnfcbaaDoor
/- The library's errors.Is where it is asked of nil, or of the sentinel itself. -/
namespace Go.Proofs.YticfkfjijnfcbaaDoor
open Go.RowKit Go.Extern.Stop Go.Stop Go.Extern
theorem isTypeOf (v : Value) (w : World) : (Extern.ReflectliteType.typeOf #[.iface 174 v]).run Tryd.prog w = .ok (.iface 160 (.agg #[.pointer (some ⟨2, 174, none⟩)])) w := by kernel_rfl
def cmpF : Array Value → Sem Value := Extern.ReflectliteType.method fun t => do Go.Extern.Rtype.noPackHeld "Comparable" t; pure (.bool (← typeInfo t).comparable)
theorem isComparable (w : World) : (cmpF #[.agg #[.pointer (some ⟨2, 174, none⟩)]]).run Tryd.prog w = .ok (.bool true) w := by kernel_rfl
theorem isMethodComparable (v : Value) (w : World) : (Go.method 316 160 v "Comparable").run Tryd.prog w = .ok (161, v) w := by kernel_rfl
theorem isComp : (Tryd.prog.info? 174).map (·.comparable) = some true := by kernel_rfl
theorem isSize : (Tryd.prog.info? 202).map (·.size) = some 1 := by kernel_rfl
set_option maxRecDepth 100000 in
theorem is_nil (b : Addr) (w : World) :
   Calls Tryd.prog 81 #[.nilIface, .iface 174 (.pointer (some b))] w fun e w' => e = .returned (.bool false) ∧ w' = w := by
 have hn := run_eql_iface_nil_left (P := Tryd.prog) w 174 (.pointer (some b)) Tryd.underlying84
 go_enter Tryd.func81, Tryd.ntmps81
 go_wp2
 go_ret
 exact ⟨rfl, rfl⟩
set_option maxRecDepth 100000 in
theorem is_same (a : Addr) (w : World) :
   Calls Tryd.prog 81 #[.iface 174 (.pointer (some a)), .iface 174 (.pointer (some a))] w fun e w' => e = .returned (.bool true) ∧ w' = w := by
 obtain ⟨i, hi, hcmp⟩ := Option.map_eq_some_iff.1 isComp
 obtain ⟨j, hj, hjs⟩ := Option.map_eq_some_iff.1 isSize
 have h8 := @run_callFunc_extern Tryd.prog 114 _ Extern.ReflectliteType.typeOf Tryd.func114 (by kernel_rfl) (by kernel_rfl) (by kernel_rfl) (by kernel_rfl)
 have h32 := @run_callFunc_extern Tryd.prog 161 _ cmpF Tryd.func161 (by kernel_rfl) (by kernel_rfl) (by kernel_rfl) (by kernel_rfl)
 have tT := isTypeOf
 have cT := isComparable
 have mR := isMethodComparable
 have heq := run_eql_iface_ptr_same (P := Tryd.prog) w a Tryd.underlying84 Tryd.underlying174 hi hcmp hj
 go_enter Tryd.func81, Tryd.ntmps81
 go_wp2
 refine wp_loop_rounds 1 ?_
 rw [rounds_succ]
 go_wp2
 go_ret
 exact ⟨rfl, rfl⟩
end Go.Proofs.YticfkfjijnfcbaaDoor
/- The program's CursorKey. -/
namespace Go.Proofs.YticfkfjijnfcbaaDoor
open Go.RowKit
def Tr.curK (t : Tr) (ks : List Int) (a : Int) : Int :=
 if Tr.curB t ks a = true then (match Tr.nodeTo ks t with | some (.mk k _) => k.getD a.toNat 0 | none => 0) else 0
theorem curK_no {t : Tr} {ks : List Int} {a : Int} (h : Tr.curB t ks a = false) : Tr.curK t ks a = 0 := by simp [Tr.curK, h]
theorem curK_at {t : Tr} {ks : List Int} {a : Int} {k : List Int} {c : List Tr} (h : Tr.curB t ks a = true) (hn : Tr.nodeTo ks t = some (.mk k c)) : Tr.curK t ks a = k.getD a.toNat 0 ∧ 0 ≤ a ∧ a < (k.length : Int) ∧ t.someB = true := by
 refine ⟨by simp [Tr.curK, h, hn], ?_⟩
 unfold Tr.curB at h
 rw [hn] at h
 simp only [Bool.and_eq_true, inB, decide_eq_true_eq] at h
 exact ⟨h.2.1, by omega, h.1⟩
set_option maxHeartbeats 2000000 in
set_option maxRecDepth 100000 in
theorem impl_cursorKey {w : World} {B : Nat} {kv cv v : Value} {t : Tr} {ks : List Int} (ht : TreeIn w B kv cv t) (hw : t.weight ≤ 1048576) (hk : IntsIn w B v ks) (a : Int) (s : Addr) (w' : World) (hbw : Below B w w') (hB : B ≤ w'.heap.size)
   (hV : ∀ wx, Below w'.heap.size w' wx → wx.cell? ⟨0, 0, none⟩ = some (.iface 174 (.pointer (some s)))) :
   Calls Tryd.prog 37 #[.agg #[kv, cv], .agg #[v, .int .i64 a]] w' fun e w'' => e = .returned (.tuple #[.int .i64 (Tr.curK t ks a), .bool (Tr.curB t ks a)]) ∧ Below w'.heap.size w' w'' := by
 have HT := Lib.hid ht
 have HK := Lib.hid hk
 obtain ⟨g1, g2, g3, g4, g5, g6, rfl, rfl⟩ := ht.slices
 obtain ⟨va, vcap, rfl, -⟩ := hk
 obtain ⟨W2, hW2⟩ : ∃ W2, W2 = (w'.alloc (.cells #[.slice g1 g2 g3, .slice g4 g5 g6] 33)).alloc (.cells #[.slice va ks.length vcap, .int .i64 a] 28) := ⟨_, rfl⟩
 have hb2 : Below w'.heap.size w' W2 := by rw [hW2]; exact ((Below.refl _ _).alloc (Nat.le_refl _) _).alloc (by simp) _
 have hs2 : w'.heap.size ≤ W2.heap.size := hb2.size
 have k0 : W2.heap[w'.heap.size]? = some (.cells #[.slice g1 g2 g3, .slice g4 g5 g6] 33 (0, 0)) := by rw [hW2, old_blk _ _ _ (by simp), new_blk]
 have k1 : W2.heap[w'.heap.size + 1]? = some (.cells #[.slice va ks.length vcap, .int .i64 a] 28 (0, 0)) := by
   rw [hW2, show w'.heap.size + 1 = (w'.alloc (.cells #[.slice g1 g2 g3, .slice g4 g5 g6] 33)).heap.size by simp, new_blk]
 rw [hW2] at k0 k1
 obtain ⟨x1, x2, x3, x4⟩ := box2 k0
 obtain ⟨y1, y2, y3, y4⟩ := box2 k1
 have HWA := Lib.hid (walkerAt_c HT.out hw HK.out a s W2 (hbw.trans (hb2.mono hB)) (by omega) (fun wx hx => hV wx (hb2.trans (hx.mono hs2))))
 have HB2 := Lib.hid (And.intro hb2 hV)
 have HW2 := Lib.hid hW2
 clear ht hbw hW2 hb2 k0 k1 hV
 go_enter Tryd.func37, Tryd.ntmps37
 go_wp2_with fail
 rw [← HW2.out]
 refine HWA.out.mono ?_
 rintro e w3 ⟨hres, hb3⟩
 have H3 := Lib.hid (HB2.out.1.trans (hb3.mono hs2))
 have xv := HB2.out.2 w3 H3.out
 clear hb3 x1 x2 x3 x4 y1 y2 y3 y4
 rcases hres with ⟨hc, rfl⟩ | ⟨hc, b, f, ⟨uk, uc⟩, p, lo, hi, rfl, hwk, hfp, hnode, hnd, -⟩
 · have HC := Lib.hid (And.intro hc (curK_no hc))
   clear hc
   go_wp2_with fail
   refine (is_same s _).mono ?_
   rintro e w4 ⟨rfl, hw4⟩
   have hw4' := hw4.symm
   subst hw4'
   go_wp2_with fail
   exact bodyPost_ret (v := .tuple #[.int .i64 0, .bool false]) (by simp [results, Tryd.results37]) rfl ⟨by rw [HC.out.1, HC.out.2], H3.out⟩
 · obtain ⟨hk1, ha1, ha2, hsb⟩ := curK_at hc hnode
   have hfew := Tr.nodeTo_few hsb hnode
   have HC := Lib.hid (And.intro hc hk1)
   have HKY := Lib.hid (key_c hwk (by omega) hfp hnd ⟨ha1, ha2⟩)
   clear hc hwk hfp hnode hnd hk1 ha1 ha2 hsb hfew
   go_wp2_with fail
   refine (is_nil s _).mono ?_
   rintro e w4 ⟨rfl, hw4⟩
   have hw4' := hw4.symm
   subst hw4'
   go_wp2_with fail
   refine HKY.out.mono ?_
   rintro e w5 ⟨rfl, hb5⟩
   have H5 := Lib.hid (H3.out.trans (hb5.mono H3.out.size))
   obtain ⟨K, hK⟩ : ∃ K, K = uk.getD a.toNat 0 := ⟨_, rfl⟩
   rw [← hK]
   have HKK := Lib.hid hK
   clear hb5 hK
   go_wp2_with fail
   exact bodyPost_ret (v := .tuple #[.int .i64 K, .bool true]) (by simp [results, Tryd.results37]) rfl ⟨by rw [HC.out.1, HC.out.2, HKK.out], H5.out⟩
end Go.Proofs.YticfkfjijnfcbaaDoor
/- The cursor at which a walker stands. -/
namespace Go.Proofs.YticfkfjijnfcbaaDoor
open Go.RowKit
set_option maxRecDepth 100000 in
set_option maxHeartbeats 4000000 in
theorem cursor_c {w : World} {b : Nat} {P : List Int} {a : Int} (h : StandsAt w b P a) (hP : P.length < 6) :
   Calls Tryd.prog 104 #[.pointer (some ⟨b, 0, none⟩)] w fun e w' => ∃ v, e = .returned (.agg #[v, .int .i64 a]) ∧ IntsOwn w' w.heap.size v P ∧ Below w.heap.size w w' := by
 obtain ⟨f, hW, hf, hfa⟩ := h
 obtain ⟨n, hn⟩ : ∃ n, n = P.length := ⟨_, rfl⟩
 rw [← hn] at hW hf hfa hP
 have hlt := hW.lt
 obtain ⟨W1, hW1⟩ : ∃ W1, W1 = w.alloc (.cells #[.slice none 0 0, .int .i64 0] 28) := ⟨_, rfl⟩
 have hs1 : W1.heap.size = w.heap.size + 1 := by rw [hW1]; simp
 have hb1 : Below w.heap.size w W1 := by rw [hW1]; exact (Below.refl _ _).alloc (Nat.le_refl _) _
 have k0 : W1.heap[w.heap.size]? = some (.cells #[.slice none 0 0, .int .i64 0] 28 (0, 0)) := by rw [hW1, new_blk]
 have hwk1 : Walker W1 b f (n + 1) := hW.blow (hb1.block b hlt)
 have HLW := Lib.hid (lowest_c hwk1 hP)
 -- the walker's cells, wherever its block is the same
 have CE : Hid (∀ wx : World, wx.heap[b]? = w.heap[b]? → wx.cell? ⟨b, n * 2 + 1, none⟩ = some (.int .i64 a) ∧ wx.cell? ⟨b, 12, none⟩ = some (.int .i64 ((n : Int) + 1)) ∧
     ∀ i, i < n → ∃ v : Addr, wx.cell? ⟨b, i * 2, none⟩ = some (.pointer (some v)) ∧ wx.cell? ⟨b, i * 2 + 1, none⟩ = some (.int .i64 (P.getD i 0))) := by
   obtain ⟨C, hx, hC, h12, hat⟩ := hW.blk
   refine Lib.hid (fun wx he => ⟨?_, ?_, fun i hi => ?_⟩)
   · have := (hat n (by omega)).2
     rw [hfa, show 2 * n + 1 = n * 2 + 1 by omega] at this
     simp [World.cell?, he, hx, this]
   · have : C[12]? = some (.int .i64 ((n : Int) + 1)) := by rw [h12]; simp
     simp [World.cell?, he, hx, this]
   · obtain ⟨g1, pp, g2⟩ := hf i hi
     have g3 := (hat i (by omega)).1
     have g4 := (hat i (by omega)).2
     rw [g2, show 2 * i = i * 2 by omega] at g3
     rw [g1, show 2 * i + 1 = i * 2 + 1 by omega] at g4
     exact ⟨pp, by simp [World.cell?, he, hx, g3], by simp [World.cell?, he, hx, g4]⟩
 have HB1 := Lib.hid (And.intro hb1 k0)
 have HW1 := Lib.hid hW1
 have HN := Lib.hid hn
 clear hW hf hfa hwk1 hb1 k0 hW1 hn
 go_enter Tryd.func104, Tryd.ntmps104
 go_wp2_with fail
 rw [← HW1.out]
 refine HLW.out.mono ?_
 rintro e w2 ⟨rfl, hb2, hh⟩
 have hs2 : w2.heap.size = w.heap.size + 1 := by rw [hh]; exact hs1
 have hbl2 : w2.heap[b]? = w.heap[b]? := by rw [hh]; exact HB1.out.1.block b hlt
 obtain ⟨x1, -, -⟩ := CE.out w2 hbl2
 -- the cursor's box
 obtain ⟨W3, hW3⟩ : ∃ W3, W3 = w2.alloc (.cells #[.slice none 0 0, .int .i64 a] 28) := ⟨_, rfl⟩
 have hs3 : W3.heap.size = w.heap.size + 2 := by rw [hW3]; simp [hs2]
 have hb3 : Below w.heap.size w W3 := by
   rw [hW3]; exact HB1.out.1.trans ((hb2.mono (by omega)).alloc (by omega) _)
 have k03 : W3.heap[w.heap.size]? = some (.cells #[.slice none 0 0, .int .i64 0] 28 (0, 0)) := by rw [hW3, old_blk _ _ _ (by omega), hh]; exact HB1.out.2
 have k13 : W3.heap[w.heap.size + 1]? = some (.cells #[.slice none 0 0, .int .i64 a] 28 (0, 0)) := by rw [hW3, ← hs2, new_blk]
 have hbl3 : W3.heap[b]? = w.heap[b]? := hb3.block b hlt
 obtain ⟨-, y1, -⟩ := CE.out W3 hbl3
 rw [hW3] at y1
 have hdec : IntKind.i64.wrap ((n : Int) + 1 - 1) = (n : Int) := by rw [IntKind.wrap_i64]; omega
 have hsub : (n : Int) + 1 - 1 = (n : Int) := by omega
 have hn6 : (n : Int) ≤ 6 := by omega
 have hn0 : (0 : Int) ≤ (n : Int) := by omega
 have H3 := Lib.hid (And.intro hb3 (And.intro k03 (And.intro k13 hbl3)))
 have HW3 := Lib.hid hW3
 have HS2 := Lib.hid (And.intro hs2 (And.intro hs3 hs1))
 clear hb2 hh hb3 k03 k13 hbl3 hW3 hs3 hs1
 go_wp2_with fail
 go_quiet (fail)
 rw [← HW3.out]
 go_wp2_with fail
 go_loopw [5, 22] (fun _ i wr => ∃ (j : Nat) (a1 : Option Addr) (c1 : Nat), j ≤ n ∧ i = .int .i64 (j : Int) ∧ Hid (IntsOwn wr (w.heap.size + 2) (.slice a1 j c1) (P.take j)) ∧
   wr.heap[w.heap.size + 1]? = some (.cells #[.slice a1 j c1, .int .i64 a] 28 (0, 0)) ∧ wr.heap[w.heap.size]? = some (.cells #[.slice none 0 0, .int .i64 0] 28 (0, 0)) ∧ Below w.heap.size w wr) (fun _ i _ => n - (intOf i).toNat)
 case atStart => exact ⟨0, none, 0, Nat.zero_le _, rfl, Lib.hid ⟨rfl, .inl ⟨rfl, rfl⟩⟩, H3.out.2.2.1, H3.out.2.1, H3.out.1.trans (drewN_below _ _ _)⟩
 case round =>
   obtain ⟨j, a1, c1, hj, rfl, HOWN, hx1, hx0, hbel⟩ := hrel
   have hsz : w.heap.size + 2 ≤ wr.heap.size := by
     have := (Array.getElem?_eq_some_iff.1 hx1).1; omega
   have hblr : wr.heap[b]? = w.heap[b]? := hbel.block b hlt
   have htl : (P.take j).length = j := by have := HN.out; rw [List.length_take]; omega
   by_cases hlt' : j < n
   · obtain ⟨v, c3, c4⟩ := (CE.out wr hblr).2.2 j hlt'
     obtain ⟨x, hx⟩ : ∃ x, x = P.getD j 0 := ⟨_, rfl⟩
     rw [← hx] at c4
     have hjn : (j : Int) < (n : Int) := by omega
     obtain ⟨Wj, hWj⟩ : ∃ Wj, Wj = wr.alloc (.cells #[.pointer (some v), .int .i64 x] 124) := ⟨_, rfl⟩
     have hsj : Wj.heap.size = wr.heap.size + 1 := by rw [hWj]; simp
     have e1 : Wj.heap[w.heap.size + 1]? = some (.cells #[.slice a1 j c1, .int .i64 a] 28 (0, 0)) := by rw [hWj, old_blk _ _ _ (by omega)]; exact hx1
     have e2 : Wj.heap[wr.heap.size]? = some (.cells #[.pointer (some v), .int .i64 x] 124 (0, 0)) := by rw [hWj, new_blk]
     obtain ⟨q1, q2, q3, q4⟩ := box2 e1
     obtain ⟨r1, r2, r3, r4⟩ := box2 e2
     have HOJ : Hid (IntsOwn (Wj.alloc (.cells #[.int .i64 x] 3)) (w.heap.size + 2) (.slice a1 j c1) (P.take j)) := Lib.hid (by rw [hWj]; exact (HOWN.out.alloc' _).alloc' _)
     have HSX : Hid (IntsAt (Wj.alloc (.cells #[.int .i64 x] 3)) (.slice (some ⟨wr.heap.size + 1, 0, none⟩) 1 1) [x]) := Lib.hid (by rw [← hsj]; exact IntsAt.one Wj x)
     have HLN : Hid ((P.take j).length + [x].length ≤ 17592186044416) := Lib.hid (by rw [htl]; simp; omega)
     have hlo : w.heap.size + 2 ≤ (Wj.alloc (.cells #[.int .i64 x] 3)).heap.size := by simp; omega
     have HPJ : Hid (P.take j ++ [x] = P.take (j + 1)) := Lib.hid (by
       have hjP : j < P.length := by have := HN.out; omega
       rw [List.take_succ_eq_append_getElem hjP, hx, List.getD_eq_getElem?_getD, List.getElem?_eq_getElem hjP]; rfl)
     have HX := Lib.hid (And.intro hx1 (And.intro hx0 (And.intro hbel hx)))
     have HE := Lib.hid (And.intro e1 (And.intro e2 hWj))
     have hWjr : wr.alloc (.cells #[.pointer (some v), .int .i64 x] 124) = Wj := hWj.symm
     clear hx1 hx0 hbel hx e1 e2 hblr hWj
     go_wp2_with (at_builtin; refine wpList_append_ints rfl _ _ rfl (w.heap.size + 2) _ _ (P.take j) [x] rfl HOJ.out rfl HSX.out HLN.out hlo ?_; intro v9 w9 hown9 hbel9 _ hsh9; obtain ⟨a9, c9, rfl⟩ := hsh9; have d1 := (hbel9.block (w.heap.size + 1) (by omega)).trans ((old_blk _ _ _ (by omega)).trans HE.out.1); obtain ⟨t1, t2, t3, t4⟩ := box2 d1; have hl9 : (P.take j ++ [x]).length = j + 1 := by simp [htl])
     go_roundw
     case rel =>
       have hsw : w.heap.size + 2 ≤ (Wj.alloc (.cells #[.int .i64 x] 3)).heap.size := hlo
       have hbj : Below w.heap.size w (Wj.alloc (.cells #[.int .i64 x] 3)) := HX.out.2.2.1.trans (by rw [HE.out.2.2]; exact ((Below.refl _ _).alloc (by omega) _).alloc (by simp; omega) _)
       have d0 : w9.heap[w.heap.size]? = some (.cells #[.slice none 0 0, .int .i64 0] 28 (0, 0)) := (hbel9.block w.heap.size (by omega)).trans ((old_blk _ _ _ (by omega)).trans (by rw [HE.out.2.2, old_blk _ _ _ (by omega)]; exact HX.out.2.1))
       refine ⟨j + 1, a9, c9, by omega, by go_num, Lib.hid ?_, ?_, ?_, ?_⟩
       · rw [← HPJ.out]
         have ho := hown9
         rw [hl9] at ho
         exact ho.only (C := w9.heap.size) (r := w.heap.size + 1) ⟨rfl, rfl, rfl, by simp, fun k _ hne => set_other _ _ _ _ _ hne⟩ (Nat.le_refl _) (by omega)
       · exact set_blk (o := 0) _ d1
       · rw [set_other _ _ _ _ _ (by omega)]; exact d0
       · exact (hbj.trans (hbel9.mono (by omega))).setCell (by show w.heap.size ≤ w.heap.size + 1; omega) _
     case measure => simp [intOf]; omega
   · have hjn : ¬ (j : Int) < (n : Int) := by omega
     obtain rfl : j = n := by omega
     have htk : P.take j = P := List.take_of_length_le (by have := HN.out; omega)
     rw [htk] at HOWN
     obtain ⟨q1, q2, q3, q4⟩ := box2 hx1
     obtain ⟨r1, r2, r3, r4⟩ := box2 hx0
     have HX := Lib.hid (And.intro hx1 (And.intro hx0 hbel))
     clear hx1 hx0 hbel htk hblr htl
     go_wp2_with fail
     have d := set_blk (o := 1) (.int .i64 a) (set_blk (o := 0) (.slice a1 j c1) HX.out.2.1)
     obtain ⟨t1, t2, -, -⟩ := box2 d
     refine bodyPost_ret (v := .agg #[.slice a1 j c1, .int .i64 a]) (by simp [results, Tryd.results104, go_sem, t1, t2]) rfl ⟨_, rfl, ?_, ?_⟩
     · have h2 := HOWN.out.only (w' := (wr.setCell ⟨w.heap.size, 0, none⟩ (.slice a1 j c1)).setCell ⟨w.heap.size, 1, none⟩ (.int .i64 a)) (C := wr.heap.size) (r := w.heap.size) ⟨rfl, rfl, rfl, by simp, fun k _ hne => by rw [set_other _ _ _ _ _ hne, set_other _ _ _ _ _ hne]⟩ (Nat.le_refl _) (by omega)
       exact h2.lower (by omega)
     · exact (HX.out.2.2.setCell (p := ⟨w.heap.size, 0, none⟩) (Nat.le_refl _) _).setCell (p := ⟨w.heap.size, 1, none⟩) (Nat.le_refl _) _
end Go.Proofs.YticfkfjijnfcbaaDoor
