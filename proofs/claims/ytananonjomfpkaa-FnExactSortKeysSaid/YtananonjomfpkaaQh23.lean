/- For every list of ints in memory, the law on SortKeys returns true and leaves its argument as it was; no conditions. -/
import Derived.Test.YtananonjomfpkaaQhS29
import Derived.Test.YtananonjomfpkaaRows
import Derived.Test.YtananonjomfpkaaQhS27
import Derived.OpenShut
import Derived.ChangeOld
import Derived.Below
import Derived.Test.YtananonjomfpkaaQh20
/- What a law on a function from a list of ints to a tree keeps from call to call. -/
namespace Go.Proofs.Ytananonjomfpkaa
open Go.RowKit
structure ExI (w0 : World) (g b8 b11 B8 lo : Nat) (n : Nat) (k4 c4 k7 c7 : Value) (P : Blocks) (r u : Tr) (w : World) : Prop where
 bel : Below w0.heap.size w0 w
 x8 : w.heap[b8]? = some (.cells #[k4, c4] 26 (0, 0))
 x11 : w.heap[b11]? = some (.cells #[k7, c7] 26 (0, 0))
 tr4 : TreeIn w B8 k4 c4 r
 tr7 : TreeO w lo P k7 c7 u
 l8 : B8 ≤ b8 ∧ b8 < g ∧ g < lo
 l0 : w0.heap.size ≤ B8
 n11 : lo ≤ b11 ∧ ¬ P b11
 lw : B8 ≤ w.heap.size
variable {w0 w w' : World} {g b8 b11 B8 lo n : Nat} {k4 c4 k7 c7 : Value} {P : Blocks} {r u : Tr}
theorem rowIn {w : World} {g : Nat} {ks : List Int} (h : w.rowIs g 3 ks.length (fun i => .int .i64 (ks.getD i 0))) (hl : ks.length ≤ 1048576) {B : Nat} (hB : g < B) : IntsIn w B (.slice (some ⟨g, 0, none⟩) ks.length ks.length) ks := by
 obtain ⟨c, hb, hn, hc⟩ := h
 exact ⟨some ⟨g, 0, none⟩, ks.length, rfl, Nat.le_refl _, by unfold maxLen; omega, (fun h => by cases h), .inr ⟨g, 0, rfl, hB, fun i hi => by simpa [World.cell?, hb] using hc i hi⟩⟩
end Go.Proofs.Ytananonjomfpkaa
/- The model's SortKeys. -/
namespace Go.Proofs.Ytananonjomfpkaa
open Go.RowKit
theorem take_not {ks : List Int} {j : Nat} {x n : Int} (h : j < ks.length) (hx : ks.getD j 0 = x) (hn : n ∉ ks.take j) (hne : x ≠ n) : n ∉ ks.take (j + 1) := by
 have e : ks.getD j 0 = ks[j] := by simp [List.getD_eq_getElem?_getD, h]
 rw [List.take_succ_eq_append_getElem h, ← e, List.mem_append, List.mem_singleton, hx]
 rintro (h1 | h1)
 · exact hn h1
 · exact hne h1.symm
set_option maxRecDepth 100000 in
set_option maxHeartbeats 2000000 in
theorem specSortKeys_c {v : Value} {ks : List Int} (w : World) (B : Nat) (hk : IntsIn w B v ks) (hB : B ≤ w.heap.size) :
   Calls Try.prog 49 #[v] w fun e w' => ∃ v', e = .returned (.tuple #[v', .bool (keysOk ks)]) ∧ IntsOwn w' w.heap.size v' (sortL ks) ∧ Below w.heap.size w w' := by
 have HK := Lib.hid hk
 obtain ⟨a, cap, rfl, h1, h2, -, -⟩ := hk
 unfold maxLen at h2
 obtain ⟨W1, hW1⟩ : ∃ W1, W1 = w.alloc (.cells #[] 3) := ⟨_, rfl⟩
 have hs1 : w.heap.size < W1.heap.size := by rw [hW1]; simp
 have hb1 : Below w.heap.size w W1 := by rw [hW1]; exact (Below.refl _ _).alloc (Nat.le_refl _) _
 have hown1 : IntsOwn W1 w.heap.size (.slice (some ⟨w.heap.size, 0, none⟩) 0 0) [] := by rw [hW1]; exact World.ownsRow_made w #[] 0 (Nat.le_refl _) (by unfold maxLen; omega) rfl
 have HL := Lib.hid (l3Keys_c W1 B (HK.out.later hb1 hB))
 have H1 := Lib.hid (And.intro hb1 hown1)
 have HW1 := Lib.hid hW1
 clear hW1 hb1 hown1
 go_enter Try.func49, Try.ntmps49
 go_wp2_with fail
 rw [← HW1.out]
 refine HL.out.mono ?_
 rintro e w2 ⟨rfl, hw2⟩
 subst hw2
 cases hko : keysOk ks with
 | false =>
   have HS := Lib.hid (show sortL ks = [] by simp [sortL, hko])
   have HKO := Lib.hid hko
   clear hko
   go_wp2_with fail
   exact bodyPost_ret (v := .tuple #[.slice (some ⟨w.heap.size, 0, none⟩) 0 0, .bool false]) (by simp [results, Try.results49]) rfl ⟨_, by rw [HKO.out], by rw [HS.out]; exact H1.out.2, H1.out.1⟩
 | true =>
   have HS := Lib.hid (show sortL ks = sortedTo ks 100 by simp [sortL, hko])
   have HKO := Lib.hid hko
   clear hko
   go_wp2_with fail
   go_loopw [4, 13] (fun s4 i wr => ∃ (n : Nat), n ≤ 100 ∧ i = .int .i64 n ∧ IntsOwn wr w.heap.size s4 (sortedTo ks n) ∧ Below w.heap.size w wr) (fun _ i _ => 100 - (intOf i).toNat)
   case atStart => exact ⟨0, Nat.zero_le _, rfl, H1.out.2, H1.out.1⟩
   case round =>
     obtain ⟨n, hn, rfl, hown, hbel⟩ := hrel
     obtain ⟨oa, oc, rfl⟩ := IntsOwn.shown hown
     have hsz := hbel.size
     have HR := Lib.hid (And.intro hown hbel)
     clear hown hbel
     by_cases hlt : n < 100
     · have hnl : (n : Int) < 100 := by omega
       have hll := sortedTo_len ks n
       obtain ⟨L, hL⟩ : ∃ L, L = sortedTo ks n := ⟨_, rfl⟩
       have HSN := Lib.hid (sortedTo_snoc ks n)
       rw [← hL] at hll
       have HLL := Lib.hid hL
       rw [← hL]
       clear hL
       obtain ⟨N, hN⟩ : ∃ N : Int, N = n := ⟨_, rfl⟩
       rw [← hN] at hnl ⊢
       have hwrN : IntKind.i64.wrap (N + 1) = N + 1 := by rw [IntKind.wrap_i64]; omega
       have HN := Lib.hid hN
       clear hN
       go_wp2_with fail
       go_loopw [4, 18] (fun s4 i wx => ∃ (j : Nat), j ≤ ks.length ∧ i = .int .i64 j ∧ N ∉ ks.take j ∧ s4 = .slice oa L.length oc ∧ wx = wr) (fun _ i _ => ks.length - (intOf i).toNat)
       case atStart => exact ⟨0, Nat.zero_le _, rfl, by simp, rfl, rfl⟩
       case round =>
         obtain ⟨j, hj, rfl, hnin, rfl, hwx⟩ := hrel
         have hwx' := hwx.symm
         subst hwx'
         have HNI := Lib.hid hnin
         clear hnin
         by_cases hjt : j < ks.length
         · have hin := HK.out
           obtain ⟨_, _, hve, -, -, -, h3⟩ := hin
           simp only [Value.slice.injEq] at hve
           obtain ⟨rfl, -, -⟩ := hve
           rcases h3 with h | ⟨b, off, rfl, hb, hat⟩
           · simp [h] at hjt
           have ha := hat j hjt
           rw [← below_cell HR.out.2 (by omega)] at ha
           have HTN := Lib.hid (fun hne => take_not (ks := ks) (j := j) (x := ks.getD j 0) (n := N) hjt rfl HNI.out hne)
           have HMM := Lib.hid (show ks.getD j 0 ∈ ks by rw [List.getD_eq_getElem?_getD, List.getElem?_eq_getElem hjt]; exact List.getElem_mem hjt)
           generalize ks.getD j 0 = x at ha HTN HMM
           have hjl : (j : Int) < (ks.length : Int) := by omega
           clear hat hb
           by_cases hx : x = N
           · have hxe : (x == N) = true := by simp [hx]
             have HSM := Lib.hid (show sortedTo ks (n + 1) = L ++ [N] by rw [HSN.out, if_pos (by rw [← HN.out, ← hx]; exact HMM.out), ← HLL.out, HN.out])
             have HO1 := Lib.hid (IntsOwn.alloc' HR.out.1 (.cells #[.int .i64 N] 3))
             have HSR := Lib.hid (IntsAt.one wr N)
             have hlo : w.heap.size ≤ (wr.alloc (.cells #[.int .i64 N] 3)).heap.size := by simp; omega
             have HLN : Hid (L.length + [N].length ≤ 17592186044416) := Lib.hid (by simp; omega)
             rw [← HLL.out] at HO1
             clear hx
             go_wp2_with (at_builtin; refine wpList_append_ints rfl _ _ rfl w.heap.size _ _ L [N] rfl HO1.out rfl HSR.out HLN.out hlo ?_; intro v4 w8 hown8 hbel8 _ hsh8; obtain ⟨a8, c8, rfl⟩ := hsh8; generalize hL8 : L ++ [N] = L8 at hown8 ⊢; have HL8 := Lib.hid hL8; have HNN := Lib.hid (And.intro hown8 hbel8); clear hown8 hbel8 hL8)
             go_roundw
             case rel =>
               refine ⟨n + 1, by omega, by rw [HN.out]; first | rfl | go_num, ?_, HR.out.2.trans (((Below.refl _ _).alloc hsz _).trans HNN.out.2)⟩
               rw [HSM.out, HL8.out]
               exact HNN.out.1
             case measure => have := HN.out; simp [intOf]; omega
           · have hxe : (x == N) = false := by simp [hx]
             have HNX := Lib.hid (HTN.out hx)
             clear hx
             go_wp2_with fail
             go_roundw
             case rel => exact ⟨j + 1, by omega, by go_num, HNX.out, rfl, by first | rfl | trivial⟩
             case measure => simp [intOf]; omega
         · have hjl : ¬ (j : Int) < (ks.length : Int) := by omega
           have hje : j = ks.length := by omega
           have HSM := Lib.hid (show sortedTo ks (n + 1) = L by
             rw [HSN.out, if_neg, HLL.out]
             have h := HNI.out
             rw [hje, List.take_length, HN.out] at h
             exact h)
           clear hje
           go_wp2_with fail
           go_roundw
           case rel =>
             refine ⟨n + 1, by omega, by rw [HN.out]; first | rfl | go_num, ?_, HR.out.2⟩
             rw [HSM.out, HLL.out]
             exact HR.out.1
           case measure => have := HN.out; simp [intOf]; omega
     · have hne : n = 100 := by omega
       have hnl : ¬ (n : Int) < 100 := by omega
       have HNE := Lib.hid hne
       clear hlt hne
       go_wp2_with fail
       exact bodyPost_ret (v := .tuple #[.slice oa (sortedTo ks n).length oc, .bool true]) (by simp [results, Try.results49]) rfl ⟨_, by rw [HKO.out], by rw [HS.out, ← HNE.out]; exact HR.out.1, HR.out.2⟩
end Go.Proofs.Ytananonjomfpkaa
/- The law on SortKeys: the walk over the contracts. -/
namespace Go.Proofs.Ytananonjomfpkaa
open Go.RowKit
def ImplSortKeys : Prop := ∀ (w0 : World) (B : Nat) (v : Value) (ks : List Int), IntsIn w0 B v ks →
 Calls Try.prog 50 #[v] w0 fun e w' => ∃ v', e = .returned (.tuple #[v', .bool (keysOk ks)]) ∧ IntsOwn w' w0.heap.size v' (sortL ks) ∧ Below w0.heap.size w0 w'
theorem sortL_len (ks : List Int) : (sortL ks).length ≤ 100 := by
 unfold sortL
 split
 · exact sortedTo_len ks 100
 · simp
set_option maxHeartbeats 4000000 in
set_option maxRecDepth 100000 in
theorem exSortKeys_c {v : Value} {ks : List Int} (w : World) (hk : IntsIn w w.heap.size v ks) (hI : ImplSortKeys) :
   Calls Try.prog 13 #[v] w fun e w' => e = .returned (.bool true) ∧ Below w.heap.size w w' := by
 have HK := Lib.hid hk
 obtain ⟨av, cv, rfl, -, hcap, -, -⟩ := hk
 unfold maxLen at hcap
 by_cases hlen : ks.length ≤ 1048576
 case neg =>
   have hc1' : ((ks.length : Int) > 1048576) := by omega
   go_enter Try.func13, Try.ntmps13
   go_wp2_with fail
   go_ret
   exact ⟨rfl, Below.refl _ _⟩
 have hc1' : ¬ ((ks.length : Int) > 1048576) := by omega
 go_enter Try.func13, Try.ntmps13
 go_wp2_with fail
 -- the first copy, for the model
 refine (toIntS_c ks _ w w.heap.size (Nat.le_refl _) HK.out hlen).mono ?_
 rintro e w2 ⟨g2, rfl, hg2, hr2, hb2⟩
 have hs2 := hb2.size
 have H2 := Lib.hid (And.intro hb2 (rowIn hr2 hlen hr2.lt))
 clear hr2 hb2
 go_wp2_with fail
 refine (specSortKeys_c w2 w2.heap.size H2.out.2 (Nat.le_refl _)).mono ?_
 rintro e w4 ⟨v4, rfl, ho4, hb4⟩
 have hs4 := hb4.size
 have hsl := sortL_len ks
 obtain ⟨a4, c4, rfl⟩ := IntsOwn.shown ho4
 have H4 := Lib.hid (And.intro (H2.out.1.trans (hb4.mono (by omega))) (IntsOwn.inB ho4 (Nat.le_refl _)))
 clear ho4 hb4
 obtain ⟨R, hR⟩ : ∃ R, R = sortL ks := ⟨_, rfl⟩
 obtain ⟨ok, hok⟩ : ∃ ok, ok = keysOk ks := ⟨_, rfl⟩
 rw [← hR] at H4 hsl
 rw [← hR, ← hok]
 have HRK := Lib.hid (And.intro hR hok)
 have hneb : (ok != ok) = false := by simp
 clear hR hok
 go_wp2_with fail
 -- the second copy, for the program
 refine (toIntS_c ks _ w4 w.heap.size (by omega) (HK.out.later H4.out.1 (Nat.le_refl _)) hlen).mono ?_
 rintro e w6 ⟨g6, rfl, hg6, hr6, hb6⟩
 have hs6 := hb6.size
 have hg6' := hr6.lt
 have H6 := Lib.hid (And.intro hb6 hr6)
 have HI6 := Lib.hid (hI w6 w6.heap.size _ ks (rowIn hr6 hlen hr6.lt))
 clear hr6 hb6
 go_wp2_with fail
 refine HI6.out.mono ?_
 rintro e w8 ⟨v8, rfl, ho8, hb8⟩
 rw [← HRK.out.1] at ho8
 rw [← HRK.out.2]
 have hs8 := hb8.size
 obtain ⟨a8, c8, rfl⟩ := IntsOwn.shown ho8
 have hb48 : Below w4.heap.size w4 w8 := H6.out.1.trans (hb8.mono (by omega))
 have H8 := Lib.hid (And.intro ho8 (And.intro hb8 hb48))
 clear ho8 hb8 hb48
 go_wp2_with fail
 refine (eqIntS_c R _ _ w8 w8.heap.size (Nat.le_refl _) (IntsOwn.inB H8.out.1 (Nat.le_refl _)) (IntsIn.wider (H4.out.2.later H8.out.2.2 (Nat.le_refl _)) (by omega))).mono ?_
 rintro e w10 ⟨rfl, hb10⟩
 have hs10 := hb10.size
 have hb410 : Below w4.heap.size w4 w10 := H8.out.2.2.trans (hb10.mono (by omega))
 have hb610 : Below w6.heap.size w6 w10 := H8.out.2.1.trans (hb10.mono (by omega))
 have H10 := Lib.hid (And.intro (IntsOwn.later H8.out.1 hb10 (Nat.le_refl _)) (And.intro hb610 hb410))
 clear hb10 hb410 hb610
 go_wp2_with fail
 -- the argument as it was
 refine (toIntS_c ks _ w10 w.heap.size (by omega) (HK.out.later (H4.out.1.trans (H10.out.2.2.mono (by omega))) (Nat.le_refl _)) hlen).mono ?_
 rintro e w11 ⟨g11, rfl, hg11, hr11, hb11⟩
 have hs11 := hb11.size
 have H11 := Lib.hid (And.intro hb11 (rowIn hr11 hlen hr11.lt))
 clear hr11 hb11
 go_wp2_with fail
 refine (eqIntS_c ks _ _ w11 w11.heap.size (Nat.le_refl _) (rowIn (H6.out.2.of_block ((H10.out.2.1.trans (H11.out.1.mono (by omega))).block _ hg6')) hlen (by omega)) H11.out.2).mono ?_
 rintro e w12 ⟨rfl, hb12⟩
 have hs12 := hb12.size
 have hb1012 : Below w10.heap.size w10 w12 := H11.out.1.trans (hb12.mono (by omega))
 have H12 := Lib.hid (And.intro (IntsOwn.later H10.out.1 hb1012 (Nat.le_refl _)) (And.intro (H10.out.2.1.trans (hb1012.mono (by omega))) (H10.out.2.2.trans (hb1012.mono (by omega)))))
 clear hb12 hb1012
 go_wp2_with fail
 -- the program's argument is marked
 refine (markKeys_c (lo := g6) (hi := g6 + 1) (H6.out.2.of_block (H12.out.2.1.block _ hg6')) (Nat.le_refl _) (by omega) hlen 1 (by omega) (by omega)).mono ?_
 rintro e w13 ⟨rfl, -, hsp⟩
 have hs13 := hsp.size
 have hon : Only w12.heap.size g6 w12 w13 := ⟨hsp.os, hsp.tape, hsp.output, hsp.size, fun k h1 h2 => hsp.block k h1 (by omega)⟩
 have hb413 : Below w4.heap.size w4 w13 := H12.out.2.2.trans (hon.below (by omega) (by omega))
 have H13 := Lib.hid (And.intro (IntsOwn.only H12.out.1 hon (Nat.le_refl _) hg6') hb413)
 have hm' : ¬ ((1 : Int) + (ks.length : Int) < 0) := by omega
 clear hsp hon hb413
 go_wp2_with fail
 refine (eqIntS_c R _ _ w13 w13.heap.size (Nat.le_refl _) (IntsOwn.inB H13.out.1 (Nat.le_refl _)) (IntsIn.wider (H4.out.2.later H13.out.2 (Nat.le_refl _)) (by omega))).mono ?_
 rintro e w14 ⟨rfl, hb14⟩
 have hs14 := hb14.size
 have H14 := Lib.hid (And.intro (IntsOwn.later H13.out.1 hb14 (Nat.le_refl _)) (H13.out.2.trans (hb14.mono (by omega))))
 clear hb14
 go_wp2_with fail
 -- the program's answer is marked
 refine (markOwn_c H14.out.1 (by omega) (by omega) 1 (by omega) (by omega)).mono ?_
 rintro e w15 ⟨rfl, ho15, hb15⟩
 have hs15 := hb15.size
 have H15 := Lib.hid (And.intro ho15 (H14.out.2.trans (hb15.mono (by omega))))
 have hne : (((1 : Int) + (R.length : Int)) != 1 + (R.length : Int)) = false := by simp
 have hn15 : ¬ ((1 : Int) + (R.length : Int) < 0) := by omega
 clear ho15 hb15
 go_wp2_with fail
 refine (held_c R.length _ 1 w15 (IntsIn.at (IntsOwn.in H15.out.1)) (by omega) (by omega) (by omega)).mono ?_
 rintro e w16 ⟨rfl, hw16⟩
 subst hw16
 go_wp2_with fail
 -- once more
 refine (toIntS_c ks _ w15 w.heap.size (by omega) (HK.out.later (H4.out.1.trans (H15.out.2.mono (by omega))) (Nat.le_refl _)) hlen).mono ?_
 rintro e w17 ⟨g17, rfl, hg17, hr17, hb17⟩
 have hs17 := hb17.size
 have HI17 := Lib.hid (hI w17 w17.heap.size _ ks (rowIn hr17 hlen hr17.lt))
 have H17 := Lib.hid hb17
 clear hb17 hr17
 go_wp2_with fail
 refine HI17.out.mono ?_
 rintro e w18 ⟨v18, rfl, ho18, hb18⟩
 rw [← HRK.out.1] at ho18
 rw [← HRK.out.2]
 have hs18 := hb18.size
 obtain ⟨a18, c18, rfl⟩ := IntsOwn.shown ho18
 have hb1518 : Below w15.heap.size w15 w18 := H17.out.trans (hb18.mono (by omega))
 have H18 := Lib.hid (And.intro ho18 hb1518)
 clear ho18 hb18 hb1518
 go_wp2_with fail
 refine (eqIntS_c R _ _ w18 w18.heap.size (Nat.le_refl _) (IntsOwn.inB H18.out.1 (Nat.le_refl _)) (IntsIn.wider (H4.out.2.later (H15.out.2.trans (H18.out.2.mono (by omega))) (Nat.le_refl _)) (by omega))).mono ?_
 rintro e w20 ⟨rfl, hb20⟩
 have hs20 := hb20.size
 have hb1520 : Below w15.heap.size w15 w20 := H18.out.2.trans (hb20.mono (by omega))
 have H20 := Lib.hid (And.intro (IntsOwn.later H15.out.1 hb1520 (Nat.le_refl _)) (H15.out.2.trans (hb1520.mono (by omega))))
 clear hb20 hb1520
 go_wp2_with fail
 refine (held_c R.length _ 1 w20 (IntsIn.at (IntsOwn.in H20.out.1)) (by omega) (by omega) (by omega)).mono ?_
 rintro e w21 ⟨rfl, hw21⟩
 subst hw21
 go_wp2_with fail
 go_ret
 exact ⟨rfl, H4.out.1.trans (H20.out.2.mono (by omega))⟩
end Go.Proofs.Ytananonjomfpkaa
/- The statement on SortKeys, from the walk of its law. -/
namespace Go.Proofs.Ytananonjomfpkaa.rowSortKeys
open Go.ChangeShapes Go.WideShapes Go.ChangeAt Go.RowKit
set_option linter.unusedVariables false
theorem own : ownKnob Try.prog.godebug = none := by kernel_rfl
theorem laidOut : laidOutB Try.prog = true := by kernel_rfl
set_option maxRecDepth 100000 in
set_option maxHeartbeats 1000000 in
theorem lifted (hI : ImplSortKeys) (os : Os) (started : os.Started) (H : Type) (enc : TypeId × Value → H) :
   ReturnsInHanded {} Try.checked os 13 .any (Rows.fnExactSortKeysSpec.pre6 enc Try.prog Try.f13 Rows.fnExactSortKeysRow.domain false) (Rows.fnExactSortKeysSpec.post enc Try.prog Try.f13 false true false false) := by
 refine returnsInHanded_of_change (C := Try.checked) own started (by kernel_rfl) Try.func13
   (ChangeSpec.witness6 (enc := enc) (C := Try.checked) false ⟨#[], #[.slice none 0 0], []⟩ 8 (by kernel_rfl) (by kernel_rfl) (by kernel_rfl) (by kernel_rfl)) ?_
 intro W base args ds gs before hval0 hW hcnd _
 have hval : ∀ (j : Nat) t v, Try.f13.params[j]? = some t → args[j]? = some v → Value.okWide Try.prog W .any base t v := hval0
 have hW' := hW
 obtain ⟨p, q, hA0, hV, rfl, hfz, hnd⟩ := hW
 have hA : DataW.TrodAll enc Try.prog W 0 (fun _ => true) true Try.f13.params.toList args.toList ds p := hA0
 rw [Try.params13] at hA hval
 obtain ⟨v0, vs0, d0, ds0, p0, q0, hargs, rfl, rfl, h0, r0⟩ := trodAll_cons hA
 obtain ⟨rfl, rfl, rfl⟩ := trodAll_nil r0
 obtain rfl : args = #[v0] := by cases args; simp_all
 obtain ⟨rfl, rfl⟩ := trodVars_none hV
 obtain ⟨a1, len1, cap1, rfl⟩ := okWide_slice Try.underlying23 (hval 0 23 v0 rfl rfl)
 have k1 := h0
 have lt1 : ∀ x ∈ p0, x.block < W.heap.size := by obtain ⟨m, hm⟩ := k1; exact DataW.trod_lt m _ _ _ hm
 obtain ⟨ks, hks⟩ : ∃ ks, IntsIn W W.heap.size (.slice a1 len1 cap1) ks := by
   obtain ⟨fuel, hf⟩ := h0
   obtain ⟨v, ks, hv, hin, _⟩ := ints_of_trod hf
   have : v = .slice a1 len1 cap1 := by simpa [Value.cells] using hv.symm
   subst this
   exact ⟨ks, hin⟩
 clear hA0 hval0
 refine (exSortKeys_c W hks hI).mono fun e W' ⟨he, bel⟩ => ?_
 subst he
 exact ⟨_, rfl, _, _, _, [], _, [], hW', trodAll_mk1 (shut_bool Try.underlying4 _), (trodAll_cons_mk (Below.trod laidOut (by kernel_rfl) (of_decide_eq_true (by kernel_rfl)) k1 bel lt1) trodAll_mk0), rfl, bel.frame _, fun h => by cases h⟩
theorem closed : joinedFacts Try.prog 13 Try.f13 Rows.fnExactSortKeysSpec Rows.fnExactSortKeysRow = true := by
 unfold joinedFacts
 exact band (band (band (band (band (band (band (by kernel_rfl) fact_enter) fact_lifts) fact_make) (by kernel_rfl)) (by kernel_rfl)) (by kernel_rfl)) (by kernel_rfl)
theorem over (hI : ImplSortKeys) : Rows.fnExactSortKeysRow.holds Try.pinned (OpenSpec.ofChange Rows.fnExactSortKeysSpec) :=
 OpenClaim.holds_of_wide 13 Try.f13 rfl rfl rfl rfl rfl rfl rfl ⟨rfl, rfl, rfl, rfl, rfl⟩ rfl rfl rfl rfl rfl (by kernel_rfl) Try.func13 closed
   (of_decide_eq_true (by kernel_rfl)) (by unfold Func.isWrapper; first | (rw [if_pos (by decide +kernel)]; kernel_rfl) | (rw [if_neg (by decide +kernel)]; exact ⟨rfl, rfl⟩))
   (fun os started H enc _ => lifted hI os started H enc)
end Go.Proofs.Ytananonjomfpkaa.rowSortKeys
/- For every list of ints in memory, the law on SortKeys returns true and leaves its argument as it was; no conditions. -/
namespace Go.Proofs.Ytananonjomfpkaa
theorem sort_keys_said : Rows.FnExactSortKeysSaid := rowSortKeys.over (fun w0 B _ _ hk => impl_sortKeys w0 B hk)
end Go.Proofs.Ytananonjomfpkaa
