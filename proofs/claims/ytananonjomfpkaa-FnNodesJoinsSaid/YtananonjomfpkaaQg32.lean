/- Deleting: the keys of a tree from which one is taken. -/
import Derived.Test.YtananonjomfpkaaQgS11
/- RepairsBy: the program's and the model's. -/
namespace Go.Proofs.Ytananonjomfpkaa
open Go.RowKit
def Tr.repBy (wide key : Int) (t : Tr) : Nat × Nat × Bool :=
 if Tr.lacksB wide key t = true then ((Tr.del (wide / 2) (t.weight + 1) key t).b, (Tr.del (wide / 2) (t.weight + 1) key t).j, Tr.delShrinks wide key t) else (0, 0, false)
def repV (r : Nat × Nat × Bool) : Value := .agg #[.int .i64 (r.1 : Int), .int .i64 (r.2.1 : Int), .bool r.2.2]
theorem three_end {w6 : World} {q : Nat} {b j : Int} {sh : Bool} {o0 o1 o2 : Value} (h : w6.heap[q]? = some (.cells #[o0, o1, o2] 52 (0, 0))) :
   ∃ W, W = ((w6.setCell ⟨q, 0, none⟩ (.int .i64 b)).setCell ⟨q, 1, none⟩ (.int .i64 j)).setCell ⟨q, 2, none⟩ (.bool sh) ∧ W.heap[q]? = some (.cells #[.int .i64 b, .int .i64 j, .bool sh] 52 (0, 0)) ∧ ∀ B, B ≤ q → ∀ w, Below B w w6 → Below B w W :=
 ⟨_, rfl, three_blk h _ _ _, fun B hB w hb => ((hb.setCell (p := ⟨q, 0, none⟩) hB _).setCell (p := ⟨q, 1, none⟩) hB _).setCell (p := ⟨q, 2, none⟩) hB _⟩
end Go.Proofs.Ytananonjomfpkaa
/- Whether the numbers of a list are keys, and not too many: the contracts of the model's l3Keys and the program's areKeys. -/
namespace Go.Proofs.Ytananonjomfpkaa
open Go.RowKit
def keysOk (ks : List Int) : Bool := (List.range ks.length).all (fun i => inB (ks.getD i 0) 0 99) && decide (ks.length ≤ 200)
theorem keysOk_not {ks : List Int} (i : Nat) (hi : i < ks.length) (h : inB (ks.getD i 0) 0 99 = false) : keysOk ks = false := by
 have h1 : (List.range ks.length).all (fun i => inB (ks.getD i 0) 0 99) = false := by
   rw [List.all_eq_false]
   exact ⟨i, List.mem_range.2 hi, by rw [h]; simp⟩
 unfold keysOk
 rw [h1, Bool.false_and]
theorem keysOk_of {ks : List Int} (h : ∀ i, i < ks.length → inB (ks.getD i 0) 0 99 = true) : keysOk ks = decide (ks.length ≤ 200) := by
 have h1 : (List.range ks.length).all (fun i => inB (ks.getD i 0) 0 99) = true := by
   rw [List.all_eq_true]
   exact fun i hi => h i (List.mem_range.1 hi)
 unfold keysOk
 rw [h1, Bool.true_and]
set_option maxRecDepth 100000 in
set_option maxHeartbeats 1000000 in
theorem l3Keys_c {v : Value} {ks : List Int} (w : World) (B : Nat) (hk : IntsIn w B v ks) :
   Calls Try.prog 82 #[v] w fun e w' => e = .returned (.bool (keysOk ks)) ∧ w' = w := by
 obtain ⟨a, cap, rfl, h1, h2, _, h3⟩ := hk
 unfold maxLen at h2
 have HK := Lib.hid h3
 clear h3
 go_enter Try.func82, Try.ntmps82
 go_wp2_with fail
 go_loopw [4, 7] (fun s4 i wr => ∃ (j : Nat), j ≤ ks.length ∧ i = .int .i64 j ∧ (∀ q, q < j → inB (ks.getD q 0) 0 99 = true) ∧ wr = w) (fun _ i _ => ks.length - (intOf i).toNat)
 case atStart => exact ⟨0, Nat.zero_le _, rfl, fun q h => by omega, rfl⟩
 case round =>
   obtain ⟨j, hj, rfl, hall, rfl⟩ := hrel
   have HALL := Lib.hid hall
   clear hall
   by_cases hlt : j < ks.length
   · rcases HK.out with h | ⟨b, off, rfl, hb, hat⟩
     · simp [h] at hlt
     have ha' := hat j hlt
     obtain ⟨x, hx⟩ : ∃ x, x = ks.getD j 0 := ⟨_, rfl⟩
     rw [← hx] at ha'
     have hjl : (j : Int) < (ks.length : Int) := by omega
     have HX := Lib.hid hx
     clear hx hat
     go_wp2_with fail
     refine (l1In_c x 0 99 _).mono ?_
     rintro e w5 ⟨rfl, rfl⟩
     cases hin : inB x 0 99 with
     | false =>
       have HNO := Lib.hid (keysOk_not j hlt (by rw [← HX.out]; exact hin))
       clear hin
       go_wp2_with fail
       go_ret
       exact ⟨ret_bool (by rw [HNO.out]), rfl⟩
     | true =>
       have HIN := Lib.hid hin
       clear hin
       go_wp2_with fail
       go_roundw
       case rel =>
         refine ⟨j + 1, by omega, by go_num, fun q hq => ?_, trivial⟩
         by_cases hqj : q = j
         · rw [hqj, ← HX.out]; exact HIN.out
         · exact HALL.out q (by omega)
       case measure => simp [intOf]; omega
   · have hje : j = ks.length := by omega
     have HOK := Lib.hid (keysOk_of (ks := ks) (fun q h => HALL.out q (by omega)))
     have hjl : ¬ (j : Int) < (ks.length : Int) := by omega
     clear hje
     go_wp2_with fail
     go_ret
     refine ⟨ret_bool ?_, rfl⟩
     rw [HOK.out]
     simp
     omega
set_option maxRecDepth 100000 in
set_option maxHeartbeats 1000000 in
theorem areKeys_c {v : Value} {ks : List Int} (w : World) (B : Nat) (hk : IntsIn w B v ks) :
   Calls Try.prog 92 #[v] w fun e w' => e = .returned (.bool (keysOk ks)) ∧ w' = w := by
 obtain ⟨a, cap, rfl, h1, h2, _, h3⟩ := hk
 unfold maxLen at h2
 have HK := Lib.hid h3
 clear h3
 go_enter Try.func92, Try.ntmps92
 by_cases hbig : ks.length ≤ 200
 · have hb' : ¬ ((ks.length : Int) > 200) := by omega
   have HBIG := Lib.hid hbig
   clear hbig
   go_wp2_with fail
   go_loopw [4, 10] (fun s4 i wr => ∃ (j : Nat), j ≤ ks.length ∧ i = .int .i64 j ∧ (∀ q, q < j → inB (ks.getD q 0) 0 99 = true) ∧ wr = w) (fun _ i _ => ks.length - (intOf i).toNat)
   case atStart => exact ⟨0, Nat.zero_le _, rfl, fun q h => by omega, rfl⟩
   case round =>
     obtain ⟨j, hj, rfl, hall, rfl⟩ := hrel
     have HALL := Lib.hid hall
     clear hall
     by_cases hlt : j < ks.length
     · rcases HK.out with h | ⟨b, off, rfl, hb, hat⟩
       · simp [h] at hlt
       have ha' := hat j hlt
       obtain ⟨x, hx⟩ : ∃ x, x = ks.getD j 0 := ⟨_, rfl⟩
       rw [← hx] at ha'
       have hjl : (j : Int) < (ks.length : Int) := by omega
       have HX := Lib.hid hx
       clear hx hat
       go_wp2_with fail
       refine (isKey_c x _).mono ?_
       rintro e w5 ⟨rfl, rfl⟩
       cases hin : inB x 0 99 with
       | false =>
         have HNO := Lib.hid (keysOk_not j hlt (by rw [← HX.out]; exact hin))
         clear hin
         go_wp2_with fail
         go_ret
         exact ⟨ret_bool (by rw [HNO.out]), rfl⟩
       | true =>
         have HIN := Lib.hid hin
         clear hin
         go_wp2_with fail
         go_roundw
         case rel =>
           refine ⟨j + 1, by omega, by go_num, fun q hq => ?_, trivial⟩
           by_cases hqj : q = j
           · rw [hqj, ← HX.out]; exact HIN.out
           · exact HALL.out q (by omega)
         case measure => simp [intOf]; omega
     · have HOK := Lib.hid (keysOk_of (ks := ks) (fun q h => HALL.out q (by omega)))
       have hjl : ¬ (j : Int) < (ks.length : Int) := by omega
       go_wp2_with fail
       go_ret
       exact ⟨ret_bool (by rw [HOK.out]; exact (decide_eq_true HBIG.out).symm), rfl⟩
 · have hb' : ((ks.length : Int) > 200) := by omega
   have HNO : Hid (keysOk ks = false) := Lib.hid (by unfold keysOk; rw [decide_eq_false hbig, Bool.and_false])
   clear hbig
   go_wp2_with fail
   go_ret
   exact ⟨ret_bool (by rw [HNO.out]), rfl⟩
end Go.Proofs.Ytananonjomfpkaa
/- Inserting: the keys of a tree into which a key is put. -/
namespace Go.Proofs.Ytananonjomfpkaa
open Go.RowKit
namespace Tr
def weave : List Tr → List Int → List Int
 | [], ks => ks
 | t :: r, [] => t.keys ++ weave r []
 | t :: r, x :: ks => t.keys ++ x :: weave r ks
def tailW (r : List Tr) : List Int → List Int
 | [] => weave r []
 | x :: ks => x :: weave r ks
theorem weave_cons (t : Tr) (r : List Tr) (ks : List Int) : weave (t :: r) ks = t.keys ++ tailW r ks := by
 cases ks <;> rfl
theorem upto_cons (a : List Int) (kss : List (List Int)) (x : Int) (ks : List Int) (n : Nat) : upto (a :: kss) (x :: ks) (n + 1) = a ++ x :: upto kss ks n := by
 simp [upto, List.range_succ_eq_map, List.flatMap_map, part]
 rfl
theorem upto_cons0 (a : List Int) (kss : List (List Int)) (n : Nat) : upto (a :: kss) [] (n + 1) = a ++ upto kss [] n := by
 simp [upto, List.range_succ_eq_map, List.flatMap_map, part]
 congr 1; funext a; simp [part]
theorem upto_keys (ks : List Int) : upto [] ks ks.length = ks := by
 induction ks with
 | nil => rfl
 | cons x ks ih =>
   have h : upto [] (x :: ks) (ks.length + 1) = x :: upto [] ks ks.length := by
     simp [upto, List.range_succ_eq_map, List.flatMap_map, part]
     rfl
   rw [List.length_cons, h, ih]
theorem upto_weave : ∀ (c : List Tr) (k : List Int), upto (keyss c) k (max k.length c.length) = weave c k
 | [], k => by simp only [keyss, weave, List.length_nil, Nat.max_zero]; exact upto_keys k
 | t :: r, [] => by
   rw [weave, ← upto_weave r [], keyss, List.length_nil, Nat.zero_max, List.length_cons, upto_cons0, Nat.zero_max]
 | t :: r, x :: ks => by
   rw [weave, ← upto_weave r ks, keyss, List.length_cons, List.length_cons, Nat.succ_max_succ, upto_cons]
theorem keys_weave (k : List Int) (c : List Tr) : (Tr.mk k c).keys = weave c k := by rw [keys]; exact upto_weave c k
theorem weave_append : ∀ (c : List Tr) (k : List Int) (c2 : List Tr) (k2 : List Int), c.length = k.length → weave (c ++ c2) (k ++ k2) = weave c k ++ weave c2 k2
 | [], [], c2, k2, _ => rfl
 | [], x :: k, c2, k2, h => by simp at h
 | t :: c, [], c2, k2, h => by simp at h
 | t :: c, x :: k, c2, k2, h => by
   rw [List.cons_append, List.cons_append, weave, weave, weave_append c k c2 k2 (by simpa using h)]
   simp
theorem keys_around {k : List Int} {c : List Tr} {i : Nat} (hi : i < c.length) (hc : c.length = k.length + 1) :
   (Tr.mk k c).keys = weave (c.take i) (k.take i) ++ (c[i].keys ++ tailW (c.drop (i + 1)) (k.drop i)) := by
 rw [keys_weave, ← weave_cons, ← weave_append _ _ _ _ (by simp; omega), List.take_append_drop]
 congr 1
 rw [List.getElem_cons_drop, List.take_append_drop]
theorem keys_setKid {k : List Int} {c : List Tr} {i : Nat} (u : Tr) (hi : i < c.length) (hc : c.length = k.length + 1) :
   (Tr.mk k (setKid c i u)).keys = weave (c.take i) (k.take i) ++ (u.keys ++ tailW (c.drop (i + 1)) (k.drop i)) := by
 rw [keys_weave, setKid, ← weave_cons, ← weave_append _ _ _ _ (by simp; omega), List.take_append_drop]
end Tr
end Go.Proofs.Ytananonjomfpkaa
/- Deleting: the keys of a tree from which one is taken. -/
namespace Go.Proofs.Ytananonjomfpkaa
open Go.RowKit
namespace Tr
theorem weave_nil (k : List Int) : weave [] k = k := by cases k <;> rfl
theorem weave_one (t : Tr) : weave [t] [] = t.keys := by simp [weave]
theorem weave_snoc : ∀ (c : List Tr) (k : List Int) (m : Int), c.length = k.length + 1 → weave c (k ++ [m]) = weave c k ++ [m]
 | [], k, m, h => by simp at h
 | [t], [], m, _ => by simp [weave]
 | t :: u :: c, [], m, h => by simp at h
 | t :: c, x :: k, m, h => by
   rw [List.cons_append, weave, weave, weave_snoc c k m (by simpa using h)]
   simp
def Pair (x y : Tr) : Prop := (x.cs.length = 0 ∧ y.cs.length = 0) ∨ (x.cs.length = x.ks.length + 1 ∧ y.cs.length = y.ks.length + 1)
theorem join_keys {x y : Tr} (m : Int) (h : Pair x y) : (Tr.mk (x.ks ++ m :: y.ks) (x.cs ++ y.cs)).keys = x.keys ++ m :: y.keys := by
 obtain ⟨kx, cx⟩ := x
 obtain ⟨ky, cy⟩ := y
 simp only [ks, cs]
 rw [keys_weave, keys_weave, keys_weave]
 rcases h with ⟨h1, h2⟩ | ⟨h1, h2⟩
 · obtain rfl : cx = [] := List.length_eq_zero_iff.1 h1
   obtain rfl : cy = [] := List.length_eq_zero_iff.1 h2
   simp [weave_nil]
 · simp only [ks, cs] at h1 h2
   rw [show kx ++ m :: ky = (kx ++ [m]) ++ ky by simp, weave_append _ _ _ _ (by simp; omega), weave_snoc _ _ _ h1]
   simp
theorem ahead_keys {x y : Tr} (m : Int) (h : Pair x y) (h0 : 0 < x.ks.length) :
   (Tr.mk (x.ks.take (x.ks.length - 1)) (x.cs.take x.ks.length)).keys ++ x.ks.getD (x.ks.length - 1) 0 :: (Tr.mk (m :: y.ks) (oneFirst x.cs y.cs x.ks.length)).keys = x.keys ++ m :: y.keys := by
 obtain ⟨kx, cx⟩ := x
 obtain ⟨ky, cy⟩ := y
 simp only [ks, cs] at h0 ⊢
 have hk : kx = kx.take (kx.length - 1) ++ [kx.getD (kx.length - 1) 0] := by
   rw [List.getD_eq_getElem?_getD, List.getElem?_eq_getElem (by omega), Option.getD_some]
   have h := (List.drop_eq_getElem_cons (l := kx) (i := kx.length - 1) (by omega))
   rw [List.drop_eq_nil_of_le (by omega : kx.length ≤ kx.length - 1 + 1)] at h
   rw [← h, List.take_append_drop]
 rw [keys_weave, keys_weave, keys_weave, keys_weave]
 rcases h with ⟨h1, h2⟩ | ⟨h1, h2⟩
 · obtain rfl : cx = [] := List.length_eq_zero_iff.1 h1
   obtain rfl : cy = [] := List.length_eq_zero_iff.1 h2
   simp only [oneFirst, List.take_nil, weave_nil, List.length_nil, if_true]
   conv => rhs; rw [hk]
   simp
 · simp only [ks, cs] at h1 h2
   have hc : cx = cx.take kx.length ++ [kidAt cx kx.length] := by
     rw [kidAt_get (by omega)]
     have h := (List.drop_eq_getElem_cons (l := cx) (i := kx.length) (by omega))
     rw [List.drop_eq_nil_of_le (by omega : cx.length ≤ kx.length + 1)] at h
     rw [← h, List.take_append_drop]
   rw [oneFirst, if_neg (by omega), weave]
   conv => rhs; rw [hk, hc]
   rw [show (kx.take (kx.length - 1) ++ [kx.getD (kx.length - 1) 0]) = (kx.take (kx.length - 1) ++ [kx.getD (kx.length - 1) 0]) ++ [] by simp, weave_append _ _ _ _ (by simp; omega), weave_snoc _ _ _ (by simp; omega), weave_one]
   simp
theorem behind_keys {x y : Tr} (m : Int) (h : Pair x y) (h0 : 0 < y.ks.length) :
   (Tr.mk (x.ks ++ [m]) (oneMore x.cs y.cs)).keys ++ y.ks.getD 0 0 :: (Tr.mk (y.ks.drop 1) (y.cs.drop 1)).keys = x.keys ++ m :: y.keys := by
 obtain ⟨kx, cx⟩ := x
 obtain ⟨ky, cy⟩ := y
 simp only [ks, cs] at h0 ⊢
 obtain ⟨top, s, rfl⟩ : ∃ top s, ky = top :: s := by cases ky with | nil => simp at h0 | cons a b => exact ⟨a, b, rfl⟩
 rw [keys_weave, keys_weave, keys_weave, keys_weave]
 rcases h with ⟨h1, h2⟩ | ⟨h1, h2⟩
 · obtain rfl : cx = [] := List.length_eq_zero_iff.1 h1
   obtain rfl : cy = [] := List.length_eq_zero_iff.1 h2
   simp [oneMore, weave_nil]
 · simp only [ks, cs] at h1 h2
   obtain ⟨z, r, rfl⟩ : ∃ z r, cy = z :: r := by cases cy with | nil => simp at h2 | cons a b => exact ⟨a, b, rfl⟩
   rw [oneMore, if_neg (by simp), show kx ++ [m] = (kx ++ [m]) ++ [] by simp, weave_append _ _ _ _ (by simp; omega), weave_snoc _ _ _ h1, weave_one]
   simp [kidAt, weave]
theorem two_keys (A B : List Tr) (x y : Tr) (KA KB : List Int) (m : Int) (h : A.length = KA.length) :
   (Tr.mk (KA ++ m :: KB) (A ++ x :: y :: B)).keys = weave A KA ++ ((x.keys ++ m :: y.keys) ++ tailW B KB) := by
 rw [keys_weave, weave_append _ _ _ _ h, weave, weave_cons]
 simp
theorem one_keys (A B : List Tr) (u : Tr) (KA KB : List Int) (h : A.length = KA.length) :
   (Tr.mk (KA ++ KB) (A ++ u :: B)).keys = weave A KA ++ (u.keys ++ tailW B KB) := by
 rw [keys_weave, weave_append _ _ _ _ h, weave_cons]
theorem split_key {k : List Int} {i : Nat} (hi : i < k.length) : ∃ KA KB, k = KA ++ k.getD i 0 :: KB ∧ KA.length = i :=
 ⟨k.take i, k.drop (i + 1), by rw [List.getD_eq_getElem?_getD, List.getElem?_eq_getElem hi, Option.getD_some, List.getElem_cons_drop, List.take_append_drop], by simp; omega⟩
theorem set_split (KA KB : List Int) (m u : Int) : (KA ++ m :: KB).set KA.length u = KA ++ u :: KB := by
 rw [List.set_append_right _ _ (Nat.le_refl _), Nat.sub_self, List.set_cons_zero]
theorem takeAt_split (KA KB : List Int) (m : Int) : takeAt (KA ++ m :: KB) KA.length = KA ++ KB := by
 unfold takeAt
 rw [List.take_left' rfl, show KA ++ m :: KB = (KA ++ [m]) ++ KB by simp, List.drop_left' (by simp)]
theorem mended_keys {k : List Int} {c : List Tr} {j : Nat} (hc : c.length = k.length + 1) (hj : j + 1 < c.length) (hp : Pair (kidAt c j) (kidAt c (j + 1))) :
   (0 < (kidAt c j).ks.length → (ahead k c j).keys = (Tr.mk k c).keys) ∧ (0 < (kidAt c (j + 1)).ks.length → (behind k c j).keys = (Tr.mk k c).keys) ∧ (joined k c j).keys = (Tr.mk k c).keys := by
 obtain ⟨A, x, y, B, rfl, rfl⟩ := two_mid hj
 obtain ⟨KA, KB, hk, hkl⟩ := split_key (k := k) (i := A.length) (by omega)
 obtain ⟨m, hm⟩ : ∃ m, m = k.getD A.length 0 := ⟨_, rfl⟩
 rw [← hm] at hk
 subst hk
 rw [kidAt_mid, kidAt_mid1] at hp ⊢
 have hset : ∀ u, (KA ++ m :: KB).set A.length u = KA ++ u :: KB := fun u => by rw [← hkl]; exact set_split KA KB m u
 have htk : takeAt (KA ++ m :: KB) A.length = KA ++ KB := by rw [← hkl]; exact takeAt_split KA KB m
 refine ⟨fun h0 => ?_, fun h0 => ?_, ?_⟩
 · rw [ahead_mid _ _ _ _ _ h0, hset, two_keys _ _ _ _ _ _ _ hkl.symm, two_keys _ _ _ _ _ _ _ hkl.symm, ← hm, ahead_keys m hp h0]
 · rw [behind_mid, hset, two_keys _ _ _ _ _ _ _ hkl.symm, two_keys _ _ _ _ _ _ _ hkl.symm, ← hm, behind_keys m hp h0]
 · rw [joined_mid, htk, one_keys _ _ _ _ _ hkl.symm, two_keys _ _ _ _ _ _ _ hkl.symm, ← hm, join_keys m hp]
theorem repair_keys {half : Int} (hh : 0 ≤ half) {k : List Int} {c : List Tr} {i b j : Nat} (hc : c.length = k.length + 1) (hk : 1 ≤ k.length) (hi : i < c.length) (hp : ∀ j, j + 1 < c.length → Pair (kidAt c j) (kidAt c (j + 1))) :
   (repair half k c i b j).t.keys = (Tr.mk k c).keys := by
 by_cases hle : half ≤ ((kidAt c i).ks.length : Int)
 · rw [repair_none (by omega)]
 · rw [repair_eq (by omega)]
   dsimp only
   unfold mend mended
   by_cases h1 : 0 < i ∧ half < ((kidAt c (i - 1)).ks.length : Int)
   · rw [if_pos h1]
     have h2 := mended_keys hc (j := i - 1) (by omega) (hp _ (by omega))
     exact h2.1 (by omega)
   · rw [if_neg h1]
     by_cases h2 : i + 1 < c.length ∧ half < ((kidAt c (i + 1)).ks.length : Int)
     · rw [if_pos h2]
       have h3 := mended_keys hc (j := i) h2.1 (hp _ h2.1)
       exact h3.2.1 (by omega)
     · rw [if_neg h2]
       by_cases h3 : 0 < i
       · rw [if_pos h3]
         exact (mended_keys hc (j := i - 1) (by omega) (hp _ (by omega))).2.2
       · rw [if_neg h3]
         have h4 : i + 1 < c.length := by omega
         exact (mended_keys hc (j := i) h4 (hp _ h4)).2.2
theorem setKid_eq {c : List Tr} {i : Nat} (hi : i < c.length) (u : Tr) : setKid c i u = c.set i u := by
 unfold setKid
 rw [List.set_eq_take_append_cons_drop, if_pos hi]
theorem kidAt_set {c : List Tr} {i : Nat} (hi : i < c.length) (u : Tr) (j : Nat) : kidAt (setKid c i u) j = if j = i then u else kidAt c j := by
 rw [setKid_eq hi]
 unfold kidAt
 rw [List.getD_eq_getElem?_getD, List.getD_eq_getElem?_getD, List.getElem?_set]
 by_cases h : i = j
 · subst h; simp [hi]
 · rw [if_neg h, if_neg (fun e => h e.symm)]
end Tr
end Go.Proofs.Ytananonjomfpkaa
