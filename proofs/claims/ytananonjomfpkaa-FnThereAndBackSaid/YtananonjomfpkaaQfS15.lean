/- The contract of repair: a kid that has too few keys gets some, or is joined. -/
import Derived.Test.YtananonjomfpkaaQfS13
import Derived.Test.YtananonjomfpkaaQfS14
namespace Go.Proofs.Ytananonjomfpkaa
open Go.RowKit
namespace Tr
theorem kidAt_mid (A B : List Tr) (x y : Tr) : kidAt (A ++ x :: y :: B) A.length = x := by rw [kidAt_get (by simp)]; simp
theorem kidAt_mid1 (A B : List Tr) (x y : Tr) : kidAt (A ++ x :: y :: B) (A.length + 1) = y := by rw [kidAt_get (by simp)]; simp [List.getElem_append_right]
theorem drop_two (A B : List Tr) (x y : Tr) : (A ++ x :: y :: B).drop (A.length + 2) = B := by
 rw [show A ++ x :: y :: B = (A ++ [x, y]) ++ B by simp, List.drop_left' (by simp)]
theorem setTwo_mid (A B : List Tr) (x y u v : Tr) : setTwo (A ++ x :: y :: B) A.length u v = A ++ u :: v :: B := by
 unfold setTwo; rw [List.take_left' rfl, drop_two]
theorem setOne_mid (A B : List Tr) (x y u : Tr) : setOne (A ++ x :: y :: B) A.length u = A ++ u :: B := by
 unfold setOne; rw [List.take_left' rfl, drop_two]
theorem ahead_mid (k : List Int) (A B : List Tr) (x y : Tr) (h : 0 < x.ks.length) : ahead k (A ++ x :: y :: B) A.length =
   .mk (k.set A.length (x.ks.getD (x.ks.length - 1) 0)) (A ++ .mk (x.ks.take (x.ks.length - 1)) (x.cs.take x.ks.length) :: .mk (k.getD A.length 0 :: y.ks) (oneFirst x.cs y.cs x.ks.length) :: B) := by
 unfold ahead oneFirst
 simp only [kidAt_mid, kidAt_mid1, setTwo_mid]
 rw [show x.ks.length - 1 + 1 = x.ks.length by omega]
theorem behind_mid (k : List Int) (A B : List Tr) (x y : Tr) : behind k (A ++ x :: y :: B) A.length =
   .mk (k.set A.length (y.ks.getD 0 0)) (A ++ .mk (x.ks ++ [k.getD A.length 0]) (oneMore x.cs y.cs) :: .mk (y.ks.drop 1) (y.cs.drop 1) :: B) := by
 unfold behind oneMore
 simp only [kidAt_mid, kidAt_mid1, setTwo_mid]
theorem joined_mid (k : List Int) (A B : List Tr) (x y : Tr) : joined k (A ++ x :: y :: B) A.length =
   .mk (takeAt k A.length) (A ++ .mk (x.ks ++ k.getD A.length 0 :: y.ks) (x.cs ++ y.cs) :: B) := by
 unfold joined
 simp only [kidAt_mid, kidAt_mid1, setOne_mid]
def mended (m : Nat) (k : List Int) (c : List Tr) (i : Nat) : Tr :=
 if m = 0 then ahead k c (i - 1) else if m = 1 then behind k c i else if m = 2 then joined k c (i - 1) else joined k c i
theorem repair_eq {half : Int} {k : List Int} {c : List Tr} {i b j : Nat} (h : ((kidAt c i).ks.length : Int) < half) :
   repair half k c i b j = ⟨mended (mend half c i) k c i, b + (if mend half c i < 2 then 1 else 0), j + (if mend half c i < 2 then 0 else 1)⟩ := by
 unfold repair
 rw [if_neg (by omega)]
 unfold mended mend
 split <;> rename_i hm <;> revert hm <;> (repeat' split) <;> simp_all
theorem repair_none {half : Int} {k : List Int} {c : List Tr} {i b j : Nat} (h : ¬ ((kidAt c i).ks.length : Int) < half) : repair half k c i b j = ⟨.mk k c, b, j⟩ := by
 unfold repair; rw [if_pos (by omega)]
end Tr
theorem two_mid {α : Type} {l : List α} {j : Nat} (h : j + 1 < l.length) : ∃ pre x y post, l = pre ++ x :: y :: post ∧ pre.length = j :=
 ⟨l.take j, l[j], l[j + 1], l.drop (j + 2), by
   rw [← List.drop_eq_getElem_cons (by omega), ← List.drop_eq_getElem_cons (by omega), List.take_append_drop], by simp; omega⟩
def Repaired (w : World) (F : Cells) (b gb : Nat) (gn : Value) (bo jo : Nat) (sh : Value) (wide : Int) (t : Tr) (e : Ending) (w' : World) : Prop :=
 ∃ F', e = .returned (.tuple #[]) ∧ Nd w' F' b t ∧ (∀ x o, F' x o → F x o ∨ w.heap.size ≤ x) ∧ KeptF (fun x o => F x o ∨ x = gb) w w' ∧ SBox w' gb gn bo jo sh wide
set_option maxRecDepth 100000 in
set_option maxHeartbeats 4000000 in
theorem repair_c (wide : Int) (hwide : 2 ≤ wide ∧ wide ≤ 6) (w : World) (F : Cells) (gb : Nat) (gn sh : Value) (bo jo b : Nat) (k : List Int) (kids : List KidD) {Fk Fc : Cells} {kv cv : Value} (i : Nat) (hg : SBox w gb gn bo jo sh wide)
   (hbox : w.heap[b]? = some (.cells #[kv, cv] 99 (0, 0))) (hkr : RowF w Fk kv (k.map (Value.int .i64))) (hcr : RowF w Fc cv (kids.map KidD.ptr)) (hkids : ∀ z, z ∈ kids → Nd w z.F z.p z.t)
   (sb : ∀ o, F b o) (sk : ∀ q o, Fk q o → F q o) (sc : ∀ q o, Fc q o → F q o) (ss : ∀ z, z ∈ kids → ∀ q o, z.F q o → F q o) (hs : Sep b Fk Fc kids) (hgF : ∀ o, ¬ F gb o)
   (hk1 : 1 ≤ k.length) (hkc : kids.length = k.length + 1) (hi : i < kids.length) (hn : kids.length ≤ 100000) (hsz : ∀ z, z ∈ kids → z.t.ks.length ≤ 100000 ∧ z.t.cs.length ≤ 100000 ∧ Tr.Shaped z.t)
   (hbo : bo ≤ 900000000) (hjo : jo ≤ 900000000) (M : Nat) (hM : M = Tr.mend (wide / 2) (kids.map KidD.t) i) :
   Calls Try.prog 142 #[.pointer (some ⟨gb, 0, none⟩), .pointer (some ⟨b, 0, none⟩), .int .i64 (i : Int)] w
     (Repaired w F b gb gn (bo + (if M < 2 then 1 else 0)) (jo + (if M < 2 then 0 else 1)) sh wide (Tr.mended M k (kids.map KidD.t) i)) := by
 have hkn : ∀ j, (Tr.kidAt (kids.map KidD.t) j).ks.length ≤ 100000 := fun j => by
   by_cases h : j < kids.length
   · rw [Tr.kidAt_get (by simpa using h), List.getElem_map]; exact (hsz _ (List.getElem_mem h)).1
   · unfold Tr.kidAt; rw [List.getD_eq_getElem?_getD, List.getElem?_eq_none (by simpa using h)]; simp [Tr.ks]
 have hway := way_c wide hwide w gb gn sh bo jo b kids i hg hbox hcr hkids hi hn hkn
 rw [← hM] at hway
 have HWAY := Lib.hid hway
 have hblt := (Array.getElem?_eq_some_iff.1 hbox).1
 have hglt := (Array.getElem?_eq_some_iff.1 hg).1
 have hone : ∀ w1, KeptF (fun _ _ => False) w w1 → SBox w1 gb gn bo jo sh wide ∧ (∀ o, KeptF (fun _ _ => False) w o → True) := fun w1 h => ⟨h.block' hg (fun _ h => h), fun _ _ => trivial⟩
 have HK := Lib.hid (And.intro hbox (And.intro hkr (And.intro hcr (And.intro hkids (And.intro sb (And.intro sk (And.intro sc (And.intro ss hs))))))))
 have HG := Lib.hid (And.intro hg hgF)
 have HZ := Lib.hid (And.intro hk1 (And.intro hkc (And.intro hi (And.intro hn hsz))))
 have HM := Lib.hid hM
 clear hkn hway hM hone hbox hkr hcr hkids sb sk sc ss hs hg hgF hsz hn hk1 hkc hi
 obtain ⟨BO, hBO⟩ : ∃ z, z = bo + (if M < 2 then 1 else 0) := ⟨_, rfl⟩
 obtain ⟨JO, hJO⟩ : ∃ z, z = jo + (if M < 2 then 0 else 1) := ⟨_, rfl⟩
 obtain ⟨TT, hTT⟩ : ∃ z, z = Tr.mended M k (kids.map KidD.t) i := ⟨_, rfl⟩
 rw [← hBO, ← hJO, ← hTT]
 have HN := Lib.hid (And.intro hBO (And.intro hJO hTT))
 clear hBO hJO hTT
 go_enter Try.func142, Try.ntmps142
 go_wp2_with fail
 refine HWAY.out.mono ?_
 rintro e w1 ⟨rfl, hk1⟩
 have HK1 := Lib.hid hk1
 have hsz1 := hk1.size
 have hg1 := hk1.block' HG.out.1 (fun _ h => h)
 have HG1 := Lib.hid hg1
 clear hk1 hg1
 have hM4 : M = 0 ∨ M = 1 ∨ M = 2 ∨ M = 3 := by rw [HM.out]; unfold Tr.mend; (repeat' split) <;> simp
 rcases hM4 with rfl | rfl | rfl | rfl
 · have hf : 0 < i ∧ wide / 2 < ((Tr.kidAt (kids.map KidD.t) (i - 1)).ks.length : Int) := by
     have h := HM.out
     have hi := HZ.out.2.2.1
     unfold Tr.mend at h
     rw [List.length_map] at h
     (repeat' split at h) <;> first | assumption | omega
   obtain ⟨j, rfl⟩ : ∃ j, i = j + 1 := ⟨i - 1, by have := hf.1; omega⟩
   obtain ⟨pre, x, y, post, hkl, hpl⟩ := two_mid (l := kids) (j := j) (by have h1 := HZ.out.1; have h2 := HZ.out.2.1; have h3 := HZ.out.2.2.1; omega)
   obtain ⟨hbox, hkr, hcr, hkids, sb, sk, sc, ss, hs⟩ := HK.out
   obtain ⟨z1, z2, z3, z4, hsz⟩ := HZ.out
   subst hkl
   have zx := hsz x (by simp)
   have zy := hsz y (by simp)
   have hn1 : (pre ++ x :: y :: post).length = pre.length + (2 + post.length) := by simp; omega
   have hx0 : 0 < x.t.ks.length := by
     have h := hf.2
     rw [show (pre ++ x :: y :: post).map KidD.t = pre.map KidD.t ++ x.t :: y.t :: post.map KidD.t by simp, Nat.add_sub_cancel, show j = (pre.map KidD.t).length by rw [List.length_map, hpl], Tr.kidAt_mid] at h
     omega
   have hcall := borrowAhead_c w1 F b k pre post x y (HK1.out.block' hbox (fun _ h => h)) (hkr.keep HK1.out (fun _ _ _ h => h)) (hcr.keep HK1.out (fun _ _ _ h => h))
     (fun z hz => (hkids z hz).keep HK1.out (fun _ _ _ h => h)) sb sk sc ss hs (by omega) hx0 zx.2.2 zx.1 zy.1 zx.2.1 zy.2.1 (by omega) z4
   have hans := Tr.ahead_mid k (pre.map KidD.t) (post.map KidD.t) x.t y.t hx0
   rw [List.length_map] at hans
   rw [← hans, hpl] at hcall
   rw [show pre.map KidD.t ++ x.t :: y.t :: post.map KidD.t = (pre ++ x :: y :: post).map KidD.t by simp] at hcall
   have HC := Lib.hid hcall
   clear hcall hans hbox hkr hcr hkids sb sk sc ss hs hsz zx zy hn1 z1 z2 z3 z4 hx0 hf
   go_wp2_with fail
   refine HC.out.mono ?_
   rintro e w2 ⟨F2, rfl, hnd2, hF2, hk2⟩
   have hg2 : SBox w2 gb gn bo jo sh wide := hk2.block' HG1.out HG.out.2
   have hsz2 := hk2.size
   obtain ⟨g0, g1, g2, g3, g4, g5, g6, g7, g8⟩ := hg2.cells
   have H2 := Lib.hid (And.intro hnd2 (And.intro hF2 (And.intro hk2 hg2)))
   clear hnd2 hF2 hk2 hg2
   go_wp2_with fail
   obtain ⟨hnd2, hF2, hk2, hg2⟩ := H2.out
   obtain ⟨W3, hW3⟩ : ∃ W3, W3 = w2.setCell ⟨gb, 1, none⟩ (.int .i64 ((bo : Int) + 1)) := ⟨_, rfl⟩
   rw [← hW3]
   have hk3 : KeptF (boxOf gb) w2 W3 := by rw [hW3]; exact KeptF.setCell _ _ _ _ rfl
   have hg3 : SBox W3 gb gn (bo + 1) jo sh wide := by
     rw [hW3]
     have := set_blk (o := 1) (.int .i64 ((bo : Int) + 1)) hg2
     unfold SBox
     rw [this]
     simp
   refine bodyPost_end (v := .tuple #[]) (by simp [results, Try.results142, go_sem]) rfl ?_
   have hF2' : ∀ q r, F2 q r → F q r ∨ w.heap.size ≤ q := fun q r h => (hF2 q r h).imp id (fun h => by omega)
   have eb : BO = bo + 1 := by rw [HN.out.1]; rfl
   have ej : JO = jo := by rw [HN.out.2.1]; rfl
   have et : TT = Tr.ahead k ((pre ++ x :: y :: post).map KidD.t) j := by rw [HN.out.2.2]; rfl
   rw [eb, ej, et]
   refine ⟨F2, rfl, hnd2.keep hk3 (fun q r h g => ?_), hF2', ?_, hg3⟩
   · have g' : q = gb := g
     rcases hF2' q r h with h | h
     · exact HG.out.2 r (g' ▸ h)
     · omega
   · have a1 := HK1.out.mono (G := fun q r => F q r ∨ q = gb) (fun _ _ _ h => h.elim)
     have a2 := a1.trans (hk2.mono (fun q r _ h => .inl (.inl h)))
     exact a2.trans (hk3.mono (fun q r _ h => .inl (.inr h)))
 · have hf : i + 1 < kids.length ∧ wide / 2 < ((Tr.kidAt (kids.map KidD.t) (i + 1)).ks.length : Int) := by
     have h := HM.out
     have hi := HZ.out.2.2.1
     unfold Tr.mend at h
     rw [List.length_map] at h
     (repeat' split at h) <;> first | assumption | omega
   obtain ⟨j, rfl⟩ : ∃ j, i = j := ⟨i, rfl⟩
   obtain ⟨pre, x, y, post, hkl, hpl⟩ := two_mid (l := kids) (j := i) (by have h1 := HZ.out.1; have h2 := HZ.out.2.1; have h3 := HZ.out.2.2.1; omega)
   obtain ⟨hbox, hkr, hcr, hkids, sb, sk, sc, ss, hs⟩ := HK.out
   obtain ⟨z1, z2, z3, z4, hsz⟩ := HZ.out
   subst hkl
   have zx := hsz x (by simp)
   have zy := hsz y (by simp)
   have hn1 : (pre ++ x :: y :: post).length = pre.length + (2 + post.length) := by simp; omega
   have hy0 : 0 < y.t.ks.length := by
     have h := hf.2
     rw [show (pre ++ x :: y :: post).map KidD.t = pre.map KidD.t ++ x.t :: y.t :: post.map KidD.t by simp, show i = (pre.map KidD.t).length by rw [List.length_map, hpl], Tr.kidAt_mid1] at h
     omega
   have hcall := borrowBehind_c w1 F b k pre post x y (HK1.out.block' hbox (fun _ h => h)) (hkr.keep HK1.out (fun _ _ _ h => h)) (hcr.keep HK1.out (fun _ _ _ h => h))
     (fun z hz => (hkids z hz).keep HK1.out (fun _ _ _ h => h)) sb sk sc ss hs (by omega) hy0 zx.1 zy.1 zx.2.1 zy.2.1 (by omega) z4
   have hans := Tr.behind_mid k (pre.map KidD.t) (post.map KidD.t) x.t y.t
   rw [List.length_map] at hans
   rw [← hans, hpl] at hcall
   rw [show pre.map KidD.t ++ x.t :: y.t :: post.map KidD.t = (pre ++ x :: y :: post).map KidD.t by simp] at hcall
   have HC := Lib.hid hcall
   clear hcall hans hbox hkr hcr hkids sb sk sc ss hs hsz zx zy hn1 z1 z2 z3 z4 hy0 hf
   go_wp2_with fail
   refine HC.out.mono ?_
   rintro e w2 ⟨F2, rfl, hnd2, hF2, hk2⟩
   have hg2 : SBox w2 gb gn bo jo sh wide := hk2.block' HG1.out HG.out.2
   have hsz2 := hk2.size
   obtain ⟨g0, g1, g2, g3, g4, g5, g6, g7, g8⟩ := hg2.cells
   have H2 := Lib.hid (And.intro hnd2 (And.intro hF2 (And.intro hk2 hg2)))
   clear hnd2 hF2 hk2 hg2
   go_wp2_with fail
   obtain ⟨hnd2, hF2, hk2, hg2⟩ := H2.out
   obtain ⟨W3, hW3⟩ : ∃ W3, W3 = w2.setCell ⟨gb, 1, none⟩ (.int .i64 ((bo : Int) + 1)) := ⟨_, rfl⟩
   rw [← hW3]
   have hk3 : KeptF (boxOf gb) w2 W3 := by rw [hW3]; exact KeptF.setCell _ _ _ _ rfl
   have hg3 : SBox W3 gb gn (bo + 1) jo sh wide := by
     rw [hW3]
     have := set_blk (o := 1) (.int .i64 ((bo : Int) + 1)) hg2
     unfold SBox
     rw [this]
     simp
   refine bodyPost_end (v := .tuple #[]) (by simp [results, Try.results142, go_sem]) rfl ?_
   have hF2' : ∀ q r, F2 q r → F q r ∨ w.heap.size ≤ q := fun q r h => (hF2 q r h).imp id (fun h => by omega)
   have eb : BO = bo + 1 := by rw [HN.out.1]; rfl
   have ej : JO = jo := by rw [HN.out.2.1]; rfl
   have et : TT = Tr.behind k ((pre ++ x :: y :: post).map KidD.t) i := by rw [HN.out.2.2]; rfl
   rw [eb, ej, et]
   refine ⟨F2, rfl, hnd2.keep hk3 (fun q r h g => ?_), hF2', ?_, hg3⟩
   · have g' : q = gb := g
     rcases hF2' q r h with h | h
     · exact HG.out.2 r (g' ▸ h)
     · omega
   · have a1 := HK1.out.mono (G := fun q r => F q r ∨ q = gb) (fun _ _ _ h => h.elim)
     have a2 := a1.trans (hk2.mono (fun q r _ h => .inl (.inl h)))
     exact a2.trans (hk3.mono (fun q r _ h => .inl (.inr h)))
 · have hf : 0 < i := by
     have h := HM.out
     have hi := HZ.out.2.2.1
     unfold Tr.mend at h
     rw [List.length_map] at h
     (repeat' split at h) <;> first | assumption | omega
   obtain ⟨j, rfl⟩ : ∃ j, i = j + 1 := ⟨i - 1, by have := hf; omega⟩
   obtain ⟨pre, x, y, post, hkl, hpl⟩ := two_mid (l := kids) (j := j) (by have h1 := HZ.out.1; have h2 := HZ.out.2.1; have h3 := HZ.out.2.2.1; omega)
   obtain ⟨hbox, hkr, hcr, hkids, sb, sk, sc, ss, hs⟩ := HK.out
   obtain ⟨z1, z2, z3, z4, hsz⟩ := HZ.out
   subst hkl
   have zx := hsz x (by simp)
   have zy := hsz y (by simp)
   have hn1 : (pre ++ x :: y :: post).length = pre.length + (2 + post.length) := by simp; omega
   have hcall := joinKids_c w1 F b k pre post x y (HK1.out.block' hbox (fun _ h => h)) (hkr.keep HK1.out (fun _ _ _ h => h)) (hcr.keep HK1.out (fun _ _ _ h => h))
     (fun z hz => (hkids z hz).keep HK1.out (fun _ _ _ h => h)) sb sk sc ss hs (by omega) zx.1 zy.1 zx.2.1 zy.2.1 (by omega) z4
   have hans := Tr.joined_mid k (pre.map KidD.t) (post.map KidD.t) x.t y.t
   rw [List.length_map] at hans
   rw [← hans, hpl] at hcall
   rw [show pre.map KidD.t ++ x.t :: y.t :: post.map KidD.t = (pre ++ x :: y :: post).map KidD.t by simp] at hcall
   have HC := Lib.hid hcall
   clear hcall hans hbox hkr hcr hkids sb sk sc ss hs hsz zx zy hn1 z1 z2 z3 z4 hf
   have hj9 : (j : Int) ≤ 100000 := by have h1 := HZ.out.2.2.1; have h2 := HZ.out.2.2.2.1; omega
   have hj0 : (0 : Int) ≤ (j : Int) := by omega
   go_wp2_with fail
   refine HC.out.mono ?_
   rintro e w2 ⟨F2, rfl, hnd2, hF2, hk2⟩
   have hg2 : SBox w2 gb gn bo jo sh wide := hk2.block' HG1.out HG.out.2
   have hsz2 := hk2.size
   obtain ⟨g0, g1, g2, g3, g4, g5, g6, g7, g8⟩ := hg2.cells
   have H2 := Lib.hid (And.intro hnd2 (And.intro hF2 (And.intro hk2 hg2)))
   clear hnd2 hF2 hk2 hg2
   go_wp2_with fail
   obtain ⟨hnd2, hF2, hk2, hg2⟩ := H2.out
   obtain ⟨W3, hW3⟩ : ∃ W3, W3 = w2.setCell ⟨gb, 2, none⟩ (.int .i64 ((jo : Int) + 1)) := ⟨_, rfl⟩
   rw [← hW3]
   have hk3 : KeptF (boxOf gb) w2 W3 := by rw [hW3]; exact KeptF.setCell _ _ _ _ rfl
   have hg3 : SBox W3 gb gn bo (jo + 1) sh wide := by
     rw [hW3]
     have := set_blk (o := 2) (.int .i64 ((jo : Int) + 1)) hg2
     unfold SBox
     rw [this]
     simp
   refine bodyPost_end (v := .tuple #[]) (by simp [results, Try.results142, go_sem]) rfl ?_
   have hF2' : ∀ q r, F2 q r → F q r ∨ w.heap.size ≤ q := fun q r h => (hF2 q r h).imp id (fun h => by omega)
   have eb : BO = bo := by rw [HN.out.1]; rfl
   have ej : JO = jo + 1 := by rw [HN.out.2.1]; rfl
   have et : TT = Tr.joined k ((pre ++ x :: y :: post).map KidD.t) j := by rw [HN.out.2.2]; rfl
   rw [eb, ej, et]
   refine ⟨F2, rfl, hnd2.keep hk3 (fun q r h g => ?_), hF2', ?_, hg3⟩
   · have g' : q = gb := g
     rcases hF2' q r h with h | h
     · exact HG.out.2 r (g' ▸ h)
     · omega
   · have a1 := HK1.out.mono (G := fun q r => F q r ∨ q = gb) (fun _ _ _ h => h.elim)
     have a2 := a1.trans (hk2.mono (fun q r _ h => .inl (.inl h)))
     exact a2.trans (hk3.mono (fun q r _ h => .inl (.inr h)))
 · have hf : i = 0 := by
     have h := HM.out
     have hi := HZ.out.2.2.1
     unfold Tr.mend at h
     rw [List.length_map] at h
     (repeat' split at h) <;> first | assumption | omega
   obtain ⟨j, rfl⟩ : ∃ j, i = j := ⟨i, rfl⟩
   obtain ⟨pre, x, y, post, hkl, hpl⟩ := two_mid (l := kids) (j := i) (by have h1 := HZ.out.1; have h2 := HZ.out.2.1; have h3 := HZ.out.2.2.1; omega)
   obtain ⟨hbox, hkr, hcr, hkids, sb, sk, sc, ss, hs⟩ := HK.out
   obtain ⟨z1, z2, z3, z4, hsz⟩ := HZ.out
   subst hkl
   have zx := hsz x (by simp)
   have zy := hsz y (by simp)
   have hn1 : (pre ++ x :: y :: post).length = pre.length + (2 + post.length) := by simp; omega
   have hcall := joinKids_c w1 F b k pre post x y (HK1.out.block' hbox (fun _ h => h)) (hkr.keep HK1.out (fun _ _ _ h => h)) (hcr.keep HK1.out (fun _ _ _ h => h))
     (fun z hz => (hkids z hz).keep HK1.out (fun _ _ _ h => h)) sb sk sc ss hs (by omega) zx.1 zy.1 zx.2.1 zy.2.1 (by omega) z4
   have hans := Tr.joined_mid k (pre.map KidD.t) (post.map KidD.t) x.t y.t
   rw [List.length_map] at hans
   rw [← hans, hpl] at hcall
   rw [show pre.map KidD.t ++ x.t :: y.t :: post.map KidD.t = (pre ++ x :: y :: post).map KidD.t by simp] at hcall
   have HC := Lib.hid hcall
   clear hcall hans hbox hkr hcr hkids sb sk sc ss hs hsz zx zy hn1 z1 z2 z3 z4 hf
   go_wp2_with fail
   refine HC.out.mono ?_
   rintro e w2 ⟨F2, rfl, hnd2, hF2, hk2⟩
   have hg2 : SBox w2 gb gn bo jo sh wide := hk2.block' HG1.out HG.out.2
   have hsz2 := hk2.size
   obtain ⟨g0, g1, g2, g3, g4, g5, g6, g7, g8⟩ := hg2.cells
   have H2 := Lib.hid (And.intro hnd2 (And.intro hF2 (And.intro hk2 hg2)))
   clear hnd2 hF2 hk2 hg2
   go_wp2_with fail
   obtain ⟨hnd2, hF2, hk2, hg2⟩ := H2.out
   obtain ⟨W3, hW3⟩ : ∃ W3, W3 = w2.setCell ⟨gb, 2, none⟩ (.int .i64 ((jo : Int) + 1)) := ⟨_, rfl⟩
   rw [← hW3]
   have hk3 : KeptF (boxOf gb) w2 W3 := by rw [hW3]; exact KeptF.setCell _ _ _ _ rfl
   have hg3 : SBox W3 gb gn bo (jo + 1) sh wide := by
     rw [hW3]
     have := set_blk (o := 2) (.int .i64 ((jo : Int) + 1)) hg2
     unfold SBox
     rw [this]
     simp
   refine bodyPost_end (v := .tuple #[]) (by simp [results, Try.results142, go_sem]) rfl ?_
   have hF2' : ∀ q r, F2 q r → F q r ∨ w.heap.size ≤ q := fun q r h => (hF2 q r h).imp id (fun h => by omega)
   have eb : BO = bo := by rw [HN.out.1]; rfl
   have ej : JO = jo + 1 := by rw [HN.out.2.1]; rfl
   have et : TT = Tr.joined k ((pre ++ x :: y :: post).map KidD.t) i := by rw [HN.out.2.2]; rfl
   rw [eb, ej, et]
   refine ⟨F2, rfl, hnd2.keep hk3 (fun q r h g => ?_), hF2', ?_, hg3⟩
   · have g' : q = gb := g
     rcases hF2' q r h with h | h
     · exact HG.out.2 r (g' ▸ h)
     · omega
   · have a1 := HK1.out.mono (G := fun q r => F q r ∨ q = gb) (fun _ _ _ h => h.elim)
     have a2 := a1.trans (hk2.mono (fun q r _ h => .inl (.inl h)))
     exact a2.trans (hk3.mono (fun q r _ h => .inl (.inr h)))
end Go.Proofs.Ytananonjomfpkaa
