/- Finding: plain data: places in a node, the way down. -/
import Derived.Test.YtananonjomfpkaaQf15
/- The law on TreeValid: the walk over the contracts. -/
namespace Go.Proofs.Ytananonjomfpkaa
open Go.RowKit
def ImplTreeValid : Prop := ∀ (w0 : World) (B : Nat) (kv cv : Value) (t : Tr) (n : Int), TreeIn w0 B kv cv t → t.weight ≤ 1048576 → -9223372036854775808 ≤ n → n ≤ 9223372036854775807 → ∀ w', Below B w0 w' → B ≤ w'.heap.size →
 Calls Try.prog 19 #[.agg #[kv, cv], .int .i64 n] w' fun e w'' => e = .returned (.bool (Tr.validB n t)) ∧ Below w'.heap.size w' w''
-- END
end Go.Proofs.Ytananonjomfpkaa
/- The contract of the program's TreeValid. -/
namespace Go.Proofs.Ytananonjomfpkaa
open Go.RowKit
set_option maxRecDepth 100000 in
set_option maxHeartbeats 2000000 in
theorem impl_valid : ImplTreeValid := by
 intro w0 B kv cv t n ht hwt hn1 hn2 w' hbw hB
 cases t with
 | mk ks cs =>
   have ht' := ht.later hbw (Nat.le_refl _)
   obtain ⟨a5, n5, m5, a6, n6, m6, rfl, rfl⟩ := ht.slices
   obtain ⟨a, cap, kvs, cvs, hcv, hk, hlen, hcap, hat, hkids⟩ := ht.parts
   simp only [Value.slice.injEq] at hcv
   obtain ⟨rfl, rfl, rfl⟩ := hcv
   clear hk hlen hcap hat hkids ht hbw
   obtain ⟨W1, hW1⟩ : ∃ W1, W1 = w'.alloc (.cells #[.slice a5 n5 m5, .slice a6 cs.length m6] 26) := ⟨_, rfl⟩
   have hs1 : W1.heap.size = w'.heap.size + 1 := by rw [hW1]; simp
   have hb1 : Below w'.heap.size w' W1 := by rw [hW1]; exact (Below.refl _ _).alloc (Nat.le_refl _) _
   have kb : W1.heap[w'.heap.size]? = some (.cells #[.slice a5 n5 m5, .slice a6 cs.length m6] 26 (0, 0)) := by rw [hW1, new_blk]
   have ht1 : TreeIn W1 W1.heap.size (.slice a5 n5 m5) (.slice a6 cs.length m6) (.mk ks cs) := (ht'.later hb1 hB).wider (by omega)
   obtain ⟨x1, x2, x3, x4⟩ := box2 kb
   have HT1 := Lib.hid ht1
   have HW1 := Lib.hid hW1
   have HB1 := Lib.hid (And.intro hb1 kb)
   have hval0 : inB n 2 6 = false → Tr.validB n (.mk ks cs) = false := fun h => by simp only [Tr.validB, h]; rfl
   have HV0 := Lib.hid hval0
   clear ht' ht1 hW1 hb1 kb hval0
   by_cases hwd : 2 ≤ n ∧ n ≤ 6
   · have hin := inB_true hwd.1 hwd.2
     have hval := even_valid hwd.1 hwd.2 ks cs
     have hel := Tr.evenD_le n 6 ((min cs.length 1 : Nat) : Int) (.mk ks cs)
     have hc := evenDepth_c n hwd.1 hwd.2 6 (Nat.le_refl _) HT1.out hwt w'.heap.size 0 ((min cs.length 1 : Nat) : Int) (by omega) (by omega) x1 x2 (by omega) W1 (Below.refl _ _) (Nat.le_refl _)
     generalize Tr.evenD n 6 ((min cs.length 1 : Nat) : Int) (.mk ks cs) = E at hval hel hc
     obtain ⟨EI, hEI⟩ : ∃ EI : Int, EI = (E : Int) := ⟨_, rfl⟩
     rw [← hEI] at hc
     have HEI := Lib.hid hEI
     clear hEI
     have HIN := Lib.hid hin
     have HVAL := Lib.hid hval
     have HC := Lib.hid hc
     clear hin hval hc
     go_enter Try.func19, Try.ntmps19
     go_wp2_with fail
     rw [← HW1.out]
     refine (isWide_c n W1).mono ?_
     rintro e w1 ⟨rfl, rfl⟩
     rw [HIN.out]
     rcases Nat.lt_or_ge cs.length 2 with h0 | h1
     · have h0' : ((cs.length : Nat) : Int) ≤ 1 := by omega
       have H0 := Lib.hid h0
       clear h0
       go_wp2_with fail
       have hc' := HC.out
       have e9 : ((min cs.length 1 : Nat) : Int) = (cs.length : Int) := by omega
       rw [e9] at hc'
       refine hc'.mono ?_
       clear hc' e9
       rintro e w2 ⟨rfl, hb2⟩
       have hs2 := hb2.size
       have kb2 := (hb2.block w'.heap.size (by omega)).trans HB1.out.2
       clear x1 x2 x3 x4
       obtain ⟨x1, x2, x3, x4⟩ := box2 kb2
       have HB2 := Lib.hid hb2
       clear hb2 kb2
       by_cases hE : E = 0
       · have hv : Tr.validB n (.mk ks cs) = false := by rw [HVAL.out, hE]; rfl
         have hE' : ¬ (0 : Int) < EI := by rw [HEI.out, hE]; decide
         have HV := Lib.hid hv
         clear hv hE
         go_wp2_with fail
         go_ret
         exact ⟨ret_bool HV.out.symm, HB1.out.1.trans (HB2.out.mono (by omega))⟩
       · have hv : Tr.validB n (.mk ks cs) = sortedB (Tr.mk ks cs).keys := by rw [HVAL.out, decide_eq_true (by omega), Bool.true_and]
         have hE' : (0 : Int) < EI := by rw [HEI.out]; omega
         have HV := Lib.hid hv
         have HE := Lib.hid hE
         clear hv hE
         go_wp2_with fail
         refine (plant_c HT1.out hwt w2 HB2.out hs2).mono ?_
         rintro e w3 ⟨nb, rfl, hnd, hb3⟩
         have hs3 := hb3.size
         have HND := Lib.hid hnd
         have HB3 := Lib.hid hb3
         clear hnd hb3 x1 x2 x3 x4
         go_wp2_with fail
         refine (ascends_c HND.out hwt (Nat.le_refl _)).mono ?_
         rintro e w4 ⟨rfl, hb4⟩
         have HB4 := Lib.hid hb4
         clear hb4
         go_wp2_with fail
         go_ret
         exact ⟨ret_bool HV.out.symm, HB1.out.1.trans ((HB2.out.mono (by omega)).trans ((HB3.out.mono (by omega)).trans (HB4.out.mono (by omega))))⟩
     · have h1' : (1 : Int) < ((cs.length : Nat) : Int) := by omega
       have H1 := Lib.hid h1
       clear h1
       go_wp2_with fail
       have hc' := HC.out
       have e9 : ((min cs.length 1 : Nat) : Int) = 1 := by omega
       rw [e9] at hc'
       refine hc'.mono ?_
       clear hc' e9
       rintro e w2 ⟨rfl, hb2⟩
       have hs2 := hb2.size
       have kb2 := (hb2.block w'.heap.size (by omega)).trans HB1.out.2
       clear x1 x2 x3 x4
       obtain ⟨x1, x2, x3, x4⟩ := box2 kb2
       have HB2 := Lib.hid hb2
       clear hb2 kb2
       by_cases hE : E = 0
       · have hv : Tr.validB n (.mk ks cs) = false := by rw [HVAL.out, hE]; rfl
         have hE' : ¬ (0 : Int) < EI := by rw [HEI.out, hE]; decide
         have HV := Lib.hid hv
         clear hv hE
         go_wp2_with fail
         go_ret
         exact ⟨ret_bool HV.out.symm, HB1.out.1.trans (HB2.out.mono (by omega))⟩
       · have hv : Tr.validB n (.mk ks cs) = sortedB (Tr.mk ks cs).keys := by rw [HVAL.out, decide_eq_true (by omega), Bool.true_and]
         have hE' : (0 : Int) < EI := by rw [HEI.out]; omega
         have HV := Lib.hid hv
         have HE := Lib.hid hE
         clear hv hE
         go_wp2_with fail
         refine (plant_c HT1.out hwt w2 HB2.out hs2).mono ?_
         rintro e w3 ⟨nb, rfl, hnd, hb3⟩
         have hs3 := hb3.size
         have HND := Lib.hid hnd
         have HB3 := Lib.hid hb3
         clear hnd hb3 x1 x2 x3 x4
         go_wp2_with fail
         refine (ascends_c HND.out hwt (Nat.le_refl _)).mono ?_
         rintro e w4 ⟨rfl, hb4⟩
         have HB4 := Lib.hid hb4
         clear hb4
         go_wp2_with fail
         go_ret
         exact ⟨ret_bool HV.out.symm, HB1.out.1.trans ((HB2.out.mono (by omega)).trans ((HB3.out.mono (by omega)).trans (HB4.out.mono (by omega))))⟩
   · have hin := inB_false hwd
     have HIN := Lib.hid hin
     clear hin
     go_enter Try.func19, Try.ntmps19
     go_wp2_with fail
     rw [← HW1.out]
     refine (isWide_c n W1).mono ?_
     rintro e w1 ⟨rfl, rfl⟩
     rw [HIN.out]
     go_wp2_with fail
     go_ret
     exact ⟨ret_bool (HV0.out HIN.out).symm, HB1.out.1⟩
end Go.Proofs.Ytananonjomfpkaa
/- Whether a tree is valid for some width: the program. -/
namespace Go.Proofs.Ytananonjomfpkaa
open Go.RowKit
set_option maxRecDepth 100000 in
set_option maxHeartbeats 1000000 in
theorem validForSome_c {w : World} {B : Nat} {kv cv : Value} {t : Tr} (ht : TreeIn w B kv cv t) (hw : t.weight ≤ 1048576) (w' : World) (hbw : Below B w w') (hB : B ≤ w'.heap.size) :
   Calls Try.prog 67 #[.agg #[kv, cv]] w' fun e w'' => e = .returned (.bool t.someB) ∧ Below w'.heap.size w' w'' := by
 obtain ⟨a5, n5, m5, a6, n6, m6, rfl, rfl⟩ := ht.slices
 obtain ⟨W1, hW1⟩ : ∃ W1, W1 = w'.alloc (.cells #[.slice a5 n5 m5, .slice a6 n6 m6] 26) := ⟨_, rfl⟩
 have hs1 : W1.heap.size = w'.heap.size + 1 := by rw [hW1]; simp
 have hb1 : Below w'.heap.size w' W1 := by rw [hW1]; exact (Below.refl _ _).alloc (Nat.le_refl _) _
 have kb : W1.heap[w'.heap.size]? = some (.cells #[.slice a5 n5 m5, .slice a6 n6 m6] 26 (0, 0)) := by rw [hW1, new_blk]
 have HT := Lib.hid ht
 have HBW := Lib.hid hbw
 have HW1 := Lib.hid hW1
 have H1 := Lib.hid (And.intro hb1 kb)
 have hsb := someB_of t
 have HSB := Lib.hid hsb
 clear ht hbw hW1 hb1 kb hsb
 go_enter Try.func67, Try.ntmps67
 go_wp2_with fail
 rw [← HW1.out]
 go_loopw [3] (fun i wr => ∃ (j : Nat), 2 ≤ j ∧ j ≤ 7 ∧ i = .int .i64 j ∧ (∀ q : Nat, 2 ≤ q → q < j → Tr.validB q t = false) ∧ Below W1.heap.size W1 wr) (fun i _ => 7 - (intOf i).toNat)
 case atStart => exact ⟨2, Nat.le_refl _, by omega, rfl, fun q h1 h2 => by omega, Below.refl _ _⟩
 case round =>
   obtain ⟨j, hj2, hj7, rfl, hall, hbel⟩ := hrel
   have hsr := hbel.size
   obtain ⟨x1, x2, x3, x4⟩ := box2 ((hbel.block w'.heap.size (by omega)).trans H1.out.2)
   have HALL := Lib.hid hall
   have HBEL := Lib.hid hbel
   clear hall hbel
   by_cases hlt : j ≤ 6
   · have hlt' : (j : Int) ≤ 6 := by omega
     go_wp2_with fail
     refine (impl_valid _ _ _ _ _ (j : Int) HT.out hw (by omega) (by omega) wr (HBW.out.trans ((H1.out.1.mono hB).trans (HBEL.out.mono (by omega)))) (by omega)).mono ?_
     rintro e w2 ⟨rfl, hb2⟩
     have HB2 := Lib.hid (HBEL.out.trans (hb2.mono hsr))
     clear hb2
     cases hv : Tr.validB j t with
     | true =>
       have hso := HSB.out.1 j hj2 (by omega) hv
       have HSO := Lib.hid hso
       have HV := Lib.hid hv
       clear hso hv
       go_wp2_with fail
       go_ret
       exact ⟨ret_bool HSO.out.symm, H1.out.1.trans (HB2.out.mono (by omega))⟩
     | false =>
       have HV := Lib.hid hv
       clear hv
       go_wp2_with fail
       go_roundw
       case rel =>
         refine ⟨j + 1, by omega, by omega, by go_num, fun q h1 h2 => ?_, HB2.out⟩
         by_cases hq : q = j
         · rw [hq]; exact HV.out
         · exact HALL.out q h1 (by omega)
       case measure => simp [intOf]; omega
   · have hlt' : ¬ (j : Int) ≤ 6 := by omega
     have hso := HSB.out.2 (fun q h1 h2 => HALL.out q h1 (by omega))
     have HSO := Lib.hid hso
     clear hso
     go_wp2_with fail
     go_ret
     exact ⟨ret_bool HSO.out.symm, H1.out.1.trans (HBEL.out.mono (by omega))⟩
end Go.Proofs.Ytananonjomfpkaa
/- Finding: plain data: places in a node, the way down. -/
namespace Go.Proofs.Ytananonjomfpkaa
open Go.RowKit
def place (key : Int) : List Int → Nat
 | [] => 0
 | k :: r => if k < key then place key r + 1 else 0
theorem place_le (key : Int) (ks : List Int) : place key ks ≤ ks.length := by
 induction ks with
 | nil => simp [place]
 | cons k r ih => simp only [place, List.length_cons]; split <;> omega
theorem place_eq {key : Int} : ∀ {ks : List Int} {j : Nat}, j ≤ ks.length → (∀ i, i < j → ks.getD i 0 < key) → (j < ks.length → ¬ ks.getD j 0 < key) → place key ks = j
 | [], j, h, _, _ => by simp at h; simp [place, h]
 | k :: r, 0, _, _, h2 => by
   have := h2 (by simp)
   simp only [List.getD_cons_zero] at this
   simp [place, this]
 | k :: r, j + 1, h, h1, h2 => by
   have h0 := h1 0 (by omega)
   simp only [List.getD_cons_zero] at h0
   have := place_eq (key := key) (ks := r) (j := j) (by simpa using h) (fun i hi => by have := h1 (i + 1) (by omega); simpa using this) (fun hj => by have := h2 (by simpa using hj); simpa using this)
   simp [place, h0, this]
namespace Tr
def ks : Tr → List Int | .mk k _ => k
def cs : Tr → List Tr | .mk _ c => c
mutual
def path (key : Int) : Tr → List Int × Bool
 | .mk k c =>
   if place key k < k.length ∧ k.getD (place key k) 0 = key then ([], true)
   else if c.length = 0 then ([], false)
   else ((place key k : Int) :: ((paths key c).getD (place key k) ([], false)).1, ((paths key c).getD (place key k) ([], false)).2)
def paths (key : Int) : List Tr → List (List Int × Bool)
 | [] => []
 | t :: r => path key t :: paths key r
end
theorem paths_get (key : Int) (c : List Tr) (i : Nat) (h : i < c.length) : (paths key c).getD i ([], false) = c[i].path key := by
 induction c generalizing i with
 | nil => simp at h
 | cons t r ih =>
   cases i with
   | zero => simp [paths]
   | succ i => simpa [paths] using ih i (by simpa using h)
theorem path_found {key : Int} {k : List Int} {c : List Tr} (h : place key k < k.length ∧ k.getD (place key k) 0 = key) : (Tr.mk k c).path key = ([], true) := by
 rw [path, if_pos h]
theorem path_leaf {key : Int} {k : List Int} {c : List Tr} (h : ¬ (place key k < k.length ∧ k.getD (place key k) 0 = key)) (h0 : c.length = 0) : (Tr.mk k c).path key = ([], false) := by
 rw [path, if_neg h, if_pos h0]
theorem path_inner {key : Int} {k : List Int} {c : List Tr} (h : ¬ (place key k < k.length ∧ k.getD (place key k) 0 = key)) (hi : place key k < c.length) :
   (Tr.mk k c).path key = ((place key k : Int) :: (c[place key k].path key).1, (c[place key k].path key).2) := by
 rw [path, if_neg h, if_neg (by omega), paths_get key c _ hi]
theorem paths_length (key : Int) (c : List Tr) : (paths key c).length = c.length := by
 induction c with
 | nil => rfl
 | cons t r ih => simp only [paths, List.length_cons, ih]
theorem path_len' (key : Int) : ∀ (n : Nat) (t : Tr), t.weight ≤ n → (t.path key).1.length ≤ t.weight
 | n, .mk k c, hn => by
   rw [path]
   split
   · simp
   · split
     · simp
     · simp only [List.length_cons, weight] at *
       by_cases hi : place key k < c.length
       · rw [paths_get key c _ hi]
         have h1 := weight_get_le c _ hi
         cases n with
         | zero => omega
         | succ n =>
           have := path_len' key n c[place key k] (by omega)
           omega
       · have h2 := paths_length key c
         rw [List.getD_eq_getElem?_getD, List.getElem?_eq_none (by omega)]
         have := length_le_weights c
         simp; omega
theorem path_len (key : Int) (t : Tr) : (t.path key).1.length ≤ t.weight := path_len' key t.weight t (Nat.le_refl _)
def pathB (key : Int) (t : Tr) : List Int × Bool := if t.someB then t.path key else ([], false)
def Well (t : Tr) : Prop := (∃ wide least d, nodesB wide least d t = true) ∧ t.keys.Pairwise (· < ·)
theorem Well.inner {k : List Int} {c : List Tr} (h : Well (.mk k c)) (h0 : c.length ≠ 0) : c.length = k.length + 1 := by
 obtain ⟨⟨w, l, d, h⟩, _⟩ := h
 rcases (nodesB_parts h).2 with ⟨h1, _⟩ | ⟨_, _, h3, _⟩
 · exact absurd h1 h0
 · exact h3
theorem part_sub (kss : List (List Int)) (ks : List Int) (n i : Nat) (h : i < n) : (part kss ks i).Sublist (upto kss ks n) := by
 induction n with
 | zero => omega
 | succ n ih =>
   rw [upto_succ]
   by_cases hi : i < n
   · exact (ih hi).trans (List.sublist_append_left _ _)
   · obtain rfl : i = n := by omega
     exact List.sublist_append_right _ _
theorem kid_sub {k : List Int} {c : List Tr} (i : Nat) (hi : i < c.length) : (c[i].keys).Sublist (Tr.mk k c).keys := by
 have h := part_sub (keyss c) k (max k.length c.length) i (by omega)
 refine List.Sublist.trans ?_ h
 unfold part
 rw [keyss_get c i hi]
 exact List.sublist_append_left _ _
theorem take_sub (kss : List (List Int)) (ks : List Int) (n : Nat) : (ks.take n).Sublist (upto kss ks n) := by
 induction n with
 | zero => simp
 | succ n ih =>
   rw [upto_succ, List.take_add_one]
   refine List.Sublist.append ih ?_
   unfold part
   exact List.sublist_append_right _ _
theorem own_sub (k : List Int) (c : List Tr) : k.Sublist (Tr.mk k c).keys := by
 have h := take_sub (keyss c) k (max k.length c.length)
 rw [List.take_of_length_le (by omega)] at h
 exact h
theorem Well.keys {k : List Int} {c : List Tr} (h : Well (.mk k c)) : k.Pairwise (· < ·) := h.2.sublist (own_sub k c)
theorem Well.kid {k : List Int} {c : List Tr} (h : Well (.mk k c)) (i : Nat) (hi : i < c.length) : Well c[i] := by
 obtain ⟨⟨w, l, d, hn⟩, hp⟩ := h
 rcases (nodesB_parts hn).2 with ⟨h1, _⟩ | ⟨_, _, _, _, h5⟩
 · omega
 · exact ⟨⟨_, _, _, h5 i hi⟩, hp.sublist (kid_sub i hi)⟩
theorem pairwise_of_sorted {ks : List Int} (h : sortedB ks = true) : ks.Pairwise (· < ·) := by
 have hstep : ∀ i, i + 1 < ks.length → ks.getD i 0 < ks.getD (i + 1) 0 := fun i hi => by
   have h1 := okAt_get h (i + 1) hi
   simp only [okAt, inB, Bool.and_eq_true, decide_eq_true_eq, Bool.or_eq_true, Nat.add_sub_cancel] at h1
   omega
 have hall : ∀ d i, i + d + 1 < ks.length → ks.getD i 0 < ks.getD (i + d + 1) 0 := by
   intro d
   induction d with
   | zero => intro i hi; exact hstep i hi
   | succ d ih => intro i hi; have := ih i (by omega); have := hstep (i + d + 1) (by omega); rw [show i + (d + 1) + 1 = i + d + 1 + 1 by omega]; omega
 rw [List.pairwise_iff_getElem]
 intro i j hi hj hij
 have := hall (j - i - 1) i (by omega)
 rw [show i + (j - i - 1) + 1 = j by omega] at this
 simpa [List.getD_eq_getElem?_getD, hi, hj] using this
theorem Well.of_some {t : Tr} (h : t.someB = true) : Well t := by
 have hv : ∃ w : Int, validB w t = true := by
   unfold someB at h
   simp only [Bool.or_eq_true] at h
   rcases h with (((h | h) | h) | h) | h
   all_goals exact ⟨_, h⟩
 obtain ⟨w, hv⟩ := hv
 unfold validB at hv
 simp only [Bool.and_eq_true] at hv
 exact ⟨⟨w, 0, _, hv.2.1⟩, pairwise_of_sorted hv.2.2⟩
end Tr
theorem someB_path (key : Int) (t : Tr) : (t.someB = true → t.pathB key = t.path key) ∧ (t.someB = false → t.pathB key = ([], false)) := by
 unfold Tr.pathB
 constructor <;> intro h <;> simp [h]
end Go.Proofs.Ytananonjomfpkaa
