/- Inserting a key, as plain data. -/
import Derived.Test.YtananonjomfpkaaQe14
/- The law on TreeValid: the walk over the contracts. -/
namespace Go.Proofs.Ytananonjomfpkaa
open Go.RowKit
def ImplTreeValid : Prop := ∀ (w0 : World) (B : Nat) (kv cv : Value) (t : Tr) (n : Int), TreeIn w0 B kv cv t → t.weight ≤ 1048576 → -9223372036854775808 ≤ n → n ≤ 9223372036854775807 → ∀ w', Below B w0 w' → B ≤ w'.heap.size →
 Calls Try.prog 19 #[.agg #[kv, cv], .int .i64 n] w' fun e w'' => e = .returned (.bool (Tr.validB n t)) ∧ Below w'.heap.size w' w''
-- END
end Go.Proofs.Ytananonjomfpkaa
/- The contract of the program's TreeValid. -/
namespace Go.Proofs.Ytananonjomfpkaa
open Go.RowKit
set_option maxRecDepth 100000 in
set_option maxHeartbeats 2000000 in
theorem impl_valid : ImplTreeValid := by
 intro w0 B kv cv t n ht hwt hn1 hn2 w' hbw hB
 cases t with
 | mk ks cs =>
   have ht' := ht.later hbw (Nat.le_refl _)
   obtain ⟨a5, n5, m5, a6, n6, m6, rfl, rfl⟩ := ht.slices
   obtain ⟨a, cap, kvs, cvs, hcv, hk, hlen, hcap, hat, hkids⟩ := ht.parts
   simp only [Value.slice.injEq] at hcv
   obtain ⟨rfl, rfl, rfl⟩ := hcv
   clear hk hlen hcap hat hkids ht hbw
   obtain ⟨W1, hW1⟩ : ∃ W1, W1 = w'.alloc (.cells #[.slice a5 n5 m5, .slice a6 cs.length m6] 26) := ⟨_, rfl⟩
   have hs1 : W1.heap.size = w'.heap.size + 1 := by rw [hW1]; simp
   have hb1 : Below w'.heap.size w' W1 := by rw [hW1]; exact (Below.refl _ _).alloc (Nat.le_refl _) _
   have kb : W1.heap[w'.heap.size]? = some (.cells #[.slice a5 n5 m5, .slice a6 cs.length m6] 26 (0, 0)) := by rw [hW1, new_blk]
   have ht1 : TreeIn W1 W1.heap.size (.slice a5 n5 m5) (.slice a6 cs.length m6) (.mk ks cs) := (ht'.later hb1 hB).wider (by omega)
   obtain ⟨x1, x2, x3, x4⟩ := box2 kb
   have HT1 := Lib.hid ht1
   have HW1 := Lib.hid hW1
   have HB1 := Lib.hid (And.intro hb1 kb)
   have hval0 : inB n 2 6 = false → Tr.validB n (.mk ks cs) = false := fun h => by simp only [Tr.validB, h]; rfl
   have HV0 := Lib.hid hval0
   clear ht' ht1 hW1 hb1 kb hval0
   by_cases hwd : 2 ≤ n ∧ n ≤ 6
   · have hin := inB_true hwd.1 hwd.2
     have hval := even_valid hwd.1 hwd.2 ks cs
     have hel := Tr.evenD_le n 6 ((min cs.length 1 : Nat) : Int) (.mk ks cs)
     have hc := evenDepth_c n hwd.1 hwd.2 6 (Nat.le_refl _) HT1.out hwt w'.heap.size 0 ((min cs.length 1 : Nat) : Int) (by omega) (by omega) x1 x2 (by omega) W1 (Below.refl _ _) (Nat.le_refl _)
     generalize Tr.evenD n 6 ((min cs.length 1 : Nat) : Int) (.mk ks cs) = E at hval hel hc
     obtain ⟨EI, hEI⟩ : ∃ EI : Int, EI = (E : Int) := ⟨_, rfl⟩
     rw [← hEI] at hc
     have HEI := Lib.hid hEI
     clear hEI
     have HIN := Lib.hid hin
     have HVAL := Lib.hid hval
     have HC := Lib.hid hc
     clear hin hval hc
     go_enter Try.func19, Try.ntmps19
     go_wp2_with fail
     rw [← HW1.out]
     refine (isWide_c n W1).mono ?_
     rintro e w1 ⟨rfl, rfl⟩
     rw [HIN.out]
     rcases Nat.lt_or_ge cs.length 2 with h0 | h1
     · have h0' : ((cs.length : Nat) : Int) ≤ 1 := by omega
       have H0 := Lib.hid h0
       clear h0
       go_wp2_with fail
       have hc' := HC.out
       have e9 : ((min cs.length 1 : Nat) : Int) = (cs.length : Int) := by omega
       rw [e9] at hc'
       refine hc'.mono ?_
       clear hc' e9
       rintro e w2 ⟨rfl, hb2⟩
       have hs2 := hb2.size
       have kb2 := (hb2.block w'.heap.size (by omega)).trans HB1.out.2
       clear x1 x2 x3 x4
       obtain ⟨x1, x2, x3, x4⟩ := box2 kb2
       have HB2 := Lib.hid hb2
       clear hb2 kb2
       by_cases hE : E = 0
       · have hv : Tr.validB n (.mk ks cs) = false := by rw [HVAL.out, hE]; rfl
         have hE' : ¬ (0 : Int) < EI := by rw [HEI.out, hE]; decide
         have HV := Lib.hid hv
         clear hv hE
         go_wp2_with fail
         go_ret
         exact ⟨ret_bool HV.out.symm, HB1.out.1.trans (HB2.out.mono (by omega))⟩
       · have hv : Tr.validB n (.mk ks cs) = sortedB (Tr.mk ks cs).keys := by rw [HVAL.out, decide_eq_true (by omega), Bool.true_and]
         have hE' : (0 : Int) < EI := by rw [HEI.out]; omega
         have HV := Lib.hid hv
         have HE := Lib.hid hE
         clear hv hE
         go_wp2_with fail
         refine (plant_c HT1.out hwt w2 HB2.out hs2).mono ?_
         rintro e w3 ⟨nb, rfl, hnd, hb3⟩
         have hs3 := hb3.size
         have HND := Lib.hid hnd
         have HB3 := Lib.hid hb3
         clear hnd hb3 x1 x2 x3 x4
         go_wp2_with fail
         refine (ascends_c HND.out hwt (Nat.le_refl _)).mono ?_
         rintro e w4 ⟨rfl, hb4⟩
         have HB4 := Lib.hid hb4
         clear hb4
         go_wp2_with fail
         go_ret
         exact ⟨ret_bool HV.out.symm, HB1.out.1.trans ((HB2.out.mono (by omega)).trans ((HB3.out.mono (by omega)).trans (HB4.out.mono (by omega))))⟩
     · have h1' : (1 : Int) < ((cs.length : Nat) : Int) := by omega
       have H1 := Lib.hid h1
       clear h1
       go_wp2_with fail
       have hc' := HC.out
       have e9 : ((min cs.length 1 : Nat) : Int) = 1 := by omega
       rw [e9] at hc'
       refine hc'.mono ?_
       clear hc' e9
       rintro e w2 ⟨rfl, hb2⟩
       have hs2 := hb2.size
       have kb2 := (hb2.block w'.heap.size (by omega)).trans HB1.out.2
       clear x1 x2 x3 x4
       obtain ⟨x1, x2, x3, x4⟩ := box2 kb2
       have HB2 := Lib.hid hb2
       clear hb2 kb2
       by_cases hE : E = 0
       · have hv : Tr.validB n (.mk ks cs) = false := by rw [HVAL.out, hE]; rfl
         have hE' : ¬ (0 : Int) < EI := by rw [HEI.out, hE]; decide
         have HV := Lib.hid hv
         clear hv hE
         go_wp2_with fail
         go_ret
         exact ⟨ret_bool HV.out.symm, HB1.out.1.trans (HB2.out.mono (by omega))⟩
       · have hv : Tr.validB n (.mk ks cs) = sortedB (Tr.mk ks cs).keys := by rw [HVAL.out, decide_eq_true (by omega), Bool.true_and]
         have hE' : (0 : Int) < EI := by rw [HEI.out]; omega
         have HV := Lib.hid hv
         have HE := Lib.hid hE
         clear hv hE
         go_wp2_with fail
         refine (plant_c HT1.out hwt w2 HB2.out hs2).mono ?_
         rintro e w3 ⟨nb, rfl, hnd, hb3⟩
         have hs3 := hb3.size
         have HND := Lib.hid hnd
         have HB3 := Lib.hid hb3
         clear hnd hb3 x1 x2 x3 x4
         go_wp2_with fail
         refine (ascends_c HND.out hwt (Nat.le_refl _)).mono ?_
         rintro e w4 ⟨rfl, hb4⟩
         have HB4 := Lib.hid hb4
         clear hb4
         go_wp2_with fail
         go_ret
         exact ⟨ret_bool HV.out.symm, HB1.out.1.trans ((HB2.out.mono (by omega)).trans ((HB3.out.mono (by omega)).trans (HB4.out.mono (by omega))))⟩
   · have hin := inB_false hwd
     have HIN := Lib.hid hin
     clear hin
     go_enter Try.func19, Try.ntmps19
     go_wp2_with fail
     rw [← HW1.out]
     refine (isWide_c n W1).mono ?_
     rintro e w1 ⟨rfl, rfl⟩
     rw [HIN.out]
     go_wp2_with fail
     go_ret
     exact ⟨ret_bool (HV0.out HIN.out).symm, HB1.out.1⟩
end Go.Proofs.Ytananonjomfpkaa
/- Whether a tree is valid for some width: the model. -/
namespace Go.Proofs.Ytananonjomfpkaa
open Go.RowKit
def Tr.someB (t : Tr) : Bool := Tr.validB 2 t || Tr.validB 3 t || Tr.validB 4 t || Tr.validB 5 t || Tr.validB 6 t
theorem someB_of (t : Tr) : (∀ q : Nat, 2 ≤ q → q ≤ 6 → Tr.validB q t = true → t.someB = true) ∧ ((∀ q : Nat, 2 ≤ q → q ≤ 6 → Tr.validB q t = false) → t.someB = false) := by
 constructor
 · intro q h1 h2 h
   have hq : q = 2 ∨ q = 3 ∨ q = 4 ∨ q = 5 ∨ q = 6 := by omega
   unfold Tr.someB
   rcases hq with rfl | rfl | rfl | rfl | rfl
   · have h' : Tr.validB 2 t = true := h
     simp [h']
   · have h' : Tr.validB 3 t = true := h
     simp [h']
   · have h' : Tr.validB 4 t = true := h
     simp [h']
   · have h' : Tr.validB 5 t = true := h
     simp [h']
   · have h' : Tr.validB 6 t = true := h
     simp [h']
 · intro h
   have a2 : Tr.validB 2 t = false := h 2 (by omega) (by omega)
   have a3 : Tr.validB 3 t = false := h 3 (by omega) (by omega)
   have a4 : Tr.validB 4 t = false := h 4 (by omega) (by omega)
   have a5 : Tr.validB 5 t = false := h 5 (by omega) (by omega)
   have a6 : Tr.validB 6 t = false := h 6 (by omega) (by omega)
   unfold Tr.someB
   simp [a2, a3, a4, a5, a6]
end Go.Proofs.Ytananonjomfpkaa
/- Finding: plain data: places in a node, the way down. -/
namespace Go.Proofs.Ytananonjomfpkaa
open Go.RowKit
def place (key : Int) : List Int → Nat
 | [] => 0
 | k :: r => if k < key then place key r + 1 else 0
theorem place_le (key : Int) (ks : List Int) : place key ks ≤ ks.length := by
 induction ks with
 | nil => simp [place]
 | cons k r ih => simp only [place, List.length_cons]; split <;> omega
theorem place_eq {key : Int} : ∀ {ks : List Int} {j : Nat}, j ≤ ks.length → (∀ i, i < j → ks.getD i 0 < key) → (j < ks.length → ¬ ks.getD j 0 < key) → place key ks = j
 | [], j, h, _, _ => by simp at h; simp [place, h]
 | k :: r, 0, _, _, h2 => by
   have := h2 (by simp)
   simp only [List.getD_cons_zero] at this
   simp [place, this]
 | k :: r, j + 1, h, h1, h2 => by
   have h0 := h1 0 (by omega)
   simp only [List.getD_cons_zero] at h0
   have := place_eq (key := key) (ks := r) (j := j) (by simpa using h) (fun i hi => by have := h1 (i + 1) (by omega); simpa using this) (fun hj => by have := h2 (by simpa using hj); simpa using this)
   simp [place, h0, this]
namespace Tr
def ks : Tr → List Int | .mk k _ => k
def cs : Tr → List Tr | .mk _ c => c
mutual
def path (key : Int) : Tr → List Int × Bool
 | .mk k c =>
   if place key k < k.length ∧ k.getD (place key k) 0 = key then ([], true)
   else if c.length = 0 then ([], false)
   else ((place key k : Int) :: ((paths key c).getD (place key k) ([], false)).1, ((paths key c).getD (place key k) ([], false)).2)
def paths (key : Int) : List Tr → List (List Int × Bool)
 | [] => []
 | t :: r => path key t :: paths key r
end
theorem paths_get (key : Int) (c : List Tr) (i : Nat) (h : i < c.length) : (paths key c).getD i ([], false) = c[i].path key := by
 induction c generalizing i with
 | nil => simp at h
 | cons t r ih =>
   cases i with
   | zero => simp [paths]
   | succ i => simpa [paths] using ih i (by simpa using h)
theorem path_found {key : Int} {k : List Int} {c : List Tr} (h : place key k < k.length ∧ k.getD (place key k) 0 = key) : (Tr.mk k c).path key = ([], true) := by
 rw [path, if_pos h]
theorem path_leaf {key : Int} {k : List Int} {c : List Tr} (h : ¬ (place key k < k.length ∧ k.getD (place key k) 0 = key)) (h0 : c.length = 0) : (Tr.mk k c).path key = ([], false) := by
 rw [path, if_neg h, if_pos h0]
theorem path_inner {key : Int} {k : List Int} {c : List Tr} (h : ¬ (place key k < k.length ∧ k.getD (place key k) 0 = key)) (hi : place key k < c.length) :
   (Tr.mk k c).path key = ((place key k : Int) :: (c[place key k].path key).1, (c[place key k].path key).2) := by
 rw [path, if_neg h, if_neg (by omega), paths_get key c _ hi]
def pathB (key : Int) (t : Tr) : List Int × Bool := if t.someB then t.path key else ([], false)
def Well (t : Tr) : Prop := (∃ wide least d, nodesB wide least d t = true) ∧ t.keys.Pairwise (· < ·)
theorem Well.inner {k : List Int} {c : List Tr} (h : Well (.mk k c)) (h0 : c.length ≠ 0) : c.length = k.length + 1 := by
 obtain ⟨⟨w, l, d, h⟩, _⟩ := h
 rcases (nodesB_parts h).2 with ⟨h1, _⟩ | ⟨_, _, h3, _⟩
 · exact absurd h1 h0
 · exact h3
theorem part_sub (kss : List (List Int)) (ks : List Int) (n i : Nat) (h : i < n) : (part kss ks i).Sublist (upto kss ks n) := by
 induction n with
 | zero => omega
 | succ n ih =>
   rw [upto_succ]
   by_cases hi : i < n
   · exact (ih hi).trans (List.sublist_append_left _ _)
   · obtain rfl : i = n := by omega
     exact List.sublist_append_right _ _
theorem kid_sub {k : List Int} {c : List Tr} (i : Nat) (hi : i < c.length) : (c[i].keys).Sublist (Tr.mk k c).keys := by
 have h := part_sub (keyss c) k (max k.length c.length) i (by omega)
 refine List.Sublist.trans ?_ h
 unfold part
 rw [keyss_get c i hi]
 exact List.sublist_append_left _ _
theorem take_sub (kss : List (List Int)) (ks : List Int) (n : Nat) : (ks.take n).Sublist (upto kss ks n) := by
 induction n with
 | zero => simp
 | succ n ih =>
   rw [upto_succ, List.take_add_one]
   refine List.Sublist.append ih ?_
   unfold part
   exact List.sublist_append_right _ _
theorem own_sub (k : List Int) (c : List Tr) : k.Sublist (Tr.mk k c).keys := by
 have h := take_sub (keyss c) k (max k.length c.length)
 rw [List.take_of_length_le (by omega)] at h
 exact h
theorem Well.keys {k : List Int} {c : List Tr} (h : Well (.mk k c)) : k.Pairwise (· < ·) := h.2.sublist (own_sub k c)
theorem Well.kid {k : List Int} {c : List Tr} (h : Well (.mk k c)) (i : Nat) (hi : i < c.length) : Well c[i] := by
 obtain ⟨⟨w, l, d, hn⟩, hp⟩ := h
 rcases (nodesB_parts hn).2 with ⟨h1, _⟩ | ⟨_, _, _, _, h5⟩
 · omega
 · exact ⟨⟨_, _, _, h5 i hi⟩, hp.sublist (kid_sub i hi)⟩
theorem pairwise_of_sorted {ks : List Int} (h : sortedB ks = true) : ks.Pairwise (· < ·) := by
 have hstep : ∀ i, i + 1 < ks.length → ks.getD i 0 < ks.getD (i + 1) 0 := fun i hi => by
   have h1 := okAt_get h (i + 1) hi
   simp only [okAt, inB, Bool.and_eq_true, decide_eq_true_eq, Bool.or_eq_true, Nat.add_sub_cancel] at h1
   omega
 have hall : ∀ d i, i + d + 1 < ks.length → ks.getD i 0 < ks.getD (i + d + 1) 0 := by
   intro d
   induction d with
   | zero => intro i hi; exact hstep i hi
   | succ d ih => intro i hi; have := ih i (by omega); have := hstep (i + d + 1) (by omega); rw [show i + (d + 1) + 1 = i + d + 1 + 1 by omega]; omega
 rw [List.pairwise_iff_getElem]
 intro i j hi hj hij
 have := hall (j - i - 1) i (by omega)
 rw [show i + (j - i - 1) + 1 = j by omega] at this
 simpa [List.getD_eq_getElem?_getD, hi, hj] using this
theorem Well.of_some {t : Tr} (h : t.someB = true) : Well t := by
 have hv : ∃ w : Int, validB w t = true := by
   unfold someB at h
   simp only [Bool.or_eq_true] at h
   rcases h with (((h | h) | h) | h) | h
   all_goals exact ⟨_, h⟩
 obtain ⟨w, hv⟩ := hv
 unfold validB at hv
 simp only [Bool.and_eq_true] at hv
 exact ⟨⟨w, 0, _, hv.2.1⟩, pairwise_of_sorted hv.2.2⟩
end Tr
theorem someB_path (key : Int) (t : Tr) : (t.someB = true → t.pathB key = t.path key) ∧ (t.someB = false → t.pathB key = ([], false)) := by
 unfold Tr.pathB
 constructor <;> intro h <;> simp [h]
end Go.Proofs.Ytananonjomfpkaa
/- Finding: the nodes on the way to a number, as plain data. -/
namespace Go.Proofs.Ytananonjomfpkaa
open Go.RowKit
namespace Tr
mutual
def way (c : Int) : Tr → List Tr
 | .mk k cs => .mk k cs :: (ways c cs).getD (place c k) []
def ways (c : Int) : List Tr → List (List Tr)
 | [] => []
 | t :: r => way c t :: ways c r
end
theorem ways_get (c : Int) (cs : List Tr) (i : Nat) (h : i < cs.length) : (ways c cs).getD i [] = cs[i].way c := by
 induction cs generalizing i with
 | nil => simp at h
 | cons t r ih =>
   cases i with
   | zero => simp [ways]
   | succ i => simpa [ways] using ih i (by simpa using h)
theorem ways_length (c : Int) (cs : List Tr) : (ways c cs).length = cs.length := by
 induction cs with
 | nil => rfl
 | cons t r ih => simp only [ways, List.length_cons, ih]
theorem way_leaf {c : Int} {k : List Int} {cs : List Tr} (h : cs.length = 0) : (Tr.mk k cs).way c = [.mk k cs] := by
 rw [way, List.getD_eq_getElem?_getD, List.getElem?_eq_none (by rw [ways_length]; omega)]; rfl
theorem way_inner {c : Int} {k : List Int} {cs : List Tr} (h : place c k < cs.length) : (Tr.mk k cs).way c = .mk k cs :: cs[place c k].way c := by
 rw [way, ways_get c cs _ h]
def hasAt (key : Int) (t : Tr) : Bool := decide (place key t.ks < t.ks.length ∧ t.ks.getD (place key t.ks) 0 = key)
def inner (t : Tr) : Bool := decide (t.cs.length ≠ 0)
def stepsOf (c : Int) (l : List Tr) : List Int := (l.filter inner).map (fun t => (place c t.ks : Int))
theorem stepsOf_snoc (c : Int) (l : List Tr) (t : Tr) : stepsOf c (l ++ [t]) = if t.cs.length ≠ 0 then stepsOf c l ++ [(place c t.ks : Int)] else stepsOf c l := by
 unfold stepsOf
 rw [List.filter_append]
 by_cases h : t.cs.length ≠ 0
 · have : inner t = true := by simp [inner]; intro h2; simp [h2] at h
   simp [h, this]
 · have : inner t = false := by simp only [inner, h]; rfl
   rw [if_neg h]; simp [this]
theorem way_path' (key : Int) : ∀ (n : Nat) (t : Tr), t.weight ≤ n → Well t →
   (∀ pre x, pre ++ [x] <+: t.way key → (∀ y ∈ pre, y.hasAt key = false) → x.hasAt key = true → t.path key = (stepsOf key pre, true)) ∧
   ((∀ y ∈ t.way key, y.hasAt key = false) → t.path key = (stepsOf key (t.way key), false)) := by
 intro n
 induction n with
 | zero =>
   rintro ⟨k, cs⟩ hn hw
   simp only [weight] at hn
   have hk : k.length = 0 := by omega
   have hc : cs.length = 0 := by have := length_le_weights cs; omega
   rw [way_leaf hc]
   have hno : ∀ x : Tr, x = .mk k cs → x.hasAt key = false := by
     rintro x rfl
     simp [hasAt, ks, List.length_eq_zero_iff.1 hk]
   refine ⟨fun pre x hp _ hx => ?_, fun _ => ?_⟩
   · have hxm : x = .mk k cs := by have := hp.subset (by simp : x ∈ pre ++ [x]); simpa using this
     rw [hno x hxm] at hx; cases hx
   · rw [path_leaf (by simp [List.length_eq_zero_iff.1 hk]) hc]
     simp [stepsOf, inner, Tr.cs, List.length_eq_zero_iff.1 hc]
 | succ n ih =>
   rintro ⟨k, cs⟩ hn hw
   by_cases hc : cs.length = 0
   · rw [way_leaf hc]
     refine ⟨fun pre x hp _ hx => ?_, fun h => ?_⟩
     · have hlen := hp.length_le
       simp at hlen
       subst hlen
       have hxm : x = .mk k cs := by have := hp.subset (by simp : x ∈ [] ++ [x]); simpa using this
       subst hxm
       rw [path_found (by simpa [hasAt, ks] using hx)]; rfl
     · have hx := h (.mk k cs) (by simp)
       rw [path_leaf (by simpa [hasAt, ks] using hx) hc]
       simp [stepsOf, inner, Tr.cs, List.length_eq_zero_iff.1 hc]
   · have hcl := Well.inner hw hc
     have hp := place_le key k
     have hi : place key k < cs.length := by omega
     rw [way_inner hi]
     have hwt := weight_get_le cs _ hi
     simp only [weight] at hn
     obtain ⟨ih1, ih2⟩ := ih cs[place key k] (by omega) (Well.kid hw _ hi)
     have hin : inner (.mk k cs) = true := by simp [inner, Tr.cs]; intro h; simp [h] at hc
     refine ⟨fun pre x hp hpre hx => ?_, fun h => ?_⟩
     · cases pre with
       | nil =>
         have hxm : x = .mk k cs := by
           obtain ⟨r, hr⟩ := hp
           simp at hr
           exact hr.1
         subst hxm
         rw [path_found (by simpa [hasAt, ks] using hx)]; rfl
       | cons y pre =>
         obtain ⟨r, hr⟩ := hp
         simp only [List.cons_append, List.cons.injEq] at hr
         obtain ⟨rfl, hr⟩ := hr
         have h0 := hpre (.mk k cs) (by simp)
         have h1 := ih1 pre x ⟨r, hr⟩ (fun y hy => hpre y (by simp [hy])) hx
         rw [path_inner (by simpa [hasAt, ks] using h0) hi, h1]
         simp [stepsOf, hin, ks]
     · have h0 := h (.mk k cs) (by simp)
       have h1 := ih2 (fun y hy => h y (by simp [hy]))
       rw [path_inner (by simpa [hasAt, ks] using h0) hi, h1]
       simp [stepsOf, hin, ks]
theorem way_path (key : Int) (t : Tr) (hw : Well t) :
   (∀ pre x, pre ++ [x] <+: t.way key → (∀ y ∈ pre, y.hasAt key = false) → x.hasAt key = true → t.path key = (stepsOf key pre, true)) ∧
   ((∀ y ∈ t.way key, y.hasAt key = false) → t.path key = (stepsOf key (t.way key), false)) := way_path' key t.weight t (Nat.le_refl _) hw
theorem way_all' (c : Int) : ∀ (n : Nat) (t : Tr), t.weight ≤ n → Well t → (t.way c).length ≤ t.weight + 1 ∧ ∀ x ∈ t.way c, Well x ∧ x.weight ≤ t.weight := by
 intro n
 induction n with
 | zero =>
   rintro ⟨k, cs⟩ hn hw
   simp only [weight] at hn
   have hc : cs.length = 0 := by have := length_le_weights cs; omega
   rw [way_leaf hc]
   exact ⟨by simp, fun x hx => by simp at hx; subst hx; exact ⟨hw, Nat.le_refl _⟩⟩
 | succ n ih =>
   rintro ⟨k, cs⟩ hn hw
   by_cases hc : cs.length = 0
   · rw [way_leaf hc]
     exact ⟨by simp, fun x hx => by simp at hx; subst hx; exact ⟨hw, Nat.le_refl _⟩⟩
   · have hcl := Well.inner hw hc
     have hp := place_le c k
     have hi : place c k < cs.length := by omega
     rw [way_inner hi]
     have hwt := weight_get_le cs _ hi
     simp only [weight] at hn ⊢
     obtain ⟨ih1, ih2⟩ := ih cs[place c k] (by omega) (Well.kid hw _ hi)
     refine ⟨by simp; omega, fun x hx => ?_⟩
     rcases List.mem_cons.1 hx with rfl | hx
     · exact ⟨hw, by simp only [weight]; omega⟩
     · have := ih2 x hx; exact ⟨this.1, by omega⟩
theorem way_all (c : Int) (t : Tr) (hw : Well t) : (t.way c).length ≤ t.weight + 1 ∧ ∀ x ∈ t.way c, Well x ∧ x.weight ≤ t.weight := way_all' c t.weight t (Nat.le_refl _) hw
theorem stepsOf_len (c : Int) (l : List Tr) : (stepsOf c l).length ≤ l.length := by
 unfold stepsOf; rw [List.length_map]; exact List.length_filter_le _ _
end Tr
end Go.Proofs.Ytananonjomfpkaa
/- Finding: the nodes on the way to a number, as they lie in memory. -/
namespace Go.Proofs.Ytananonjomfpkaa
open Go.RowKit
inductive NodeAt (w : World) (lo hi : Nat) : Nat → Tr → Prop where
 | mk (ks : List Int) (cs : List Tr) (b : Nat) (kv : Value) (a : Option Addr) (cap : Nat) (ps : Nat → Nat)
     (hlo : lo ≤ b) (hhi : b < hi)
     (hbox : w.heap[b]? = some (.cells #[kv, .slice a cs.length cap] 99 (0, 0)))
     (hk : IntsR w lo hi kv ks) (hlen : cs.length ≤ cap) (hcap : cap ≤ maxLen) (hat : PtrsR w lo hi a cs.length ps)
     (hkids : ∀ i (h : i < cs.length), NodeAt w lo hi (ps i) cs[i]) : NodeAt w lo hi b (.mk ks cs)
theorem NodeAt.parts {w : World} {lo hi b : Nat} {ks : List Int} {cs : List Tr} (h : NodeAt w lo hi b (.mk ks cs)) :
   ∃ (kv : Value) (a : Option Addr) (cap : Nat) (ps : Nat → Nat), lo ≤ b ∧ b < hi ∧ w.heap[b]? = some (.cells #[kv, .slice a cs.length cap] 99 (0, 0)) ∧ IntsR w lo hi kv ks ∧ cs.length ≤ cap ∧ cap ≤ maxLen ∧ PtrsR w lo hi a cs.length ps ∧
     ∀ i (h : i < cs.length), NodeAt w lo hi (ps i) cs[i] := by
 cases h with
 | mk _ _ _ kv a cap ps hlo hhi hbox hk hlen hcap hat hkids => exact ⟨kv, a, cap, ps, hlo, hhi, hbox, hk, hlen, hcap, hat, hkids⟩
theorem NodeAt.same {w w' : World} {lo hi b : Nat} {t : Tr} (h : NodeAt w lo hi b t) (hb : ∀ k, lo ≤ k → k < hi → w'.heap[k]? = w.heap[k]?) : NodeAt w' lo hi b t := by
 induction h with
 | mk ks cs b kv a cap ps hlo hhi hbox hk hlen hcap hat hkids ih =>
   exact .mk ks cs b kv a cap ps hlo hhi ((hb b hlo hhi).trans hbox) (hk.same hb) hlen hcap (hat.same hb) ih
structure Stop (w : World) (lo hi b : Nat) (t : Tr) (kv : Value) (a : Option Addr) (cap : Nat) : Prop where
 node : NodeAt w lo hi b t
 box : w.heap[b]? = some (.cells #[kv, .slice a t.cs.length cap] 99 (0, 0))
 keys : IntsR w lo hi kv t.ks
 low : lo ≤ b
 high : b < hi
 fits : t.cs.length ≤ cap
 cap : cap ≤ maxLen
 well : Tr.Well t
 light : t.weight ≤ 1048576
inductive WayIn (w : World) (lo hi : Nat) (c : Int) : Nat → Tr → List (Nat × Tr) → Prop where
 | leaf (b : Nat) (t : Tr) (kv : Value) (a : Option Addr) (cap : Nat) (hs : Stop w lo hi b t kv a cap) (h0 : t.cs.length = 0) : WayIn w lo hi c b t [(b, t)]
 | inner (b : Nat) (t : Tr) (kv : Value) (qb qo cap p : Nat) (u : Tr) (xs : List (Nat × Tr)) (hs : Stop w lo hi b t kv (some ⟨qb, qo, none⟩) cap) (h0 : t.cs.length = t.ks.length + 1)
     (q1 : lo ≤ qb) (q2 : qb < hi) (hp : w.cell? ⟨qb, qo + place c t.ks, none⟩ = some (.pointer (some ⟨p, 0, none⟩))) (hr : WayIn w lo hi c p u xs) : WayIn w lo hi c b t ((b, t) :: xs)
theorem way_at {w : World} {lo hi b : Nat} {t : Tr} (c : Int) (h : NodeAt w lo hi b t) : Tr.Well t → t.weight ≤ 1048576 → ∃ xs, xs.map Prod.snd = t.way c ∧ WayIn w lo hi c b t xs := by
 induction h with
 | mk ks cs b kv a cap ps hlo hhi hbox hk hlen hcap hat hkids ih =>
   intro hw hwt
   have hst : Stop w lo hi b (.mk ks cs) kv a cap := ⟨.mk ks cs b kv a cap ps hlo hhi hbox hk hlen hcap hat hkids, hbox, hk, hlo, hhi, hlen, hcap, hw, hwt⟩
   by_cases hc : cs.length = 0
   · exact ⟨[(b, .mk ks cs)], by rw [Tr.way_leaf hc]; rfl, .leaf b _ kv a cap hst hc⟩
   · have hcl := Tr.Well.inner hw hc
     have hp := place_le c ks
     have hi' : place c ks < cs.length := by omega
     have hwk := Tr.weight_get_le cs _ hi'
     simp only [Tr.weight] at hwt
     obtain ⟨xs, h1, h2⟩ := ih _ hi' (Tr.Well.kid hw _ hi') (by omega)
     rcases hat with h | ⟨qb, qo, rfl, q1, q2, q3⟩
     · exact absurd h hc
     exact ⟨(b, .mk ks cs) :: xs, by rw [Tr.way_inner hi', List.map_cons, h1], .inner b _ kv qb qo cap _ _ xs hst hcl q1 q2 (q3 _ hi') h2⟩
theorem WayIn.stops {w : World} {lo hi b : Nat} {c : Int} {t : Tr} {xs : List (Nat × Tr)} (h : WayIn w lo hi c b t xs) : ∀ x ∈ xs, ∃ kv a cap, Stop w lo hi x.1 x.2 kv a cap := by
 induction h with
 | leaf b t kv a cap hs h0 => intro x hx; simp at hx; subst hx; exact ⟨_, _, _, hs⟩
 | inner b t kv qb qo cap p u xs hs h0 q1 q2 hp hr ih =>
   intro x hx
   rcases List.mem_cons.1 hx with rfl | hx
   · exact ⟨_, _, _, hs⟩
   · exact ih x hx
def wayEnc (c : Int) (x : Nat × Tr) : Array Value := #[.pointer (some ⟨x.1, 0, none⟩), .int .i64 (place c x.2.ks)]
end Go.Proofs.Ytananonjomfpkaa
/- Inserting a key, as plain data. -/
namespace Go.Proofs.Ytananonjomfpkaa
open Go.RowKit
def putAt {α : Type} (k : List α) (i : Nat) (x : α) : List α := k.take i ++ x :: k.drop i
namespace Tr
def leftOf : Tr → Tr | .mk k c => .mk (k.take (k.length / 2)) (c.take (k.length / 2 + 1))
def rightOf : Tr → Tr | .mk k c => .mk (k.drop (k.length / 2 + 1)) (c.drop (k.length / 2 + 1))
def midOf : Tr → Int | .mk k _ => k.getD (k.length / 2) 0
def splitKid (k : List Int) (c : List Tr) (i : Nat) (u : Tr) : Tr := .mk (putAt k i u.midOf) (c.take i ++ u.leftOf :: u.rightOf :: c.drop (i + 1))
def setKid (c : List Tr) (i : Nat) (u : Tr) : List Tr := c.take i ++ u :: c.drop (i + 1)
def growStep (wide : Int) (k : List Int) (c : List Tr) (i : Nat) (r : Tr × Nat) : Tr × Nat :=
 if wide < r.1.ks.length then (splitKid k c i r.1, r.2 + 1) else (.mk k (setKid c i r.1), r.2)
mutual
def grow (wide key : Int) : Tr → Tr × Nat
 | .mk k c => if c.length = 0 then (.mk (putAt k (place key k) key) [], 0) else growStep wide k c (place key k) ((grows wide key c).getD (place key k) (.mk [] [], 0))
def grows (wide key : Int) : List Tr → List (Tr × Nat)
 | [] => []
 | t :: r => grow wide key t :: grows wide key r
end
def insT (wide key : Int) (t : Tr) : Tr :=
 let u := (grow wide key t).1
 if wide < u.ks.length then .mk [u.midOf] [u.leftOf, u.rightOf] else u
def insN (wide key : Int) (t : Tr) : Nat :=
 let r := grow wide key t
 if wide < r.1.ks.length then r.2 + 1 else r.2
def insG (wide key : Int) (t : Tr) : Bool := decide (wide < ((grow wide key t).1.ks.length : Int))
theorem setKid_length {c : List Tr} {i : Nat} {u : Tr} (h : i < c.length) : (setKid c i u).length = c.length := by simp [setKid]; omega
mutual
theorem grow_count (wide key : Int) : ∀ t : Tr, (grow wide key t).2 ≤ t.weight
 | .mk k c => by
   rw [grow]
   split
   · simp
   · rename_i hc
     have h := grows_count wide key c (place key k) (by cases c <;> simp_all)
     unfold growStep
     simp only [weight]
     split <;> dsimp only <;> omega
theorem grows_count (wide key : Int) : ∀ (c : List Tr) (i : Nat), 0 < c.length → ((grows wide key c).getD i (.mk [] [], 0)).2 + 1 ≤ weights c
 | [], i, h => by simp at h
 | t :: r, i, _ => by
   have h1 := grow_count wide key t
   cases i with
   | zero => simp [grows, weights]; omega
   | succ i =>
     by_cases hr : 0 < r.length
     · have h2 := grows_count wide key r i hr
       simp only [grows, List.getD_cons_succ, weights]
       omega
     · have : r = [] := by cases r <;> simp_all
       subst this
       simp [grows, weights]
end
end Tr
end Go.Proofs.Ytananonjomfpkaa
