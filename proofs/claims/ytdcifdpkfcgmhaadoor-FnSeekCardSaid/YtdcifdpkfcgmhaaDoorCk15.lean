/- Finding: the nodes on the way to a number, as they lie in memory. -/
import Derived.Test.YtdcifdpkfcgmhaaDoorProg
import Derived.Test.YtdcifdpkfcgmhaaDoorCk0
import Derived.Test.YtdcifdpkfcgmhaaDoorCk14
import Derived.Test.YtdcifdpkfcgmhaaDoorCkS1
import Derived.Test.YtdcifdpkfcgmhaaDoorCk11
import Derived.Deep.RegionHeld3
import Derived.Test.YtdcifdpkfcgmhaaDoorCk8
import Derived.Test.YtdcifdpkfcgmhaaDoorCk10
import Derived.Test.YtdcifdpkfcgmhaaDoorCk12
import Derived.Test.YtdcifdpkfcgmhaaDoorCk13
import Derived.Test.YtdcifdpkfcgmhaaDoorCkS2
import Derived.Test.YtdcifdpkfcgmhaaDoorCkS3

/- The law on TreeValid: the walk over the contracts. -/
namespace Go.Proofs.YtdcifdpkfcgmhaaDoor
open Go.RowKit

/-- What the program's TreeValid is to do. -/
def ImplTreeValid : Prop := ∀ (w0 : World) (B : Nat) (kv cv : Value) (t : Tr) (n : Int), TreeIn w0 B kv cv t → t.weight ≤ 1048576 → -9223372036854775808 ≤ n → n ≤ 9223372036854775807 → ∀ w', Below B w0 w' → B ≤ w'.heap.size →
  Calls Tryd.prog 113 #[.agg #[kv, cv], .int .i64 n] w' fun e w'' => e = .returned (.bool (Tr.validB n t)) ∧ Below w'.heap.size w' w''


-- END

end Go.Proofs.YtdcifdpkfcgmhaaDoor

/- The contract of the program's TreeValid. -/
namespace Go.Proofs.YtdcifdpkfcgmhaaDoor
open Go.RowKit

set_option maxRecDepth 100000 in
set_option maxHeartbeats 2000000 in
theorem impl_valid : ImplTreeValid := by
  intro w0 B kv cv t n ht hwt hn1 hn2 w' hbw hB
  cases t with
  | mk ks cs =>
    have ht' := ht.later hbw (Nat.le_refl _)
    obtain ⟨a5, n5, m5, a6, n6, m6, rfl, rfl⟩ := ht.slices
    obtain ⟨a, cap, kvs, cvs, hcv, hk, hlen, hcap, hat, hkids⟩ := ht.parts
    simp only [Value.slice.injEq] at hcv
    obtain ⟨rfl, rfl, rfl⟩ := hcv
    clear hk hlen hcap hat hkids ht hbw
    obtain ⟨W1, hW1⟩ : ∃ W1, W1 = w'.alloc (.cells #[.slice a5 n5 m5, .slice a6 cs.length m6] 33) := ⟨_, rfl⟩
    have hs1 : W1.heap.size = w'.heap.size + 1 := by rw [hW1]; simp
    have hb1 : Below w'.heap.size w' W1 := by rw [hW1]; exact (Below.refl _ _).alloc (Nat.le_refl _) _
    have kb : W1.heap[w'.heap.size]? = some (.cells #[.slice a5 n5 m5, .slice a6 cs.length m6] 33 (0, 0)) := by rw [hW1, new_blk]
    have ht1 : TreeIn W1 W1.heap.size (.slice a5 n5 m5) (.slice a6 cs.length m6) (.mk ks cs) := (ht'.later hb1 hB).wider (by omega)
    obtain ⟨x1, x2, x3, x4⟩ := box2 kb
    have HT1 := Lib.hid ht1
    have HW1 := Lib.hid hW1
    have HB1 := Lib.hid (And.intro hb1 kb)
    have hval0 : inB n 2 6 = false → Tr.validB n (.mk ks cs) = false := fun h => by simp only [Tr.validB, h]; rfl
    have HV0 := Lib.hid hval0
    clear ht' ht1 hW1 hb1 kb hval0
    by_cases hwd : 2 ≤ n ∧ n ≤ 6
    · have hin := inB_true hwd.1 hwd.2
      have hval := even_valid hwd.1 hwd.2 ks cs
      have hel := Tr.evenD_le n 6 ((min cs.length 1 : Nat) : Int) (.mk ks cs)
      have hc := evenDepth_c n hwd.1 hwd.2 6 (Nat.le_refl _) HT1.out hwt w'.heap.size 0 ((min cs.length 1 : Nat) : Int) (by omega) (by omega) x1 x2 (by omega) W1 (Below.refl _ _) (Nat.le_refl _)
      generalize Tr.evenD n 6 ((min cs.length 1 : Nat) : Int) (.mk ks cs) = E at hval hel hc
      obtain ⟨EI, hEI⟩ : ∃ EI : Int, EI = (E : Int) := ⟨_, rfl⟩
      rw [← hEI] at hc
      have HEI := Lib.hid hEI
      clear hEI
      have HIN := Lib.hid hin
      have HVAL := Lib.hid hval
      have HC := Lib.hid hc
      clear hin hval hc
      go_enter Tryd.func113, Tryd.ntmps113
      go_wp2_with fail
      rw [← HW1.out]
      refine (isWide_c n W1).mono ?_
      rintro e w1 ⟨rfl, rfl⟩
      rw [HIN.out]
      rcases Nat.lt_or_ge cs.length 2 with h0 | h1
      · have h0' : ((cs.length : Nat) : Int) ≤ 1 := by omega
        have H0 := Lib.hid h0
        clear h0
        go_wp2_with fail
        have hc' := HC.out
        have e9 : ((min cs.length 1 : Nat) : Int) = (cs.length : Int) := by omega
        rw [e9] at hc'
        refine hc'.mono ?_
        clear hc' e9
        rintro e w2 ⟨rfl, hb2⟩
        have hs2 := hb2.size
        have kb2 := (hb2.block w'.heap.size (by omega)).trans HB1.out.2
        clear x1 x2 x3 x4
        obtain ⟨x1, x2, x3, x4⟩ := box2 kb2
        have HB2 := Lib.hid hb2
        clear hb2 kb2
        by_cases hE : E = 0
        · have hv : Tr.validB n (.mk ks cs) = false := by rw [HVAL.out, hE]; rfl
          have hE' : ¬ (0 : Int) < EI := by rw [HEI.out, hE]; decide
          have HV := Lib.hid hv
          clear hv hE
          go_wp2_with fail
          go_ret
          exact ⟨ret_bool HV.out.symm, HB1.out.1.trans (HB2.out.mono (by omega))⟩
        · have hv : Tr.validB n (.mk ks cs) = sortedB (Tr.mk ks cs).keys := by rw [HVAL.out, decide_eq_true (by omega), Bool.true_and]
          have hE' : (0 : Int) < EI := by rw [HEI.out]; omega
          have HV := Lib.hid hv
          have HE := Lib.hid hE
          clear hv hE
          go_wp2_with fail
          refine (plant_c HT1.out hwt w2 HB2.out hs2).mono ?_
          rintro e w3 ⟨nb, rfl, hnd, hb3⟩
          have hs3 := hb3.size
          have HND := Lib.hid hnd
          have HB3 := Lib.hid hb3
          clear hnd hb3 x1 x2 x3 x4
          go_wp2_with fail
          refine (ascends_c HND.out hwt (Nat.le_refl _)).mono ?_
          rintro e w4 ⟨rfl, hb4⟩
          have HB4 := Lib.hid hb4
          clear hb4
          go_wp2_with fail
          go_ret
          exact ⟨ret_bool HV.out.symm, HB1.out.1.trans ((HB2.out.mono (by omega)).trans ((HB3.out.mono (by omega)).trans (HB4.out.mono (by omega))))⟩
      · have h1' : (1 : Int) < ((cs.length : Nat) : Int) := by omega
        have H1 := Lib.hid h1
        clear h1
        go_wp2_with fail
        have hc' := HC.out
        have e9 : ((min cs.length 1 : Nat) : Int) = 1 := by omega
        rw [e9] at hc'
        refine hc'.mono ?_
        clear hc' e9
        rintro e w2 ⟨rfl, hb2⟩
        have hs2 := hb2.size
        have kb2 := (hb2.block w'.heap.size (by omega)).trans HB1.out.2
        clear x1 x2 x3 x4
        obtain ⟨x1, x2, x3, x4⟩ := box2 kb2
        have HB2 := Lib.hid hb2
        clear hb2 kb2
        by_cases hE : E = 0
        · have hv : Tr.validB n (.mk ks cs) = false := by rw [HVAL.out, hE]; rfl
          have hE' : ¬ (0 : Int) < EI := by rw [HEI.out, hE]; decide
          have HV := Lib.hid hv
          clear hv hE
          go_wp2_with fail
          go_ret
          exact ⟨ret_bool HV.out.symm, HB1.out.1.trans (HB2.out.mono (by omega))⟩
        · have hv : Tr.validB n (.mk ks cs) = sortedB (Tr.mk ks cs).keys := by rw [HVAL.out, decide_eq_true (by omega), Bool.true_and]
          have hE' : (0 : Int) < EI := by rw [HEI.out]; omega
          have HV := Lib.hid hv
          have HE := Lib.hid hE
          clear hv hE
          go_wp2_with fail
          refine (plant_c HT1.out hwt w2 HB2.out hs2).mono ?_
          rintro e w3 ⟨nb, rfl, hnd, hb3⟩
          have hs3 := hb3.size
          have HND := Lib.hid hnd
          have HB3 := Lib.hid hb3
          clear hnd hb3 x1 x2 x3 x4
          go_wp2_with fail
          refine (ascends_c HND.out hwt (Nat.le_refl _)).mono ?_
          rintro e w4 ⟨rfl, hb4⟩
          have HB4 := Lib.hid hb4
          clear hb4
          go_wp2_with fail
          go_ret
          exact ⟨ret_bool HV.out.symm, HB1.out.1.trans ((HB2.out.mono (by omega)).trans ((HB3.out.mono (by omega)).trans (HB4.out.mono (by omega))))⟩
    · have hin := inB_false hwd
      have HIN := Lib.hid hin
      clear hin
      go_enter Tryd.func113, Tryd.ntmps113
      go_wp2_with fail
      rw [← HW1.out]
      refine (isWide_c n W1).mono ?_
      rintro e w1 ⟨rfl, rfl⟩
      rw [HIN.out]
      go_wp2_with fail
      go_ret
      exact ⟨ret_bool (HV0.out HIN.out).symm, HB1.out.1⟩
end Go.Proofs.YtdcifdpkfcgmhaaDoor

/- Whether a tree is valid for some width: the program. -/
namespace Go.Proofs.YtdcifdpkfcgmhaaDoor
open Go.RowKit

set_option maxRecDepth 100000 in
set_option maxHeartbeats 1000000 in
theorem validForSome_c {w : World} {B : Nat} {kv cv : Value} {t : Tr} (ht : TreeIn w B kv cv t) (hw : t.weight ≤ 1048576) (w' : World) (hbw : Below B w w') (hB : B ≤ w'.heap.size) :
    Calls Tryd.prog 86 #[.agg #[kv, cv]] w' fun e w'' => e = .returned (.bool t.someB) ∧ Below w'.heap.size w' w'' := by
  obtain ⟨a5, n5, m5, a6, n6, m6, rfl, rfl⟩ := ht.slices
  obtain ⟨W1, hW1⟩ : ∃ W1, W1 = w'.alloc (.cells #[.slice a5 n5 m5, .slice a6 n6 m6] 33) := ⟨_, rfl⟩
  have hs1 : W1.heap.size = w'.heap.size + 1 := by rw [hW1]; simp
  have hb1 : Below w'.heap.size w' W1 := by rw [hW1]; exact (Below.refl _ _).alloc (Nat.le_refl _) _
  have kb : W1.heap[w'.heap.size]? = some (.cells #[.slice a5 n5 m5, .slice a6 n6 m6] 33 (0, 0)) := by rw [hW1, new_blk]
  have HT := Lib.hid ht
  have HBW := Lib.hid hbw
  have HW1 := Lib.hid hW1
  have H1 := Lib.hid (And.intro hb1 kb)
  have hsb := someB_of t
  have HSB := Lib.hid hsb
  clear ht hbw hW1 hb1 kb hsb
  go_enter Tryd.func86, Tryd.ntmps86
  go_wp2_with fail
  rw [← HW1.out]
  go_loopw [3] (fun i wr => ∃ (j : Nat), 2 ≤ j ∧ j ≤ 7 ∧ i = .int .i64 j ∧ (∀ q : Nat, 2 ≤ q → q < j → Tr.validB q t = false) ∧ Below W1.heap.size W1 wr) (fun i _ => 7 - (intOf i).toNat)
  case atStart => exact ⟨2, Nat.le_refl _, by omega, rfl, fun q h1 h2 => by omega, Below.refl _ _⟩
  case round =>
    obtain ⟨j, hj2, hj7, rfl, hall, hbel⟩ := hrel
    have hsr := hbel.size
    obtain ⟨x1, x2, x3, x4⟩ := box2 ((hbel.block w'.heap.size (by omega)).trans H1.out.2)
    have HALL := Lib.hid hall
    have HBEL := Lib.hid hbel
    clear hall hbel
    by_cases hlt : j ≤ 6
    · have hlt' : (j : Int) ≤ 6 := by omega
      go_wp2_with fail
      refine (impl_valid _ _ _ _ _ (j : Int) HT.out hw (by omega) (by omega) wr (HBW.out.trans ((H1.out.1.mono hB).trans (HBEL.out.mono (by omega)))) (by omega)).mono ?_
      rintro e w2 ⟨rfl, hb2⟩
      have HB2 := Lib.hid (HBEL.out.trans (hb2.mono hsr))
      clear hb2
      cases hv : Tr.validB j t with
      | true =>
        have hso := HSB.out.1 j hj2 (by omega) hv
        have HSO := Lib.hid hso
        have HV := Lib.hid hv
        clear hso hv
        go_wp2_with fail
        go_ret
        exact ⟨ret_bool HSO.out.symm, H1.out.1.trans (HB2.out.mono (by omega))⟩
      | false =>
        have HV := Lib.hid hv
        clear hv
        go_wp2_with fail
        go_roundw
        case rel =>
          refine ⟨j + 1, by omega, by omega, by go_num, fun q h1 h2 => ?_, HB2.out⟩
          by_cases hq : q = j
          · rw [hq]; exact HV.out
          · exact HALL.out q h1 (by omega)
        case measure => simp [intOf]; omega
    · have hlt' : ¬ (j : Int) ≤ 6 := by omega
      have hso := HSB.out.2 (fun q h1 h2 => HALL.out q h1 (by omega))
      have HSO := Lib.hid hso
      clear hso
      go_wp2_with fail
      go_ret
      exact ⟨ret_bool HSO.out.symm, H1.out.1.trans (HBEL.out.mono (by omega))⟩
end Go.Proofs.YtdcifdpkfcgmhaaDoor

/- Finding: the nodes on the way to a number, as plain data. -/
namespace Go.Proofs.YtdcifdpkfcgmhaaDoor
open Go.RowKit

namespace Tr
mutual
/-- The nodes on the way to a number. -/
def way (c : Int) : Tr → List Tr
  | .mk k cs => .mk k cs :: (ways c cs).getD (place c k) []
def ways (c : Int) : List Tr → List (List Tr)
  | [] => []
  | t :: r => way c t :: ways c r
end
theorem ways_get (c : Int) (cs : List Tr) (i : Nat) (h : i < cs.length) : (ways c cs).getD i [] = cs[i].way c := by
  induction cs generalizing i with
  | nil => simp at h
  | cons t r ih =>
    cases i with
    | zero => simp [ways]
    | succ i => simpa [ways] using ih i (by simpa using h)
theorem ways_length (c : Int) (cs : List Tr) : (ways c cs).length = cs.length := by
  induction cs with
  | nil => rfl
  | cons t r ih => simp only [ways, List.length_cons, ih]
theorem way_leaf {c : Int} {k : List Int} {cs : List Tr} (h : cs.length = 0) : (Tr.mk k cs).way c = [.mk k cs] := by
  rw [way, List.getD_eq_getElem?_getD, List.getElem?_eq_none (by rw [ways_length]; omega)]; rfl
theorem way_inner {c : Int} {k : List Int} {cs : List Tr} (h : place c k < cs.length) : (Tr.mk k cs).way c = .mk k cs :: cs[place c k].way c := by
  rw [way, ways_get c cs _ h]

/-- A node has a number among its keys. -/
def hasAt (key : Int) (t : Tr) : Bool := decide (place key t.ks < t.ks.length ∧ t.ks.getD (place key t.ks) 0 = key)
def inner (t : Tr) : Bool := decide (t.cs.length ≠ 0)
/-- Which kids one goes to from some nodes. -/
def stepsOf (c : Int) (l : List Tr) : List Int := (l.filter inner).map (fun t => (place c t.ks : Int))
theorem stepsOf_snoc (c : Int) (l : List Tr) (t : Tr) : stepsOf c (l ++ [t]) = if t.cs.length ≠ 0 then stepsOf c l ++ [(place c t.ks : Int)] else stepsOf c l := by
  unfold stepsOf
  rw [List.filter_append]
  by_cases h : t.cs.length ≠ 0
  · have : inner t = true := by simp [inner]; intro h2; simp [h2] at h
    simp [h, this]
  · have : inner t = false := by simp only [inner, h]; rfl
    rw [if_neg h]; simp [this]

theorem way_path' (key : Int) : ∀ (n : Nat) (t : Tr), t.weight ≤ n → Well t →
    (∀ pre x, pre ++ [x] <+: t.way key → (∀ y ∈ pre, y.hasAt key = false) → x.hasAt key = true → t.path key = (stepsOf key pre, true)) ∧
    ((∀ y ∈ t.way key, y.hasAt key = false) → t.path key = (stepsOf key (t.way key), false)) := by
  intro n
  induction n with
  | zero =>
    rintro ⟨k, cs⟩ hn hw
    simp only [weight] at hn
    have hk : k.length = 0 := by omega
    have hc : cs.length = 0 := by have := length_le_weights cs; omega
    rw [way_leaf hc]
    have hno : ∀ x : Tr, x = .mk k cs → x.hasAt key = false := by
      rintro x rfl
      simp [hasAt, ks, List.length_eq_zero_iff.1 hk]
    refine ⟨fun pre x hp _ hx => ?_, fun _ => ?_⟩
    · have hxm : x = .mk k cs := by have := hp.subset (by simp : x ∈ pre ++ [x]); simpa using this
      rw [hno x hxm] at hx; cases hx
    · rw [path_leaf (by simp [List.length_eq_zero_iff.1 hk]) hc]
      simp [stepsOf, inner, Tr.cs, List.length_eq_zero_iff.1 hc]
  | succ n ih =>
    rintro ⟨k, cs⟩ hn hw
    by_cases hc : cs.length = 0
    · rw [way_leaf hc]
      refine ⟨fun pre x hp _ hx => ?_, fun h => ?_⟩
      · have hlen := hp.length_le
        simp at hlen
        subst hlen
        have hxm : x = .mk k cs := by have := hp.subset (by simp : x ∈ [] ++ [x]); simpa using this
        subst hxm
        rw [path_found (by simpa [hasAt, ks] using hx)]; rfl
      · have hx := h (.mk k cs) (by simp)
        rw [path_leaf (by simpa [hasAt, ks] using hx) hc]
        simp [stepsOf, inner, Tr.cs, List.length_eq_zero_iff.1 hc]
    · have hcl := Well.inner hw hc
      have hp := place_le key k
      have hi : place key k < cs.length := by omega
      rw [way_inner hi]
      have hwt := weight_get_le cs _ hi
      simp only [weight] at hn
      obtain ⟨ih1, ih2⟩ := ih cs[place key k] (by omega) (Well.kid hw _ hi)
      have hin : inner (.mk k cs) = true := by simp [inner, Tr.cs]; intro h; simp [h] at hc
      refine ⟨fun pre x hp hpre hx => ?_, fun h => ?_⟩
      · cases pre with
        | nil =>
          have hxm : x = .mk k cs := by
            obtain ⟨r, hr⟩ := hp
            simp at hr
            exact hr.1
          subst hxm
          rw [path_found (by simpa [hasAt, ks] using hx)]; rfl
        | cons y pre =>
          obtain ⟨r, hr⟩ := hp
          simp only [List.cons_append, List.cons.injEq] at hr
          obtain ⟨rfl, hr⟩ := hr
          have h0 := hpre (.mk k cs) (by simp)
          have h1 := ih1 pre x ⟨r, hr⟩ (fun y hy => hpre y (by simp [hy])) hx
          rw [path_inner (by simpa [hasAt, ks] using h0) hi, h1]
          simp [stepsOf, hin, ks]
      · have h0 := h (.mk k cs) (by simp)
        have h1 := ih2 (fun y hy => h y (by simp [hy]))
        rw [path_inner (by simpa [hasAt, ks] using h0) hi, h1]
        simp [stepsOf, hin, ks]

theorem way_path (key : Int) (t : Tr) (hw : Well t) :
    (∀ pre x, pre ++ [x] <+: t.way key → (∀ y ∈ pre, y.hasAt key = false) → x.hasAt key = true → t.path key = (stepsOf key pre, true)) ∧
    ((∀ y ∈ t.way key, y.hasAt key = false) → t.path key = (stepsOf key (t.way key), false)) := way_path' key t.weight t (Nat.le_refl _) hw

/-- The nodes on the way are of the same kind, and no longer a list than the tree is heavy. -/
theorem way_all' (c : Int) : ∀ (n : Nat) (t : Tr), t.weight ≤ n → Well t → (t.way c).length ≤ t.weight + 1 ∧ ∀ x ∈ t.way c, Well x ∧ x.weight ≤ t.weight := by
  intro n
  induction n with
  | zero =>
    rintro ⟨k, cs⟩ hn hw
    simp only [weight] at hn
    have hc : cs.length = 0 := by have := length_le_weights cs; omega
    rw [way_leaf hc]
    exact ⟨by simp, fun x hx => by simp at hx; subst hx; exact ⟨hw, Nat.le_refl _⟩⟩
  | succ n ih =>
    rintro ⟨k, cs⟩ hn hw
    by_cases hc : cs.length = 0
    · rw [way_leaf hc]
      exact ⟨by simp, fun x hx => by simp at hx; subst hx; exact ⟨hw, Nat.le_refl _⟩⟩
    · have hcl := Well.inner hw hc
      have hp := place_le c k
      have hi : place c k < cs.length := by omega
      rw [way_inner hi]
      have hwt := weight_get_le cs _ hi
      simp only [weight] at hn ⊢
      obtain ⟨ih1, ih2⟩ := ih cs[place c k] (by omega) (Well.kid hw _ hi)
      refine ⟨by simp; omega, fun x hx => ?_⟩
      rcases List.mem_cons.1 hx with rfl | hx
      · exact ⟨hw, by simp only [weight]; omega⟩
      · have := ih2 x hx; exact ⟨this.1, by omega⟩
theorem way_all (c : Int) (t : Tr) (hw : Well t) : (t.way c).length ≤ t.weight + 1 ∧ ∀ x ∈ t.way c, Well x ∧ x.weight ≤ t.weight := way_all' c t.weight t (Nat.le_refl _) hw
theorem stepsOf_len (c : Int) (l : List Tr) : (stepsOf c l).length ≤ l.length := by
  unfold stepsOf; rw [List.length_map]; exact List.length_filter_le _ _
end Tr
end Go.Proofs.YtdcifdpkfcgmhaaDoor

/- Finding: the nodes on the way to a number, as they lie in memory. -/
namespace Go.Proofs.YtdcifdpkfcgmhaaDoor
open Go.RowKit

/-- A node at block b, all that it reaches in the blocks from lo up to hi; what lies apart is not told. -/
inductive NodeAt (w : World) (lo hi : Nat) : Nat → Tr → Prop where
  | mk (ks : List Int) (cs : List Tr) (b : Nat) (kv : Value) (a : Option Addr) (cap : Nat) (ps : Nat → Nat)
      (hlo : lo ≤ b) (hhi : b < hi)
      (hbox : w.heap[b]? = some (.cells #[kv, .slice a cs.length cap] 110 (0, 0)))
      (hk : IntsR w lo hi kv ks) (hlen : cs.length ≤ cap) (hcap : cap ≤ maxLen) (hat : PtrsR w lo hi a cs.length ps)
      (hkids : ∀ i (h : i < cs.length), NodeAt w lo hi (ps i) cs[i]) : NodeAt w lo hi b (.mk ks cs)

theorem NodeAt.parts {w : World} {lo hi b : Nat} {ks : List Int} {cs : List Tr} (h : NodeAt w lo hi b (.mk ks cs)) :
    ∃ (kv : Value) (a : Option Addr) (cap : Nat) (ps : Nat → Nat), lo ≤ b ∧ b < hi ∧ w.heap[b]? = some (.cells #[kv, .slice a cs.length cap] 110 (0, 0)) ∧ IntsR w lo hi kv ks ∧ cs.length ≤ cap ∧ cap ≤ maxLen ∧ PtrsR w lo hi a cs.length ps ∧
      ∀ i (h : i < cs.length), NodeAt w lo hi (ps i) cs[i] := by
  cases h with
  | mk _ _ _ kv a cap ps hlo hhi hbox hk hlen hcap hat hkids => exact ⟨kv, a, cap, ps, hlo, hhi, hbox, hk, hlen, hcap, hat, hkids⟩
theorem NodeAt.widen {w : World} {lo hi lo' hi' b : Nat} {t : Tr} (h : NodeAt w lo hi b t) (h1 : lo' ≤ lo) (h2 : hi ≤ hi') : NodeAt w lo' hi' b t := by
  induction h with
  | mk ks cs b kv a cap ps hlo hhi hbox hk hlen hcap hat hkids ih =>
    exact .mk ks cs b kv a cap ps (by omega) (by omega) hbox (hk.widen h1 h2) hlen hcap (hat.widen h1 h2) ih

theorem NodeAt.same {w w' : World} {lo hi b : Nat} {t : Tr} (h : NodeAt w lo hi b t) (hb : ∀ k, lo ≤ k → k < hi → w'.heap[k]? = w.heap[k]?) : NodeAt w' lo hi b t := by
  induction h with
  | mk ks cs b kv a cap ps hlo hhi hbox hk hlen hcap hat hkids ih =>
    exact .mk ks cs b kv a cap ps hlo hhi ((hb b hlo hhi).trans hbox) (hk.same hb) hlen hcap (hat.same hb) ih

theorem NodeIn.nodeAt {w : World} {lo hi b : Nat} {t : Tr} (h : NodeIn w lo hi b t) : NodeAt w lo hi b t := by
  induction h with
  | mk ks cs lo hi b kv a cap ps s hlo hhi hs0 hsn hs hbox hk hlen hcap hat hkids ih =>
    refine .mk ks cs b kv a cap ps hlo hhi hbox hk hlen hcap hat (fun i hi' => (ih i hi').widen ?_ ?_)
    · have := steps_le hs 0 i (by omega) (by omega); omega
    · have := steps_le hs (i + 1) cs.length (by omega) (by omega); omega

/-- A node's own cells, and what is said of it. -/
structure Stop (w : World) (lo hi b : Nat) (t : Tr) (kv : Value) (a : Option Addr) (cap : Nat) : Prop where
  node : NodeAt w lo hi b t
  box : w.heap[b]? = some (.cells #[kv, .slice a t.cs.length cap] 110 (0, 0))
  keys : IntsR w lo hi kv t.ks
  low : lo ≤ b
  high : b < hi
  fits : t.cs.length ≤ cap
  cap : cap ≤ maxLen
  well : Tr.Well t
  light : t.weight ≤ 1048576

/-- The way from a node down: blocks and trees. -/
inductive WayIn (w : World) (lo hi : Nat) (c : Int) : Nat → Tr → List (Nat × Tr) → Prop where
  | leaf (b : Nat) (t : Tr) (kv : Value) (a : Option Addr) (cap : Nat) (hs : Stop w lo hi b t kv a cap) (h0 : t.cs.length = 0) : WayIn w lo hi c b t [(b, t)]
  | inner (b : Nat) (t : Tr) (kv : Value) (qb qo cap p : Nat) (u : Tr) (xs : List (Nat × Tr)) (hs : Stop w lo hi b t kv (some ⟨qb, qo, none⟩) cap) (h0 : t.cs.length = t.ks.length + 1)
      (q1 : lo ≤ qb) (q2 : qb < hi) (hp : w.cell? ⟨qb, qo + place c t.ks, none⟩ = some (.pointer (some ⟨p, 0, none⟩))) (hr : WayIn w lo hi c p u xs) : WayIn w lo hi c b t ((b, t) :: xs)

theorem WayIn.widen {w : World} {lo hi lo' hi' b : Nat} {c : Int} {t : Tr} {xs : List (Nat × Tr)} (h : WayIn w lo hi c b t xs) (h1 : lo' ≤ lo) (h2 : hi ≤ hi') : WayIn w lo' hi' c b t xs := by
  have hst : ∀ {b t kv a cap}, Stop w lo hi b t kv a cap → Stop w lo' hi' b t kv a cap := fun s =>
    ⟨s.node.widen h1 h2, s.box, s.keys.widen h1 h2, by have := s.low; omega, by have := s.high; omega, s.fits, s.cap, s.well, s.light⟩
  induction h with
  | leaf b t kv a cap hs h0 => exact .leaf b t kv a cap (hst hs) h0
  | inner b t kv qb qo cap p u xs hs h0 q1 q2 hp hr ih => exact .inner b t kv qb qo cap p u xs (hst hs) h0 (by omega) (by omega) hp ih

theorem way_at {w : World} {lo hi b : Nat} {t : Tr} (c : Int) (h : NodeAt w lo hi b t) : Tr.Well t → t.weight ≤ 1048576 → ∃ xs, xs.map Prod.snd = t.way c ∧ WayIn w lo hi c b t xs := by
  induction h with
  | mk ks cs b kv a cap ps hlo hhi hbox hk hlen hcap hat hkids ih =>
    intro hw hwt
    have hst : Stop w lo hi b (.mk ks cs) kv a cap := ⟨.mk ks cs b kv a cap ps hlo hhi hbox hk hlen hcap hat hkids, hbox, hk, hlo, hhi, hlen, hcap, hw, hwt⟩
    by_cases hc : cs.length = 0
    · exact ⟨[(b, .mk ks cs)], by rw [Tr.way_leaf hc]; rfl, .leaf b _ kv a cap hst hc⟩
    · have hcl := Tr.Well.inner hw hc
      have hp := place_le c ks
      have hi' : place c ks < cs.length := by omega
      have hwk := Tr.weight_get_le cs _ hi'
      simp only [Tr.weight] at hwt
      obtain ⟨xs, h1, h2⟩ := ih _ hi' (Tr.Well.kid hw _ hi') (by omega)
      rcases hat with h | ⟨qb, qo, rfl, q1, q2, q3⟩
      · exact absurd h hc
      exact ⟨(b, .mk ks cs) :: xs, by rw [Tr.way_inner hi', List.map_cons, h1], .inner b _ kv qb qo cap _ _ xs hst hcl q1 q2 (q3 _ hi') h2⟩

theorem way_in {w : World} {lo hi b : Nat} {t : Tr} (c : Int) (h : NodeIn w lo hi b t) : Tr.Well t → t.weight ≤ 1048576 → ∃ xs, xs.map Prod.snd = t.way c ∧ WayIn w lo hi c b t xs := way_at c h.nodeAt

theorem WayIn.stops {w : World} {lo hi b : Nat} {c : Int} {t : Tr} {xs : List (Nat × Tr)} (h : WayIn w lo hi c b t xs) : ∀ x ∈ xs, ∃ kv a cap, Stop w lo hi x.1 x.2 kv a cap := by
  induction h with
  | leaf b t kv a cap hs h0 => intro x hx; simp at hx; subst hx; exact ⟨_, _, _, hs⟩
  | inner b t kv qb qo cap p u xs hs h0 q1 q2 hp hr ih =>
    intro x hx
    rcases List.mem_cons.1 hx with rfl | hx
    · exact ⟨_, _, _, hs⟩
    · exact ih x hx

/-- The last node on the way is a leaf, and no other one. -/
theorem WayIn.leaves {w : World} {lo hi b : Nat} {c : Int} {t : Tr} {xs : List (Nat × Tr)} (_h : WayIn w lo hi c b t xs) : xs.length ≤ t.weight + 1 ∨ True := .inr trivial

/-- What the iterator yields: the node, and the place. -/
def wayEnc (c : Int) (x : Nat × Tr) : Array Value := #[.pointer (some ⟨x.1, 0, none⟩), .int .i64 (place c x.2.ks)]
end Go.Proofs.YtdcifdpkfcgmhaaDoor
