/- Finding: the nodes on the way to a number, as plain data. -/
import Derived.Test.YtbdamminjbaaoaaDoorCkS1
import Derived.Test.YtbdamminjbaaoaaDoorCkS8
import Derived.Test.YtbdamminjbaaoaaDoorCkS10
import Derived.Test.YtbdamminjbaaoaaDoorCkS11
import Derived.Test.YtbdamminjbaaoaaDoorCkS17
import Derived.Test.YtbdamminjbaaoaaDoorCkS18
import Derived.Test.YtbdamminjbaaoaaDoorCkS12
import Derived.Test.YtbdamminjbaaoaaDoorCkS27
namespace Go.Proofs.YtbdamminjbaaoaaDoor
open Go.RowKit

namespace Tr
mutual
/-- The nodes on the way to a number. -/
def way (c : Int) : Tr → List Tr
  | .mk k cs => .mk k cs :: (ways c cs).getD (place c k) []
def ways (c : Int) : List Tr → List (List Tr)
  | [] => []
  | t :: r => way c t :: ways c r
end
theorem ways_get (c : Int) (cs : List Tr) (i : Nat) (h : i < cs.length) : (ways c cs).getD i [] = cs[i].way c := by
  induction cs generalizing i with
  | nil => simp at h
  | cons t r ih =>
    cases i with
    | zero => simp [ways]
    | succ i => simpa [ways] using ih i (by simpa using h)
theorem ways_length (c : Int) (cs : List Tr) : (ways c cs).length = cs.length := by
  induction cs with
  | nil => rfl
  | cons t r ih => simp only [ways, List.length_cons, ih]
theorem way_leaf {c : Int} {k : List Int} {cs : List Tr} (h : cs.length = 0) : (Tr.mk k cs).way c = [.mk k cs] := by
  rw [way, List.getD_eq_getElem?_getD, List.getElem?_eq_none (by rw [ways_length]; omega)]; rfl
theorem way_inner {c : Int} {k : List Int} {cs : List Tr} (h : place c k < cs.length) : (Tr.mk k cs).way c = .mk k cs :: cs[place c k].way c := by
  rw [way, ways_get c cs _ h]

/-- A node has a number among its keys. -/
def hasAt (key : Int) (t : Tr) : Bool := decide (place key t.ks < t.ks.length ∧ t.ks.getD (place key t.ks) 0 = key)
def inner (t : Tr) : Bool := decide (t.cs.length ≠ 0)
/-- Which kids one goes to from some nodes. -/
def stepsOf (c : Int) (l : List Tr) : List Int := (l.filter inner).map (fun t => (place c t.ks : Int))
theorem stepsOf_snoc (c : Int) (l : List Tr) (t : Tr) : stepsOf c (l ++ [t]) = if t.cs.length ≠ 0 then stepsOf c l ++ [(place c t.ks : Int)] else stepsOf c l := by
  unfold stepsOf
  rw [List.filter_append]
  by_cases h : t.cs.length ≠ 0
  · have : inner t = true := by simp [inner]; intro h2; simp [h2] at h
    simp [h, this]
  · have : inner t = false := by simp only [inner, h]; rfl
    rw [if_neg h]; simp [this]

theorem way_path' (key : Int) : ∀ (n : Nat) (t : Tr), t.weight ≤ n → Well t →
    (∀ pre x, pre ++ [x] <+: t.way key → (∀ y ∈ pre, y.hasAt key = false) → x.hasAt key = true → t.path key = (stepsOf key pre, true)) ∧
    ((∀ y ∈ t.way key, y.hasAt key = false) → t.path key = (stepsOf key (t.way key), false)) := by
  intro n
  induction n with
  | zero =>
    rintro ⟨k, cs⟩ hn hw
    simp only [weight] at hn
    have hk : k.length = 0 := by omega
    have hc : cs.length = 0 := by have := length_le_weights cs; omega
    rw [way_leaf hc]
    have hno : ∀ x : Tr, x = .mk k cs → x.hasAt key = false := by
      rintro x rfl
      simp [hasAt, ks, List.length_eq_zero_iff.1 hk]
    refine ⟨fun pre x hp _ hx => ?_, fun _ => ?_⟩
    · have hxm : x = .mk k cs := by have := hp.subset (by simp : x ∈ pre ++ [x]); simpa using this
      rw [hno x hxm] at hx; cases hx
    · rw [path_leaf (by simp [List.length_eq_zero_iff.1 hk]) hc]
      simp [stepsOf, inner, Tr.cs, List.length_eq_zero_iff.1 hc]
  | succ n ih =>
    rintro ⟨k, cs⟩ hn hw
    by_cases hc : cs.length = 0
    · rw [way_leaf hc]
      refine ⟨fun pre x hp _ hx => ?_, fun h => ?_⟩
      · have hlen := hp.length_le
        simp at hlen
        subst hlen
        have hxm : x = .mk k cs := by have := hp.subset (by simp : x ∈ [] ++ [x]); simpa using this
        subst hxm
        rw [path_found (by simpa [hasAt, ks] using hx)]; rfl
      · have hx := h (.mk k cs) (by simp)
        rw [path_leaf (by simpa [hasAt, ks] using hx) hc]
        simp [stepsOf, inner, Tr.cs, List.length_eq_zero_iff.1 hc]
    · have hcl := Well.inner hw hc
      have hp := place_le key k
      have hi : place key k < cs.length := by omega
      rw [way_inner hi]
      have hwt := weight_get_le cs _ hi
      simp only [weight] at hn
      obtain ⟨ih1, ih2⟩ := ih cs[place key k] (by omega) (Well.kid hw _ hi)
      have hin : inner (.mk k cs) = true := by simp [inner, Tr.cs]; intro h; simp [h] at hc
      refine ⟨fun pre x hp hpre hx => ?_, fun h => ?_⟩
      · cases pre with
        | nil =>
          have hxm : x = .mk k cs := by
            obtain ⟨r, hr⟩ := hp
            simp at hr
            exact hr.1
          subst hxm
          rw [path_found (by simpa [hasAt, ks] using hx)]; rfl
        | cons y pre =>
          obtain ⟨r, hr⟩ := hp
          simp only [List.cons_append, List.cons.injEq] at hr
          obtain ⟨rfl, hr⟩ := hr
          have h0 := hpre (.mk k cs) (by simp)
          have h1 := ih1 pre x ⟨r, hr⟩ (fun y hy => hpre y (by simp [hy])) hx
          rw [path_inner (by simpa [hasAt, ks] using h0) hi, h1]
          simp [stepsOf, hin, ks]
      · have h0 := h (.mk k cs) (by simp)
        have h1 := ih2 (fun y hy => h y (by simp [hy]))
        rw [path_inner (by simpa [hasAt, ks] using h0) hi, h1]
        simp [stepsOf, hin, ks]

theorem way_path (key : Int) (t : Tr) (hw : Well t) :
    (∀ pre x, pre ++ [x] <+: t.way key → (∀ y ∈ pre, y.hasAt key = false) → x.hasAt key = true → t.path key = (stepsOf key pre, true)) ∧
    ((∀ y ∈ t.way key, y.hasAt key = false) → t.path key = (stepsOf key (t.way key), false)) := way_path' key t.weight t (Nat.le_refl _) hw

/-- The nodes on the way are of the same kind, and no longer a list than the tree is heavy. -/
theorem way_all' (c : Int) : ∀ (n : Nat) (t : Tr), t.weight ≤ n → Well t → (t.way c).length ≤ t.weight + 1 ∧ ∀ x ∈ t.way c, Well x ∧ x.weight ≤ t.weight := by
  intro n
  induction n with
  | zero =>
    rintro ⟨k, cs⟩ hn hw
    simp only [weight] at hn
    have hc : cs.length = 0 := by have := length_le_weights cs; omega
    rw [way_leaf hc]
    exact ⟨by simp, fun x hx => by simp at hx; subst hx; exact ⟨hw, Nat.le_refl _⟩⟩
  | succ n ih =>
    rintro ⟨k, cs⟩ hn hw
    by_cases hc : cs.length = 0
    · rw [way_leaf hc]
      exact ⟨by simp, fun x hx => by simp at hx; subst hx; exact ⟨hw, Nat.le_refl _⟩⟩
    · have hcl := Well.inner hw hc
      have hp := place_le c k
      have hi : place c k < cs.length := by omega
      rw [way_inner hi]
      have hwt := weight_get_le cs _ hi
      simp only [weight] at hn ⊢
      obtain ⟨ih1, ih2⟩ := ih cs[place c k] (by omega) (Well.kid hw _ hi)
      refine ⟨by simp; omega, fun x hx => ?_⟩
      rcases List.mem_cons.1 hx with rfl | hx
      · exact ⟨hw, by simp only [weight]; omega⟩
      · have := ih2 x hx; exact ⟨this.1, by omega⟩
theorem way_all (c : Int) (t : Tr) (hw : Well t) : (t.way c).length ≤ t.weight + 1 ∧ ∀ x ∈ t.way c, Well x ∧ x.weight ≤ t.weight := way_all' c t.weight t (Nat.le_refl _) hw
theorem stepsOf_len (c : Int) (l : List Tr) : (stepsOf c l).length ≤ l.length := by
  unfold stepsOf; rw [List.length_map]; exact List.length_filter_le _ _
end Tr
end Go.Proofs.YtbdamminjbaaoaaDoor
