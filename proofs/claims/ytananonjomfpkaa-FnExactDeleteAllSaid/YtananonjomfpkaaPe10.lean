/- Appending one element to a slice whose cells are its own; copying within it. -/
import Derived.Test.YtananonjomfpkaaPe0
import Derived.Test.YtananonjomfpkaaPe6
import Derived.Test.YtananonjomfpkaaPe7
import Derived.Test.YtananonjomfpkaaProg
import Derived.Test.YtananonjomfpkaaPe9
import Derived.ArgAppend
import Derived.Laws.IdiomCopy
import Derived.Deep.RegionLaw

/- Deleting: the key that stands in for one, as plain data. -/
namespace Go.Proofs.Ytananonjomfpkaa
open Go.RowKit

namespace Tr
mutual
/-- The greatest key. -/
def greatest : Tr → Int
  | .mk k cs => if cs.length = 0 then k.getD (k.length - 1) 0 else (greatests cs).getD (cs.length - 1) 0
def greatests : List Tr → List Int
  | [] => []
  | t :: r => greatest t :: greatests r
end
theorem greatests_get (cs : List Tr) (i : Nat) (h : i < cs.length) : (greatests cs).getD i 0 = cs[i].greatest := by
  induction cs generalizing i with
  | nil => simp at h
  | cons t r ih =>
    cases i with
    | zero => simp [greatests]
    | succ i => simpa [greatests] using ih i (by simpa using h)
theorem greatest_leaf {k : List Int} {cs : List Tr} (h : cs.length = 0) : (Tr.mk k cs).greatest = k.getD (k.length - 1) 0 := by
  rw [greatest, if_pos h]
theorem greatest_inner {k : List Int} {cs : List Tr} (h : cs.length - 1 < cs.length) : (Tr.mk k cs).greatest = cs[cs.length - 1].greatest := by
  rw [greatest, if_neg (by omega), greatests_get cs _ h]

mutual
/-- The key that stands in for one, if it is found in a node with kids. -/
def stand (key : Int) : Tr → Int × Bool
  | .mk k cs =>
    if place key k < k.length ∧ k.getD (place key k) 0 = key then (if cs.length = 0 then (0, false) else ((greatests cs).getD (place key k) 0, true))
    else (stands key cs).getD (place key k) (0, false)
def stands (key : Int) : List Tr → List (Int × Bool)
  | [] => []
  | t :: r => stand key t :: stands key r
end
theorem stands_get (key : Int) (cs : List Tr) (i : Nat) (h : i < cs.length) : (stands key cs).getD i (0, false) = cs[i].stand key := by
  induction cs generalizing i with
  | nil => simp at h
  | cons t r ih =>
    cases i with
    | zero => simp [stands]
    | succ i => simpa [stands] using ih i (by simpa using h)
theorem stands_length (key : Int) (cs : List Tr) : (stands key cs).length = cs.length := by
  induction cs with
  | nil => rfl
  | cons t r ih => simp only [stands, List.length_cons, ih]
theorem stand_found {key : Int} {k : List Int} {cs : List Tr} (h : place key k < k.length ∧ k.getD (place key k) 0 = key) (hi : place key k < cs.length) : (Tr.mk k cs).stand key = (cs[place key k].greatest, true) := by
  rw [stand, if_pos h, if_neg (by omega), greatests_get cs _ hi]
theorem stand_leaf {key : Int} {k : List Int} {cs : List Tr} (h : cs.length = 0) : (Tr.mk k cs).stand key = (0, false) := by
  have h2 : (stands key cs).getD (place key k) (0, false) = (0, false) := by
    rw [List.getD_eq_getElem?_getD, List.getElem?_eq_none (by rw [stands_length]; omega)]; rfl
  rw [stand, h2, if_pos h, ite_self]
theorem stand_inner {key : Int} {k : List Int} {cs : List Tr} (h : ¬ (place key k < k.length ∧ k.getD (place key k) 0 = key)) (hi : place key k < cs.length) : (Tr.mk k cs).stand key = cs[place key k].stand key := by
  rw [stand, if_neg h, stands_get key cs _ hi]

/-- The answer to a question that is asked of a tree. -/
def standB (wide key : Int) (t : Tr) : Int × Bool := if t.validB wide = true then t.stand key else (0, false)

/-- A node has a number among its keys, and kids. -/
def hit (key : Int) (t : Tr) : Bool := t.hasAt key && t.inner
theorem way_stand' (key : Int) : ∀ (n : Nat) (t : Tr), t.weight ≤ n → Well t →
    (∀ pre x, pre ++ [x] <+: t.way key → (∀ y ∈ pre, y.hit key = false) → x.hit key = true → t.stand key = x.stand key) ∧
    ((∀ y ∈ t.way key, y.hit key = false) → t.stand key = (0, false)) := by
  intro n
  induction n with
  | zero =>
    rintro ⟨k, cs⟩ hn hw
    simp only [weight] at hn
    have hc : cs.length = 0 := by have := length_le_weights cs; omega
    rw [way_leaf hc]
    refine ⟨fun pre x hp _ _ => ?_, fun _ => stand_leaf hc⟩
    have hxm : x = .mk k cs := by have := hp.subset (by simp : x ∈ pre ++ [x]); simpa using this
    rw [hxm]
  | succ n ih =>
    rintro ⟨k, cs⟩ hn hw
    by_cases hc : cs.length = 0
    · rw [way_leaf hc]
      refine ⟨fun pre x hp _ _ => ?_, fun _ => stand_leaf hc⟩
      have hxm : x = .mk k cs := by have := hp.subset (by simp : x ∈ pre ++ [x]); simpa using this
      rw [hxm]
    · have hcl := Well.inner hw hc
      have hp := place_le key k
      have hi : place key k < cs.length := by omega
      rw [way_inner hi]
      have hwt := weight_get_le cs _ hi
      simp only [weight] at hn
      obtain ⟨ih1, ih2⟩ := ih cs[place key k] (by omega) (Well.kid hw _ hi)
      have hin : inner (.mk k cs) = true := by simp [inner, Tr.cs]; intro h; simp [h] at hc
      have hno : (Tr.mk k cs).hit key = false → ¬ (place key k < k.length ∧ k.getD (place key k) 0 = key) := by
        intro h
        simpa [hit, hin, hasAt, ks] using h
      refine ⟨fun pre x hp hpre hx => ?_, fun h => ?_⟩
      · cases pre with
        | nil =>
          have hxm : x = .mk k cs := by
            obtain ⟨r, hr⟩ := hp
            simp at hr
            exact hr.1
          rw [hxm]
        | cons y pre =>
          obtain ⟨r, hr⟩ := hp
          simp only [List.cons_append, List.cons.injEq] at hr
          obtain ⟨rfl, hr⟩ := hr
          rw [stand_inner (hno (hpre (.mk k cs) (by simp))) hi]
          exact ih1 pre x ⟨r, hr⟩ (fun y hy => hpre y (by simp [hy])) hx
      · rw [stand_inner (hno (h (.mk k cs) (by simp))) hi]
        exact ih2 (fun y hy => h y (by simp [hy]))
theorem way_stand (key : Int) (t : Tr) (hw : Well t) :
    (∀ pre x, pre ++ [x] <+: t.way key → (∀ y ∈ pre, y.hit key = false) → x.hit key = true → t.stand key = x.stand key) ∧
    ((∀ y ∈ t.way key, y.hit key = false) → t.stand key = (0, false)) := way_stand' key t.weight t (Nat.le_refl _) hw

/-- A key that is not found has none. -/
theorem stand_none' (key : Int) : ∀ (n : Nat) (t : Tr), t.weight ≤ n → Well t → (t.path key).2 = false → t.stand key = (0, false) := by
  intro n
  induction n with
  | zero =>
    rintro ⟨k, cs⟩ hn hw _
    simp only [weight] at hn
    exact stand_leaf (by have := length_le_weights cs; omega)
  | succ n ih =>
    rintro ⟨k, cs⟩ hn hw hf
    by_cases hc : cs.length = 0
    · exact stand_leaf hc
    · have hcl := Well.inner hw hc
      have hp := place_le key k
      have hi : place key k < cs.length := by omega
      have hwt := weight_get_le cs _ hi
      simp only [weight] at hn
      by_cases h : place key k < k.length ∧ k.getD (place key k) 0 = key
      · rw [path_found h] at hf; cases hf
      · rw [path_inner h hi] at hf
        rw [stand_inner h hi]
        exact ih _ (by omega) (Well.kid hw _ hi) hf
theorem stand_none (key : Int) (t : Tr) (hw : Well t) (h : (t.path key).2 = false) : t.stand key = (0, false) := stand_none' key t.weight t (Nat.le_refl _) hw h

/-- A step of the path to a key that is found. -/
theorem path_step {key i : Int} {r : List Int} {k : List Int} {cs : List Tr} (h : (Tr.mk k cs).path key = (i :: r, true)) (hw : Well (.mk k cs)) :
    ∃ hi : place key k < cs.length, i = (place key k : Int) ∧ cs[place key k].path key = (r, true) ∧ (Tr.mk k cs).stand key = cs[place key k].stand key := by
  by_cases hf : place key k < k.length ∧ k.getD (place key k) 0 = key
  · rw [path_found hf] at h; simp at h
  · by_cases hc : cs.length = 0
    · rw [path_leaf hf hc] at h; simp at h
    · have hcl := Well.inner hw hc
      have hp := place_le key k
      have hi : place key k < cs.length := by omega
      rw [path_inner hf hi] at h
      simp only [Prod.mk.injEq, List.cons.injEq] at h
      exact ⟨hi, h.1.1.symm, Prod.ext h.1.2 h.2, stand_inner hf hi⟩
/-- Its end. -/
theorem path_end {key : Int} {k : List Int} {cs : List Tr} (h : (Tr.mk k cs).path key = ([], true)) (hw : Well (.mk k cs)) :
    place key k < k.length ∧ k.getD (place key k) 0 = key := by
  by_cases hf : place key k < k.length ∧ k.getD (place key k) 0 = key
  · exact hf
  · by_cases hc : cs.length = 0
    · rw [path_leaf hf hc] at h; simp at h
    · have hcl := Well.inner hw hc
      have hp := place_le key k
      rw [path_inner hf (by omega)] at h
      simp at h

/-- A tree whose nodes are as a valid tree's, with a key at least; one that may be a valid tree's root. -/
def Full (t : Tr) : Prop := ∃ wide least d, 2 ≤ wide ∧ 1 ≤ least ∧ nodesB wide least d t = true
def Tops (t : Tr) : Prop := ∃ wide least d, 2 ≤ wide ∧ nodesB wide least d t = true
theorem Full.tops {t : Tr} (h : Full t) : Tops t := by obtain ⟨w, l, d, h1, _, h3⟩ := h; exact ⟨w, l, d, h1, h3⟩
theorem Tops.kid {k : List Int} {c : List Tr} (h : Tops (.mk k c)) (i : Nat) (hi : i < c.length) : Full c[i] := by
  obtain ⟨w, l, d, h1, hn⟩ := h
  rcases (nodesB_parts hn).2 with ⟨h1, _⟩ | ⟨_, _, _, _, h5⟩
  · omega
  · exact ⟨_, _, _, h1, by omega, h5 i hi⟩
theorem Full.keys {k : List Int} {c : List Tr} (h : Full (.mk k c)) : k.length ≠ 0 := by
  obtain ⟨w, l, d, h1, h2, hn⟩ := h
  have := (nodesB_parts hn).1
  omega
theorem Tops.of_valid {t : Tr} {wide : Int} (h : validB wide t = true) (hw : 2 ≤ wide) : Tops t := by
  unfold validB at h
  simp only [Bool.and_eq_true] at h
  exact ⟨wide, 0, _, hw, h.2.1⟩
theorem someB_valid {t : Tr} {wide : Int} (h : validB wide t = true) : t.someB = true := by
  have h1 : 2 ≤ wide ∧ wide ≤ 6 := by
    have h := h
    unfold validB at h
    simp only [Bool.and_eq_true, inB, decide_eq_true_eq] at h
    exact h.1
  have hq : ((wide.toNat : Nat) : Int) = wide := by omega
  exact (someB_of t).1 wide.toNat (by omega) (by omega) (by rw [hq]; exact h)
theorem way_tops' (c : Int) : ∀ (n : Nat) (t : Tr), t.weight ≤ n → Well t → Tops t → ∀ x ∈ t.way c, Tops x := by
  intro n
  induction n with
  | zero =>
    rintro ⟨k, cs⟩ hn hw ht
    simp only [weight] at hn
    have hc : cs.length = 0 := by have := length_le_weights cs; omega
    rw [way_leaf hc]
    exact fun x hx => by simp at hx; subst hx; exact ht
  | succ n ih =>
    rintro ⟨k, cs⟩ hn hw ht
    by_cases hc : cs.length = 0
    · rw [way_leaf hc]
      exact fun x hx => by simp at hx; subst hx; exact ht
    · have hcl := Well.inner hw hc
      have hp := place_le c k
      have hi : place c k < cs.length := by omega
      rw [way_inner hi]
      have hwt := weight_get_le cs _ hi
      simp only [weight] at hn
      intro x hx
      rcases List.mem_cons.1 hx with rfl | hx
      · exact ht
      · exact ih cs[place c k] (by omega) (Well.kid hw _ hi) (Tops.kid ht _ hi).tops x hx
theorem way_tops (c : Int) (t : Tr) (hw : Well t) (ht : Tops t) : ∀ x ∈ t.way c, Tops x := way_tops' c t.weight t (Nat.le_refl _) hw ht
end Tr
end Go.Proofs.Ytananonjomfpkaa

/- Deleting a key, as plain data: what is borrowed, what is joined. -/
namespace Go.Proofs.Ytananonjomfpkaa
open Go.RowKit

/-- A list without the element at a place. -/
def takeAt {α : Type} (k : List α) (i : Nat) : List α := k.take i ++ k.drop (i + 1)
theorem takeAt_length {α : Type} {k : List α} {i : Nat} (h : i < k.length) : (takeAt k i).length + 1 = k.length := by simp [takeAt]; omega
theorem takeAt_map {α β : Type} (f : α → β) (k : List α) (i : Nat) : (takeAt k i).map f = takeAt (k.map f) i := by simp [takeAt, List.map_take, List.map_drop]

namespace Tr
/-- The kid at a place. -/
def kidAt (c : List Tr) (i : Nat) : Tr := c.getD i (.mk [] [])
theorem kidAt_get {c : List Tr} {i : Nat} (h : i < c.length) : kidAt c i = c[i] := by simp [kidAt, List.getD_eq_getElem?_getD, h]
/-- Two kids beside each other have become two others. -/
def setTwo (c : List Tr) (i : Nat) (x y : Tr) : List Tr := c.take i ++ x :: y :: c.drop (i + 2)
/-- Two kids beside each other have become one. -/
def setOne (c : List Tr) (i : Nat) (x : Tr) : List Tr := c.take i ++ x :: c.drop (i + 2)
theorem setTwo_length {c : List Tr} {i : Nat} {x y : Tr} (h : i + 1 < c.length) : (setTwo c i x y).length = c.length := by simp [setTwo]; omega
theorem setOne_length {c : List Tr} {i : Nat} {x : Tr} (h : i + 1 < c.length) : (setOne c i x).length + 1 = c.length := by simp [setOne]; omega

/-- The kid at i and the one behind it: a key goes from the first to the second. -/
def ahead (k : List Int) (c : List Tr) (i : Nat) : Tr :=
  let f := kidAt c i; let t := kidAt c (i + 1); let l := f.ks.length - 1
  .mk (k.set i (f.ks.getD l 0)) (setTwo c i (.mk (f.ks.take l) (f.cs.take (l + 1))) (.mk (k.getD i 0 :: t.ks) (if f.cs.length = 0 then t.cs else kidAt f.cs (l + 1) :: t.cs)))
/-- A key goes from the second to the first. -/
def behind (k : List Int) (c : List Tr) (i : Nat) : Tr :=
  let t := kidAt c i; let f := kidAt c (i + 1)
  .mk (k.set i (f.ks.getD 0 0)) (setTwo c i (.mk (t.ks ++ [k.getD i 0]) (if f.cs.length = 0 then t.cs else t.cs ++ [kidAt f.cs 0])) (.mk (f.ks.drop 1) (f.cs.drop 1)))
/-- They are joined. -/
def joined (k : List Int) (c : List Tr) (i : Nat) : Tr :=
  let a := kidAt c i; let b := kidAt c (i + 1)
  .mk (takeAt k i) (setOne c i (.mk (a.ks ++ k.getD i 0 :: b.ks) (a.cs ++ b.cs)))

/-- What repairs a kid that has too few keys. -/
def mend (half : Int) (c : List Tr) (i : Nat) : Nat :=
  if 0 < i ∧ half < ((kidAt c (i - 1)).ks.length : Int) then 0
  else if i + 1 < c.length ∧ half < ((kidAt c (i + 1)).ks.length : Int) then 1
  else if 0 < i then 2 else 3

/-- The tree, how often keys were borrowed, how often nodes were joined. -/
structure Del where
  t : Tr
  b : Nat
  j : Nat

/-- A node whose kid at a place may have too few keys is repaired. -/
def repair (half : Int) (k : List Int) (c : List Tr) (i : Nat) (b j : Nat) : Del :=
  if half ≤ ((kidAt c i).ks.length : Int) then ⟨.mk k c, b, j⟩
  else match mend half c i with
    | 0 => ⟨ahead k c (i - 1), b + 1, j⟩
    | 1 => ⟨behind k c i, b + 1, j⟩
    | 2 => ⟨joined k c (i - 1), b, j + 1⟩
    | _ => ⟨joined k c i, b, j + 1⟩

/-- Whether a node has the key itself. -/
def ownKey (key : Int) (k : List Int) : Prop := place key k < k.length ∧ k.getD (place key k) 0 = key
instance (key : Int) (k : List Int) : Decidable (ownKey key k) := by unfold ownKey; infer_instance

/-- A key is deleted, so many nodes deep at most. -/
def del (half : Int) : Nat → Int → Tr → Del
  | 0, _, t => ⟨t, 0, 0⟩
  | n + 1, key, .mk k c =>
    if c.length = 0 then ⟨.mk (takeAt k (place key k)) [], 0, 0⟩
    else
      let i := place key k
      let g := (kidAt c i).greatest
      let r := del half n (if ownKey key k then g else key) (kidAt c i)
      repair half (if ownKey key k then k.set i g else k) (setKid c i r.t) i r.b r.j

theorem del_leaf {half : Int} {n : Nat} {key : Int} {k : List Int} {c : List Tr} (h : c.length = 0) : del half (n + 1) key (.mk k c) = ⟨.mk (takeAt k (place key k)) [], 0, 0⟩ := by
  rw [del, if_pos h]
theorem del_hit {half : Int} {n : Nat} {key : Int} {k : List Int} {c : List Tr} (h : c.length ≠ 0) (hh : ownKey key k) :
    del half (n + 1) key (.mk k c) = repair half (k.set (place key k) (kidAt c (place key k)).greatest) (setKid c (place key k) (del half n (kidAt c (place key k)).greatest (kidAt c (place key k))).t) (place key k)
      (del half n (kidAt c (place key k)).greatest (kidAt c (place key k))).b (del half n (kidAt c (place key k)).greatest (kidAt c (place key k))).j := by
  rw [del, if_neg h]
  simp only [if_pos hh]
theorem del_miss {half : Int} {n : Nat} {key : Int} {k : List Int} {c : List Tr} (h : c.length ≠ 0) (hh : ¬ ownKey key k) :
    del half (n + 1) key (.mk k c) = repair half k (setKid c (place key k) (del half n key (kidAt c (place key k))).t) (place key k)
      (del half n key (kidAt c (place key k))).b (del half n key (kidAt c (place key k))).j := by
  rw [del, if_neg h]
  simp only [if_neg hh]

/-- The tree that is left: the node's only kid, if it has no key and is no leaf. -/
def delT (wide key : Int) (t : Tr) : Tr :=
  let r := del (wide / 2) (t.weight + 1) key t
  if r.t.ks.length = 0 ∧ r.t.cs.length ≠ 0 then kidAt r.t.cs 0 else r.t
def delShrinks (wide key : Int) (t : Tr) : Bool :=
  let r := del (wide / 2) (t.weight + 1) key t
  decide (r.t.ks.length = 0 ∧ r.t.cs.length ≠ 0)
end Tr
end Go.Proofs.Ytananonjomfpkaa

/- Appending one element to a slice whose cells are its own; copying within it. -/
namespace Go.Proofs.Ytananonjomfpkaa
open Go.RowKit

theorem RowF.cells_of {w : World} {F : Cells} {b o n cap : Nat} {xs : List Value} (h : RowF w F (.slice (some ⟨b, o, none⟩) n cap) xs) (hp : 0 < cap) :
    n = xs.length ∧ xs.length ≤ cap ∧ cap ≤ maxLen ∧ (∀ i, i < cap → F b (o + i) ∧ (w.cell? ⟨b, o + i, none⟩).isSome = true ∧ w.frozen? ⟨b, o + i, none⟩ = false) ∧ ∀ i (h : i < xs.length), w.cell? ⟨b, o + i, none⟩ = some xs[i] := by
  obtain ⟨_, a, cap', hv, h1, h2, h3, h4⟩ := h
  simp only [Value.slice.injEq] at hv
  obtain ⟨rfl, rfl, rfl⟩ := hv
  rcases h4 with h4 | ⟨b', o', h5, h6, h7⟩
  · omega
  · simp only [Option.some.injEq, Addr.mk.injEq, and_true] at h5
    obtain ⟨rfl, rfl⟩ := h5
    exact ⟨rfl, h1, h2, h6, h7⟩

theorem RowF.intro {w : World} {F : Cells} {b o cap : Nat} {xs : List Value} (h0 : ∀ x q, F x q → x < w.heap.size) (h1 : xs.length ≤ cap) (h2 : cap ≤ maxLen)
    (h3 : ∀ i, i < cap → F b (o + i) ∧ (w.cell? ⟨b, o + i, none⟩).isSome = true ∧ w.frozen? ⟨b, o + i, none⟩ = false) (h4 : ∀ i (h : i < xs.length), w.cell? ⟨b, o + i, none⟩ = some xs[i]) :
    RowF w F (.slice (some ⟨b, o, none⟩) xs.length cap) xs := ⟨h0, _, cap, rfl, h1, h2, by simp, .inr ⟨b, o, rfl, h3, h4⟩⟩

/-- Cells of a row are written over. -/
theorem RowF.splice {w : World} {F : Cells} {b o n cap : Nat} {xs : List Value} (h : RowF w F (.slice (some ⟨b, o, none⟩) n cap) xs) (hp : 0 < cap) (k : Nat) (ys : List Value) (hk : k + ys.length ≤ xs.length) :
    RowF (w.setCells b (o + k) ys) F (.slice (some ⟨b, o, none⟩) n cap) (xs.take k ++ ys ++ xs.drop (k + ys.length)) := by
  have hlt := h.1
  obtain ⟨rfl, h1, h2, h3, h4⟩ := h.cells_of hp
  have hl : (xs.take k ++ ys ++ xs.drop (k + ys.length)).length = xs.length := by simp; omega
  have hK := KeptF.setCells (F := F) b ys (o + k) w (fun j hj => by have := (h3 (k + j) (by omega)).1; rwa [← Nat.add_assoc] at this)
  have := RowF.intro (w := w.setCells b (o + k) ys) (F := F) (b := b) (o := o) (cap := cap) (xs := xs.take k ++ ys ++ xs.drop (k + ys.length)) (fun x q h => Nat.lt_of_lt_of_le (hlt x q h) hK.size) (by omega) h2 (fun i hi => ?_) (fun i hi => ?_)
  · rwa [hl] at this
  · obtain ⟨g1, g2, g3⟩ := h3 i hi
    exact ⟨g1, hK.there _ _ g2, (hK.frozen _ _ (lt_of_there g2)).trans g3⟩
  · rw [hl] at hi
    by_cases hi1 : i < k
    · rw [World.cell?_setCells_out b ys (o + k) w _ (fun _ _ => .inl (by show o + i < o + k; omega)), h4 i hi]
      rw [List.getElem_append_left (by simp; omega), List.getElem_append_left (by simp; omega), List.getElem_take]
    · by_cases hi2 : i < k + ys.length
      · have := World.cell?_setCells_in b ys (o + k) w (fun j hj => by have := (h3 (k + j) (by omega)).2.1; rwa [← Nat.add_assoc] at this) (i - k) (by omega)
        rw [show o + k + (i - k) = o + i by omega] at this
        rw [this]
        simp only [List.getElem_append, List.length_append, List.length_take]
        simp only [show min k xs.length = k by omega, hi2, hi1, dif_pos, dif_neg, not_false_eq_true]
      · rw [World.cell?_setCells_out b ys (o + k) w _ (fun _ _ => .inr (by show o + k + ys.length ≤ o + i; omega)), h4 i hi]
        simp only [List.getElem_append, List.length_append, List.length_take, List.getElem_drop]
        simp only [show min k xs.length = k by omega, hi2, dif_neg, not_false_eq_true]
        congr 2
        omega

theorem wpList_append_row {P : Program} {w : World} {ops : Array Oper} {rest : List Oper} {o : Oper} {a : Act} {Q : Exit → Act → World → Prop}
    (hg : o.guard = none) (s x : Operand) (t : TypeId) (hop : o.op = Op.call { callee := Callee.builtin Builtin.append, args := #[s, x], argTypes := #[t, t] })
    (e : TypeId) (i : TypeInfo) (z : Value) (bytes : Nat) (h1 : P.underlying t = some (.slice e)) (h2 : P.info? e = some i) (h3 : i.zero = some z) (h4 : i.size = 1) (h5 : i.bytes = bytes) (h6 : z.cells.size = 1)
    (F : Cells) (v : Value) (xs : List Value) (hs : a.eval s = v) (hr : RowF w F v xs) (ab ac : Nat) (c : Nat) (y : Value) (hx : a.eval x = .slice (some ⟨ab, ac, none⟩) 1 c) (hc : w.cell? ⟨ab, ac, none⟩ = some y) (h1c : y.oneCell' = true)
    (b1 : xs.length + 1 ≤ maxLen) (b2 : (xs.length + 1) * bytes ≤ 140737488355328)
    (hK : ∀ (b1 o1 cap1 : Nat) (F1 : Cells) (w1 : World), xs.length + 1 ≤ cap1 → RowF w1 F1 (.slice (some ⟨b1, o1, none⟩) (xs.length + 1) cap1) (xs ++ [y]) → (∀ q r, F1 q r → F q r ∨ w.heap.size ≤ q) → KeptF F w w1 →
      wpList P ops Q rest (a.put o.dst (.slice (some ⟨b1, o1, none⟩) (xs.length + 1) cap1)) w1) : wpList P ops Q (o :: rest) a w := by
  have hadd : ∀ j u, ([y] : List Value)[j]? = some u → w.cell? ((⟨ab, ac, none⟩ : Addr).add j) = some u := fun j u hj => by
    rw [Addr.add_lit]
    cases j with
    | zero => simp at hj; subst hj; simpa using hc
    | succ j => simp at hj
  have hgrown : ∀ v' w', w'.ownsRow w.heap.size e 1 v' (xs.length + 1) (xs ++ [y]) → w.grownBy w' none → wpList P ops Q rest (a.put o.dst v') w' := fun v' w' hown hgr => by
    have hrow := RowF.of_owns hown
    have hlt := hown.lt
    obtain ⟨_, ⟨_, h9⟩ | ⟨g, cap, cur, rfl, hb, hgg, hn, hm, _⟩⟩ := hown
    · omega
    · exact hK g 0 cap _ w' hn hrow (fun q r hq => by right; have := hlt q hq; omega) (KeptF.of_below (B := w.heap.size) ⟨hgr.os, hgr.tape, hgr.output, hgr.size, fun k hk => hgr.block k hk (by simp)⟩ (Nat.le_refl _))
  have hr0 := hr
  obtain ⟨glt, ao, cap, rfl, g1, g2, g3, g4⟩ := hr
  by_cases hcap : cap = 0
  · subst hcap
    have hx0 : xs = [] := List.eq_nil_of_length_eq_zero (by omega)
    subst hx0
    exact wpList_append_grows w hg s x t hop e i z 1 bytes h1 h2 h3 h4 h5 h6 (by omega) ao 0 0 [] hs (fun h => ⟨rfl, rfl⟩) rfl (fun _ _ j u hj => by simp at hj) ⟨ab, ac, none⟩ 1 c [y] hx rfl hadd (by simpa using h1c) (by omega) (by simpa using b1) (by simpa using b2) hgrown
  · rcases g4 with g4 | ⟨b, off, rfl, g5, g6⟩
    · exact absurd g4 hcap
    · refine wpList_append_arg w hg s x t hop e i z 1 bytes h1 h2 h3 h4 h5 h6 (by omega) b off xs.length cap xs hs (by simp) (fun j u hj => ?_) ⟨ab, ac, none⟩ 1 c [y] hx rfl hadd (by simpa using h1c) (fun hroom j hj => ?_) b1 b2 (fun hroom => ?_) (fun hfull => ?_)
      · have hj2 : j < xs.length := by rcases Nat.lt_or_ge j xs.length with h | h; exact h; rw [List.getElem?_eq_none h] at hj; cases hj
        rw [g6 j hj2]; rw [List.getElem?_eq_getElem hj2] at hj; exact hj
      · simp at hj; subst hj
        have := g5 xs.length (by omega)
        simpa using this.2
      · rw [Nat.mul_one]
        have hKs := KeptF.setCells (F := F) b [y] (off + xs.length) w (fun j hj => by simp at hj; subst hj; exact (g5 xs.length (by omega)).1)
        refine hK b off cap F _ hroom ?_ (fun q r hq => .inl hq) hKs
        have hl : (xs ++ [y]).length = xs.length + 1 := by simp
        have := RowF.intro (w := w.setCells b (off + xs.length) [y]) (F := F) (b := b) (o := off) (cap := cap) (xs := xs ++ [y]) (fun x q h => Nat.lt_of_lt_of_le (glt x q h) hKs.size) (by omega) g2 (fun i hi => ?_) (fun i hi => ?_)
        · rwa [hl] at this
        · obtain ⟨q1, q2, q3⟩ := g5 i hi
          exact ⟨q1, hKs.there _ _ q2, (hKs.frozen _ _ (lt_of_there q2)).trans q3⟩
        · by_cases hi2 : i < xs.length
          · rw [World.cell?_setCells_out b [y] (off + xs.length) w _ (fun _ _ => .inl (by show off + i < off + xs.length; omega)), g6 i hi2]
            simp [hi2]
          · obtain rfl : i = xs.length := by simp at hi; omega
            have := World.cell?_setCells_in b [y] (off + xs.length) w (fun j hj => by simp at hj; subst hj; exact (g5 xs.length (by omega)).2.1) 0 (by simp)
            simpa using this
      · exact fun v' w' hown hgr => hgrown v' w' hown hgr

/-- 'copy' as one step of a region that draws its order: in terms of cells alone. -/
theorem step_copy_cells {P : Program} {ops : Array Oper} {o : Oper} {a : Act} {w : World} {K : Act → World → Prop} {Q : Exit → Act → World → Prop} {E : Prop} (hgd : o.guard = none) (d s : Operand) (dT sT : TypeId)
    (ho : o.op = .call { callee := .builtin .copy, args := #[d, s], argTypes := #[dT, sT] }) (elem : TypeId) (hu : P.underlying dT = some (.slice elem)) (hsz : (P.info? elem).map (·.size) = some 1)
    (dp sp : Option Addr) (dLen dCap sLen sCap : Nat) (hd : a.eval d = .slice dp dLen dCap) (hs : a.eval s = .slice sp sLen sCap)
    (b off : Nat) (cs : List Value) (hn : cs.length = Nat.min sLen dLen)
    (hpos : 0 < cs.length → dp = some ⟨b, off, none⟩ ∧ ∃ ad, sp = some ad ∧ ∀ j v, cs[j]? = some v → w.cell? (ad.add j) = some v)
    (hc : ∀ j, j < cs.length → (w.cell? ⟨b, off + j, none⟩).isSome = true) (hf : ∀ j, j < cs.length → w.frozen? ⟨b, off + j, none⟩ = false) (h1 : ∀ v ∈ cs, v.oneCell' = true)
    (h : ∀ w', Hid (w' = w.setCells b off cs) → K (a.put o.dst (goInt cs.length)) w') :
    if Region.wanted o (yielded ops a.tmps) = true then Oper.wp P o a w K Q else E := by
  have hw : Region.wanted o (yielded ops a.tmps) = true := by simp [Region.wanted, hgd]
  rw [if_pos hw]
  by_cases h0 : cs.length = 0
  · obtain rfl : cs = [] := List.eq_nil_of_length_eq_zero h0
    have hrun := run_copy_none (P := P) w dT sT o.type elem dp sp dLen dCap sLen sCap hu hsz (by simpa using hn.symm)
    unfold Oper.wp
    simp [execOp, ho, resolve, invoke, builtin, hd, hs, hrun, Result.andThen]
    exact h w rfl
  · obtain ⟨rfl, ad, rfl, hsrc⟩ := hpos (by omega)
    have hrun := run_copy_cells (P := P) w dT sT o.type elem b off dLen dCap ad sLen sCap cs hu hsz hn hsrc hc hf h1
    unfold Oper.wp
    simp [execOp, ho, resolve, invoke, builtin, hd, hs, hrun, Result.andThen]
    exact h _ rfl
end Go.Proofs.Ytananonjomfpkaa
