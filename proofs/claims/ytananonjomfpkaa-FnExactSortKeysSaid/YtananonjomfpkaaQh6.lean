/- Deleting: the key that stands in for one, as plain data. -/
import Derived.Test.YtananonjomfpkaaQh5
/- A tree that is valid for some width has few keys. -/
namespace Go.Proofs.Ytananonjomfpkaa
open Go.RowKit
namespace Tr
theorem keys_length (k : List Int) (c : List Tr) : (Tr.mk k c).keys.length = lens (keyss c) + k.length := by
 have hk := length_keyss c
 simp only [keys, upto_length]
 rw [List.take_of_length_le (by omega), List.take_of_length_le (by omega)]
mutual
theorem small {wide : Int} (h2 : 2 ≤ wide) : ∀ (t : Tr) (d : Int), nodesB wide (wide / 2) d t = true → t.weight + 1 ≤ 2 * t.keys.length
 | .mk k c, d, h => by
   simp only [nodesB, Bool.and_eq_true, Bool.or_eq_true] at h
   have h1 : wide / 2 ≤ (k.length : Int) := by have := h.1.1; simp [inB] at this; omega
   rw [keys_length]
   simp only [weight]
   rcases h.2 with h3 | h3
   · have hc : c = [] := by simpa using h3
     subst hc
     simp [weights, keyss, lens]; omega
   · have := smalls h2 c _ h3.2
     omega
theorem smalls {wide : Int} (h2 : 2 ≤ wide) : ∀ (c : List Tr) (d : Int), nodesAllB wide d c = true → weights c ≤ 2 * lens (keyss c)
 | [], d, _ => by simp [weights]
 | t :: r, d, h => by
   simp only [nodesAllB, Bool.and_eq_true] at h
   have h3 := small h2 t _ h.1
   have h4 := smalls h2 r _ h.2
   simp only [weights, keyss, lens]; omega
end
theorem few : ∀ (l : List Int) (lo : Int), l.Pairwise (· < ·) → (∀ x, x ∈ l → lo ≤ x ∧ x ≤ 99) → (l.length : Int) ≤ max 0 (100 - lo)
 | [], lo, _, _ => by simp; omega
 | a :: r, lo, hp, hm => by
   rw [List.pairwise_cons] at hp
   have h1 := hm a (by simp)
   have h2 := few r (a + 1) hp.2 (fun x hx => ⟨by have := hp.1 x hx; omega, (hm x (by simp [hx])).2⟩)
   simp only [List.length_cons]
   omega
end Tr
end Go.Proofs.Ytananonjomfpkaa
/- Deleting: the key that stands in for one, as plain data. -/
namespace Go.Proofs.Ytananonjomfpkaa
open Go.RowKit
namespace Tr
mutual
def greatest : Tr → Int
 | .mk k cs => if cs.length = 0 then k.getD (k.length - 1) 0 else (greatests cs).getD (cs.length - 1) 0
def greatests : List Tr → List Int
 | [] => []
 | t :: r => greatest t :: greatests r
end
mutual
def stand (key : Int) : Tr → Int × Bool
 | .mk k cs =>
   if place key k < k.length ∧ k.getD (place key k) 0 = key then (if cs.length = 0 then (0, false) else ((greatests cs).getD (place key k) 0, true))
   else (stands key cs).getD (place key k) (0, false)
def stands (key : Int) : List Tr → List (Int × Bool)
 | [] => []
 | t :: r => stand key t :: stands key r
end
def standB (wide key : Int) (t : Tr) : Int × Bool := if t.validB wide = true then t.stand key else (0, false)
def hit (key : Int) (t : Tr) : Bool := t.hasAt key && t.inner
def Full (t : Tr) : Prop := ∃ wide least d, 2 ≤ wide ∧ 1 ≤ least ∧ nodesB wide least d t = true
def Tops (t : Tr) : Prop := ∃ wide least d, 2 ≤ wide ∧ nodesB wide least d t = true
end Tr
end Go.Proofs.Ytananonjomfpkaa
