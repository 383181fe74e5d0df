/- A tree that is valid for some width has few keys. -/
import Derived.Test.YtananonjomfpkaaQk9
import Derived.Test.YtananonjomfpkaaQkS10
/- Inserting: a key comes to its place among the keys of a tree. -/
namespace Go.Proofs.Ytananonjomfpkaa
open Go.RowKit
namespace Tr
end Tr
end Go.Proofs.Ytananonjomfpkaa
/- How many keys the fullest leaf has; the model's RoomOf. -/
namespace Go.Proofs.Ytananonjomfpkaa
open Go.RowKit
namespace Tr
mutual
def leafMax : Tr → Nat
 | .mk k c => max (if c.length = 0 then k.length else 0) (leafMaxs c)
def leafMaxs : List Tr → Nat
 | [] => 0
 | t :: r => max (leafMax t) (leafMaxs r)
end
mutual
theorem leafMax_le {wide : Int} (h0 : 0 ≤ wide) : ∀ (t : Tr) (least depth : Int), nodesB wide least depth t = true → (t.leafMax : Int) ≤ wide
 | .mk k c, least, depth, h => by
   simp only [nodesB, Bool.and_eq_true, Bool.or_eq_true] at h
   have h1 : (k.length : Int) ≤ wide := by have := h.1.1; simp [inB] at this; omega
   rcases h.2 with h2 | h2
   · have hc : c = [] := by simpa using h2
     subst hc
     simp [leafMax, leafMaxs]; omega
   · have := leafMaxs_le h0 c _ h2.2
     simp only [leafMax]
     split <;> omega
theorem leafMaxs_le {wide : Int} (h0 : 0 ≤ wide) : ∀ (c : List Tr) (depth : Int), nodesAllB wide depth c = true → (leafMaxs c : Int) ≤ wide
 | [], depth, _ => by simpa [leafMaxs] using h0
 | t :: r, depth, h => by
   simp only [nodesAllB, Bool.and_eq_true] at h
   have h1 := leafMax_le h0 t _ _ h.1
   have h2 := leafMaxs_le h0 r _ h.2
   simp only [leafMaxs]; omega
end
def roomB (wide : Int) (t : Tr) : Int := if validB wide t then wide - t.leafMax else -1
end Tr
end Go.Proofs.Ytananonjomfpkaa
/- A tree that is valid for some width has few keys. -/
namespace Go.Proofs.Ytananonjomfpkaa
open Go.RowKit
namespace Tr
theorem keys_length (k : List Int) (c : List Tr) : (Tr.mk k c).keys.length = lens (keyss c) + k.length := by
 have hk := length_keyss c
 simp only [keys, upto_length]
 rw [List.take_of_length_le (by omega), List.take_of_length_le (by omega)]
mutual
theorem small {wide : Int} (h2 : 2 ≤ wide) : ∀ (t : Tr) (d : Int), nodesB wide (wide / 2) d t = true → t.weight + 1 ≤ 2 * t.keys.length
 | .mk k c, d, h => by
   simp only [nodesB, Bool.and_eq_true, Bool.or_eq_true] at h
   have h1 : wide / 2 ≤ (k.length : Int) := by have := h.1.1; simp [inB] at this; omega
   rw [keys_length]
   simp only [weight]
   rcases h.2 with h3 | h3
   · have hc : c = [] := by simpa using h3
     subst hc
     simp [weights, keyss, lens]; omega
   · have := smalls h2 c _ h3.2
     omega
theorem smalls {wide : Int} (h2 : 2 ≤ wide) : ∀ (c : List Tr) (d : Int), nodesAllB wide d c = true → weights c ≤ 2 * lens (keyss c)
 | [], d, _ => by simp [weights]
 | t :: r, d, h => by
   simp only [nodesAllB, Bool.and_eq_true] at h
   have h3 := small h2 t _ h.1
   have h4 := smalls h2 r _ h.2
   simp only [weights, keyss, lens]; omega
end
theorem few : ∀ (l : List Int) (lo : Int), l.Pairwise (· < ·) → (∀ x, x ∈ l → lo ≤ x ∧ x ≤ 99) → (l.length : Int) ≤ max 0 (100 - lo)
 | [], lo, _, _ => by simp; omega
 | a :: r, lo, hp, hm => by
   rw [List.pairwise_cons] at hp
   have h1 := hm a (by simp)
   have h2 := few r (a + 1) hp.2 (fun x hx => ⟨by have := hp.1 x hx; omega, (hm x (by simp [hx])).2⟩)
   simp only [List.length_cons]
   omega
end Tr
end Go.Proofs.Ytananonjomfpkaa
