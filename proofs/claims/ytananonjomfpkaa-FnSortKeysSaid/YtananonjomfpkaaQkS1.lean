/- Keys in order: plain data, and the contract of the model's l1Keys. -/
import Derived.Test.YtananonjomfpkaaQk0
import Derived.Maps.AppendAt
namespace Go.Proofs.Ytananonjomfpkaa
open Go.RowKit
namespace Tr
def part (kss : List (List Int)) (ks : List Int) (i : Nat) : List Int := (kss[i]?).getD [] ++ (ks[i]?).toList
def upto (kss : List (List Int)) (ks : List Int) (n : Nat) : List Int := (List.range n).flatMap (part kss ks)
mutual
def keys : Tr → List Int
 | .mk k c => upto (keyss c) k (max k.length c.length)
def keyss : List Tr → List (List Int)
 | [] => []
 | t :: r => keys t :: keyss r
end
theorem upto_succ (kss : List (List Int)) (ks : List Int) (n : Nat) : upto kss ks (n + 1) = upto kss ks n ++ part kss ks n := by
 simp [upto, List.range_succ]
theorem length_keyss (c : List Tr) : (keyss c).length = c.length := by
 induction c with
 | nil => rfl
 | cons t r ih => simp [keyss, ih]
def lens : List (List Int) → Nat
 | [] => 0
 | a :: r => a.length + lens r
theorem lens_append (a b : List (List Int)) : lens (a ++ b) = lens a + lens b := by
 induction a with
 | nil => simp [lens]
 | cons t r ih => simp [lens, ih]; omega
theorem upto_length (kss : List (List Int)) (ks : List Int) (n : Nat) : (upto kss ks n).length = lens (kss.take n) + (ks.take n).length := by
 induction n with
 | zero => simp [upto, lens]
 | succ n ih =>
   rw [upto_succ, List.length_append, ih]
   have e1 : lens (kss.take (n + 1)) = lens (kss.take n) + ((kss[n]?).getD []).length := by
     by_cases h : n < kss.length
     · rw [List.take_succ_eq_append_getElem h, lens_append]; simp [lens, h]
     · rw [List.take_of_length_le (by omega), List.take_of_length_le (by omega)]; simp [List.getElem?_eq_none (Nat.le_of_not_lt h)]
   have e2 : (ks.take (n + 1)).length = (ks.take n).length + ((ks[n]?).toList).length := by
     by_cases h : n < ks.length
     · rw [List.take_succ_eq_append_getElem h, List.length_append]; simp [h]
     · rw [List.take_of_length_le (by omega), List.take_of_length_le (by omega)]; simp [List.getElem?_eq_none (Nat.le_of_not_lt h)]
   rw [e1, e2]
   simp only [part, List.length_append]
   omega
mutual
theorem keys_length_le : ∀ t : Tr, t.keys.length ≤ t.weight
 | .mk k c => by
   have h := keyss_lens_le c
   have hk := length_keyss c
   simp only [keys, weight, upto_length]
   rw [List.take_of_length_le (by omega), List.take_of_length_le (by omega)]
   omega
theorem keyss_lens_le : ∀ c : List Tr, lens (keyss c) ≤ weights c
 | [] => by simp [keyss, lens]
 | t :: r => by
   have h1 := keys_length_le t
   have h2 := keyss_lens_le r
   simp only [keyss, lens, weights]
   omega
end
end Tr
end Go.Proofs.Ytananonjomfpkaa
