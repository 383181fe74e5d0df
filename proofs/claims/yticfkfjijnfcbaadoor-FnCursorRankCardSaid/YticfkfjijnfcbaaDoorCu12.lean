/- Paths that lead to nodes: plain data. -/
import Derived.Test.YticfkfjijnfcbaaDoorCu11
/- How many keys the fullest leaf has; the model's RoomOf. -/
namespace Go.Proofs.YticfkfjijnfcbaaDoor
open Go.RowKit
namespace Tr
mutual
def leafMax : Tr → Nat
 | .mk k c => max (if c.length = 0 then k.length else 0) (leafMaxs c)
def leafMaxs : List Tr → Nat
 | [] => 0
 | t :: r => max (leafMax t) (leafMaxs r)
end
mutual
theorem leafMax_le {wide : Int} (h0 : 0 ≤ wide) : ∀ (t : Tr) (least depth : Int), nodesB wide least depth t = true → (t.leafMax : Int) ≤ wide
 | .mk k c, least, depth, h => by
   simp only [nodesB, Bool.and_eq_true, Bool.or_eq_true] at h
   have h1 : (k.length : Int) ≤ wide := by have := h.1.1; simp [inB] at this; omega
   rcases h.2 with h2 | h2
   · have hc : c = [] := by simpa using h2
     subst hc
     simp [leafMax, leafMaxs]; omega
   · have := leafMaxs_le h0 c _ h2.2
     simp only [leafMax]
     split <;> omega
theorem leafMaxs_le {wide : Int} (h0 : 0 ≤ wide) : ∀ (c : List Tr) (depth : Int), nodesAllB wide depth c = true → (leafMaxs c : Int) ≤ wide
 | [], depth, _ => by simpa [leafMaxs] using h0
 | t :: r, depth, h => by
   simp only [nodesAllB, Bool.and_eq_true] at h
   have h1 := leafMax_le h0 t _ _ h.1
   have h2 := leafMaxs_le h0 r _ h.2
   simp only [leafMaxs]; omega
end
def roomB (wide : Int) (t : Tr) : Int := if validB wide t then wide - t.leafMax else -1
end Tr
end Go.Proofs.YticfkfjijnfcbaaDoor
/- A tree that is valid for some width has few keys. -/
namespace Go.Proofs.YticfkfjijnfcbaaDoor
open Go.RowKit
namespace Tr
theorem keys_length (k : List Int) (c : List Tr) : (Tr.mk k c).keys.length = lens (keyss c) + k.length := by
 have hk := length_keyss c
 simp only [keys, upto_length]
 rw [List.take_of_length_le (by omega), List.take_of_length_le (by omega)]
mutual
theorem small {wide : Int} (h2 : 2 ≤ wide) : ∀ (t : Tr) (d : Int), nodesB wide (wide / 2) d t = true → t.weight + 1 ≤ 2 * t.keys.length
 | .mk k c, d, h => by
   simp only [nodesB, Bool.and_eq_true, Bool.or_eq_true] at h
   have h1 : wide / 2 ≤ (k.length : Int) := by have := h.1.1; simp [inB] at this; omega
   rw [keys_length]
   simp only [weight]
   rcases h.2 with h3 | h3
   · have hc : c = [] := by simpa using h3
     subst hc
     simp [weights, keyss, lens]; omega
   · have := smalls h2 c _ h3.2
     omega
theorem smalls {wide : Int} (h2 : 2 ≤ wide) : ∀ (c : List Tr) (d : Int), nodesAllB wide d c = true → weights c ≤ 2 * lens (keyss c)
 | [], d, _ => by simp [weights]
 | t :: r, d, h => by
   simp only [nodesAllB, Bool.and_eq_true] at h
   have h3 := small h2 t _ h.1
   have h4 := smalls h2 r _ h.2
   simp only [weights, keyss, lens]; omega
end
theorem few : ∀ (l : List Int) (lo : Int), l.Pairwise (· < ·) → (∀ x, x ∈ l → lo ≤ x ∧ x ≤ 99) → (l.length : Int) ≤ max 0 (100 - lo)
 | [], lo, _, _ => by simp; omega
 | a :: r, lo, hp, hm => by
   rw [List.pairwise_cons] at hp
   have h1 := hm a (by simp)
   have h2 := few r (a + 1) hp.2 (fun x hx => ⟨by have := hp.1 x hx; omega, (hm x (by simp [hx])).2⟩)
   simp only [List.length_cons]
   omega
theorem valid_keys {wide : Int} {t : Tr} (h : validB wide t = true) : sortedB t.keys = true := by
 simp only [validB, Bool.and_eq_true] at h; exact h.2.2
end Tr
end Go.Proofs.YticfkfjijnfcbaaDoor
/- Paths that lead to nodes: plain data. -/
namespace Go.Proofs.YticfkfjijnfcbaaDoor
open Go.RowKit
namespace Tr
theorem nodeTo_append : ∀ (p q : List Int) (t : Tr), nodeTo (p ++ q) t = (nodeTo p t).bind (nodeTo q)
 | [], q, t => rfl
 | i :: p, q, .mk k c => by
   show nodeTo (i :: (p ++ q)) (.mk k c) = _
   simp only [nodeTo]
   split
   · exact nodeTo_append p q _
   · rfl
theorem nodeTo_nodes {wide : Int} : ∀ (ks : List Int) (t u : Tr) (least d : Int), nodesB wide least d t = true → nodeTo ks t = some u → ∃ l, nodesB wide l (d - ks.length) u = true
 | [], t, u, least, d, h, hn => by
   simp only [nodeTo, Option.some.injEq] at hn
   subst hn
   exact ⟨least, by simpa using h⟩
 | i :: p, .mk k c, u, least, d, h, hn => by
   simp only [nodeTo] at hn
   split at hn
   · rename_i hi
     obtain ⟨N, rfl⟩ : ∃ N : Nat, i = N := ⟨i.toNat, by omega⟩
     have hN : N < c.length := by omega
     rw [Int.toNat_natCast] at hn
     have hge : c.getD N (.mk [] []) = c[N] := by rw [List.getD_eq_getElem?_getD, List.getElem?_eq_getElem hN]; rfl
     rw [hge] at hn
     obtain ⟨-, hsh⟩ := nodes_mem h
     rcases hsh with ⟨h0, _⟩ | ⟨_, _, _, _, hk⟩
     · omega
     obtain ⟨l, hl⟩ := nodeTo_nodes p c[N] u _ _ (hk _ (List.getElem_mem hN)) hn
     refine ⟨l, ?_⟩
     rw [show d - ((N : Int) :: p).length = d - 1 - p.length by simp; omega]
     exact hl
   · cases hn
theorem nodeTo_few {ks : List Int} {t u : Tr} (hs : t.someB = true) (h : nodeTo ks t = some u) : ks.length ≤ 5 := by
 obtain ⟨wide, hw1, hw2, hv⟩ : ∃ q : Nat, 2 ≤ q ∧ q ≤ 6 ∧ validB q t = true := by
   refine Classical.byContradiction fun hno => ?_
   have := (someB_of t).2 (fun q h1 h2 => by
     cases hq : validB q t
     · rfl
     · exact absurd ⟨q, h1, h2, hq⟩ hno)
   rw [this] at hs
   cases hs
 have hk := sorted_len (valid_keys hv)
 have h' := hv
 simp only [validB, Bool.and_eq_true] at h'
 have hn := h'.2.1
 obtain ⟨l, hl⟩ := nodeTo_nodes ks t u _ _ hn h
 have hpos := nodesB_pos wide u.weight _ _ u (Nat.le_refl _) hl
 obtain ⟨e, he⟩ : ∃ e, t.depth = e + 1 := ⟨t.depth - 1, by omega⟩
 rw [he] at hn
 by_cases h6 : e ≤ 5
 · omega
 · exfalso
   have := nodes_keys wide (by omega) e 0 _ t rfl (.inr (by omega)) (by simpa using hn)
   have h2 : 2 ^ 7 ≤ 2 ^ (e + 1) := Nat.pow_le_pow_right (by omega) (by omega)
   omega
end Tr
end Go.Proofs.YticfkfjijnfcbaaDoor
