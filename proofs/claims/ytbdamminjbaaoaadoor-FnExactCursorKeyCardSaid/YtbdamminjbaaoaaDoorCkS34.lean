/- Paths that lead to nodes: plain data. -/
import Derived.Test.YtbdamminjbaaoaaDoorCkS1
import Derived.Test.YtbdamminjbaaoaaDoorCkS8
import Derived.Test.YtbdamminjbaaoaaDoorCkS11
import Derived.Test.YtbdamminjbaaoaaDoorCkS18
import Derived.Test.YtbdamminjbaaoaaDoorCkS31
import Derived.Test.YtbdamminjbaaoaaDoorCkS12
import Derived.Test.YtbdamminjbaaoaaDoorCkS33
import Derived.Test.YtbdamminjbaaoaaDoorCkS13
namespace Go.Proofs.YtbdamminjbaaoaaDoor
open Go.RowKit
namespace Tr

theorem nodeTo_append : ∀ (p q : List Int) (t : Tr), nodeTo (p ++ q) t = (nodeTo p t).bind (nodeTo q)
  | [], q, t => rfl
  | i :: p, q, .mk k c => by
    show nodeTo (i :: (p ++ q)) (.mk k c) = _
    simp only [nodeTo]
    split
    · exact nodeTo_append p q _
    · rfl

theorem nodeTo_nodes {wide : Int} : ∀ (ks : List Int) (t u : Tr) (least d : Int), nodesB wide least d t = true → nodeTo ks t = some u → ∃ l, nodesB wide l (d - ks.length) u = true
  | [], t, u, least, d, h, hn => by
    simp only [nodeTo, Option.some.injEq] at hn
    subst hn
    exact ⟨least, by simpa using h⟩
  | i :: p, .mk k c, u, least, d, h, hn => by
    simp only [nodeTo] at hn
    split at hn
    · rename_i hi
      obtain ⟨N, rfl⟩ : ∃ N : Nat, i = N := ⟨i.toNat, by omega⟩
      have hN : N < c.length := by omega
      rw [Int.toNat_natCast] at hn
      have hge : c.getD N (.mk [] []) = c[N] := by rw [List.getD_eq_getElem?_getD, List.getElem?_eq_getElem hN]; rfl
      rw [hge] at hn
      obtain ⟨-, hsh⟩ := nodes_mem h
      rcases hsh with ⟨h0, _⟩ | ⟨_, _, _, _, hk⟩
      · omega
      obtain ⟨l, hl⟩ := nodeTo_nodes p c[N] u _ _ (hk _ (List.getElem_mem hN)) hn
      refine ⟨l, ?_⟩
      rw [show d - ((N : Int) :: p).length = d - 1 - p.length by simp; omega]
      exact hl
    · cases hn

theorem nodeTo_few {ks : List Int} {t u : Tr} (hs : t.someB = true) (h : nodeTo ks t = some u) : ks.length ≤ 5 := by
  obtain ⟨wide, hw1, hw2, hv⟩ : ∃ q : Nat, 2 ≤ q ∧ q ≤ 6 ∧ validB q t = true := by
    refine Classical.byContradiction fun hno => ?_
    have := (someB_of t).2 (fun q h1 h2 => by
      cases hq : validB q t
      · rfl
      · exact absurd ⟨q, h1, h2, hq⟩ hno)
    rw [this] at hs
    cases hs
  have hk := sorted_len (valid_keys hv)
  have h' := hv
  simp only [validB, Bool.and_eq_true] at h'
  have hn := h'.2.1
  obtain ⟨l, hl⟩ := nodeTo_nodes ks t u _ _ hn h
  have hpos := nodesB_pos wide u.weight _ _ u (Nat.le_refl _) hl
  obtain ⟨e, he⟩ : ∃ e, t.depth = e + 1 := ⟨t.depth - 1, by omega⟩
  rw [he] at hn
  by_cases h6 : e ≤ 5
  · omega
  · exfalso
    have := nodes_keys wide (by omega) e 0 _ t rfl (.inr (by omega)) (by simpa using hn)
    have h2 : 2 ^ 7 ≤ 2 ^ (e + 1) := Nat.pow_le_pow_right (by omega) (by omega)
    omega
end Tr
end Go.Proofs.YtbdamminjbaaoaaDoor
