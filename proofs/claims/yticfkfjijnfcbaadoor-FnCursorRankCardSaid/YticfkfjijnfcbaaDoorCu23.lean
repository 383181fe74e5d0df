/- What the laws on cursors that go on and back, and on their keys and ranks, rest on: plain data. -/
import Derived.Test.YticfkfjijnfcbaaDoorCuS27
import Derived.Test.YticfkfjijnfcbaaDoorCu22
import Derived.Test.YticfkfjijnfcbaaDoorCu19
/- The cursors of a tree in the order of its keys: plain data. -/
namespace Go.Proofs.YticfkfjijnfcbaaDoor
open Go.RowKit
namespace Tr
def curAt (t : Tr) (i : Nat) : List Int × Int × Bool := goF (t.keys.getD i 0) t []
theorem keys_place {ks : List Int} (h : ks.Pairwise (· < ·)) {i : Nat} (hi : i < ks.length) : place (ks.getD i 0) ks = i ∧ place (ks.getD i 0 + 1) ks = i + 1 := place_of h hi
theorem goF_curAt {t : Tr} (hs : someB t = true) (c : Int) : (place c t.keys < t.keys.length → goF c t [] = curAt t (place c t.keys)) ∧ (¬ place c t.keys < t.keys.length → goF c t [] = ([], 0, false)) := by
 obtain ⟨h1, h2⟩ := seek_key c t.weight t (Nat.le_refl _) (Well.of_some hs)
 have e : goF c t [] = upF t (sink c t) := goF_at rfl
 constructor
 · intro h
   obtain ⟨P, A, k, cs, g1, g2, g3, g4⟩ := h1 h
   have := goF_self hs g2 g3
   rw [g4] at this
   rw [e, g1, curAt, this]
 · intro h
   rw [e, h2 h]
theorem curAt_at {t : Tr} (hs : someB t = true) {i : Nat} (hi : i < t.keys.length) : ∃ P A k cs, curAt t i = (P, ((A : Nat) : Int), true) ∧ nodeTo P t = some (.mk k cs) ∧ A < k.length ∧ k.getD A 0 = t.keys.getD i 0 := by
 have hw := Well.of_some hs
 obtain ⟨h1, -⟩ := seek_key (t.keys.getD i 0) t.weight t (Nat.le_refl _) hw
 have hp := (keys_place hw.2 hi).1
 rw [hp] at h1
 obtain ⟨P, A, k, cs, g1, g2, g3, g4⟩ := h1 hi
 exact ⟨P, A, k, cs, by rw [curAt, goF_at rfl]; exact g1, g2, g3, g4⟩
theorem curB_at {t : Tr} (hs : someB t = true) {P : List Int} {A : Nat} {k : List Int} {cs : List Tr} (hn : nodeTo P t = some (.mk k cs)) (hA : A < k.length) : curB t P A = true ∧ curK t P A = k.getD A 0 := by
 have h : curB t P A = true := by unfold curB; rw [hn]; simp [hs, inB]; omega
 exact ⟨h, by rw [(curK_at h hn).1]; simp⟩
theorem curAt_facts {t : Tr} (hs : someB t = true) {i : Nat} (hi : i < t.keys.length) :
   curB t (curAt t i).1 (curAt t i).2.1 = true ∧ curK t (curAt t i).1 (curAt t i).2.1 = t.keys.getD i 0 ∧ (curAt t i).2.2 = true ∧ (curAt t i).1.length ≤ 5 ∧
   walkB t (curAt t i).1 (curAt t i).2.1 (fun K => goF (K + 1) t (curAt t i).1) = (if i + 1 < t.keys.length then curAt t (i + 1) else ([], 0, false)) := by
 obtain ⟨P, A, k, cs, g1, g2, g3, g4⟩ := curAt_at hs hi
 obtain ⟨b1, b2⟩ := curB_at hs g2 g3
 rw [g1]
 refine ⟨b1, by rw [b2, g4], rfl, nodeTo_few hs g2, ?_⟩
 rw [walkB_at b1 g2, Int.toNat_natCast, goF_pass hs g2 g3 (.inr rfl), g4]
 have hp := (keys_place (Well.of_some hs).2 hi).2
 obtain ⟨h1, h2⟩ := goF_curAt hs (t.keys.getD i 0 + 1)
 rw [hp] at h1 h2
 split
 · rename_i h; exact h1 h
 · rename_i h; exact h2 h
theorem first_curAt {t : Tr} (hs : someB t = true) (h0 : 0 < t.keys.length) : goF 0 t [] = curAt t 0 := by
 obtain ⟨h1, -⟩ := goF_curAt hs 0
 have hp : place 0 t.keys = 0 := place_zero (fun x hx => (some_key hs hx).1)
 rw [hp] at h1
 exact h1 h0
theorem keys_own {k : List Int} {cs : List Tr} (hs : someB (.mk k cs) = true) : k.length ≠ 0 ↔ 0 < (Tr.mk k cs).keys.length := by
 constructor
 · intro h
   have := (own_sub k cs).length_le
   omega
 · intro h hk
   have hw := Well.of_some hs
   have hc : cs.length = 0 := by
     refine Classical.byContradiction fun h => ?_
     obtain ⟨⟨w, l, d, hn⟩, _⟩ := hw
     rcases (nodesB_parts hn).2 with ⟨h1, _⟩ | ⟨_, _, _, h4, _⟩
     · exact h h1
     · exact h4 hk
   rw [keys_leaf hc] at h
   omega
theorem whole_first (t : Tr) : walkB t [] 0 (fun _ => goF 0 t []) = if t.someB = true ∧ 0 < t.keys.length then curAt t 0 else ([], 0, false) := by
 unfold walkB
 obtain ⟨k, cs⟩ := t
 by_cases hs : (Tr.mk k cs).someB = true
 · have hk := keys_own hs
   by_cases h0 : 0 < (Tr.mk k cs).keys.length
   · have hb : curB (.mk k cs) [] 0 = true := by unfold curB; simp only [nodeTo]; rw [hs]; have := hk.2 h0; simp [inB]; omega
     rw [if_pos hb, if_pos ⟨hs, h0⟩]
     exact first_curAt hs h0
   · have hb : ¬ curB (.mk k cs) [] 0 = true := by unfold curB; simp only [nodeTo]; rw [hs]; have := fun h => h0 (hk.1 h); simp [inB]; omega
     rw [if_neg hb, if_neg (fun h => h0 h.2)]
 · have hb : ¬ curB (.mk k cs) [] 0 = true := by unfold curB; simp only [nodeTo]; simp [hs]
   rw [if_neg hb, if_neg (fun h => hs h.1)]
end Tr
end Go.Proofs.YticfkfjijnfcbaaDoor
/- Cursors that go back, by ranks: plain data. -/
namespace Go.Proofs.YticfkfjijnfcbaaDoor
open Go.RowKit
namespace Tr
mutual
theorem depth_le_weight : ∀ t : Tr, t.depth ≤ t.weight + 1
 | .mk k c => by
   have := depths_le_weights c
   simp only [depth, weight]; omega
theorem depths_le_weights : ∀ c : List Tr, depths c ≤ weights c
 | [] => by simp [depths]
 | t :: r => by
   have h1 := depth_le_weight t
   have h2 := depths_le_weights r
   simp only [depths, weights]; omega
end
end Tr
end Go.Proofs.YticfkfjijnfcbaaDoor
/- What the laws on cursors that go on and back, and on their keys and ranks, rest on: plain data. -/
namespace Go.Proofs.YticfkfjijnfcbaaDoor
open Go.RowKit
namespace Tr
theorem cur_is {t : Tr} {P : List Int} {A : Int} (h : curB t P A = true) : someB t = true ∧ ∃ i, i < t.keys.length ∧ curAt t i = (P, A, true) ∧ curK t P A = t.keys.getD i 0 := by
 cases hn : nodeTo P t with
 | none => unfold curB at h; rw [hn] at h; simp at h
 | some u =>
   cases u with
   | mk k cs =>
     obtain ⟨e1, e2, e3, hs⟩ := curK_at h hn
     obtain ⟨N, rfl⟩ := Int.eq_ofNat_of_zero_le e2
     have hN : N < k.length := by omega
     rw [Int.toNat_natCast] at e1
     have hmem : k.getD N 0 ∈ t.keys := (nodeTo_sub P hn).subset (own_mem hN)
     obtain ⟨i, hi, e⟩ := List.getElem_of_mem hmem
     have e' : t.keys.getD i 0 = k.getD N 0 := by rw [List.getD_eq_getElem?_getD, List.getElem?_eq_getElem hi]; exact e
     refine ⟨hs, i, hi, ?_, by rw [e1, e']⟩
     rw [curAt, e']
     exact goF_self hs hn hN
theorem keys_few' {t : Tr} (hs : someB t = true) : t.keys.length ≤ 100 := by
 have hw := (Well.of_some hs).2
 have hb : ∀ i, i < t.keys.length → (i : Int) ≤ t.keys.getD i 0 := by
   intro i
   induction i with
   | zero =>
     intro h
     have hm : t.keys.getD 0 0 ∈ t.keys := by rw [List.getD_eq_getElem?_getD, List.getElem?_eq_getElem h]; exact List.getElem_mem h
     have := (some_key hs hm).1
     omega
   | succ i ih =>
     intro h
     have h1 := ih (by omega)
     have h2 := List.pairwise_iff_getElem.1 hw i (i + 1) (by omega) h (by omega)
     have e1 : t.keys.getD i 0 = t.keys[i] := by simp [List.getD_eq_getElem?_getD, show i < t.keys.length by omega]
     have e2 : t.keys.getD (i + 1) 0 = t.keys[i + 1] := by simp [List.getD_eq_getElem?_getD, h]
     omega
 rcases Nat.eq_zero_or_pos t.keys.length with h | h
 · omega
 · have h1 := hb (t.keys.length - 1) (by omega)
   have hm : t.keys.getD (t.keys.length - 1) 0 ∈ t.keys := by rw [List.getD_eq_getElem?_getD, List.getElem?_eq_getElem (by omega)]; exact List.getElem_mem _
   have := (some_key hs hm).2
   omega
theorem rank_steps {t : Tr} {P : List Int} {A : Int} (hc : curB t P A = true) : ∃ i, i < t.keys.length ∧ i ≤ 99 ∧ curAt t i = (P, A, true) ∧ rankB (curK t P A) t = (i : Int) ∧ walkB t [] 0 (fun _ => goF 0 t []) = curAt t 0 ∧
   ∀ j, j < i → (curAt t j).2.2 = true ∧ ¬ ((curAt t j).1 = P ∧ (curAt t j).2.1 = A) ∧ walkB t (curAt t j).1 (curAt t j).2.1 (fun K => goF (K + 1) t (curAt t j).1) = curAt t (j + 1) := by
 obtain ⟨hs, i, hi, e, ek⟩ := cur_is hc
 have hfew := keys_few' hs
 have hp := (keys_place (Well.of_some hs).2 hi).1
 refine ⟨i, hi, by omega, e, ?_, ?_, fun j hj => ?_⟩
 · rw [ek, (rankB_is _ t).1 hs, hp]
 · rw [whole_first, if_pos ⟨hs, by omega⟩]
 · have hjl : j < t.keys.length := by omega
   obtain ⟨_, g2, g3, _, g5⟩ := curAt_facts hs hjl
   refine ⟨g3, fun ⟨x1, x2⟩ => ?_, by rw [g5, if_pos (by omega)]⟩
   rw [x1, x2, ek] at g2
   have h2 := List.pairwise_iff_getElem.1 (Well.of_some hs).2 j i hjl hi hj
   have e1 : t.keys.getD i 0 = t.keys[i] := by simp [List.getD_eq_getElem?_getD, hi]
   have e2 : t.keys.getD j 0 = t.keys[j] := by simp [List.getD_eq_getElem?_getD, hjl]
   rw [e1, e2] at g2
   omega
end Tr
end Go.Proofs.YticfkfjijnfcbaaDoor
