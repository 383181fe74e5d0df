/- A node's block holds cells. -/
import Derived.Test.YtananonjomfpkaaQc33
/- A list of keys deleted one behind the other: plain data. -/
namespace Go.Proofs.Ytananonjomfpkaa
open Go.RowKit
namespace Tr
structure Gone where
 t : Tr
 b : Nat
 j : Nat
 sh : Bool
def takeKey (wide : Int) (s : Gone) (k : Int) : Gone :=
 if (s.t.path k).2 then ⟨delT wide k s.t, s.b + (del (wide / 2) (s.t.weight + 1) k s.t).b, s.j + (del (wide / 2) (s.t.weight + 1) k s.t).j, s.sh || delShrinks wide k s.t⟩ else s
def gone (wide : Int) (t : Tr) (ks : List Int) : Gone := ks.foldl (takeKey wide) ⟨t, 0, 0, false⟩
theorem gone_snoc (wide : Int) (t : Tr) {ks : List Int} {j : Nat} (h : j < ks.length) : gone wide t (ks.take (j + 1)) = takeKey wide (gone wide t (ks.take j)) (ks.getD j 0) := by
 have e : ks.take (j + 1) = ks.take j ++ [ks.getD j 0] := by
   rw [List.take_add_one, List.getElem?_eq_getElem h, List.getD_eq_getElem?_getD, List.getElem?_eq_getElem h]
   rfl
 rw [e]
 unfold gone
 rw [List.foldl_append]
 rfl
theorem takeKey_valid {wide k : Int} {s : Gone} (h : validB wide s.t = true) : validB wide (takeKey wide s k).t = true ∧ (takeKey wide s k).b ≤ s.b + 1000 ∧ (takeKey wide s k).j ≤ s.j + 1000 := by
 unfold takeKey
 by_cases hp : (s.t.path k).2 = true
 · rw [if_pos hp]
   have hl : lacksB wide k s.t = true := by unfold lacksB; rw [h, hp]; rfl
   have hc := del_count (half := wide / 2) (s.t.weight + 1) k s.t
   have hs := valid_small h
   exact ⟨(delT_facts hl).1, by show s.b + _ ≤ _; omega, by show s.j + _ ≤ _; omega⟩
 · rw [if_neg hp]; exact ⟨h, by omega, by omega⟩
theorem gone_valid {wide : Int} {t : Tr} (h : validB wide t = true) (ks : List Int) : ∀ j, j ≤ ks.length → validB wide (gone wide t (ks.take j)).t = true ∧ (gone wide t (ks.take j)).b ≤ 1000 * j ∧ (gone wide t (ks.take j)).j ≤ 1000 * j := by
 intro j
 induction j with
 | zero => intro _; exact ⟨h, Nat.le_refl _, Nat.le_refl _⟩
 | succ j ih =>
   intro hj
   obtain ⟨h1, h2, h3⟩ := ih (by omega)
   obtain ⟨h4, h5, h6⟩ := takeKey_valid (k := ks.getD j 0) h1
   rw [gone_snoc wide t (by omega)]
   exact ⟨h4, by omega, by omega⟩
def askAll (wide : Int) (t : Tr) (ks : List Int) : Bool := validB wide t && keysOk ks
def goneT (wide : Int) (t : Tr) (ks : List Int) : Tr := if askAll wide t ks = true then (gone wide t ks).t else .mk [] []
end Tr
theorem keysOk_few {ks : List Int} (h : keysOk ks = true) : ks.length ≤ 200 := by
 unfold keysOk at h
 rw [Bool.and_eq_true] at h
 exact of_decide_eq_true h.2
theorem Tr.goneT_weight (wide : Int) (t : Tr) (ks : List Int) : (Tr.goneT wide t ks).weight ≤ 1048576 := by
 unfold goneT
 split
 · rename_i h
   simp only [askAll, Bool.and_eq_true] at h
   have h1 := (gone_valid h.1 ks ks.length (Nat.le_refl _)).1
   rw [List.take_length] at h1
   have := valid_small h1
   omega
 · simp [weight, weights]
end Go.Proofs.Ytananonjomfpkaa
/- Maps of pointers to counts. -/
namespace Go.Proofs.Ytananonjomfpkaa
open Go.RowKit
def CMap (w : World) (b : Nat) (K : Nat → Option Nat) : Prop :=
 ∃ L clock, PMapIs w b L clock ∧ (∀ e ∈ L, PAddr w e.1 ∧ ∃ k n : Nat, e.1 = ⟨k, 0, none⟩ ∧ e.2.1 = .int .i64 n ∧ K k = some n) ∧ ∀ k n, K k = some n → ∃ e ∈ L, e.1 = ⟨k, 0, none⟩
section
variable {P : Program} {T K E V : TypeId} {j jv : TypeInfo}
end
end Go.Proofs.Ytananonjomfpkaa
/- The contract of count: how many keys lie in each node and below it, kept in a map. -/
namespace Go.Proofs.Ytananonjomfpkaa
open Go.RowKit
def kidAt (w : World) (b i p : Nat) : Prop :=
 ∃ (kv : Value) (qb qo n cap : Nat), w.heap[b]? = some (.cells #[kv, .slice (some ⟨qb, qo, none⟩) n cap] 99 (0, 0)) ∧ w.cell? ⟨qb, qo + i, none⟩ = some (.pointer (some ⟨p, 0, none⟩))
inductive Counted (w : World) (K : Nat → Option Nat) : Nat → Tr → Prop where
 | mk (b : Nat) (ks : List Int) (cs : List Tr) (h : K b = some (Tr.mk ks cs).keys.length) (kids : ∀ i (hi : i < cs.length) (p : Nat), kidAt w b i p → Counted w K p cs[i]) : Counted w K b (.mk ks cs)
end Go.Proofs.Ytananonjomfpkaa
/- A node's block holds cells. -/
namespace Go.Proofs.Ytananonjomfpkaa
open Go.RowKit
end Go.Proofs.Ytananonjomfpkaa
