/- The contracts of the functions that weigh an argument: szIntS, szTreeS, szTree. -/
import Derived.Test.YtananonjomfpkaaQh4
/- Inserting a key, as plain data. -/
namespace Go.Proofs.Ytananonjomfpkaa
open Go.RowKit
def putAt {α : Type} (k : List α) (i : Nat) (x : α) : List α := k.take i ++ x :: k.drop i
namespace Tr
def leftOf : Tr → Tr | .mk k c => .mk (k.take (k.length / 2)) (c.take (k.length / 2 + 1))
def rightOf : Tr → Tr | .mk k c => .mk (k.drop (k.length / 2 + 1)) (c.drop (k.length / 2 + 1))
def midOf : Tr → Int | .mk k _ => k.getD (k.length / 2) 0
def splitKid (k : List Int) (c : List Tr) (i : Nat) (u : Tr) : Tr := .mk (putAt k i u.midOf) (c.take i ++ u.leftOf :: u.rightOf :: c.drop (i + 1))
def setKid (c : List Tr) (i : Nat) (u : Tr) : List Tr := c.take i ++ u :: c.drop (i + 1)
def growStep (wide : Int) (k : List Int) (c : List Tr) (i : Nat) (r : Tr × Nat) : Tr × Nat :=
 if wide < r.1.ks.length then (splitKid k c i r.1, r.2 + 1) else (.mk k (setKid c i r.1), r.2)
mutual
def grow (wide key : Int) : Tr → Tr × Nat
 | .mk k c => if c.length = 0 then (.mk (putAt k (place key k) key) [], 0) else growStep wide k c (place key k) ((grows wide key c).getD (place key k) (.mk [] [], 0))
def grows (wide key : Int) : List Tr → List (Tr × Nat)
 | [] => []
 | t :: r => grow wide key t :: grows wide key r
end
def insT (wide key : Int) (t : Tr) : Tr :=
 let u := (grow wide key t).1
 if wide < u.ks.length then .mk [u.midOf] [u.leftOf, u.rightOf] else u
def insN (wide key : Int) (t : Tr) : Nat :=
 let r := grow wide key t
 if wide < r.1.ks.length then r.2 + 1 else r.2
def insG (wide key : Int) (t : Tr) : Bool := decide (wide < ((grow wide key t).1.ks.length : Int))
mutual
theorem grow_count (wide key : Int) : ∀ t : Tr, (grow wide key t).2 ≤ t.weight
 | .mk k c => by
   rw [grow]
   split
   · simp
   · rename_i hc
     have h := grows_count wide key c (place key k) (by cases c <;> simp_all)
     unfold growStep
     simp only [weight]
     split <;> dsimp only <;> omega
theorem grows_count (wide key : Int) : ∀ (c : List Tr) (i : Nat), 0 < c.length → ((grows wide key c).getD i (.mk [] [], 0)).2 + 1 ≤ weights c
 | [], i, h => by simp at h
 | t :: r, i, _ => by
   have h1 := grow_count wide key t
   cases i with
   | zero => simp [grows, weights]; omega
   | succ i =>
     by_cases hr : 0 < r.length
     · have h2 := grows_count wide key r i hr
       simp only [grows, List.getD_cons_succ, weights]
       omega
     · have : r = [] := by cases r <;> simp_all
       subst this
       simp [grows, weights]
end
end Tr
end Go.Proofs.Ytananonjomfpkaa
/- Inserting: a tree whose nodes are as a valid tree's keeps such nodes. -/
namespace Go.Proofs.Ytananonjomfpkaa
open Go.RowKit
namespace Tr
def Over (wide least d : Int) : Tr → Prop
 | .mk k c => (least ≤ (k.length : Int) ∧ (k.length : Int) ≤ wide + 1) ∧ ((c.length = 0 ∧ d = 1) ∨ (c.length ≠ 0 ∧ d ≠ 1 ∧ c.length = k.length + 1 ∧ k.length ≠ 0 ∧ ∀ x ∈ c, nodesB wide (wide / 2) (d - 1) x = true))
end Tr
end Go.Proofs.Ytananonjomfpkaa
/- The contracts of the functions that weigh an argument: szIntS, szTreeS, szTree. -/
namespace Go.Proofs.Ytananonjomfpkaa
open Go.RowKit
def leftOf (n : Int) (m : Nat) : Int := if n < m then -1 else n - m
end Go.Proofs.Ytananonjomfpkaa
