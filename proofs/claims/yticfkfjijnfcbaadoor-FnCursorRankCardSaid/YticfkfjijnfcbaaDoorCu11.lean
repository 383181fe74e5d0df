/- Inserting: a tree whose nodes are as a valid tree's keeps such nodes. -/
import Derived.Test.YticfkfjijnfcbaaDoorCu10
/- Deleting: the key that stands in for one, as plain data. -/
namespace Go.Proofs.YticfkfjijnfcbaaDoor
open Go.RowKit
namespace Tr
mutual
def greatest : Tr → Int
 | .mk k cs => if cs.length = 0 then k.getD (k.length - 1) 0 else (greatests cs).getD (cs.length - 1) 0
def greatests : List Tr → List Int
 | [] => []
 | t :: r => greatest t :: greatests r
end
mutual
def stand (key : Int) : Tr → Int × Bool
 | .mk k cs =>
   if place key k < k.length ∧ k.getD (place key k) 0 = key then (if cs.length = 0 then (0, false) else ((greatests cs).getD (place key k) 0, true))
   else (stands key cs).getD (place key k) (0, false)
def stands (key : Int) : List Tr → List (Int × Bool)
 | [] => []
 | t :: r => stand key t :: stands key r
end
def standB (wide key : Int) (t : Tr) : Int × Bool := if t.validB wide = true then t.stand key else (0, false)
def hit (key : Int) (t : Tr) : Bool := t.hasAt key && t.inner
def Full (t : Tr) : Prop := ∃ wide least d, 2 ≤ wide ∧ 1 ≤ least ∧ nodesB wide least d t = true
def Tops (t : Tr) : Prop := ∃ wide least d, 2 ≤ wide ∧ nodesB wide least d t = true
end Tr
end Go.Proofs.YticfkfjijnfcbaaDoor
/- Inserting a key, as plain data. -/
namespace Go.Proofs.YticfkfjijnfcbaaDoor
open Go.RowKit
def putAt {α : Type} (k : List α) (i : Nat) (x : α) : List α := k.take i ++ x :: k.drop i
namespace Tr
def leftOf : Tr → Tr | .mk k c => .mk (k.take (k.length / 2)) (c.take (k.length / 2 + 1))
def rightOf : Tr → Tr | .mk k c => .mk (k.drop (k.length / 2 + 1)) (c.drop (k.length / 2 + 1))
def midOf : Tr → Int | .mk k _ => k.getD (k.length / 2) 0
def splitKid (k : List Int) (c : List Tr) (i : Nat) (u : Tr) : Tr := .mk (putAt k i u.midOf) (c.take i ++ u.leftOf :: u.rightOf :: c.drop (i + 1))
def setKid (c : List Tr) (i : Nat) (u : Tr) : List Tr := c.take i ++ u :: c.drop (i + 1)
def growStep (wide : Int) (k : List Int) (c : List Tr) (i : Nat) (r : Tr × Nat) : Tr × Nat :=
 if wide < r.1.ks.length then (splitKid k c i r.1, r.2 + 1) else (.mk k (setKid c i r.1), r.2)
mutual
def grow (wide key : Int) : Tr → Tr × Nat
 | .mk k c => if c.length = 0 then (.mk (putAt k (place key k) key) [], 0) else growStep wide k c (place key k) ((grows wide key c).getD (place key k) (.mk [] [], 0))
def grows (wide key : Int) : List Tr → List (Tr × Nat)
 | [] => []
 | t :: r => grow wide key t :: grows wide key r
end
def insT (wide key : Int) (t : Tr) : Tr :=
 let u := (grow wide key t).1
 if wide < u.ks.length then .mk [u.midOf] [u.leftOf, u.rightOf] else u
def insN (wide key : Int) (t : Tr) : Nat :=
 let r := grow wide key t
 if wide < r.1.ks.length then r.2 + 1 else r.2
def insG (wide key : Int) (t : Tr) : Bool := decide (wide < ((grow wide key t).1.ks.length : Int))
mutual
theorem grow_count (wide key : Int) : ∀ t : Tr, (grow wide key t).2 ≤ t.weight
 | .mk k c => by
   rw [grow]
   split
   · simp
   · rename_i hc
     have h := grows_count wide key c (place key k) (by cases c <;> simp_all)
     unfold growStep
     simp only [weight]
     split <;> dsimp only <;> omega
theorem grows_count (wide key : Int) : ∀ (c : List Tr) (i : Nat), 0 < c.length → ((grows wide key c).getD i (.mk [] [], 0)).2 + 1 ≤ weights c
 | [], i, h => by simp at h
 | t :: r, i, _ => by
   have h1 := grow_count wide key t
   cases i with
   | zero => simp [grows, weights]; omega
   | succ i =>
     by_cases hr : 0 < r.length
     · have h2 := grows_count wide key r i hr
       simp only [grows, List.getD_cons_succ, weights]
       omega
     · have : r = [] := by cases r <;> simp_all
       subst this
       simp [grows, weights]
end
end Tr
end Go.Proofs.YticfkfjijnfcbaaDoor
/- Inserting: a tree whose nodes are as a valid tree's keeps such nodes. -/
namespace Go.Proofs.YticfkfjijnfcbaaDoor
open Go.RowKit
namespace Tr
def Over (wide least d : Int) : Tr → Prop
 | .mk k c => (least ≤ (k.length : Int) ∧ (k.length : Int) ≤ wide + 1) ∧ ((c.length = 0 ∧ d = 1) ∨ (c.length ≠ 0 ∧ d ≠ 1 ∧ c.length = k.length + 1 ∧ k.length ≠ 0 ∧ ∀ x ∈ c, nodesB wide (wide / 2) (d - 1) x = true))
theorem nodes_mem {wide least d : Int} {k : List Int} {c : List Tr} (h : nodesB wide least d (.mk k c) = true) :
   (least ≤ (k.length : Int) ∧ (k.length : Int) ≤ wide) ∧ ((c.length = 0 ∧ d = 1) ∨ (c.length ≠ 0 ∧ d ≠ 1 ∧ c.length = k.length + 1 ∧ k.length ≠ 0 ∧ ∀ x ∈ c, nodesB wide (wide / 2) (d - 1) x = true)) := by
 obtain ⟨h1, h2⟩ := nodesB_parts h
 refine ⟨h1, h2.imp id (fun ⟨a, b, c', e, f⟩ => ⟨a, b, c', e, fun x hx => ?_⟩)⟩
 obtain ⟨i, hi, rfl⟩ := List.getElem_of_mem hx
 exact f i hi
end Tr
end Go.Proofs.YticfkfjijnfcbaaDoor
