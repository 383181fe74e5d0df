/- How many keys the fullest leaf has; the model's RoomOf. -/
import Derived.Test.YtananonjomfpkaaQhS10
/- The model's KeyAt. -/
namespace Go.Proofs.Ytananonjomfpkaa
open Go.RowKit
def keyL (keys : List Int) (r : Int) : Int × Bool := if 0 ≤ r ∧ r < (keys.length : Int) then (keys.getD r.toNat 0, true) else (0, false)
def Tr.keyAtB (r : Int) (t : Tr) : Int × Bool := if t.someB then keyL t.keys r else (0, false)
-- END
end Go.Proofs.Ytananonjomfpkaa
/- Finding: a key is found where it is among the keys in order; plain data. -/
namespace Go.Proofs.Ytananonjomfpkaa
open Go.RowKit
namespace Tr
end Tr
end Go.Proofs.Ytananonjomfpkaa
/- How many keys the fullest leaf has; the model's RoomOf. -/
namespace Go.Proofs.Ytananonjomfpkaa
open Go.RowKit
namespace Tr
mutual
def leafMax : Tr → Nat
 | .mk k c => max (if c.length = 0 then k.length else 0) (leafMaxs c)
def leafMaxs : List Tr → Nat
 | [] => 0
 | t :: r => max (leafMax t) (leafMaxs r)
end
mutual
theorem leafMax_le {wide : Int} (h0 : 0 ≤ wide) : ∀ (t : Tr) (least depth : Int), nodesB wide least depth t = true → (t.leafMax : Int) ≤ wide
 | .mk k c, least, depth, h => by
   simp only [nodesB, Bool.and_eq_true, Bool.or_eq_true] at h
   have h1 : (k.length : Int) ≤ wide := by have := h.1.1; simp [inB] at this; omega
   rcases h.2 with h2 | h2
   · have hc : c = [] := by simpa using h2
     subst hc
     simp [leafMax, leafMaxs]; omega
   · have := leafMaxs_le h0 c _ h2.2
     simp only [leafMax]
     split <;> omega
theorem leafMaxs_le {wide : Int} (h0 : 0 ≤ wide) : ∀ (c : List Tr) (depth : Int), nodesAllB wide depth c = true → (leafMaxs c : Int) ≤ wide
 | [], depth, _ => by simpa [leafMaxs] using h0
 | t :: r, depth, h => by
   simp only [nodesAllB, Bool.and_eq_true] at h
   have h1 := leafMax_le h0 t _ _ h.1
   have h2 := leafMaxs_le h0 r _ h.2
   simp only [leafMaxs]; omega
end
def roomB (wide : Int) (t : Tr) : Int := if validB wide t then wide - t.leafMax else -1
end Tr
end Go.Proofs.Ytananonjomfpkaa
