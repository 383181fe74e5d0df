/- PopLeast: what there is behind the call; plain data. -/
import Derived.Test.YtananonjomfpkaaQg34
/- The contract of the program's KeyAt. -/
namespace Go.Proofs.Ytananonjomfpkaa
open Go.RowKit
end Go.Proofs.Ytananonjomfpkaa
/- The contract of the program's PopLeast. -/
namespace Go.Proofs.Ytananonjomfpkaa
open Go.RowKit
def Tr.popB (wide : Int) (t : Tr) : Bool := (t.keyAtB 0).2 && Tr.lacksB wide (t.keyAtB 0).1 t
def Tr.popK (wide : Int) (t : Tr) : Int := if Tr.popB wide t = true then (t.keyAtB 0).1 else 0
def Tr.popT (wide : Int) (t : Tr) : Tr := if Tr.popB wide t = true then Tr.delT wide (t.keyAtB 0).1 t else .mk [] []
end Go.Proofs.Ytananonjomfpkaa
/- PopLeast: what there is behind the call; plain data. -/
namespace Go.Proofs.Ytananonjomfpkaa
open Go.RowKit
namespace Tr
end Tr
def PopAfter (w5 wx : World) (T : Tr) (p : Nat) : Prop :=
 ∃ (e1 : Option Addr) (e2 e3 : Nat) (e4 : Option Addr) (e5 e6 : Nat) (P : Blocks), wx.heap[p]? = some (.cells #[.slice e1 e2 e3, .slice e4 e5 e6] 26 (0, 0)) ∧
   TreeO wx w5.heap.size P (.slice e1 e2 e3) (.slice e4 e5 e6) T ∧ Below w5.heap.size w5 wx ∧ w5.heap.size ≤ p ∧ (∀ b, P b → b ≠ p)
section
variable {w5 Wc w6 : World} {P : Blocks} {T : Tr} {e1 : Option Addr} {e2 e3 : Nat} {e4 : Option Addr} {e5 e6 : Nat} {b j : Int} {sh : Bool}
end
end Go.Proofs.Ytananonjomfpkaa
