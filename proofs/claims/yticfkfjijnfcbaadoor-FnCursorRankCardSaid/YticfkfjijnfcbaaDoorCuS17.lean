/- The contracts of the functions that copy an argument into new memory: toIntS, toTreeS, toTree. -/
import Derived.Test.YticfkfjijnfcbaaDoorCu0
import Derived.Deep.OwnRows
namespace Go.Proofs.YticfkfjijnfcbaaDoor
open Go.RowKit
inductive TreeNew (w : World) (lo : Nat) : Value → Value → Tr → Prop where
 | mk (ks : List Int) (cs : List Tr) (g h : Nat) (kvs cvs : Nat → Value) (hg : lo ≤ g) (hh : lo ≤ h)
     (hk : w.rowIs g 3 ks.length (fun i => .int .i64 (ks.getD i 0)))
     (hc : w.rowIs h 33 (cs.length * 2) (fun j => if j % 2 = 0 then kvs (j / 2) else cvs (j / 2)))
     (hkids : ∀ i (h : i < cs.length), TreeNew w lo (kvs i) (cvs i) cs[i]) :
     TreeNew w lo (.slice (some ⟨g, 0, none⟩) ks.length ks.length) (.slice (some ⟨h, 0, none⟩) cs.length cs.length) (.mk ks cs)
end Go.Proofs.YticfkfjijnfcbaaDoor
