/- The contract of takeAt, at ints and at pointers to nodes. -/
import Derived.Test.YtananonjomfpkaaQk20
/- Deleting a key, as plain data: what is borrowed, what is joined. -/
namespace Go.Proofs.Ytananonjomfpkaa
open Go.RowKit
def takeAt {α : Type} (k : List α) (i : Nat) : List α := k.take i ++ k.drop (i + 1)
namespace Tr
def kidAt (c : List Tr) (i : Nat) : Tr := c.getD i (.mk [] [])
def setTwo (c : List Tr) (i : Nat) (x y : Tr) : List Tr := c.take i ++ x :: y :: c.drop (i + 2)
def setOne (c : List Tr) (i : Nat) (x : Tr) : List Tr := c.take i ++ x :: c.drop (i + 2)
def ahead (k : List Int) (c : List Tr) (i : Nat) : Tr :=
 let f := kidAt c i; let t := kidAt c (i + 1); let l := f.ks.length - 1
 .mk (k.set i (f.ks.getD l 0)) (setTwo c i (.mk (f.ks.take l) (f.cs.take (l + 1))) (.mk (k.getD i 0 :: t.ks) (if f.cs.length = 0 then t.cs else kidAt f.cs (l + 1) :: t.cs)))
def behind (k : List Int) (c : List Tr) (i : Nat) : Tr :=
 let t := kidAt c i; let f := kidAt c (i + 1)
 .mk (k.set i (f.ks.getD 0 0)) (setTwo c i (.mk (t.ks ++ [k.getD i 0]) (if f.cs.length = 0 then t.cs else t.cs ++ [kidAt f.cs 0])) (.mk (f.ks.drop 1) (f.cs.drop 1)))
def joined (k : List Int) (c : List Tr) (i : Nat) : Tr :=
 let a := kidAt c i; let b := kidAt c (i + 1)
 .mk (takeAt k i) (setOne c i (.mk (a.ks ++ k.getD i 0 :: b.ks) (a.cs ++ b.cs)))
def mend (half : Int) (c : List Tr) (i : Nat) : Nat :=
 if 0 < i ∧ half < ((kidAt c (i - 1)).ks.length : Int) then 0
 else if i + 1 < c.length ∧ half < ((kidAt c (i + 1)).ks.length : Int) then 1
 else if 0 < i then 2 else 3
structure Del where
 t : Tr
 b : Nat
 j : Nat
def repair (half : Int) (k : List Int) (c : List Tr) (i : Nat) (b j : Nat) : Del :=
 if half ≤ ((kidAt c i).ks.length : Int) then ⟨.mk k c, b, j⟩
 else match mend half c i with
   | 0 => ⟨ahead k c (i - 1), b + 1, j⟩
   | 1 => ⟨behind k c i, b + 1, j⟩
   | 2 => ⟨joined k c (i - 1), b, j + 1⟩
   | _ => ⟨joined k c i, b, j + 1⟩
def ownKey (key : Int) (k : List Int) : Prop := place key k < k.length ∧ k.getD (place key k) 0 = key
instance (key : Int) (k : List Int) : Decidable (ownKey key k) := by unfold ownKey; infer_instance
def del (half : Int) : Nat → Int → Tr → Del
 | 0, _, t => ⟨t, 0, 0⟩
 | n + 1, key, .mk k c =>
   if c.length = 0 then ⟨.mk (takeAt k (place key k)) [], 0, 0⟩
   else
     let i := place key k
     let g := (kidAt c i).greatest
     let r := del half n (if ownKey key k then g else key) (kidAt c i)
     repair half (if ownKey key k then k.set i g else k) (setKid c i r.t) i r.b r.j
def delT (wide key : Int) (t : Tr) : Tr :=
 let r := del (wide / 2) (t.weight + 1) key t
 if r.t.ks.length = 0 ∧ r.t.cs.length ≠ 0 then kidAt r.t.cs 0 else r.t
def delShrinks (wide key : Int) (t : Tr) : Bool :=
 let r := del (wide / 2) (t.weight + 1) key t
 decide (r.t.ks.length = 0 ∧ r.t.cs.length ≠ 0)
end Tr
end Go.Proofs.Ytananonjomfpkaa
/- The contract of way: what repairs a kid that has too few keys. -/
namespace Go.Proofs.Ytananonjomfpkaa
open Go.RowKit
def SBox (w : World) (gb : Nat) (gn : Value) (bo jo : Nat) (sh : Value) (wide : Int) : Prop :=
 w.heap[gb]? = some (.cells #[gn, .int .i64 (bo : Int), .int .i64 (jo : Int), sh, .int .i64 wide] 72 (0, 0))
end Go.Proofs.Ytananonjomfpkaa
/- The contract of takeAt, at ints and at pointers to nodes. -/
namespace Go.Proofs.Ytananonjomfpkaa
open Go.RowKit
end Go.Proofs.Ytananonjomfpkaa
