/- The contracts of the functions that copy an argument into new memory: toIntS, toTreeS, toTree. -/
import Derived.Test.YtananonjomfpkaaQd4
import Derived.Deep.OwnRows
/- Deleting: the key that stands in for one, as plain data. -/
namespace Go.Proofs.Ytananonjomfpkaa
open Go.RowKit
namespace Tr
mutual
def greatest : Tr → Int
 | .mk k cs => if cs.length = 0 then k.getD (k.length - 1) 0 else (greatests cs).getD (cs.length - 1) 0
def greatests : List Tr → List Int
 | [] => []
 | t :: r => greatest t :: greatests r
end
theorem greatests_get (cs : List Tr) (i : Nat) (h : i < cs.length) : (greatests cs).getD i 0 = cs[i].greatest := by
 induction cs generalizing i with
 | nil => simp at h
 | cons t r ih =>
   cases i with
   | zero => simp [greatests]
   | succ i => simpa [greatests] using ih i (by simpa using h)
theorem greatest_leaf {k : List Int} {cs : List Tr} (h : cs.length = 0) : (Tr.mk k cs).greatest = k.getD (k.length - 1) 0 := by
 rw [greatest, if_pos h]
theorem greatest_inner {k : List Int} {cs : List Tr} (h : cs.length - 1 < cs.length) : (Tr.mk k cs).greatest = cs[cs.length - 1].greatest := by
 rw [greatest, if_neg (by omega), greatests_get cs _ h]
mutual
def stand (key : Int) : Tr → Int × Bool
 | .mk k cs =>
   if place key k < k.length ∧ k.getD (place key k) 0 = key then (if cs.length = 0 then (0, false) else ((greatests cs).getD (place key k) 0, true))
   else (stands key cs).getD (place key k) (0, false)
def stands (key : Int) : List Tr → List (Int × Bool)
 | [] => []
 | t :: r => stand key t :: stands key r
end
def standB (wide key : Int) (t : Tr) : Int × Bool := if t.validB wide = true then t.stand key else (0, false)
def hit (key : Int) (t : Tr) : Bool := t.hasAt key && t.inner
def Full (t : Tr) : Prop := ∃ wide least d, 2 ≤ wide ∧ 1 ≤ least ∧ nodesB wide least d t = true
def Tops (t : Tr) : Prop := ∃ wide least d, 2 ≤ wide ∧ nodesB wide least d t = true
theorem Full.tops {t : Tr} (h : Full t) : Tops t := by obtain ⟨w, l, d, h1, _, h3⟩ := h; exact ⟨w, l, d, h1, h3⟩
theorem Tops.kid {k : List Int} {c : List Tr} (h : Tops (.mk k c)) (i : Nat) (hi : i < c.length) : Full c[i] := by
 obtain ⟨w, l, d, h1, hn⟩ := h
 rcases (nodesB_parts hn).2 with ⟨h1, _⟩ | ⟨_, _, _, _, h5⟩
 · omega
 · exact ⟨_, _, _, h1, by omega, h5 i hi⟩
theorem Full.keys {k : List Int} {c : List Tr} (h : Full (.mk k c)) : k.length ≠ 0 := by
 obtain ⟨w, l, d, h1, h2, hn⟩ := h
 have := (nodesB_parts hn).1
 omega
theorem Tops.of_valid {t : Tr} {wide : Int} (h : validB wide t = true) (hw : 2 ≤ wide) : Tops t := by
 unfold validB at h
 simp only [Bool.and_eq_true] at h
 exact ⟨wide, 0, _, hw, h.2.1⟩
theorem someB_valid {t : Tr} {wide : Int} (h : validB wide t = true) : t.someB = true := by
 have h1 : 2 ≤ wide ∧ wide ≤ 6 := by
   have h := h
   unfold validB at h
   simp only [Bool.and_eq_true, inB, decide_eq_true_eq] at h
   exact h.1
 have hq : ((wide.toNat : Nat) : Int) = wide := by omega
 exact (someB_of t).1 wide.toNat (by omega) (by omega) (by rw [hq]; exact h)
end Tr
end Go.Proofs.Ytananonjomfpkaa
/- Deleting a key, as plain data: what is borrowed, what is joined. -/
namespace Go.Proofs.Ytananonjomfpkaa
open Go.RowKit
def takeAt {α : Type} (k : List α) (i : Nat) : List α := k.take i ++ k.drop (i + 1)
theorem takeAt_length {α : Type} {k : List α} {i : Nat} (h : i < k.length) : (takeAt k i).length + 1 = k.length := by simp [takeAt]; omega
theorem takeAt_map {α β : Type} (f : α → β) (k : List α) (i : Nat) : (takeAt k i).map f = takeAt (k.map f) i := by simp [takeAt, List.map_take, List.map_drop]
namespace Tr
def kidAt (c : List Tr) (i : Nat) : Tr := c.getD i (.mk [] [])
theorem kidAt_get {c : List Tr} {i : Nat} (h : i < c.length) : kidAt c i = c[i] := by simp [kidAt, List.getD_eq_getElem?_getD, h]
def setTwo (c : List Tr) (i : Nat) (x y : Tr) : List Tr := c.take i ++ x :: y :: c.drop (i + 2)
def setOne (c : List Tr) (i : Nat) (x : Tr) : List Tr := c.take i ++ x :: c.drop (i + 2)
theorem setTwo_length {c : List Tr} {i : Nat} {x y : Tr} (h : i + 1 < c.length) : (setTwo c i x y).length = c.length := by simp [setTwo]; omega
theorem setOne_length {c : List Tr} {i : Nat} {x : Tr} (h : i + 1 < c.length) : (setOne c i x).length + 1 = c.length := by simp [setOne]; omega
def ahead (k : List Int) (c : List Tr) (i : Nat) : Tr :=
 let f := kidAt c i; let t := kidAt c (i + 1); let l := f.ks.length - 1
 .mk (k.set i (f.ks.getD l 0)) (setTwo c i (.mk (f.ks.take l) (f.cs.take (l + 1))) (.mk (k.getD i 0 :: t.ks) (if f.cs.length = 0 then t.cs else kidAt f.cs (l + 1) :: t.cs)))
def behind (k : List Int) (c : List Tr) (i : Nat) : Tr :=
 let t := kidAt c i; let f := kidAt c (i + 1)
 .mk (k.set i (f.ks.getD 0 0)) (setTwo c i (.mk (t.ks ++ [k.getD i 0]) (if f.cs.length = 0 then t.cs else t.cs ++ [kidAt f.cs 0])) (.mk (f.ks.drop 1) (f.cs.drop 1)))
def joined (k : List Int) (c : List Tr) (i : Nat) : Tr :=
 let a := kidAt c i; let b := kidAt c (i + 1)
 .mk (takeAt k i) (setOne c i (.mk (a.ks ++ k.getD i 0 :: b.ks) (a.cs ++ b.cs)))
def mend (half : Int) (c : List Tr) (i : Nat) : Nat :=
 if 0 < i ∧ half < ((kidAt c (i - 1)).ks.length : Int) then 0
 else if i + 1 < c.length ∧ half < ((kidAt c (i + 1)).ks.length : Int) then 1
 else if 0 < i then 2 else 3
structure Del where
 t : Tr
 b : Nat
 j : Nat
def repair (half : Int) (k : List Int) (c : List Tr) (i : Nat) (b j : Nat) : Del :=
 if half ≤ ((kidAt c i).ks.length : Int) then ⟨.mk k c, b, j⟩
 else match mend half c i with
   | 0 => ⟨ahead k c (i - 1), b + 1, j⟩
   | 1 => ⟨behind k c i, b + 1, j⟩
   | 2 => ⟨joined k c (i - 1), b, j + 1⟩
   | _ => ⟨joined k c i, b, j + 1⟩
def ownKey (key : Int) (k : List Int) : Prop := place key k < k.length ∧ k.getD (place key k) 0 = key
instance (key : Int) (k : List Int) : Decidable (ownKey key k) := by unfold ownKey; infer_instance
def del (half : Int) : Nat → Int → Tr → Del
 | 0, _, t => ⟨t, 0, 0⟩
 | n + 1, key, .mk k c =>
   if c.length = 0 then ⟨.mk (takeAt k (place key k)) [], 0, 0⟩
   else
     let i := place key k
     let g := (kidAt c i).greatest
     let r := del half n (if ownKey key k then g else key) (kidAt c i)
     repair half (if ownKey key k then k.set i g else k) (setKid c i r.t) i r.b r.j
theorem del_leaf {half : Int} {n : Nat} {key : Int} {k : List Int} {c : List Tr} (h : c.length = 0) : del half (n + 1) key (.mk k c) = ⟨.mk (takeAt k (place key k)) [], 0, 0⟩ := by
 rw [del, if_pos h]
theorem del_hit {half : Int} {n : Nat} {key : Int} {k : List Int} {c : List Tr} (h : c.length ≠ 0) (hh : ownKey key k) :
   del half (n + 1) key (.mk k c) = repair half (k.set (place key k) (kidAt c (place key k)).greatest) (setKid c (place key k) (del half n (kidAt c (place key k)).greatest (kidAt c (place key k))).t) (place key k)
     (del half n (kidAt c (place key k)).greatest (kidAt c (place key k))).b (del half n (kidAt c (place key k)).greatest (kidAt c (place key k))).j := by
 rw [del, if_neg h]
 simp only [if_pos hh]
theorem del_miss {half : Int} {n : Nat} {key : Int} {k : List Int} {c : List Tr} (h : c.length ≠ 0) (hh : ¬ ownKey key k) :
   del half (n + 1) key (.mk k c) = repair half k (setKid c (place key k) (del half n key (kidAt c (place key k))).t) (place key k)
     (del half n key (kidAt c (place key k))).b (del half n key (kidAt c (place key k))).j := by
 rw [del, if_neg h]
 simp only [if_neg hh]
def delT (wide key : Int) (t : Tr) : Tr :=
 let r := del (wide / 2) (t.weight + 1) key t
 if r.t.ks.length = 0 ∧ r.t.cs.length ≠ 0 then kidAt r.t.cs 0 else r.t
def delShrinks (wide key : Int) (t : Tr) : Bool :=
 let r := del (wide / 2) (t.weight + 1) key t
 decide (r.t.ks.length = 0 ∧ r.t.cs.length ≠ 0)
end Tr
end Go.Proofs.Ytananonjomfpkaa
/- The contracts of the functions that copy an argument into new memory: toIntS, toTreeS, toTree. -/
namespace Go.Proofs.Ytananonjomfpkaa
open Go.RowKit
inductive TreeNew (w : World) (lo : Nat) : Value → Value → Tr → Prop where
 | mk (ks : List Int) (cs : List Tr) (g h : Nat) (kvs cvs : Nat → Value) (hg : lo ≤ g) (hh : lo ≤ h)
     (hk : w.rowIs g 3 ks.length (fun i => .int .i64 (ks.getD i 0)))
     (hc : w.rowIs h 26 (cs.length * 2) (fun j => if j % 2 = 0 then kvs (j / 2) else cvs (j / 2)))
     (hkids : ∀ i (h : i < cs.length), TreeNew w lo (kvs i) (cvs i) cs[i]) :
     TreeNew w lo (.slice (some ⟨g, 0, none⟩) ks.length ks.length) (.slice (some ⟨h, 0, none⟩) cs.length cs.length) (.mk ks cs)
end Go.Proofs.Ytananonjomfpkaa
