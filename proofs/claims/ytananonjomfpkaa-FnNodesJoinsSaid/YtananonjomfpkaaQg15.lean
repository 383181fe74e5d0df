/- The contract of takeAt, at ints and at pointers to nodes. -/
import Derived.Test.YtananonjomfpkaaQg14
/- Deleting: the key that stands in for one, as plain data. -/
namespace Go.Proofs.Ytananonjomfpkaa
open Go.RowKit
namespace Tr
mutual
def greatest : Tr → Int
 | .mk k cs => if cs.length = 0 then k.getD (k.length - 1) 0 else (greatests cs).getD (cs.length - 1) 0
def greatests : List Tr → List Int
 | [] => []
 | t :: r => greatest t :: greatests r
end
theorem greatests_get (cs : List Tr) (i : Nat) (h : i < cs.length) : (greatests cs).getD i 0 = cs[i].greatest := by
 induction cs generalizing i with
 | nil => simp at h
 | cons t r ih =>
   cases i with
   | zero => simp [greatests]
   | succ i => simpa [greatests] using ih i (by simpa using h)
theorem greatest_leaf {k : List Int} {cs : List Tr} (h : cs.length = 0) : (Tr.mk k cs).greatest = k.getD (k.length - 1) 0 := by
 rw [greatest, if_pos h]
theorem greatest_inner {k : List Int} {cs : List Tr} (h : cs.length - 1 < cs.length) : (Tr.mk k cs).greatest = cs[cs.length - 1].greatest := by
 rw [greatest, if_neg (by omega), greatests_get cs _ h]
mutual
def stand (key : Int) : Tr → Int × Bool
 | .mk k cs =>
   if place key k < k.length ∧ k.getD (place key k) 0 = key then (if cs.length = 0 then (0, false) else ((greatests cs).getD (place key k) 0, true))
   else (stands key cs).getD (place key k) (0, false)
def stands (key : Int) : List Tr → List (Int × Bool)
 | [] => []
 | t :: r => stand key t :: stands key r
end
def standB (wide key : Int) (t : Tr) : Int × Bool := if t.validB wide = true then t.stand key else (0, false)
def hit (key : Int) (t : Tr) : Bool := t.hasAt key && t.inner
def Full (t : Tr) : Prop := ∃ wide least d, 2 ≤ wide ∧ 1 ≤ least ∧ nodesB wide least d t = true
def Tops (t : Tr) : Prop := ∃ wide least d, 2 ≤ wide ∧ nodesB wide least d t = true
theorem Full.tops {t : Tr} (h : Full t) : Tops t := by obtain ⟨w, l, d, h1, _, h3⟩ := h; exact ⟨w, l, d, h1, h3⟩
theorem Tops.kid {k : List Int} {c : List Tr} (h : Tops (.mk k c)) (i : Nat) (hi : i < c.length) : Full c[i] := by
 obtain ⟨w, l, d, h1, hn⟩ := h
 rcases (nodesB_parts hn).2 with ⟨h1, _⟩ | ⟨_, _, _, _, h5⟩
 · omega
 · exact ⟨_, _, _, h1, by omega, h5 i hi⟩
theorem Full.keys {k : List Int} {c : List Tr} (h : Full (.mk k c)) : k.length ≠ 0 := by
 obtain ⟨w, l, d, h1, h2, hn⟩ := h
 have := (nodesB_parts hn).1
 omega
theorem Tops.of_valid {t : Tr} {wide : Int} (h : validB wide t = true) (hw : 2 ≤ wide) : Tops t := by
 unfold validB at h
 simp only [Bool.and_eq_true] at h
 exact ⟨wide, 0, _, hw, h.2.1⟩
theorem someB_valid {t : Tr} {wide : Int} (h : validB wide t = true) : t.someB = true := by
 have h1 : 2 ≤ wide ∧ wide ≤ 6 := by
   have h := h
   unfold validB at h
   simp only [Bool.and_eq_true, inB, decide_eq_true_eq] at h
   exact h.1
 have hq : ((wide.toNat : Nat) : Int) = wide := by omega
 exact (someB_of t).1 wide.toNat (by omega) (by omega) (by rw [hq]; exact h)
end Tr
end Go.Proofs.Ytananonjomfpkaa
/- Deleting a key, as plain data: what is borrowed, what is joined. -/
namespace Go.Proofs.Ytananonjomfpkaa
open Go.RowKit
def takeAt {α : Type} (k : List α) (i : Nat) : List α := k.take i ++ k.drop (i + 1)
theorem takeAt_length {α : Type} {k : List α} {i : Nat} (h : i < k.length) : (takeAt k i).length + 1 = k.length := by simp [takeAt]; omega
theorem takeAt_map {α β : Type} (f : α → β) (k : List α) (i : Nat) : (takeAt k i).map f = takeAt (k.map f) i := by simp [takeAt, List.map_take, List.map_drop]
namespace Tr
def kidAt (c : List Tr) (i : Nat) : Tr := c.getD i (.mk [] [])
theorem kidAt_get {c : List Tr} {i : Nat} (h : i < c.length) : kidAt c i = c[i] := by simp [kidAt, List.getD_eq_getElem?_getD, h]
def setTwo (c : List Tr) (i : Nat) (x y : Tr) : List Tr := c.take i ++ x :: y :: c.drop (i + 2)
def setOne (c : List Tr) (i : Nat) (x : Tr) : List Tr := c.take i ++ x :: c.drop (i + 2)
theorem setTwo_length {c : List Tr} {i : Nat} {x y : Tr} (h : i + 1 < c.length) : (setTwo c i x y).length = c.length := by simp [setTwo]; omega
theorem setOne_length {c : List Tr} {i : Nat} {x : Tr} (h : i + 1 < c.length) : (setOne c i x).length + 1 = c.length := by simp [setOne]; omega
def ahead (k : List Int) (c : List Tr) (i : Nat) : Tr :=
 let f := kidAt c i; let t := kidAt c (i + 1); let l := f.ks.length - 1
 .mk (k.set i (f.ks.getD l 0)) (setTwo c i (.mk (f.ks.take l) (f.cs.take (l + 1))) (.mk (k.getD i 0 :: t.ks) (if f.cs.length = 0 then t.cs else kidAt f.cs (l + 1) :: t.cs)))
def behind (k : List Int) (c : List Tr) (i : Nat) : Tr :=
 let t := kidAt c i; let f := kidAt c (i + 1)
 .mk (k.set i (f.ks.getD 0 0)) (setTwo c i (.mk (t.ks ++ [k.getD i 0]) (if f.cs.length = 0 then t.cs else t.cs ++ [kidAt f.cs 0])) (.mk (f.ks.drop 1) (f.cs.drop 1)))
def joined (k : List Int) (c : List Tr) (i : Nat) : Tr :=
 let a := kidAt c i; let b := kidAt c (i + 1)
 .mk (takeAt k i) (setOne c i (.mk (a.ks ++ k.getD i 0 :: b.ks) (a.cs ++ b.cs)))
def mend (half : Int) (c : List Tr) (i : Nat) : Nat :=
 if 0 < i ∧ half < ((kidAt c (i - 1)).ks.length : Int) then 0
 else if i + 1 < c.length ∧ half < ((kidAt c (i + 1)).ks.length : Int) then 1
 else if 0 < i then 2 else 3
structure Del where
 t : Tr
 b : Nat
 j : Nat
def repair (half : Int) (k : List Int) (c : List Tr) (i : Nat) (b j : Nat) : Del :=
 if half ≤ ((kidAt c i).ks.length : Int) then ⟨.mk k c, b, j⟩
 else match mend half c i with
   | 0 => ⟨ahead k c (i - 1), b + 1, j⟩
   | 1 => ⟨behind k c i, b + 1, j⟩
   | 2 => ⟨joined k c (i - 1), b, j + 1⟩
   | _ => ⟨joined k c i, b, j + 1⟩
def ownKey (key : Int) (k : List Int) : Prop := place key k < k.length ∧ k.getD (place key k) 0 = key
instance (key : Int) (k : List Int) : Decidable (ownKey key k) := by unfold ownKey; infer_instance
def del (half : Int) : Nat → Int → Tr → Del
 | 0, _, t => ⟨t, 0, 0⟩
 | n + 1, key, .mk k c =>
   if c.length = 0 then ⟨.mk (takeAt k (place key k)) [], 0, 0⟩
   else
     let i := place key k
     let g := (kidAt c i).greatest
     let r := del half n (if ownKey key k then g else key) (kidAt c i)
     repair half (if ownKey key k then k.set i g else k) (setKid c i r.t) i r.b r.j
theorem del_leaf {half : Int} {n : Nat} {key : Int} {k : List Int} {c : List Tr} (h : c.length = 0) : del half (n + 1) key (.mk k c) = ⟨.mk (takeAt k (place key k)) [], 0, 0⟩ := by
 rw [del, if_pos h]
theorem del_hit {half : Int} {n : Nat} {key : Int} {k : List Int} {c : List Tr} (h : c.length ≠ 0) (hh : ownKey key k) :
   del half (n + 1) key (.mk k c) = repair half (k.set (place key k) (kidAt c (place key k)).greatest) (setKid c (place key k) (del half n (kidAt c (place key k)).greatest (kidAt c (place key k))).t) (place key k)
     (del half n (kidAt c (place key k)).greatest (kidAt c (place key k))).b (del half n (kidAt c (place key k)).greatest (kidAt c (place key k))).j := by
 rw [del, if_neg h]
 simp only [if_pos hh]
theorem del_miss {half : Int} {n : Nat} {key : Int} {k : List Int} {c : List Tr} (h : c.length ≠ 0) (hh : ¬ ownKey key k) :
   del half (n + 1) key (.mk k c) = repair half k (setKid c (place key k) (del half n key (kidAt c (place key k))).t) (place key k)
     (del half n key (kidAt c (place key k))).b (del half n key (kidAt c (place key k))).j := by
 rw [del, if_neg h]
 simp only [if_neg hh]
def delT (wide key : Int) (t : Tr) : Tr :=
 let r := del (wide / 2) (t.weight + 1) key t
 if r.t.ks.length = 0 ∧ r.t.cs.length ≠ 0 then kidAt r.t.cs 0 else r.t
def delShrinks (wide key : Int) (t : Tr) : Bool :=
 let r := del (wide / 2) (t.weight + 1) key t
 decide (r.t.ks.length = 0 ∧ r.t.cs.length ≠ 0)
end Tr
end Go.Proofs.Ytananonjomfpkaa
/- The contract of way: what repairs a kid that has too few keys. -/
namespace Go.Proofs.Ytananonjomfpkaa
open Go.RowKit
def SBox (w : World) (gb : Nat) (gn : Value) (bo jo : Nat) (sh : Value) (wide : Int) : Prop :=
 w.heap[gb]? = some (.cells #[gn, .int .i64 (bo : Int), .int .i64 (jo : Int), sh, .int .i64 wide] 72 (0, 0))
theorem SBox.cells {w : World} {gb : Nat} {gn : Value} {bo jo : Nat} {sh : Value} {wide : Int} (h : SBox w gb gn bo jo sh wide) :
   w.cell? ⟨gb, 0, none⟩ = some gn ∧ w.cell? ⟨gb, 1, none⟩ = some (.int .i64 (bo : Int)) ∧ w.cell? ⟨gb, 2, none⟩ = some (.int .i64 (jo : Int)) ∧ w.cell? ⟨gb, 3, none⟩ = some sh ∧ w.cell? ⟨gb, 4, none⟩ = some (.int .i64 wide) ∧
   w.frozen? ⟨gb, 0, none⟩ = false ∧ w.frozen? ⟨gb, 1, none⟩ = false ∧ w.frozen? ⟨gb, 2, none⟩ = false ∧ w.frozen? ⟨gb, 3, none⟩ = false := by
 unfold SBox at h
 refine ⟨?_, ?_, ?_, ?_, ?_, ?_, ?_, ?_, ?_⟩ <;> simp [World.cell?, World.frozen?, h]
theorem kid_cells {w : World} {kids : List KidD} (hkids : ∀ y, y ∈ kids → Nd w y.F y.p y.t) {j : Nat} (hj : j < kids.length) :
   ∃ (p : Nat) (a : Option Addr) (c : Nat) (cv : Value), (kids.map KidD.ptr)[j]? = some (.pointer (some ⟨p, 0, none⟩)) ∧ w.cell? ⟨p, 0, none⟩ = some (.slice a (Tr.kidAt (kids.map KidD.t) j).ks.length c) ∧ w.cell? ⟨p, 1, none⟩ = some cv := by
 obtain ⟨⟨p, F, ⟨kx, cx⟩⟩, hx⟩ : ∃ x, x = kids[j] := ⟨_, rfl⟩
 have hn := hkids kids[j] (List.getElem_mem hj)
 rw [← hx] at hn
 obtain ⟨_, Fk, Fc, kv, cv, _, hbox, hkr, _⟩ := hn.parts
 obtain ⟨ka, kc, rfl⟩ := hkr.shown
 obtain ⟨x1, x2, x3, x4⟩ := box2 hbox
 refine ⟨p, ka, kc, cv, ?_, ?_, x2⟩
 · rw [List.getElem?_map, List.getElem?_eq_getElem hj, ← hx]; rfl
 · rw [x1, Tr.kidAt_get (by simpa using hj), List.getElem_map, ← hx]; simp [Tr.ks]
set_option maxRecDepth 100000 in
set_option maxHeartbeats 4000000 in
theorem way_c (wide : Int) (hwide : 2 ≤ wide ∧ wide ≤ 6) (w : World) (gb : Nat) (gn sh : Value) (bo jo b : Nat) (kids : List KidD) {Fc : Cells} {kv cv : Value} (i : Nat) (hg : SBox w gb gn bo jo sh wide)
   (hbox : w.heap[b]? = some (.cells #[kv, cv] 99 (0, 0))) (hcr : RowF w Fc cv (kids.map KidD.ptr)) (hkids : ∀ y, y ∈ kids → Nd w y.F y.p y.t)
   (hi : i < kids.length) (hn : kids.length ≤ 100000) (hkn : ∀ j, (Tr.kidAt (kids.map KidD.t) j).ks.length ≤ 100000) :
   Calls Try.prog 159 #[.pointer (some ⟨gb, 0, none⟩), .pointer (some ⟨b, 0, none⟩), .int .i64 (i : Int)] w
     fun e w' => e = .returned (.int .i64 (Tr.mend (wide / 2) (kids.map KidD.t) i : Nat)) ∧ KeptF (fun _ _ => False) w w' := by
 obtain ⟨_, ca, cc, rfl, c1, c2, c3, c4⟩ := id hcr
 rcases c4 with c4 | ⟨cb, co, rfl, c5, c6⟩
 · rw [c4, List.length_map] at c1; omega
 simp only [List.length_map] at hbox c1
 obtain ⟨n, hnl⟩ : ∃ n, n = kids.length := ⟨_, rfl⟩
 rw [← hnl] at hbox c1 hi hn
 obtain ⟨g0, g1, g2, g3, g4, _⟩ := hg.cells
 obtain ⟨x1, x2, x3, x4⟩ := box2 hbox
 obtain ⟨half, hhalf⟩ : ∃ half, half = wide / 2 := ⟨_, rfl⟩
 rw [← hhalf]
 have hh1 : 1 ≤ half ∧ half ≤ 3 := by omega
 have hd : Int.tdiv wide 2 = half := by rw [Int.tdiv_eq_ediv_of_nonneg (by omega), hhalf]
 have hwm : IntKind.i64.wrap (Int.tdiv wide 2) = half := by rw [hd, IntKind.wrap_i64]; omega
 have kid : ∀ j, j < n → ∃ (p : Nat) (a : Option Addr) (c : Nat), w.cell? ⟨cb, co + j, none⟩ = some (.pointer (some ⟨p, 0, none⟩)) ∧ w.cell? ⟨p, 0, none⟩ = some (.slice a (Tr.kidAt (kids.map KidD.t) j).ks.length c) := fun j hj => by
   obtain ⟨p, a, c, cv', e1, e2, e3⟩ := kid_cells hkids (j := j) (by omega)
   refine ⟨p, a, c, ?_, e2⟩
   rw [c6 j (by rw [List.length_map]; omega)]
   rw [List.getElem?_eq_getElem (by rw [List.length_map]; omega)] at e1
   exact e1
 have hmend : Tr.mend half (kids.map KidD.t) i = if 0 < i ∧ half < ((Tr.kidAt (kids.map KidD.t) (i - 1)).ks.length : Int) then 0 else if i + 1 < n ∧ half < ((Tr.kidAt (kids.map KidD.t) (i + 1)).ks.length : Int) then 1 else if 0 < i then 2 else 3 := by
   unfold Tr.mend; rw [List.length_map, ← hnl]
 rw [hmend]
 have hin : (i : Int) < (n : Int) := by omega
 have hi0 : (0 : Int) ≤ (i : Int) := by omega
 have hn9 : (n : Int) ≤ 100000 := by omega
 obtain ⟨la, hla⟩ : ∃ la, la = (Tr.kidAt (kids.map KidD.t) (i - 1)).ks.length := ⟨_, rfl⟩
 obtain ⟨lb, hlb⟩ : ∃ lb, lb = (Tr.kidAt (kids.map KidD.t) (i + 1)).ks.length := ⟨_, rfl⟩
 have hla9 : la ≤ 100000 := by rw [hla]; exact hkn _
 have hlb9 : lb ≤ 100000 := by rw [hlb]; exact hkn _
 rw [← hla, ← hlb]
 have KA : 0 < i → ∃ (p : Nat) (a : Option Addr) (c : Nat), w.cell? ⟨cb, co + (i - 1), none⟩ = some (.pointer (some ⟨p, 0, none⟩)) ∧ w.cell? ⟨p, 0, none⟩ = some (.slice a la c) := fun h => by rw [hla]; exact kid _ (by omega)
 have KB : i + 1 < n → ∃ (p : Nat) (a : Option Addr) (c : Nat), w.cell? ⟨cb, co + (i + 1), none⟩ = some (.pointer (some ⟨p, 0, none⟩)) ∧ w.cell? ⟨p, 0, none⟩ = some (.slice a lb c) := fun h => by rw [hlb]; exact kid _ h
 have HKA := Lib.hid KA
 have HKB := Lib.hid KB
 have HH := Lib.hid hd
 have HX := Lib.hid (And.intro hhalf (And.intro hla (And.intro hlb hnl)))
 obtain ⟨M, hM⟩ : ∃ M, M = (if 0 < i ∧ half < (la : Int) then 0 else if i + 1 < n ∧ half < (lb : Int) then 1 else if 0 < i then 2 else 3) := ⟨_, rfl⟩
 rw [← hM]
 have HM := Lib.hid hM
 clear KA KB kid hmend hd hhalf hla hlb hnl hM c5 c6 hcr hkids hkn hbox hg
 go_enter Try.func159, Try.ntmps159
 by_cases ha : 0 < i
 · obtain ⟨j, rfl⟩ : ∃ j, i = j + 1 := ⟨i - 1, by omega⟩
   obtain ⟨p, a, c, e1, e2⟩ := HKA.out ha
   rw [Nat.add_sub_cancel] at e1
   have hp1 : ((j + 1 : Nat) : Int) > 0 := by omega
   by_cases hha : half < (la : Int)
   · have hha' : (la : Int) > half := hha
     have hm : M = 0 := by rw [HM.out]; simp [hha]
     subst hm
     go_wp2_with fail
     refine bodyPost_ret (v := .int .i64 (0 : Int)) (by simp [results, Try.results159, go_sem]) rfl ?_
     exact ⟨rfl, KeptF.refl _ _⟩
   · have hha' : ¬ (la : Int) > half := hha
     by_cases hb : j + 1 + 1 < n
     · obtain ⟨q, a', c', e3, e4⟩ := HKB.out hb
       have hb' : ((j + 1 : Nat) : Int) + 1 < (n : Int) := by omega
       by_cases hhb : half < (lb : Int)
       · have hhb' : (lb : Int) > half := hhb
         have hm : M = 1 := by rw [HM.out]; simp [hha, hhb, hb]
         subst hm
         go_wp2_with fail
         refine bodyPost_ret (v := .int .i64 (1 : Int)) (by simp [results, Try.results159, go_sem]) rfl ?_
         exact ⟨rfl, KeptF.refl _ _⟩
       · have hhb' : ¬ (lb : Int) > half := hhb
         have hm : M = 2 := by rw [HM.out]; simp [hha, hhb, hb]
         subst hm
         go_wp2_with fail
         refine bodyPost_ret (v := .int .i64 (2 : Int)) (by simp [results, Try.results159, go_sem]) rfl ?_
         exact ⟨rfl, KeptF.refl _ _⟩
     · have hb' : ¬ ((j + 1 : Nat) : Int) + 1 < (n : Int) := by omega
       have hm : M = 2 := by rw [HM.out]; simp [hha, hb]
       subst hm
       go_wp2_with fail
       refine bodyPost_ret (v := .int .i64 (2 : Int)) (by simp [results, Try.results159, go_sem]) rfl ?_
       exact ⟨rfl, KeptF.refl _ _⟩
 · have hi00 : i = 0 := by omega
   subst hi00
   by_cases hb : 0 + 1 < n
   · obtain ⟨q, a', c', e3, e4⟩ := HKB.out hb
     have hb' : ((0 : Nat) : Int) + 1 < (n : Int) := by omega
     by_cases hhb : half < (lb : Int)
     · have hhb' : (lb : Int) > half := hhb
       have hm : M = 1 := by rw [HM.out]; simp at hb ⊢; simp [hhb, hb]
       subst hm
       go_wp2_with fail
       refine bodyPost_ret (v := .int .i64 (1 : Int)) (by simp [results, Try.results159, go_sem]) rfl ?_
       exact ⟨rfl, KeptF.refl _ _⟩
     · have hhb' : ¬ (lb : Int) > half := hhb
       have hm : M = 3 := by rw [HM.out]; simp [hhb]
       subst hm
       go_wp2_with fail
       refine bodyPost_ret (v := .int .i64 (3 : Int)) (by simp [results, Try.results159, go_sem]) rfl ?_
       exact ⟨rfl, KeptF.refl _ _⟩
   · have hb' : ¬ ((0 : Nat) : Int) + 1 < (n : Int) := by omega
     have hm : M = 3 := by rw [HM.out, if_neg (by omega), if_neg (by omega), if_neg (by omega)]
     subst hm
     go_wp2_with fail
     refine bodyPost_ret (v := .int .i64 (3 : Int)) (by simp [results, Try.results159, go_sem]) rfl ?_
     exact ⟨rfl, KeptF.refl _ _⟩
end Go.Proofs.Ytananonjomfpkaa
/- The contract of takeAt, at ints and at pointers to nodes. -/
namespace Go.Proofs.Ytananonjomfpkaa
open Go.RowKit
theorem take_row (xs : List Value) (i : Nat) (h : i < xs.length) :
   (xs.take i ++ xs.drop (i + 1) ++ xs.drop (i + (xs.drop (i + 1)).length)).take (xs.length - 1) = takeAt xs i := by
 have hl : (xs.take i ++ xs.drop (i + 1)).length = xs.length - 1 := by simp; omega
 rw [List.take_append_of_le_length (by omega), List.take_of_length_le (by omega)]
 rfl
theorem RowF.front {w : World} {F : Cells} {b o n cap : Nat} {xs : List Value} (h : RowF w F (.slice (some ⟨b, o, none⟩) n cap) xs) (hp : 0 < cap) (m : Nat) (hm : m ≤ xs.length) :
   RowF w F (.slice (some ⟨b, o, none⟩) m m) (xs.take m) := by
 have hlt := h.1
 obtain ⟨rfl, h1, h2, h3, h4⟩ := h.cells_of hp
 have hl : (xs.take m).length = m := by simp; omega
 have := RowF.intro (w := w) (F := F) (b := b) (o := o) (cap := m) (xs := xs.take m) hlt (by omega) (by omega) (fun i hi => h3 i (by omega)) (fun i hi => by
   rw [h4 i (by omega)]; simp)
 rwa [hl] at this
set_option maxRecDepth 100000 in
set_option maxHeartbeats 2000000 in
theorem takeInts_c (w : World) (F : Cells) (v : Value) (xs : List Value) (i : Nat) (hr : RowF w F v xs) (hi : i < xs.length) (h1 : ∀ y ∈ xs, y.oneCell' = true) (hn : xs.length ≤ 1048576) :
   Calls Try.prog 140 #[v, .int .i64 i] w fun e w' => ∃ v', e = .returned v' ∧ RowF w' F v' (takeAt xs i) ∧ KeptF F w w' := by
 obtain ⟨i0, hi0, hz0, hz1, hz2⟩ := info_parts Try.appInfo
 have hr0 := hr
 obtain ⟨-, a, cap, rfl, hcap, hmax, -, hown⟩ := hr
 obtain ⟨b, o, rfl, hown, hat⟩ := hown.resolve_left (by omega)
 unfold maxLen at hmax
 obtain ⟨L, hL⟩ : ∃ L, L = xs.length - 1 := ⟨_, rfl⟩
 obtain ⟨D, hD⟩ : ∃ D, D = xs.drop (i + 1) := ⟨_, rfl⟩
 have hDl : D.length = Nat.min (xs.length - (i + 1)) (xs.length - i) := by rw [hD, List.length_drop]; show _ = min _ _; omega
 have hDn : D.length = xs.length - (i + 1) := by rw [hD, List.length_drop]
 have HD := Lib.hid (And.intro hDl hDn)
 have HSRC := Lib.hid (show ∀ j u, D[j]? = some u → w.cell? ((⟨b, o + (i + 1), none⟩ : Addr).add j) = some u from fun j u hj => by
   have hj2 : j < D.length := by rcases Nat.lt_or_ge j D.length with h | h; exact h; rw [List.getElem?_eq_none h] at hj; cases hj
   have e : D[j]? = xs[i + 1 + j]? := by rw [hD, List.getElem?_drop]
   rw [e, List.getElem?_eq_getElem (by omega)] at hj
   rw [Addr.add_lit, Nat.add_assoc, hat (i + 1 + j) (by omega)]
   exact hj)
 have HCC := Lib.hid (show ∀ j, j < D.length → (w.cell? ⟨b, o + i + j, none⟩).isSome = true from fun j hj => by
   have := (hown (i + j) (by omega)).2.1; rwa [← Nat.add_assoc] at this)
 have HFF := Lib.hid (show ∀ j, j < D.length → w.frozen? ⟨b, o + i + j, none⟩ = false from fun j hj => by
   have := (hown (i + j) (by omega)).2.2; rwa [← Nat.add_assoc] at this)
 have H1D := Lib.hid (show ∀ v ∈ D, v.oneCell' = true from fun v hv => h1 v (by rw [hD] at hv; exact List.mem_of_mem_drop hv))
 have HFIN := Lib.hid (show ∀ w3, Hid (w3 = w.drew.setCells b (o + i) D) → RowF w3 F (.slice (some ⟨b, o, none⟩) L L) (takeAt xs i) ∧ KeptF F w w3 from fun w3 h => by
   have h := h.out
   rw [hL]
   have hr2 : RowF w.drew F (.slice (some ⟨b, o, none⟩) xs.length cap) xs := hr0.keep (KeptF.drew (fun _ _ => False) w) (fun _ _ _ h => h)
   have e1 := hr2.splice (by omega) i D (by omega)
   have e2 := e1.front (by omega) (xs.length - 1) (by simp; omega)
   rw [hD, take_row xs i hi, ← hD] at e2
   subst h
   refine ⟨e2, ?_⟩
   exact (KeptF.drew _ _).trans ((KeptF.setCells b D _ _ (fun j hj => by
     have := (hown (i + j) (by omega)).1
     rwa [← Nat.add_assoc] at this)).mono (fun _ _ _ h => .inl h)))
 have hwr1 : IntKind.i64.wrap ((xs.length : Int) - 1) = ((xs.length - 1 : Nat) : Int) := by rw [IntKind.wrap_i64]; omega
 have hwr2 : IntKind.i64.wrap ((i : Int) + 1) = ((i + 1 : Nat) : Int) := by rw [IntKind.wrap_i64]; omega
 rw [← hL] at hwr1
 have HI := Lib.hid (And.intro hi0 (And.intro hz0 (And.intro hz1 hz2)))
 have hii : (i : Int) ≤ (xs.length : Int) := by omega
 have hi1 : (i : Int) + 1 ≤ (xs.length : Int) := by omega
 have hi2 : ((i + 1 : Nat) : Int) ≤ (xs.length : Int) := by omega
 have hi3 : 0 ≤ (i : Int) + 1 := by omega
 have hci : ¬ cap = i := by omega
 have hLc : (L : Int) ≤ (cap : Int) := by omega
 have hLn : (L : Int) ≤ (xs.length : Int) := by omega
 clear hr0 hown hat hD hDl hDn hL hi0 hz0 hz1 hz2 h1
 go_enter Try.func140, Try.ntmps140
 go_upto_region 2 with (fail)
 by_cases hic : cap = i + 1
 · subst hic
   go_region_law (refine step_copy_cells rfl (.tmp 11) (.tmp 15) 23 23 rfl 3 Try.underlying23 (by rw [HI.out.1]; exact congrArg some HI.out.2.2.1) (some ⟨b, o + i, none⟩) (some ⟨b, o, none⟩) (xs.length - i) 1 (xs.length - (i + 1)) 0 (by go_simp) (by go_simp) b (o + i) D (by have := HD.out.2; show _ = min _ _; omega) (fun h => by have := HD.out.2; omega) HCC.out HFF.out H1D.out ?_; intro w3 hw3)
   all_goals (
     go_wp2_with fail
     go_ret
     exact ⟨_, rfl, (HFIN.out _ hw3).1, (HFIN.out _ hw3).2⟩)
 · have hic2 : ¬ cap = i + 1 := hic
   go_region_law (refine step_copy_cells rfl (.tmp 11) (.tmp 15) 23 23 rfl 3 Try.underlying23 (by rw [HI.out.1]; exact congrArg some HI.out.2.2.1) (some ⟨b, o + i, none⟩) (some ⟨b, o + (i + 1), none⟩) (xs.length - i) (cap - i) (xs.length - (i + 1)) (cap - (i + 1)) (by go_simp) (by go_simp) b (o + i) D HD.out.1 (fun _ => ⟨rfl, _, rfl, HSRC.out⟩) HCC.out HFF.out H1D.out ?_; intro w3 hw3)
   all_goals (
     go_wp2_with fail
     go_ret
     exact ⟨_, rfl, (HFIN.out _ hw3).1, (HFIN.out _ hw3).2⟩)
set_option maxRecDepth 100000 in
set_option maxHeartbeats 2000000 in
theorem takePtrs_c (w : World) (F : Cells) (v : Value) (xs : List Value) (i : Nat) (hr : RowF w F v xs) (hi : i < xs.length) (h1 : ∀ y ∈ xs, y.oneCell' = true) (hn : xs.length ≤ 1048576) :
   Calls Try.prog 171 #[v, .int .i64 i] w fun e w' => ∃ v', e = .returned v' ∧ RowF w' F v' (takeAt xs i) ∧ KeptF F w w' := by
 obtain ⟨i0, hi0, hz0, hz1, hz2⟩ := info_parts Try.infoPtr
 have hr0 := hr
 obtain ⟨-, a, cap, rfl, hcap, hmax, -, hown⟩ := hr
 obtain ⟨b, o, rfl, hown, hat⟩ := hown.resolve_left (by omega)
 unfold maxLen at hmax
 obtain ⟨L, hL⟩ : ∃ L, L = xs.length - 1 := ⟨_, rfl⟩
 obtain ⟨D, hD⟩ : ∃ D, D = xs.drop (i + 1) := ⟨_, rfl⟩
 have hDl : D.length = Nat.min (xs.length - (i + 1)) (xs.length - i) := by rw [hD, List.length_drop]; show _ = min _ _; omega
 have hDn : D.length = xs.length - (i + 1) := by rw [hD, List.length_drop]
 have HD := Lib.hid (And.intro hDl hDn)
 have HSRC := Lib.hid (show ∀ j u, D[j]? = some u → w.cell? ((⟨b, o + (i + 1), none⟩ : Addr).add j) = some u from fun j u hj => by
   have hj2 : j < D.length := by rcases Nat.lt_or_ge j D.length with h | h; exact h; rw [List.getElem?_eq_none h] at hj; cases hj
   have e : D[j]? = xs[i + 1 + j]? := by rw [hD, List.getElem?_drop]
   rw [e, List.getElem?_eq_getElem (by omega)] at hj
   rw [Addr.add_lit, Nat.add_assoc, hat (i + 1 + j) (by omega)]
   exact hj)
 have HCC := Lib.hid (show ∀ j, j < D.length → (w.cell? ⟨b, o + i + j, none⟩).isSome = true from fun j hj => by
   have := (hown (i + j) (by omega)).2.1; rwa [← Nat.add_assoc] at this)
 have HFF := Lib.hid (show ∀ j, j < D.length → w.frozen? ⟨b, o + i + j, none⟩ = false from fun j hj => by
   have := (hown (i + j) (by omega)).2.2; rwa [← Nat.add_assoc] at this)
 have H1D := Lib.hid (show ∀ v ∈ D, v.oneCell' = true from fun v hv => h1 v (by rw [hD] at hv; exact List.mem_of_mem_drop hv))
 have HFIN := Lib.hid (show ∀ w3, Hid (w3 = w.drew.setCells b (o + i) D) → RowF w3 F (.slice (some ⟨b, o, none⟩) L L) (takeAt xs i) ∧ KeptF F w w3 from fun w3 h => by
   have h := h.out
   rw [hL]
   have hr2 : RowF w.drew F (.slice (some ⟨b, o, none⟩) xs.length cap) xs := hr0.keep (KeptF.drew (fun _ _ => False) w) (fun _ _ _ h => h)
   have e1 := hr2.splice (by omega) i D (by omega)
   have e2 := e1.front (by omega) (xs.length - 1) (by simp; omega)
   rw [hD, take_row xs i hi, ← hD] at e2
   subst h
   refine ⟨e2, ?_⟩
   exact (KeptF.drew _ _).trans ((KeptF.setCells b D _ _ (fun j hj => by
     have := (hown (i + j) (by omega)).1
     rwa [← Nat.add_assoc] at this)).mono (fun _ _ _ h => .inl h)))
 have hwr1 : IntKind.i64.wrap ((xs.length : Int) - 1) = ((xs.length - 1 : Nat) : Int) := by rw [IntKind.wrap_i64]; omega
 have hwr2 : IntKind.i64.wrap ((i : Int) + 1) = ((i + 1 : Nat) : Int) := by rw [IntKind.wrap_i64]; omega
 rw [← hL] at hwr1
 have HI := Lib.hid (And.intro hi0 (And.intro hz0 (And.intro hz1 hz2)))
 have hii : (i : Int) ≤ (xs.length : Int) := by omega
 have hi1 : (i : Int) + 1 ≤ (xs.length : Int) := by omega
 have hi2 : ((i + 1 : Nat) : Int) ≤ (xs.length : Int) := by omega
 have hi3 : 0 ≤ (i : Int) + 1 := by omega
 have hci : ¬ cap = i := by omega
 have hLc : (L : Int) ≤ (cap : Int) := by omega
 have hLn : (L : Int) ≤ (xs.length : Int) := by omega
 clear hr0 hown hat hD hDl hDn hL hi0 hz0 hz1 hz2 h1
 go_enter Try.func171, Try.ntmps171
 go_upto_region 2 with (fail)
 by_cases hic : cap = i + 1
 · subst hic
   go_region_law (refine step_copy_cells rfl (.tmp 11) (.tmp 15) 95 95 rfl 70 Try.underlying95 (by rw [HI.out.1]; exact congrArg some HI.out.2.2.1) (some ⟨b, o + i, none⟩) (some ⟨b, o, none⟩) (xs.length - i) 1 (xs.length - (i + 1)) 0 (by go_simp) (by go_simp) b (o + i) D (by have := HD.out.2; show _ = min _ _; omega) (fun h => by have := HD.out.2; omega) HCC.out HFF.out H1D.out ?_; intro w3 hw3)
   all_goals (
     go_wp2_with fail
     go_ret
     exact ⟨_, rfl, (HFIN.out _ hw3).1, (HFIN.out _ hw3).2⟩)
 · have hic2 : ¬ cap = i + 1 := hic
   go_region_law (refine step_copy_cells rfl (.tmp 11) (.tmp 15) 95 95 rfl 70 Try.underlying95 (by rw [HI.out.1]; exact congrArg some HI.out.2.2.1) (some ⟨b, o + i, none⟩) (some ⟨b, o + (i + 1), none⟩) (xs.length - i) (cap - i) (xs.length - (i + 1)) (cap - (i + 1)) (by go_simp) (by go_simp) b (o + i) D HD.out.1 (fun _ => ⟨rfl, _, rfl, HSRC.out⟩) HCC.out HFF.out H1D.out ?_; intro w3 hw3)
   all_goals (
     go_wp2_with fail
     go_ret
     exact ⟨_, rfl, (HFIN.out _ hw3).1, (HFIN.out _ hw3).2⟩)
end Go.Proofs.Ytananonjomfpkaa
