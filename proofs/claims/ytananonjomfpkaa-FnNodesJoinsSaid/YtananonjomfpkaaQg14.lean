/- The contract of insertBelow. -/
import Derived.Test.YtananonjomfpkaaQg13
import Derived.Deep.DeepCutAuto
/- The contract of splitKid. -/
namespace Go.Proofs.Ytananonjomfpkaa
open Go.RowKit
theorem KeptF.block' {F : Cells} {w w' : World} (h : KeptF F w w') {b : Nat} {o : Obj} (hb : w.heap[b]? = some o) (hn : ∀ q, ¬ F b q) : w'.heap[b]? = some o :=
 (h.block b (Array.getElem?_eq_some_iff.1 hb).1 hn).trans hb
def Worked (w : World) (F : Cells) (b : Nat) (t : Tr) (e : Ending) (w' : World) : Prop :=
 ∃ F', e = .returned (.tuple #[]) ∧ Nd w' F' b t ∧ (∀ x o, F' x o → F x o ∨ w.heap.size ≤ x) ∧ KeptF F w w'
end Go.Proofs.Ytananonjomfpkaa
/- The contract of insertBelow. -/
namespace Go.Proofs.Ytananonjomfpkaa
open Go.RowKit
namespace Tr
def Fits : Tr → Prop | .mk k c => k.Pairwise (· < ·) ∧ (c.length = 0 ∨ c.length = k.length + 1) ∧ ∀ i (h : i < c.length), Well c[i]
theorem Well.fits {t : Tr} (h : Well t) : Fits t := by
 cases t with
 | mk k c =>
   refine ⟨h.keys, ?_, fun i hi => h.kid i hi⟩
   by_cases h0 : c.length = 0
   · exact .inl h0
   · exact .inr (h.inner h0)
def Shaped (t : Tr) : Prop := t.cs.length = 0 ∨ t.cs.length = t.ks.length + 1
theorem setKid_mid (A B : List Tr) (x u : Tr) : setKid (A ++ x :: B) A.length u = A ++ u :: B := by
 unfold setKid
 rw [List.take_left' rfl, show A ++ x :: B = (A ++ [x]) ++ B by simp, List.drop_left' (by simp)]
end Tr
theorem set_sep {n0 b : Nat} {Fk Fc FX : Cells} {pre post : List KidD} {x : KidD} {px : Nat} {tx : Tr} (hs : Sep b Fk Fc (pre ++ x :: post))
   (hb : b < n0) (lk : ∀ q r, Fk q r → q < n0) (lc : ∀ q r, Fc q r → q < n0) (ly : ∀ y, y ∈ pre ++ x :: post → ∀ q r, y.F q r → q < n0)
   (hX : ∀ q r, FX q r → x.F q r ∨ n0 ≤ q) : Sep b Fk Fc (pre ++ ⟨px, FX, tx⟩ :: post) := by
 have mx : x ∈ pre ++ x :: post := by simp
 have mp : ∀ {y}, y ∈ pre → y ∈ pre ++ x :: post := fun h => by simp [h]
 have mq : ∀ {y}, y ∈ post → y ∈ pre ++ x :: post := fun h => by simp [h]
 have cases' : ∀ {P : KidD → Prop}, (∀ y, y ∈ pre ++ x :: post → P y) → P ⟨px, FX, tx⟩ → ∀ y, y ∈ pre ++ ⟨px, FX, tx⟩ :: post → P y := fun g1 g2 y hy => by
   simp only [List.mem_append, List.mem_cons] at hy
   rcases hy with hy | rfl | hy
   · exact g1 y (mp hy)
   · exact g2
   · exact g1 y (mq hy)
 refine ⟨hs.bk, hs.bc, cases' hs.bs (fun q r h g => ?_), hs.kc, cases' hs.ks (fun q r h g => ?_), cases' hs.cs (fun q r h g => ?_), ?_⟩
 · rcases hX _ _ g with g | g
   · exact hs.bs x mx _ _ h g
   · have : q = b := h; omega
 · rcases hX _ _ g with g | g
   · exact hs.ks x mx _ _ h g
   · have := lk _ _ h; omega
 · rcases hX _ _ g with g | g
   · exact hs.cs x mx _ _ h g
   · have := lc _ _ h; omega
 · have h := hs.ss
   rw [List.pairwise_append, List.pairwise_cons] at h ⊢
   obtain ⟨a1, ⟨a2, a3⟩, a4⟩ := h
   have fromX : ∀ {y}, y ∈ pre ++ x :: post → Apart x.F y.F → Apart FX y.F := fun hy ha q r h g => by
     rcases hX _ _ h with h' | h'
     · exact ha _ _ h' g
     · have := ly _ hy _ _ g; omega
   refine ⟨a1, ⟨fun y hy => fromX (mq hy) (a2 y hy), a3⟩, fun y hy z hz => ?_⟩
   rcases List.mem_cons.1 hz with rfl | hz
   · exact (fromX (mp hy) (a4 y hy x (by simp)).symm).symm
   · exact a4 y hy z (by simp [hz])
theorem KeptF.drewN (F : Cells) (w : World) (n : Nat) : KeptF F w (w.drewN n) := ⟨rfl, rfl, rfl, Nat.le_refl _, fun _ _ _ => rfl, fun _ _ _ _ => rfl, fun _ _ _ => rfl, fun _ _ h => h⟩
def GBox (w : World) (gb : Nat) (gn : Value) (wide : Int) (s : Nat) (gr : Value) : Prop := w.heap[gb]? = some (.cells #[gn, .int .i64 wide, .int .i64 (s : Int), gr] 119 (0, 0))
def Stays (w w' : World) (F : Cells) (b : Nat) (t' : Tr) : Prop :=
 ∀ (kv : Value) (cb co n cc p : Nat) (u0 : Tr), t' = .mk [] [u0] → w.heap[b]? = some (.cells #[kv, .slice (some ⟨cb, co, none⟩) n cc] 99 (0, 0)) →
   w.cell? ⟨cb, co, none⟩ = some (.pointer (some ⟨p, 0, none⟩)) → ∃ FX, Nd w' FX p u0 ∧ (∀ x o, FX x o → F x o ∨ w.heap.size ≤ x)
def Grown (w : World) (F : Cells) (b gb : Nat) (gn : Value) (wide : Int) (s : Nat) (gr : Value) (r : Tr × Nat) (e : Ending) (w' : World) : Prop :=
 ∃ F', e = .returned (.tuple #[]) ∧ Nd w' F' b r.1 ∧ (∀ x o, F' x o → F x o ∨ w.heap.size ≤ x) ∧ KeptF (fun x o => F x o ∨ x = gb) w w' ∧ GBox w' gb gn wide (s + r.2) gr ∧ Stays w w' F b r.1
-- 119
theorem rowF_in {w : World} {F : Cells} {v : Value} {k : List Int} (h : RowF w F v (k.map (Value.int .i64))) : IntsIn w w.heap.size v k := by
 obtain ⟨_, ka, kcap, rfl, k1, k2, k3, k4⟩ := h
 refine ⟨ka, kcap, by simp, by simpa using k1, k2, k3, ?_⟩
 rcases k4 with k4 | ⟨kb, ko, rfl, g1, g2⟩
 · subst k4
   simp at k1
   exact .inl k1
 · by_cases hks : k = []
   · exact .inl hks
   · have hpos : 0 < k.length := by cases k <;> simp_all
     refine .inr ⟨kb, ko, rfl, lt_of_there (o := ko + 0) (g1 0 (by simp at k1; omega)).2.1, fun i hi => ?_⟩
     rw [g2 i (by simpa using hi)]
     simp [hi]
end Go.Proofs.Ytananonjomfpkaa
