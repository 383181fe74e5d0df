/- The contract of splitKid. -/
import Derived.Test.YtepkigcbjepbpaaProg
import Derived.Test.YtepkigcbjepbpaaSh0
import Derived.Test.YtepkigcbjepbpaaSh4
import Derived.Test.YtepkigcbjepbpaaSh6
import Derived.Test.YtepkigcbjepbpaaSh8
import Derived.Deep.Cut
import Derived.Deep.DeepCutAuto
import Derived.Deep.RegionLaw
namespace Go.Proofs.Ytepkigcbjepbpaa
open Go.RowKit

theorem KeptF.block' {F : Cells} {w w' : World} (h : KeptF F w w') {b : Nat} {o : Obj} (hb : w.heap[b]? = some o) (hn : ∀ q, ¬ F b q) : w'.heap[b]? = some o :=
  (h.block b (Array.getElem?_eq_some_iff.1 hb).1 hn).trans hb

/-- Kids in whose midst one has become two. -/
theorem split_sep {n0 n1 n2 b : Nat} {Fk Fc F1 F5 FL FR : Cells} {pre post : List KidD} {x : KidD} {pl pr : Nat} {tl tr : Tr} (hs : Sep b Fk Fc (pre ++ x :: post))
    (hb : b < n0) (lk : ∀ q r, Fk q r → q < n0) (lc : ∀ q r, Fc q r → q < n0) (ly : ∀ y, y ∈ pre ++ x :: post → ∀ q r, y.F q r → q < n0)
    (hL : ∀ q r, FL q r → x.F q r ∨ n0 ≤ q) (hR : ∀ q r, FR q r → x.F q r ∨ n0 ≤ q) (hLR : Apart FL FR) (lL : ∀ q r, FL q r → q < n1) (lR : ∀ q r, FR q r → q < n1) (hn1 : n0 ≤ n1) (hn2 : n1 ≤ n2)
    (h1 : ∀ q r, F1 q r → Fk q r ∨ n1 ≤ q) (l1 : ∀ q r, F1 q r → q < n2) (h5 : ∀ q r, F5 q r → Fc q r ∨ n2 ≤ q) :
    Sep b F1 F5 (pre ++ ⟨pl, FL, tl⟩ :: ⟨pr, FR, tr⟩ :: post) := by
  have mx : x ∈ pre ++ x :: post := by simp
  have mp : ∀ {y}, y ∈ pre → y ∈ pre ++ x :: post := fun h => by simp [h]
  have mq : ∀ {y}, y ∈ post → y ∈ pre ++ x :: post := fun h => by simp [h]
  have cases' : ∀ {P : KidD → Prop}, (∀ y, y ∈ pre ++ x :: post → P y) → P ⟨pl, FL, tl⟩ → P ⟨pr, FR, tr⟩ → ∀ y, y ∈ pre ++ ⟨pl, FL, tl⟩ :: ⟨pr, FR, tr⟩ :: post → P y := fun g1 g2 g3 y hy => by
    simp only [List.mem_append, List.mem_cons] at hy
    rcases hy with hy | rfl | rfl | hy
    · exact g1 y (mp hy)
    · exact g2
    · exact g3
    · exact g1 y (mq hy)
  refine ⟨?_, ?_, ?_, ?_, ?_, ?_, ?_⟩
  · intro q r h g
    rcases h1 _ _ g with g | g
    · exact hs.bk _ _ h g
    · have : q = b := h; omega
  · intro q r h g
    rcases h5 _ _ g with g | g
    · exact hs.bc _ _ h g
    · have : q = b := h; omega
  · refine cases' hs.bs (fun q r h g => ?_) (fun q r h g => ?_)
    · rcases hL _ _ g with g | g
      · exact hs.bs x mx _ _ h g
      · have : q = b := h; omega
    · rcases hR _ _ g with g | g
      · exact hs.bs x mx _ _ h g
      · have : q = b := h; omega
  · intro q r h g
    rcases h1 _ _ h with h' | h' <;> rcases h5 _ _ g with g' | g'
    · exact hs.kc _ _ h' g'
    · have := lk _ _ h'; omega
    · have := lc _ _ g'; omega
    · have := l1 _ _ h; omega
  · refine cases' (fun y hy q r h g => ?_) (fun q r h g => ?_) (fun q r h g => ?_)
    · rcases h1 _ _ h with h' | h'
      · exact hs.ks y hy _ _ h' g
      · have := ly y hy _ _ g; omega
    · rcases h1 _ _ h with h' | h'
      · rcases hL _ _ g with g' | g'
        · exact hs.ks x mx _ _ h' g'
        · have := lk _ _ h'; omega
      · have := lL _ _ g; omega
    · rcases h1 _ _ h with h' | h'
      · rcases hR _ _ g with g' | g'
        · exact hs.ks x mx _ _ h' g'
        · have := lk _ _ h'; omega
      · have := lR _ _ g; omega
  · refine cases' (fun y hy q r h g => ?_) (fun q r h g => ?_) (fun q r h g => ?_)
    · rcases h5 _ _ h with h' | h'
      · exact hs.cs y hy _ _ h' g
      · have := ly y hy _ _ g; omega
    · rcases h5 _ _ h with h' | h'
      · rcases hL _ _ g with g' | g'
        · exact hs.cs x mx _ _ h' g'
        · have := lc _ _ h'; omega
      · have := lL _ _ g; omega
    · rcases h5 _ _ h with h' | h'
      · rcases hR _ _ g with g' | g'
        · exact hs.cs x mx _ _ h' g'
        · have := lc _ _ h'; omega
      · have := lR _ _ g; omega
  · have h := hs.ss
    rw [List.pairwise_append, List.pairwise_cons] at h ⊢
    rw [List.pairwise_cons]
    obtain ⟨a1, ⟨a2, a3⟩, a4⟩ := h
    have fromL : ∀ {y}, y ∈ pre ++ x :: post → Apart x.F y.F → Apart FL y.F := fun hy ha q r h g => by
      rcases hL _ _ h with h' | h'
      · exact ha _ _ h' g
      · have := ly _ hy _ _ g; omega
    have fromR : ∀ {y}, y ∈ pre ++ x :: post → Apart x.F y.F → Apart FR y.F := fun hy ha q r h g => by
      rcases hR _ _ h with h' | h'
      · exact ha _ _ h' g
      · have := ly _ hy _ _ g; omega
    refine ⟨a1, ⟨?_, ?_, a3⟩, ?_⟩
    · intro y hy
      rcases List.mem_cons.1 hy with rfl | hy
      · exact hLR
      · exact fromL (mq hy) (a2 y hy)
    · intro y hy
      exact fromR (mq hy) (a2 y hy)
    · intro y hy z hz
      simp only [List.mem_cons] at hz
      rcases hz with rfl | rfl | hz
      · exact (fromL (mp hy) (a4 y hy x (by simp)).symm).symm
      · exact (fromR (mp hy) (a4 y hy x (by simp)).symm).symm
      · exact a4 y hy z (by simp [hz])

theorem putAt_mid {α : Type} (A B : List α) (l r : α) : putAt (A ++ l :: B) (A.length + 1) r = A ++ l :: r :: B := by
  unfold putAt
  rw [show A ++ l :: B = (A ++ [l]) ++ B by simp, List.take_left' (by simp), List.drop_left' (by simp)]
  simp

/-- What is left of a node that has been worked on. -/
def Worked (w : World) (F : Cells) (b : Nat) (t : Tr) (e : Ending) (w' : World) : Prop :=
  ∃ F', e = .returned (.tuple #[]) ∧ Nd w' F' b t ∧ (∀ x o, F' x o → F x o ∨ w.heap.size ≤ x) ∧ KeptF F w w'


end Go.Proofs.Ytepkigcbjepbpaa
