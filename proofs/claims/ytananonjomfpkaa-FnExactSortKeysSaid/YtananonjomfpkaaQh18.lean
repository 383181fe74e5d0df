/- The contracts of the reader of drawn bytes: pick, num, of, l15Open. -/
import Derived.Test.YtananonjomfpkaaQhS25
import Derived.IntWalk
/- A list of keys deleted one behind the other: plain data. -/
namespace Go.Proofs.Ytananonjomfpkaa
open Go.RowKit
namespace Tr
structure Gone where
 t : Tr
 b : Nat
 j : Nat
 sh : Bool
def takeKey (wide : Int) (s : Gone) (k : Int) : Gone :=
 if (s.t.path k).2 then ⟨delT wide k s.t, s.b + (del (wide / 2) (s.t.weight + 1) k s.t).b, s.j + (del (wide / 2) (s.t.weight + 1) k s.t).j, s.sh || delShrinks wide k s.t⟩ else s
def gone (wide : Int) (t : Tr) (ks : List Int) : Gone := ks.foldl (takeKey wide) ⟨t, 0, 0, false⟩
def askAll (wide : Int) (t : Tr) (ks : List Int) : Bool := validB wide t && keysOk ks
def goneT (wide : Int) (t : Tr) (ks : List Int) : Tr := if askAll wide t ks = true then (gone wide t ks).t else .mk [] []
end Tr
theorem keysOk_few {ks : List Int} (h : keysOk ks = true) : ks.length ≤ 200 := by
 unfold keysOk at h
 rw [Bool.and_eq_true] at h
 exact of_decide_eq_true h.2
end Go.Proofs.Ytananonjomfpkaa
/- Inserting: a key comes to its place among the keys of a tree. -/
namespace Go.Proofs.Ytananonjomfpkaa
open Go.RowKit
namespace Tr
end Tr
end Go.Proofs.Ytananonjomfpkaa
/- Two keys inserted in either order: plain data. -/
namespace Go.Proofs.Ytananonjomfpkaa
open Go.RowKit
theorem sorted_ext : ∀ (l m : List Int), l.Pairwise (· < ·) → m.Pairwise (· < ·) → (∀ x, x ∈ l ↔ x ∈ m) → l = m
 | [], [], _, _, _ => rfl
 | [], b :: m, _, _, h => by have := (h b).2 (by simp); cases this
 | a :: l, [], _, _, h => by have := (h a).1 (by simp); cases this
 | a :: l, b :: m, hl, hm, h => by
   obtain ⟨l1, l2⟩ := List.pairwise_cons.1 hl
   obtain ⟨m1, m2⟩ := List.pairwise_cons.1 hm
   have hab : a = b := by
     have h1 := (h a).1 (by simp)
     have h2 := (h b).2 (by simp)
     rcases List.mem_cons.1 h1 with h1 | h1
     · exact h1
     · rcases List.mem_cons.1 h2 with h2 | h2
       · exact h2.symm
       · have := m1 a h1; have := l1 b h2; omega
   subst hab
   rw [sorted_ext l m l2 m2 (fun x => ?_)]
   constructor
   · intro hx
     rcases List.mem_cons.1 ((h x).1 (by simp [hx])) with h3 | h3
     · have := l1 x hx; omega
     · exact h3
   · intro hx
     rcases List.mem_cons.1 ((h x).2 (by simp [hx])) with h3 | h3
     · have := m1 x hx; omega
     · exact h3
namespace Tr
end Tr
end Go.Proofs.Ytananonjomfpkaa
/- A list of keys inserted one behind the other: plain data. -/
namespace Go.Proofs.Ytananonjomfpkaa
open Go.RowKit
namespace Tr
def putKey (wide : Int) (s : Tr × Nat) (k : Int) : Tr × Nat := if (s.1.path k).2 then s else (insT wide k s.1, s.2 + insN wide k s.1)
def allIn (wide : Int) (ks : List Int) : Tr × Nat := ks.foldl (putKey wide) (.mk [] [], 0)
def allOk (wide : Int) (ks : List Int) : Bool := inB wide 2 6 && keysOk ks
def insAllT (wide : Int) (ks : List Int) : Tr := if allOk wide ks then (allIn wide ks).1 else .mk [] []
def splitsOfB (wide : Int) (ks : List Int) : Int := if allOk wide ks then ((allIn wide ks).2 : Int) else -1
end Tr
theorem keysOk_at {ks : List Int} (h : keysOk ks = true) : (∀ i, i < ks.length → inB (ks.getD i 0) 0 99 = true) ∧ ks.length ≤ 200 := by
 unfold keysOk at h
 rw [Bool.and_eq_true, List.all_eq_true] at h
 exact ⟨fun i hi => h.1 i (by simpa using hi), of_decide_eq_true h.2⟩
end Go.Proofs.Ytananonjomfpkaa
/- The keys of a list in order, each once: plain data. -/
namespace Go.Proofs.Ytananonjomfpkaa
open Go.RowKit
def sortedTo (ks : List Int) (n : Nat) : List Int := ((List.range n).map (fun i : Nat => (i : Int))).filter (fun x => decide (x ∈ ks))
def sortL (ks : List Int) : List Int := if keysOk ks = true then sortedTo ks 100 else []
theorem sortedTo_snoc (ks : List Int) (n : Nat) : sortedTo ks (n + 1) = if (n : Int) ∈ ks then sortedTo ks n ++ [(n : Int)] else sortedTo ks n := by
 unfold sortedTo
 rw [List.range_succ, List.map_append, List.filter_append]
 by_cases h : (n : Int) ∈ ks
 · rw [if_pos h]; simp [h]
 · rw [if_neg h]; simp [h]
theorem sortedTo_len (ks : List Int) (n : Nat) : (sortedTo ks n).length ≤ n := by
 unfold sortedTo
 exact Nat.le_trans (List.length_filter_le _ _) (by simp)
theorem mem_sortedTo (ks : List Int) (n : Nat) (x : Int) : x ∈ sortedTo ks n ↔ x ∈ ks ∧ 0 ≤ x ∧ x < n := by
 unfold sortedTo
 simp only [List.mem_filter, List.mem_map, List.mem_range, decide_eq_true_eq]
 constructor
 · rintro ⟨⟨i, hi, rfl⟩, h2⟩
   exact ⟨h2, by omega, by omega⟩
 · rintro ⟨h1, h2, h3⟩
   exact ⟨⟨x.toNat, by omega, by omega⟩, h1⟩
theorem sorted_sortedTo (ks : List Int) (n : Nat) : (sortedTo ks n).Pairwise (· < ·) := by
 unfold sortedTo
 refine List.Pairwise.filter _ ?_
 rw [List.pairwise_map]
 exact List.pairwise_lt_range.imp (fun h => by omega)
end Go.Proofs.Ytananonjomfpkaa
/- The contracts of the reader of drawn bytes: pick, num, of, l15Open. -/
namespace Go.Proofs.Ytananonjomfpkaa
open Go.RowKit
def Rd (w : World) (B r : Nat) (bs : List Nat) (p : Nat) : Prop :=
 ∃ (a : Option Addr) (cap : Nat), w.heap[r]? = some (.cells #[.slice a bs.length cap, .int .i64 p] 140 (0, 0)) ∧ bs.length ≤ 2000 ∧ (∀ x ∈ bs, x < 256) ∧ B ≤ r ∧
   (bs = [] ∨ ∃ b o, a = some ⟨b, o, none⟩ ∧ b < B ∧ ∀ i, i < bs.length → w.cell? ⟨b, o + i, none⟩ = some (.int .u8 (bs.getD i 0 : Nat)))
def Picked (w : World) (r p : Nat) (n : Int) (e : Ending) (w' : World) : Prop :=
 ∃ (x : Int) (m : Nat), e = .returned (.int .i64 x) ∧ 0 ≤ x ∧ (1 ≤ n → x < n) ∧ (n < 1 → x = 0) ∧ w' = (w.setCell ⟨r, 1, none⟩ (.int .i64 (p + 1))).drewN m
end Go.Proofs.Ytananonjomfpkaa
