/- Two lists that are the same: the laws' own function. -/
import Derived.Test.YtananonjomfpkaaQa0
import Derived.Test.YtananonjomfpkaaQa5
import Derived.Test.YtananonjomfpkaaQa13
import Derived.Test.YtananonjomfpkaaQa22
import Derived.Test.YtananonjomfpkaaQa33
import Derived.Test.YtananonjomfpkaaQa11
import Derived.Test.YtananonjomfpkaaQa24
import Derived.Test.YtananonjomfpkaaQaS7
import Derived.Test.YtananonjomfpkaaQa15
import Derived.Test.YtananonjomfpkaaQa31
import Derived.Test.YtananonjomfpkaaProg
import Derived.Deep.QuietTactic
import Derived.BigQuiet
import Derived.StillTailTactics
import Derived.WalkSmall
import Derived.Test.YtananonjomfpkaaQa12
import Derived.Test.YtananonjomfpkaaQa34
import Derived.Test.YtananonjomfpkaaQa36

/- Inserting: a key comes to its place among the keys of a tree. -/
namespace Go.Proofs.Ytananonjomfpkaa
open Go.RowKit

namespace Tr
end Tr
end Go.Proofs.Ytananonjomfpkaa

/- Two keys inserted in either order: plain data. -/
namespace Go.Proofs.Ytananonjomfpkaa
open Go.RowKit

theorem sorted_ext : ∀ (l m : List Int), l.Pairwise (· < ·) → m.Pairwise (· < ·) → (∀ x, x ∈ l ↔ x ∈ m) → l = m
  | [], [], _, _, _ => rfl
  | [], b :: m, _, _, h => by have := (h b).2 (by simp); cases this
  | a :: l, [], _, _, h => by have := (h a).1 (by simp); cases this
  | a :: l, b :: m, hl, hm, h => by
    obtain ⟨l1, l2⟩ := List.pairwise_cons.1 hl
    obtain ⟨m1, m2⟩ := List.pairwise_cons.1 hm
    have hab : a = b := by
      have h1 := (h a).1 (by simp)
      have h2 := (h b).2 (by simp)
      rcases List.mem_cons.1 h1 with h1 | h1
      · exact h1
      · rcases List.mem_cons.1 h2 with h2 | h2
        · exact h2.symm
        · have := m1 a h1; have := l1 b h2; omega
    subst hab
    rw [sorted_ext l m l2 m2 (fun x => ?_)]
    constructor
    · intro hx
      rcases List.mem_cons.1 ((h x).1 (by simp [hx])) with h3 | h3
      · have := l1 x hx; omega
      · exact h3
    · intro hx
      rcases List.mem_cons.1 ((h x).2 (by simp [hx])) with h3 | h3
      · have := m1 x hx; omega
      · exact h3

namespace Tr
end Tr
end Go.Proofs.Ytananonjomfpkaa

/- Whether two trees are the same, as plain data; the contracts of the functions that compare lists, and of the model's SameTree. -/
namespace Go.Proofs.Ytananonjomfpkaa
open Go.RowKit

namespace Tr
mutual
def sameB : Tr → Tr → Bool
  | .mk k c, .mk k' c' => decide (k = k') && (decide (c.length = c'.length) && samesB c c')
def samesB : List Tr → List Tr → Bool
  | [], _ => true
  | _ :: _, [] => true
  | a :: r, b :: s => sameB a b && samesB r s
end
end Tr

end Go.Proofs.Ytananonjomfpkaa

/- A tree is the same as itself: plain data. -/
namespace Go.Proofs.Ytananonjomfpkaa
open Go.RowKit
namespace Tr
mutual
theorem sameB_refl : ∀ t : Tr, sameB t t = true
  | .mk k c => by simp [sameB, samesB_refl c]
theorem samesB_refl : ∀ c : List Tr, samesB c c = true
  | [] => by simp [samesB]
  | a :: r => by simp [samesB, sameB_refl a, samesB_refl r]
end
end Tr
end Go.Proofs.Ytananonjomfpkaa

/- A list of keys inserted one behind the other: plain data. -/
namespace Go.Proofs.Ytananonjomfpkaa
open Go.RowKit
namespace Tr

def putKey (wide : Int) (s : Tr × Nat) (k : Int) : Tr × Nat := if (s.1.path k).2 then s else (insT wide k s.1, s.2 + insN wide k s.1)
def allIn (wide : Int) (ks : List Int) : Tr × Nat := ks.foldl (putKey wide) (.mk [] [], 0)

def allOk (wide : Int) (ks : List Int) : Bool := inB wide 2 6 && keysOk ks
def insAllT (wide : Int) (ks : List Int) : Tr := if allOk wide ks then (allIn wide ks).1 else .mk [] []
def splitsOfB (wide : Int) (ks : List Int) : Int := if allOk wide ks then ((allIn wide ks).2 : Int) else -1
end Tr

theorem keysOk_at {ks : List Int} (h : keysOk ks = true) : (∀ i, i < ks.length → inB (ks.getD i 0) 0 99 = true) ∧ ks.length ≤ 200 := by
  unfold keysOk at h
  rw [Bool.and_eq_true, List.all_eq_true] at h
  exact ⟨fun i hi => h.1 i (by simpa using hi), of_decide_eq_true h.2⟩

end Go.Proofs.Ytananonjomfpkaa

/- A list of keys inserted, and the same list backwards: plain data. -/
namespace Go.Proofs.Ytananonjomfpkaa
open Go.RowKit
namespace Tr

theorem take_mem {ks : List Int} {j : Nat} (h : j < ks.length) (x : Int) : x ∈ ks.take (j + 1) ↔ x = ks.getD j 0 ∨ x ∈ ks.take j := by
  have e : ks.take (j + 1) = ks.take j ++ [ks.getD j 0] := by
    rw [List.take_add_one, List.getElem?_eq_getElem h, List.getD_eq_getElem?_getD, List.getElem?_eq_getElem h]
    rfl
  rw [e, List.mem_append, List.mem_singleton]
  exact Or.comm

theorem back_snoc {ks : List Int} {j : Nat} (h : j < ks.length) : ks.reverse.take (j + 1) = ks.reverse.take j ++ [ks.getD (ks.length - 1 - j) 0] := by
  rw [List.take_add_one, List.getElem?_reverse h, List.getD_eq_getElem?_getD, List.getElem?_eq_getElem (show ks.length - 1 - j < ks.length by omega)]
  rfl
end Tr
end Go.Proofs.Ytananonjomfpkaa

/- What is left when a list of keys is deleted, in any order: plain data. -/
namespace Go.Proofs.Ytananonjomfpkaa
open Go.RowKit
namespace Tr

theorem take_mem_gone {wide k : Int} {s : Gone} (h : validB wide s.t = true) (x : Int) : x ∈ (takeKey wide s k).t.keys ↔ x ∈ s.t.keys ∧ x ≠ k := by
  unfold takeKey
  by_cases hp : (s.t.path k).2 = true
  · rw [if_pos hp]
    have hl : lacksB wide k s.t = true := by unfold lacksB; rw [h, hp]; rfl
    obtain ⟨-, ⟨A, B, hA, hB⟩, -⟩ := delT_facts hl
    have hs := pairwise_of_sorted (valid_keys h)
    show x ∈ (delT wide k s.t).keys ↔ _
    rw [hB, hA]
    rw [hA] at hs
    obtain ⟨-, h2, h3⟩ := List.pairwise_append.1 hs
    obtain ⟨h4, -⟩ := List.pairwise_cons.1 h2
    simp only [List.mem_append, List.mem_cons]
    constructor
    · rintro (hx | hx)
      · exact ⟨.inl hx, by have := h3 x hx k (by simp); omega⟩
      · exact ⟨.inr (.inr hx), by have := h4 x hx; omega⟩
    · rintro ⟨hx | rfl | hx, hne⟩
      · exact .inl hx
      · exact absurd rfl hne
      · exact .inr hx
  · rw [if_neg hp]
    refine ⟨fun hx => ⟨hx, fun e => hp ?_⟩, fun hx => hx.1⟩
    rw [← e]
    exact (path_iff x s.t (valid_well h)).2 hx

theorem gone_mem {wide : Int} {t : Tr} (h : validB wide t = true) (ks : List Int) (x : Int) : ∀ j, j ≤ ks.length → (x ∈ (gone wide t (ks.take j)).t.keys ↔ x ∈ t.keys ∧ x ∉ ks.take j) := by
  intro j
  induction j with
  | zero => intro _; simp [gone]
  | succ j ih =>
    intro hj
    have h1 := ih (by omega)
    have hv := (gone_valid h ks j (by omega)).1
    rw [gone_snoc wide t (by omega), take_mem_gone hv x, h1, take_mem (by omega) x]
    constructor
    · rintro ⟨⟨h2, h3⟩, h4⟩
      exact ⟨h2, fun h5 => h5.elim h4 h3⟩
    · rintro ⟨h2, h3⟩
      exact ⟨⟨h2, fun h4 => h3 (.inr h4)⟩, fun h4 => h3 (.inl h4)⟩

theorem keysOk_back {ks : List Int} (h : keysOk ks = true) : keysOk ks.reverse = true := by
  obtain ⟨h1, h2⟩ := keysOk_at h
  rw [keysOk_of (fun i hi => ?_)]
  · simpa using h2
  · have hi' : i < ks.length := by simpa using hi
    have := h1 (ks.length - 1 - i) (by omega)
    rw [List.getD_eq_getElem?_getD] at this ⊢
    rwa [List.getElem?_reverse hi']

theorem ask_back (wide : Int) (t : Tr) (ks : List Int) : askAll wide t ks.reverse = askAll wide t ks := by
  unfold askAll
  congr 1
  cases h : keysOk ks with
  | true => exact keysOk_back h
  | false =>
    cases h2 : keysOk ks.reverse with
    | false => rfl
    | true =>
      have := keysOk_back h2
      rw [List.reverse_reverse, h] at this
      cases this

theorem gone_facts {wide : Int} {t : Tr} {ks : List Int} (h : askAll wide t ks = true) :
    validB wide (goneT wide t ks) = true ∧ ∀ x, x ∈ (goneT wide t ks).keys ↔ x ∈ t.keys ∧ x ∉ ks := by
  have h' := h
  simp only [askAll, Bool.and_eq_true] at h'
  have e : goneT wide t ks = (gone wide t ks).t := by simp [goneT, h]
  have v := (gone_valid h'.1 ks ks.length (Nat.le_refl _)).1
  have m := fun x => gone_mem h'.1 ks x ks.length (Nat.le_refl _)
  simp only [List.take_length] at v m
  rw [e]
  exact ⟨v, m⟩

theorem gone_back {wide : Int} {t : Tr} {ks : List Int} (h : askAll wide t ks = true) : (goneT wide t ks.reverse).keys = (goneT wide t ks).keys := by
  obtain ⟨v1, m1⟩ := gone_facts h
  obtain ⟨v2, m2⟩ := gone_facts ((ask_back wide t ks).trans h)
  exact sorted_ext _ _ (pairwise_of_sorted (valid_keys v2)) (pairwise_of_sorted (valid_keys v1)) (fun x => by rw [m2 x, m1 x, List.mem_reverse])

theorem valid_none {wide : Int} {t : Tr} (h : validB wide t = true) (hk : t.keys = []) : t = .mk [] [] := by
  have hl := keys_none hk
  have hw := valid_well h
  have htp := Tops.of_valid h (valid_wide h).1
  obtain ⟨k, c⟩ := t
  simp only [ks] at hl
  obtain rfl := List.length_eq_zero_iff.1 hl
  by_cases hc : c.length = 0
  · rw [List.length_eq_zero_iff.1 hc]
  · have hi := hw.inner hc
    match c, hi, htp, hk with
    | [u], _, htp, hk =>
      have hu : u.keys = [] := by rw [keys_weave, weave_one] at hk; exact hk
      have h1 := htp.kid 0 (by simp)
      obtain ⟨uk, uc⟩ := u
      exact absurd (keys_none hu) h1.keys

theorem all_ask {wide : Int} {t : Tr} (h : validB wide t = true) : askAll wide t t.keys = true := by
  have hs := valid_keys h
  have hm := sorted_mem hs
  have hl := sorted_len hs
  unfold askAll
  rw [h, keysOk_of (fun i hi => ?_)]
  · simp; omega
  · have hx : t.keys.getD i 0 ∈ t.keys := by
      rw [List.getD_eq_getElem?_getD, List.getElem?_eq_getElem hi]
      exact List.getElem_mem hi
    exact inB_true (hm _ hx).1 (hm _ hx).2

theorem gone_all {wide : Int} {t : Tr} {ks : List Int} (h : validB wide t = true) (hk : ∀ x, x ∈ t.keys → x ∈ ks) (ha : askAll wide t ks = true) : goneT wide t ks = .mk [] [] := by
  obtain ⟨v, m⟩ := gone_facts ha
  refine valid_none v (List.eq_nil_iff_forall_not_mem.2 fun x hx => ?_)
  have := (m x).1 hx
  exact this.2 (hk x this.1)
end Tr
end Go.Proofs.Ytananonjomfpkaa

/- Two lists that are the same: the laws' own function. -/
namespace Go.Proofs.Ytananonjomfpkaa
open Go.RowKit

set_option maxHeartbeats 1000000 in
theorem ftSame_c (ks : List Int) (v v' : Value) (w : World) (B : Nat) (hB : B ≤ w.heap.size) (hk : IntsIn w B v ks) (hk' : IntsIn w B v' ks) :
    Calls Try.prog 23 #[v, v'] w fun e w' => e = .returned (.bool true) ∧ Below w.heap.size w w' := by
  obtain ⟨a, cap, rfl, h1, h2, _, h3⟩ := hk
  obtain ⟨a', cap', rfl, h1', h2', _, h3'⟩ := hk'
  unfold maxLen at h2 h2'
  have HK := Lib.hid h3
  have HK' := Lib.hid h3'
  clear h3 h3'
  have heq : ((ks.length : Int) == ks.length) = true := by simp
  have hmin : min (ks.length : Int) (ks.length : Int) = (ks.length : Int) := by simp
  go_enter Try.func23, Try.ntmps23
  go_wp2_with fail
  go_loopw [5, 11] (fun s5 i wr => ∃ (j : Nat), j ≤ ks.length ∧ i = .int .i64 j ∧ Below w.heap.size w wr) (fun _ i _ => ks.length - (intOf i).toNat)
  case atStart => exact ⟨0, Nat.zero_le _, rfl, Below.refl _ _⟩
  case round =>
    obtain ⟨j, hj, rfl, hbel⟩ := hrel
    by_cases hlt : j < ks.length
    · rcases HK.out with h | ⟨b, off, rfl, hb, hat⟩
      · simp [h] at hlt
      rcases HK'.out with h | ⟨b', off', rfl, hb', hat'⟩
      · simp [h] at hlt
      have ha1 : wr.cell? ⟨b, off + j, none⟩ = some (.int .i64 (ks.getD j 0)) := by rw [below_cell hbel (by omega)]; exact hat j hlt
      have ha2 : wr.cell? ⟨b', off' + j, none⟩ = some (.int .i64 (ks.getD j 0)) := by rw [below_cell hbel (by omega)]; exact hat' j hlt
      have hne2 : ((ks.getD j 0 : Int) != ks.getD j 0) = false := by simp
      have hjl : (j : Int) < (ks.length : Int) := by omega
      clear hat hat'
      generalize ks.getD j 0 = x at ha1 ha2 hne2
      go_wp2_with fail
      go_quiet (fail)
      go_wp2_with fail
      go_roundw
      case rel => exact ⟨j + 1, by omega, by go_num, below_drewN hbel _⟩
      case measure => simp [intOf]; omega
    · obtain rfl : j = ks.length := by omega
      have hjl : ¬ ((ks.length : Nat) : Int) < (ks.length : Int) := by omega
      go_wp2_with fail
      go_ret
      exact ⟨rfl, hbel⟩
end Go.Proofs.Ytananonjomfpkaa
