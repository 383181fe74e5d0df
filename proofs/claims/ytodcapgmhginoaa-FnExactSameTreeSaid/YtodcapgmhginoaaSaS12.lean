/- Whether two trees are the same, as plain data; the contracts of the functions that compare lists, and of the model's SameTree. -/
import Derived.Test.YtodcapgmhginoaaProg
import Derived.Test.YtodcapgmhginoaaSaS0
import Derived.Deep.QuietTactic
import Derived.BigQuiet
import Derived.StillTailTactics
import Derived.WalkSmall
namespace Go.Proofs.Ytodcapgmhginoaa
open Go.RowKit

namespace Tr
mutual
/-- Whether two trees are the same. -/
def sameB : Tr → Tr → Bool
  | .mk k c, .mk k' c' => decide (k = k') && (decide (c.length = c'.length) && samesB c c')
def samesB : List Tr → List Tr → Bool
  | [], _ => true
  | _ :: _, [] => true
  | a :: r, b :: s => sameB a b && samesB r s
end
theorem samesB_iff : ∀ (c c' : List Tr), c.length = c'.length → (samesB c c' = true ↔ ∀ i (h : i < c.length) (h' : i < c'.length), sameB c[i] c'[i] = true)
  | [], _, _ => by simp [samesB]
  | _ :: _, [], h => by simp at h
  | a :: r, b :: s, h => by
    have ih := samesB_iff r s (by simpa using h)
    simp only [samesB, Bool.and_eq_true, ih]
    constructor
    · rintro ⟨h1, h2⟩ i hi hi'
      cases i with
      | zero => exact h1
      | succ i => exact h2 i (by simpa using hi) (by simpa using hi')
    · intro h
      refine ⟨h 0 (by simp) (by simp), fun i hi hi' => ?_⟩
      exact h (i + 1) (by simpa using hi) (by simpa using hi')
end Tr

theorem ints_eq_of {ks ks' : List Int} (hl : ks.length = ks'.length) (h : ∀ i, i < ks.length → ks.getD i 0 = ks'.getD i 0) : ks = ks' := by
  apply List.ext_getElem hl
  intro i h1 h2
  have := h i h1
  simpa [List.getD_eq_getElem?_getD, h1, h2] using this

set_option maxHeartbeats 1000000 in
theorem l1Ints_c (ks ks' : List Int) (v v' : Value) (w : World) (B : Nat) (hB : B ≤ w.heap.size) (hk : IntsIn w B v ks) (hk' : IntsIn w B v' ks') :
    Calls Try.prog 74 #[v, v'] w fun e w' => e = .returned (.bool (decide (ks = ks'))) ∧ Below w.heap.size w w' := by
  obtain ⟨a, cap, rfl, h1, h2, _, h3⟩ := hk
  obtain ⟨a', cap', rfl, h1', h2', _, h3'⟩ := hk'
  unfold maxLen at h2 h2'
  have HK := Lib.hid h3
  have HK' := Lib.hid h3'
  clear h3 h3'
  go_enter Try.func74, Try.ntmps74
  go_wp2_with fail
  all_goals (
    go_loopw [11] (fun i wr => ∃ (j : Nat), j ≤ ks.length ∧ j ≤ ks'.length ∧ i = .int .i64 j ∧ Hid (∀ i, i < j → ks.getD i 0 = ks'.getD i 0) ∧ Below w.heap.size w wr) (fun i _ => ks.length - (intOf i).toNat)
    case atStart => exact ⟨0, Nat.zero_le _, Nat.zero_le _, rfl, Lib.hid (fun i h => by omega), Below.refl _ _⟩
    case round =>
      obtain ⟨j, hj, hj', rfl, HE, hbel⟩ := hrel
      by_cases hlt : j < ks.length ∧ j < ks'.length
      · obtain ⟨hl1, hl2⟩ := hlt
        rcases HK.out with h | ⟨b, off, rfl, hb, hat⟩
        · simp [h] at hl1
        rcases HK'.out with h | ⟨b', off', rfl, hb', hat'⟩
        · simp [h] at hl2
        have ha1 : wr.cell? ⟨b, off + j, none⟩ = some (.int .i64 (ks.getD j 0)) := by rw [below_cell hbel (by omega)]; exact hat j hl1
        have ha2 : wr.cell? ⟨b', off' + j, none⟩ = some (.int .i64 (ks'.getD j 0)) := by rw [below_cell hbel (by omega)]; exact hat' j hl2
        obtain ⟨x, hx⟩ : ∃ x, x = ks.getD j 0 := ⟨_, rfl⟩
        obtain ⟨y, hy⟩ : ∃ y, y = ks'.getD j 0 := ⟨_, rfl⟩
        rw [← hx] at ha1
        rw [← hy] at ha2
        have HX := Lib.hid hx
        have HY := Lib.hid hy
        clear hat hat' hx hy
        by_cases hxy : x = y
        · have hne2 : (x != y) = false := by simp [hxy]
          have HXY := Lib.hid hxy
          clear hxy
          go_wp2_with fail
          go_quiet (fail)
          go_wp2_with fail
          go_roundw
          case rel =>
            refine ⟨j + 1, by omega, by omega, by go_num, Lib.hid (fun i hi => ?_), below_drewN hbel _⟩
            by_cases hij : i = j
            · rw [hij, ← HX.out, ← HY.out]; exact HXY.out
            · exact HE.out i (by omega)
          case measure => simp [intOf]; omega
        · have hne2 : (x != y) = true := by simp [hxy]
          have HXY := Lib.hid hxy
          clear hxy
          go_wp2_with fail
          go_quiet (fail)
          go_wp2_with fail
          go_ret
          refine ⟨ret_bool (Eq.symm (decide_eq_false ?_)), below_drewN hbel _⟩
          intro e
          exact HXY.out (by rw [HX.out, HY.out, e])
      · first | have hje : j = ks.length := by omega | have hje : j = ks'.length := by omega
        subst hje
        go_wp2_with fail
        go_ret
        refine ⟨ret_bool ?_, hbel⟩
        by_cases hl : ks.length = ks'.length
        · rw [decide_eq_true (ints_eq_of hl (fun i hi => HE.out i (by omega)))]
          simp [hl]
        · rw [decide_eq_false (fun e => hl (by rw [e]))]
          simp; omega)

set_option maxHeartbeats 1000000 in
theorem equal_c (ks ks' : List Int) (v v' : Value) (w : World) (B : Nat) (hk : IntsIn w B v ks) (hk' : IntsIn w B v' ks') (n0 : Nat) (r : Bool) (hr : decide (ks = ks') = r) :
    Calls Try.prog 75 #[v, v'] (w.drewN n0) fun e w' => e = .returned (.bool r) ∧ ∃ m, w' = w.drewN m := by
  subst hr
  obtain ⟨a, cap, rfl, h1, h2, _, h3⟩ := hk
  obtain ⟨a', cap', rfl, h1', h2', _, h3'⟩ := hk'
  unfold maxLen at h2 h2'
  have HK := Lib.hid h3
  have HK' := Lib.hid h3'
  clear h3 h3'
  by_cases hl : ks.length = ks'.length
  · have hne : ((ks.length : Int) != ks'.length) = false := by simp [hl]
    have HL := Lib.hid hl
    clear hl
    go_enter Try.func75, Try.ntmps75
    go_wp2_with fail
    go_loopw [13] (fun i wr => ∃ (j m : Nat), j ≤ ks.length ∧ i = .int .i64 j ∧ Hid (∀ i, i < j → ks.getD i 0 = ks'.getD i 0) ∧ wr = w.drewN m) (fun i _ => ks.length - (intOf i).toNat)
    case atStart => exact ⟨0, n0, Nat.zero_le _, rfl, Lib.hid (fun i h => by omega), rfl⟩
    case round =>
      obtain ⟨j, m, hj, rfl, HE, rfl⟩ := hrel
      by_cases hl1 : j < ks.length
      · have hl2 : j < ks'.length := by rw [← HL.out]; exact hl1
        rcases HK.out with h | ⟨b, off, rfl, hb, hat⟩
        · simp [h] at hl1
        rcases HK'.out with h | ⟨b', off', rfl, hb', hat'⟩
        · simp [h] at hl2
        have ha1 : w.cell? ⟨b, off + j, none⟩ = some (.int .i64 (ks.getD j 0)) := hat j hl1
        have ha2 : w.cell? ⟨b', off' + j, none⟩ = some (.int .i64 (ks'.getD j 0)) := hat' j hl2
        obtain ⟨x, hx⟩ : ∃ x, x = ks.getD j 0 := ⟨_, rfl⟩
        obtain ⟨y, hy⟩ : ∃ y, y = ks'.getD j 0 := ⟨_, rfl⟩
        rw [← hx] at ha1
        rw [← hy] at ha2
        have HX := Lib.hid hx
        have HY := Lib.hid hy
        clear hat hat' hx hy
        by_cases hxy : x = y
        · have hne2 : (x != y) = false := by simp [hxy]
          have HXY := Lib.hid hxy
          clear hxy
          go_wp2_with fail
          go_quiet (fail)
          go_wp2_with fail
          go_roundw
          case rel =>
            refine ⟨j + 1, _, by omega, by go_num, Lib.hid (fun i hi => ?_), rfl⟩
            by_cases hij : i = j
            · rw [hij, ← HX.out, ← HY.out]; exact HXY.out
            · exact HE.out i (by omega)
          case measure => simp [intOf]; omega
        · have hne2 : (x != y) = true := by simp [hxy]
          have HXY := Lib.hid hxy
          clear hxy
          go_wp2_with fail
          go_quiet (fail)
          go_wp2_with fail
          go_ret
          refine ⟨ret_bool (Eq.symm (decide_eq_false ?_)), _, World.drewN_drewN ..⟩
          intro e
          exact HXY.out (by rw [HX.out, HY.out, e])
      · go_wp2_with fail
        go_ret
        refine ⟨ret_bool ?_, _, rfl⟩
        rw [decide_eq_true (ints_eq_of HL.out (fun i hi => HE.out i (by omega)))]
  · have hne : ((ks.length : Int) != ks'.length) = true := by simp; omega
    have HL := Lib.hid hl
    clear hl
    go_enter Try.func75, Try.ntmps75
    go_wp2_with fail
    go_ret
    exact ⟨ret_bool (Eq.symm (decide_eq_false (fun e => HL.out (by rw [e])))), _, rfl⟩
end Go.Proofs.Ytodcapgmhginoaa
