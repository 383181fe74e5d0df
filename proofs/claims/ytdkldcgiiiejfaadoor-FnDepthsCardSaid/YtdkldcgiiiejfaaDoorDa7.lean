/- How deep a tree of so many keys is: leastDepth and mostDepth, and the model's ways. -/
import Derived.Test.YtdkldcgiiiejfaaDoorBase
import Derived.Test.YtdkldcgiiiejfaaDoorKeys
import Derived.Test.YtdkldcgiiiejfaaDoorSorted
import Derived.Test.YtdkldcgiiiejfaaDoorDa6
import Derived.Test.YtdkldcgiiiejfaaDoorGrowValid
import Derived.Test.YtdkldcgiiiejfaaDoorProg
import Derived.Test.YtdkldcgiiiejfaaDoorDraw1
import Derived.Test.YtdkldcgiiiejfaaDoorDa1

/- How many keys and nodes a valid tree has: plain data. -/
namespace Go.Proofs.YtdkldcgiiiejfaaDoor
open Go.RowKit
namespace Tr

theorem lens_cons (t : Tr) (r : List Tr) : lens (keyss (t :: r)) = t.keys.length + lens (keyss r) := by
  simp [keyss, lens]

mutual
theorem keys_bounds (W H : Nat) (hH : (W : Int) / 2 = H) : ∀ (t : Tr) (least d : Int), nodesB W least d t = true → t.keys.length ≤ W * t.count ∧ (least + ((H * (t.count - 1) : Nat) : Int) ≤ (t.keys.length : Int))
  | .mk k c, least, d, h => by
    obtain ⟨⟨h1, h2⟩, h3⟩ := nodes_mem h
    have hk := kids_bounds W H hH c (d - 1) (by
      rcases h3 with ⟨h3, _⟩ | ⟨_, _, _, _, h4⟩
      · intro x hx; rw [List.length_eq_zero_iff.1 h3] at hx; cases hx
      · rw [hH] at h4; exact h4)
    rw [keys_length]
    simp only [count]
    rw [Nat.mul_add, Nat.mul_one, show 1 + counts c - 1 = counts c by omega]
    omega
theorem kids_bounds (W H : Nat) (hH : (W : Int) / 2 = H) : ∀ (c : List Tr) (d : Int), (∀ x ∈ c, nodesB W H d x = true) → lens (keyss c) ≤ W * counts c ∧ H * counts c ≤ lens (keyss c)
  | [], d, _ => by simp [keyss, lens, counts]
  | t :: r, d, h => by
    have h1 := keys_bounds W H hH t H d (h t (by simp))
    have h2 := kids_bounds W H hH r d (fun x hx => h x (by simp [hx]))
    have h3 : 1 ≤ t.count := by cases t; simp only [count]; omega
    obtain ⟨m, hm⟩ : ∃ m, t.count = m + 1 := ⟨t.count - 1, by omega⟩
    rw [lens_cons]
    simp only [counts]
    rw [hm] at h1 ⊢
    rw [show m + 1 - 1 = m by omega] at h1
    rw [Nat.mul_add W, Nat.mul_add H, Nat.mul_add H m 1, Nat.mul_one]
    omega
end

mutual
theorem full_none (W : Int) (n : Int) (hn : W < n) : ∀ (t : Tr) (least d : Int), nodesB W least d t = true → t.full n = 0
  | .mk k c, least, d, h => by
    obtain ⟨⟨h1, h2⟩, h3⟩ := nodes_mem h
    have hk : fulls n c = 0 := by
      rcases h3 with ⟨h3, _⟩ | ⟨_, _, _, _, h4⟩
      · rw [List.length_eq_zero_iff.1 h3]; rfl
      · exact fulls_none W n hn c _ _ h4
    simp only [full, hk]
    rw [if_neg (by omega)]
theorem fulls_none (W : Int) (n : Int) (hn : W < n) : ∀ (c : List Tr) (least d : Int), (∀ x ∈ c, nodesB W least d x = true) → fulls n c = 0
  | [], _, _, _ => rfl
  | t :: r, least, d, h => by
    simp only [fulls, full_none W n hn t least d (h t (by simp)), fulls_none W n hn r least d (fun x hx => h x (by simp [hx]))]
end

/-- What the law on widths asks. -/
theorem width_facts {W : Nat} {t : Tr} (h : validB W t = true) :
    t.keys.length ≤ W * t.count ∧ (W / 2) * (t.count - 1) ≤ t.keys.length ∧ (t.keys.length = 0 → t.count = 1) ∧ (t.cs.length = 0 → t.depth = 1) ∧ t.full ((W : Int) + 1) = 0 ∧ 1 ≤ t.count := by
  have h' := h
  simp only [validB, Bool.and_eq_true] at h'
  have hn := h'.2.1
  have hb := keys_bounds W (W / 2) (by omega) t _ _ hn
  have hf := full_none W ((W : Int) + 1) (by omega) t _ _ hn
  obtain ⟨k, c⟩ := t
  obtain ⟨⟨h1, h2⟩, h3⟩ := nodes_mem hn
  refine ⟨hb.1, by omega, fun h0 => ?_, fun h0 => ?_, hf, by simp only [count]; omega⟩
  · rw [keys_length] at h0
    rcases h3 with ⟨h3, _⟩ | ⟨_, _, _, h5, _⟩
    · rw [List.length_eq_zero_iff.1 h3]; rfl
    · omega
  · have : c = [] := List.length_eq_zero_iff.1 h0
    subst this
    rfl
end Tr
end Go.Proofs.YtdkldcgiiiejfaaDoor

/- How deep a tree of so many keys is: leastDepth and mostDepth, and the model's ways. -/
namespace Go.Proofs.YtdkldcgiiiejfaaDoor
open Go.RowKit

/-- The first number from d on at which p holds; k steps at most. -/
def upFrom (p : Nat → Bool) : Nat → Nat → Nat
  | 0, d => d
  | k + 1, d => if p d then d else upFrom p k (d + 1)

theorem upFrom_eq (p : Nat → Bool) (e : Nat) : ∀ (k d : Nat), (∀ x, d ≤ x → x < e → p x = false) → p e = true → d ≤ e → e ≤ d + k → upFrom p k d = e := by
  intro k
  induction k with
  | zero => intro d _ _ h3 h4; simp only [upFrom]; omega
  | succ k ih =>
    intro d h1 h2 h3 h4
    simp only [upFrom]
    by_cases hd : d = e
    · subst hd; rw [if_pos h2]
    · rw [if_neg (by rw [h1 d (Nat.le_refl _) (by omega)]; decide)]
      exact ih (d + 1) (fun x hx => h1 x (by omega)) h2 (by omega) (by omega)

def leastDep (wd n : Nat) : Nat := upFrom (fun d => decide (n ≤ mostN wd d)) 7 1
def mostDep (wd n : Nat) : Nat := upFrom (fun d => decide (n < lowN wd (d + 1))) 7 1

theorem leastDep_eq (wd n d : Nat) (h1 : ∀ x, 1 ≤ x → x < d → mostN wd x < n) (h2 : n ≤ mostN wd d) (h3 : 1 ≤ d) (h4 : d ≤ 8) : d = leastDep wd n :=
  (upFrom_eq _ d 7 1 (fun x hx1 hx2 => by have := h1 x hx1 hx2; simp; omega) (by simpa using h2) h3 (by omega)).symm
theorem mostDep_eq (wd n d : Nat) (h1 : ∀ x, 1 ≤ x → x < d → lowN wd (x + 1) ≤ n) (h2 : n < lowN wd (d + 1)) (h3 : 1 ≤ d) (h4 : d ≤ 8) : d = mostDep wd n :=
  (upFrom_eq _ d 7 1 (fun x hx1 hx2 => by have := h1 x hx1 hx2; simp; omega) (by simpa using h2) h3 (by omega)).symm

theorem most7 : ∀ wd ≤ 6, 2 ≤ wd → 100 ≤ mostN wd 7 := by decide
theorem low8 : ∀ wd ≤ 6, 2 ≤ wd → 100 < lowN wd (7 + 1) := by decide
theorem most_le : ∀ wd ≤ 6, ∀ d ≤ 8, mostN wd d ≤ 5764801 := by decide
theorem low_le : ∀ wd ≤ 6, ∀ d ≤ 8, lowN wd d ≤ 5764801 := by decide

set_option maxHeartbeats 1000000 in
theorem leastDepth_c (w : World) (ht : TabAt w 1 tabM) (wd n : Nat) (h1 : 2 ≤ wd) (h2 : wd ≤ 6) (hn : n ≤ 100) :
    Calls Tryd.prog 22 #[.int .i64 wd, .int .i64 n] w fun e w' => e = .returned (.int .i64 (leastDep wd n)) ∧ w' = w := by
  have HT := Lib.hid ht
  clear ht
  go_enter Tryd.func22, Tryd.ntmps22
  go_wp2_with fail
  go_loopw [5] (fun s5 wr => ∃ d : Nat, s5 = .int .i64 d ∧ 1 ≤ d ∧ d ≤ 7 ∧ Hid (∀ x, 1 ≤ x → x < d → mostN wd x < n) ∧ wr = w) (fun s5 _ => 8 - (intOf s5).toNat)
  case atStart => exact ⟨1, rfl, by omega, by omega, Lib.hid (fun x h1 h2 => by omega), rfl⟩
  case round =>
    obtain ⟨d, rfl, hd1, hd2, HB, rfl⟩ := hrel
    go_wp2_with fail
    refine (mostKeys_c _ HT.out wd d h1 h2 hd1 (by omega)).mono ?_
    rintro e w1 ⟨rfl, rfl⟩
    have hb := most_le wd h2 d (by omega)
    by_cases hlt : mostN wd d < n
    · have hd7 : d ≠ 7 := by rintro rfl; have := most7 wd h2 h1; omega
      have HLT := Lib.hid hlt
      have HB2 := Lib.hid (show ∀ x, 1 ≤ x → x < d + 1 → mostN wd x < n from fun x hx1 hx2 => by
        by_cases hxd : x = d
        · subst hxd; exact HLT.out
        · exact HB.out x hx1 (by omega))
      clear HLT
      generalize mostN wd d = z at hlt hb
      have hlt' : (z : Int) < (n : Int) := by omega
      clear hlt
      go_wp2_with fail
      go_roundw
      case rel => exact ⟨d + 1, by go_num, by omega, by omega, HB2, by first | rfl | trivial⟩
      case measure => simp [intOf]; omega
    · have HE := Lib.hid (leastDep_eq wd n d HB.out (by omega) hd1 (by omega))
      generalize mostN wd d = z at hlt hb
      have hlt' : ¬ (z : Int) < (n : Int) := by omega
      clear hlt
      go_wp2_with fail
      go_ret
      exact ⟨ret_int (by rw [← HE.out]), rfl⟩

set_option maxHeartbeats 1000000 in
theorem mostDepth_c (w : World) (ht : TabAt w 0 tabL) (wd n : Nat) (h1 : 2 ≤ wd) (h2 : wd ≤ 6) (hn : n ≤ 100) :
    Calls Tryd.prog 23 #[.int .i64 wd, .int .i64 n] w fun e w' => e = .returned (.int .i64 (mostDep wd n)) ∧ w' = w := by
  have HT := Lib.hid ht
  clear ht
  go_enter Tryd.func23, Tryd.ntmps23
  go_wp2_with fail
  go_loopw [5] (fun s5 wr => ∃ d : Nat, s5 = .int .i64 d ∧ 1 ≤ d ∧ d ≤ 7 ∧ Hid (∀ x, 1 ≤ x → x < d → lowN wd (x + 1) ≤ n) ∧ wr = w) (fun s5 _ => 8 - (intOf s5).toNat)
  case atStart => exact ⟨1, rfl, by omega, by omega, Lib.hid (fun x h1 h2 => by omega), rfl⟩
  case round =>
    obtain ⟨d, rfl, hd1, hd2, HB, rfl⟩ := hrel
    go_wp2_with fail
    rw [show (d : Int) + 1 = ((d + 1 : Nat) : Int) by omega]
    refine (leastKeys_c _ HT.out wd (d + 1) h1 h2 (by omega) (by omega)).mono ?_
    rintro e w1 ⟨rfl, rfl⟩
    have hb := low_le wd h2 (d + 1) (by omega)
    by_cases hlt : lowN wd (d + 1) ≤ n
    · have hd7 : d ≠ 7 := by rintro rfl; have := low8 wd h2 h1; omega
      have HLT := Lib.hid hlt
      have HB2 := Lib.hid (show ∀ x, 1 ≤ x → x < d + 1 → lowN wd (x + 1) ≤ n from fun x hx1 hx2 => by
        by_cases hxd : x = d
        · subst hxd; exact HLT.out
        · exact HB.out x hx1 (by omega))
      clear HLT
      generalize lowN wd (d + 1) = z at hlt hb
      have hlt' : (z : Int) ≤ (n : Int) := by omega
      clear hlt
      go_wp2_with fail
      go_roundw
      case rel => exact ⟨d + 1, by go_num, by omega, by omega, HB2, by first | rfl | trivial⟩
      case measure => simp [intOf]; omega
    · have HE := Lib.hid (mostDep_eq wd n d HB.out (by omega) hd1 (by omega))
      generalize lowN wd (d + 1) = z at hlt hb
      have hlt' : ¬ (z : Int) ≤ (n : Int) := by omega
      clear hlt
      go_wp2_with fail
      go_ret
      exact ⟨ret_int (by rw [← HE.out]), rfl⟩

set_option maxHeartbeats 1000000 in
theorem l5Least_c (w : World) (wd n : Nat) (h1 : 2 ≤ wd) (h2 : wd ≤ 6) (hn : n ≤ 100) :
    Calls Tryd.prog 26 #[.int .i64 wd, .int .i64 n] w fun e w' => e = .returned (.int .i64 (leastDep wd n)) ∧ w' = w := by
  go_enter Tryd.func26, Tryd.ntmps26
  go_wp2_with fail
  go_loopw [5] (fun s5 wr => ∃ d : Nat, s5 = .int .i64 d ∧ 1 ≤ d ∧ d ≤ 7 ∧ Hid (∀ x, 1 ≤ x → x < d → mostN wd x < n) ∧ wr = w) (fun s5 _ => 8 - (intOf s5).toNat)
  case atStart => exact ⟨1, rfl, by omega, by omega, Lib.hid (fun x h1 h2 => by omega), rfl⟩
  case round =>
    obtain ⟨d, rfl, hd1, hd2, HB, rfl⟩ := hrel
    go_wp2_with fail
    refine (l1Most_c wd h2 d _ (by omega)).mono ?_
    rintro e w1 ⟨rfl, rfl⟩
    have hb := most_le wd h2 d (by omega)
    by_cases hlt : mostN wd d < n
    · have hd7 : d ≠ 7 := by rintro rfl; have := most7 wd h2 h1; omega
      have HLT := Lib.hid hlt
      have HB2 := Lib.hid (show ∀ x, 1 ≤ x → x < d + 1 → mostN wd x < n from fun x hx1 hx2 => by
        by_cases hxd : x = d
        · subst hxd; exact HLT.out
        · exact HB.out x hx1 (by omega))
      clear HLT
      generalize mostN wd d = z at hlt hb
      have hlt' : (z : Int) < (n : Int) := by omega
      clear hlt
      go_wp2_with fail
      go_roundw
      case rel => exact ⟨d + 1, by go_num, by omega, by omega, HB2, by first | rfl | trivial⟩
      case measure => simp [intOf]; omega
    · have HE := Lib.hid (leastDep_eq wd n d HB.out (by omega) hd1 (by omega))
      generalize mostN wd d = z at hlt hb
      have hlt' : ¬ (z : Int) < (n : Int) := by omega
      clear hlt
      go_wp2_with fail
      go_ret
      exact ⟨ret_int (by rw [← HE.out]), rfl⟩

end Go.Proofs.YtdkldcgiiiejfaaDoor
