/- One yield of a loop within a loop; the nodes that a tree's turns are of. -/
import Derived.Test.YtodcapgmhginoaaProg
import Derived.Test.YtodcapgmhginoaaCnS0
import Derived.Test.YtodcapgmhginoaaCnS6
import Derived.Test.YtodcapgmhginoaaCnS14
import Derived.Test.YtodcapgmhginoaaCnS8
import Derived.Test.YtodcapgmhginoaaCnS16
import Derived.Test.YtodcapgmhginoaaCnS13
namespace Go.Proofs.Ytodcapgmhginoaa
open Go.RowKit

theorem yield_step {α : Type} {P : Program} {l : Nat} {encs : α → Array Value} {J Jx : List α → (Nat → Prop) → World → Prop} {xs pre : List α} {x : α} {Pv₀ Pv : Nat → Prop} {W₀ W : World} {B : Nat} {o : Obj}
    (hY : Rounds P l encs J Jx xs Pv₀ W₀) (hK : Keep Pv₀ W₀ W) (hU : Under (J pre) Pv₀ B B o o Pv W) (hpre : pre ++ [x] <+: xs) (hb : ∀ k, Pv k → k < W.heap.size) :
    Round1 P l (encs x) W fun e W4 => Keep Pv W W4 ∧ ((e = .returned (.bool true) ∧ Under (J (pre ++ [x])) Pv₀ B B o o Pv W4) ∨ (e = .returned (.bool false) ∧ Under (Jx (pre ++ [x])) Pv₀ B B o o Pv W4)) := by
  obtain ⟨Pv2, hj, e1, e2, e3, e4, e5, e6, e7, e8, e9⟩ := hU
  refine (hY pre x Pv2 W hj hK e2 e7 hpre).mono ?_
  rintro e W4 ⟨hk4, (⟨rfl, hj4⟩ | ⟨rfl, hj4⟩)⟩
  · exact ⟨hk4.mono (fun k hlt h => e1 k h hlt), .inl ⟨rfl, Pv2, hj4, fun k h _ => e1 k h (hb k h), e2, e3, e4, e5, e6, fun k h => Nat.lt_of_lt_of_le (e7 k h) hk4.size, (hk4.block _ (e7 _ e3) e3).trans e8, (hk4.block _ (e7 _ e4) e4).trans e9⟩⟩
  · exact ⟨hk4.mono (fun k hlt h => e1 k h hlt), .inr ⟨rfl, Pv2, hj4, fun k h _ => e1 k h (hb k h), e2, e3, e4, e5, e6, fun k h => Nat.lt_of_lt_of_le (e7 k h) hk4.size, (hk4.block _ (e7 _ e3) e3).trans e8, (hk4.block _ (e7 _ e4) e4).trans e9⟩⟩

theorem Under.weaken {X Y : (Nat → Prop) → World → Prop} (h : ∀ Pv W, X Pv W → Y Pv W) {Pv₀ Pv : Nat → Prop} {B3 B4 : Nat} {o3 o4 : Obj} {W : World} (hU : Under X Pv₀ B3 B4 o3 o4 Pv W) : Under Y Pv₀ B3 B4 o3 o4 Pv W := by
  obtain ⟨Pv2, hj, r⟩ := hU
  exact ⟨Pv2, h _ _ hj, r⟩

theorem pre_two {α : Type} {A B C E : List α} (h : A ++ B ++ C <+: E) : A <+: E := List.IsPrefix.trans ⟨B ++ C, by simp⟩ h
theorem pre_at {α : Type} {A B C E : List α} (h : A ++ B ++ C <+: E) (j : Nat) (hj : j < B.length) : A ++ B.take j ++ [B[j]] <+: E := by
  refine List.IsPrefix.trans ⟨B.drop (j + 1) ++ C, ?_⟩ h
  have h1 := List.take_append_drop (j + 1) B
  rw [List.take_succ_eq_append_getElem hj] at h1
  have h2 : A ++ B ++ C = A ++ (B.take j ++ [B[j]] ++ B.drop (j + 1)) ++ C := by rw [h1]
  rw [h2]
  simp only [List.append_assoc]

theorem mem_trns_ro : ∀ (c : List ATr) (a : Ro ATr) (i : Nat) (x : Ro ATr × Nat), x ∈ Ro.trns a i (ATr.ros c) → (x.1 = a ∧ x.2 ≤ i + c.length) ∨ ∃ k ∈ c, x ∈ k.ro.trn
  | [], a, i, x, h => by simp [ATr.ros, Ro.trns] at h
  | k :: r, a, i, x, h => by
    simp only [ATr.ros, Ro.trns, List.mem_append, List.mem_cons] at h
    rcases h with h | h | h
    · exact .inr ⟨k, by simp, h⟩
    · exact .inl ⟨by rw [h], by rw [h]; simp⟩
    · rcases mem_trns_ro r a (i + 1) x h with ⟨h1, h2⟩ | ⟨q, hq, h1⟩
      · exact .inl ⟨h1, by simp; omega⟩
      · exact .inr ⟨q, by simp [hq], h1⟩

theorem mem_trn_ro : ∀ n (a : ATr) {w : World}, a.weight ≤ n → AT w a → ∀ x ∈ a.ro.trn, AT w x.1.lab ∧ x.1.addr = x.1.lab.addr ∧ x.1.lab.weight ≤ a.weight ∧ x.2 ≤ x.1.lab.cs.length := by
  intro n
  induction n with
  | zero =>
    intro a w hn ha x hx
    have := ATr.ks_le a
    have hcs : a.cs = [] := List.length_eq_zero_iff.1 (by omega)
    rw [trn_eq] at hx
    rw [remT_end (by rw [ATr.ro_cs, ATr.ros_length, hcs]; simp)] at hx
    obtain rfl := List.mem_singleton.1 hx
    exact ⟨by rw [ATr.ro_lab]; exact ha, by rw [ATr.ro_lab, ATr.ro_addr], by rw [ATr.ro_lab]; exact Nat.le_refl _, Nat.zero_le _⟩
  | succ n ih =>
    intro a w hn ha x hx
    have hself : ∀ p, p ≤ a.cs.length → x = (a.ro, p) → AT w x.1.lab ∧ x.1.addr = x.1.lab.addr ∧ x.1.lab.weight ≤ a.weight ∧ x.2 ≤ x.1.lab.cs.length := by
      rintro p hp rfl
      exact ⟨by rw [ATr.ro_lab]; exact ha, by rw [ATr.ro_lab, ATr.ro_addr], by rw [ATr.ro_lab]; exact Nat.le_refl _, by rw [ATr.ro_lab]; exact hp⟩
    rw [trn_eq] at hx
    have hx' : x ∈ (a.ro, 0) :: Ro.trns a.ro 0 (a.ro.cs.drop 0) := hx
    rw [List.drop_zero, ATr.ro_cs] at hx'
    rcases List.mem_cons.1 hx' with h | h
    · exact hself 0 (Nat.zero_le _) h
    · rcases mem_trns_ro a.cs a.ro 0 x h with ⟨h1, h2⟩ | ⟨k, hk, h1⟩
      · exact hself x.2 (by omega) (by rw [← h1])
      · obtain ⟨i, hi, rfl⟩ := List.getElem_of_mem hk
        have hw := ATr.weight_kid hi
        obtain ⟨_, _, _, _, _, _, _, _, _, _, _, _, _, hkids, _⟩ := ha.parts
        obtain ⟨r1, r2, r3, r4⟩ := ih a.cs[i] (w := w) (by omega) (hkids i hi) x h1
        exact ⟨r1, r2, by omega, r4⟩
end Go.Proofs.Ytodcapgmhginoaa
