/- The contract of the program's keysBehind. -/
import Derived.Test.YtodcapgmhginoaaProg
import Derived.Test.YtodcapgmhginoaaKyS0
import Derived.Test.YtodcapgmhginoaaKyS5
import Derived.Test.YtodcapgmhginoaaKyS13
import Derived.Deep.QuietTactic
import Derived.BigQuiet
import Derived.WalkKit
namespace Go.Proofs.Ytodcapgmhginoaa
open Go.RowKit

/-- A part of a row of ints, as a slice. -/
def PartAt (w : World) (v : Value) (l : List Int) : Prop :=
  ∃ (k : Option Addr) (c : Nat), v = .slice k l.length c ∧ (l.length = 0 ∨ ∃ g o, k = some ⟨g, o, none⟩ ∧ ∀ i, i < l.length → w.cell? ⟨g, o + i, none⟩ = some (.int .i64 (l.getD i 0)))

theorem part_none (w : World) (k : Option Addr) (c : Nat) {l : List Int} (hl : l.length = 0) : PartAt w (.slice k 0 c) l := ⟨k, c, by rw [hl], .inl hl⟩
theorem part_all {w : World} {ks : List Int} {ka : Option Addr} {g go : Nat} (hk : ∀ i, i < ks.length → w.cell? ⟨g, go + i, none⟩ = some (.int .i64 (ks.getD i 0))) (e0 : ks.length = 0 ∨ ka = some ⟨g, go, none⟩) (c : Nat) : PartAt w (.slice ka ks.length c) ks :=
  ⟨ka, c, rfl, e0.imp id (fun e => ⟨g, go, e, hk⟩)⟩
theorem part_of {w : World} {ks : List Int} {ka : Option Addr} {g go : Nat} (hk : ∀ i, i < ks.length → w.cell? ⟨g, go + i, none⟩ = some (.int .i64 (ks.getD i 0))) (e0 : ks.length = 0 ∨ ka = some ⟨g, go, none⟩) (s e : Nat) (he : e ≤ ks.length) (hs : s ≤ e) (c : Nat) :
    PartAt w (.slice (ka.map (fun x => x.add s)) (e - s) c) ((ks.take e).drop s) := by
  have hl : ((ks.take e).drop s).length = e - s := by simp; omega
  refine ⟨_, c, by rw [hl], ?_⟩
  rcases e0 with e0 | e0
  · exact .inl (by omega)
  · subst e0
    refine .inr ⟨g, go + s, ?_, fun i hi => ?_⟩
    · unfold Addr.add
      by_cases h0 : s = 0
      · subst h0; rfl
      · simp [h0]
    · rw [hl] at hi
      have := hk (s + i) (by omega)
      rw [← Nat.add_assoc] at this
      rw [this]
      simp only [List.getD_eq_getElem?_getD]
      rw [List.getElem?_drop, List.getElem?_take_of_lt (by omega)]

set_option maxRecDepth 100000 in
set_option maxHeartbeats 2000000 in
theorem keysBehind_c {w : World} {a : ATr} (ha : AT w a) (hw : a.weight ≤ 1048576) (p : Nat) (hp : p ≤ a.cs.length) (W : World) (hW : ∀ k, k < w.heap.size → W.heap[k]? = w.heap[k]?) :
    Calls Try.prog 109 #[.pointer (some a.addr), .int .i64 p] W fun e w' => (∃ v, e = .returned v ∧ PartAt w v (a.behind p)) ∧ Below W.heap.size W w' := by
  obtain ⟨ka, ha', kc, hc, g, go, h, ho, hpa, h0, h1, hk, hn, hkids, e0, e1⟩ := ha.parts
  obtain ⟨ka', kc', r0, r1, r2⟩ := ha.room
  rw [h0] at r0
  cases r0
  have hl := ATr.ks_le a
  have HP := Lib.hid (fun s e he hs c => part_of hk e0 s e he hs c)
  have HA := Lib.hid (fun c => part_all hk e0 c)
  have hc0 : ∀ (b o : Nat) (v : Value), w.cell? ⟨b, o, none⟩ = some v → W.cell? ⟨b, o, none⟩ = some v := fun b o v hv => by
    have := World.block_lt_of_cell? w _ hv
    rw [← hv]
    exact World.cell?_of_block (w := w) (a := ⟨b, o, none⟩) (hW b this)
  replace h0 := hc0 _ _ _ h0
  replace h1 := hc0 _ _ _ h1
  clear hk hn hkids e0 e1 ha hpa hW hc0
  unfold ATr.addr ATr.behind
  have hcase : (p = 0) ∨ (1 ≤ p ∧ p ≤ a.ks.length) ∨ (1 ≤ p ∧ p = a.ks.length + 1) ∨ (a.ks.length + 1 < p) := by omega
  by_cases hpn : p = a.cs.length
  · have f4 : ((p : Int) == (a.cs.length : Int)) = true := by rw [hpn]; simp
    rw [if_pos hpn]
    rcases hcase with hc0 | ⟨hc0, hc1⟩ | ⟨hc0, hc1⟩ | hc0
    · have f1 : ((p : Int) - 1 < 0) := by omega
      have f2 : ¬ (a.ks.length < p) := by omega
      have f3 : ¬ ((a.ks.length : Int) < 0) := by omega
      go_enter Try.func109, Try.ntmps109
      go_wp2_with fail
      go_quiet (fail)
      go_wp2_with fail
      go_ret
      refine ⟨⟨_, rfl, ?_⟩, ⟨rfl, rfl, rfl, Nat.le_refl _, fun _ _ => rfl⟩⟩
      rw [hc0, List.take_length]
      exact HA.out _
    · have f1 : ¬ ((p : Int) - 1 < 0) := by omega
      have f2 : ¬ (a.ks.length < p) := by omega
      have f3 : ¬ ((a.ks.length : Int) < (p : Int) - 1) := by omega
      have f5 : (0 : Int) ≤ (p : Int) - 1 := by omega
      have f6 : (p : Int) - 1 ≤ (a.ks.length : Int) := by omega
      go_enter Try.func109, Try.ntmps109
      go_wp2_with fail
      go_quiet (fail)
      go_wp2_with fail
      go_ret
      refine ⟨⟨_, rfl, ?_⟩, ⟨rfl, rfl, rfl, Nat.le_refl _, fun _ _ => rfl⟩⟩
      rw [hpn]
      exact HP.out (a.cs.length - 1) a.ks.length (Nat.le_refl _) (by omega) _
    · have f1 : ¬ ((p : Int) - 1 < 0) := by omega
      have f2 : (a.ks.length < p) := by omega
      have f3 : ¬ ((a.ks.length : Int) < (p : Int) - 1) := by omega
      have f5 : (0 : Int) ≤ (p : Int) - 1 := by omega
      have f6 : (p : Int) - 1 ≤ (a.ks.length : Int) := by omega
      go_enter Try.func109, Try.ntmps109
      go_wp2_with fail
      go_quiet (fail)
      go_wp2_with fail
      go_ret
      exact ⟨⟨_, rfl, part_none w _ _ (by simp <;> omega)⟩, ⟨rfl, rfl, rfl, Nat.le_refl _, fun _ _ => rfl⟩⟩
    · have f1 : ¬ ((p : Int) - 1 < 0) := by omega
      have f2 : (a.ks.length < p) := by omega
      have f3 : ((a.ks.length : Int) < (p : Int) - 1) := by omega
      go_enter Try.func109, Try.ntmps109
      go_wp2_with fail
      go_quiet (fail)
      go_wp2_with fail
      go_ret
      exact ⟨⟨_, rfl, part_none w _ _ (by simp <;> omega)⟩, ⟨rfl, rfl, rfl, Nat.le_refl _, fun _ _ => rfl⟩⟩
  · have f4 : ((p : Int) == (a.cs.length : Int)) = false := by simp; omega
    rw [if_neg hpn]
    rcases hcase with hc0 | ⟨hc0, hc1⟩ | ⟨hc0, hc1⟩ | hc0
    · have f1 : ((p : Int) - 1 < 0) := by omega
      have f2 : ¬ (a.ks.length < p) := by omega
      have f3 : ¬ ((a.ks.length : Int) < 0) := by omega
      go_enter Try.func109, Try.ntmps109
      go_wp2_with fail
      go_quiet (fail)
      go_wp2_with fail
      go_ret
      exact ⟨⟨_, rfl, part_none w _ _ (by simp <;> omega)⟩, ⟨rfl, rfl, rfl, Nat.le_refl _, fun _ _ => rfl⟩⟩
    · have f1 : ¬ ((p : Int) - 1 < 0) := by omega
      have f2 : ¬ (a.ks.length < p) := by omega
      have f3 : ¬ ((a.ks.length : Int) < (p : Int) - 1) := by omega
      have f7 : (p : Int) ≤ (kc : Int) := by omega
      have f5 : (0 : Int) ≤ (p : Int) - 1 := by omega
      have f6 : (p : Int) - 1 ≤ (a.ks.length : Int) := by omega
      go_enter Try.func109, Try.ntmps109
      go_wp2_with fail
      go_quiet (fail)
      go_wp2_with fail
      go_ret
      exact ⟨⟨_, rfl, HP.out (p - 1) p (by omega) (by omega) _⟩, ⟨rfl, rfl, rfl, Nat.le_refl _, fun _ _ => rfl⟩⟩
    · have f1 : ¬ ((p : Int) - 1 < 0) := by omega
      have f2 : (a.ks.length < p) := by omega
      have f3 : ¬ ((a.ks.length : Int) < (p : Int) - 1) := by omega
      have f5 : (0 : Int) ≤ (p : Int) - 1 := by omega
      have f6 : (p : Int) - 1 ≤ (a.ks.length : Int) := by omega
      go_enter Try.func109, Try.ntmps109
      go_wp2_with fail
      go_quiet (fail)
      go_wp2_with fail
      go_ret
      exact ⟨⟨_, rfl, part_none w _ _ (by simp <;> omega)⟩, ⟨rfl, rfl, rfl, Nat.le_refl _, fun _ _ => rfl⟩⟩
    · have f1 : ¬ ((p : Int) - 1 < 0) := by omega
      have f2 : (a.ks.length < p) := by omega
      have f3 : ((a.ks.length : Int) < (p : Int) - 1) := by omega
      go_enter Try.func109, Try.ntmps109
      go_wp2_with fail
      go_quiet (fail)
      go_wp2_with fail
      go_ret
      exact ⟨⟨_, rfl, part_none w _ _ (by simp <;> omega)⟩, ⟨rfl, rfl, rfl, Nat.le_refl _, fun _ _ => rfl⟩⟩
end Go.Proofs.Ytodcapgmhginoaa
