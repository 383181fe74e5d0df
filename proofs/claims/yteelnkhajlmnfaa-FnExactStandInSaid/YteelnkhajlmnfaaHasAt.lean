/- The contract of hasAt: whether a key is the one at a place of a node. -/
import Derived.Test.YteelnkhajlmnfaaProg
import Derived.Test.YteelnkhajlmnfaaBase
import Derived.Test.YteelnkhajlmnfaaApp
import Derived.Deep.QuietTactic
import Derived.BigQuiet
import Derived.StillTailTactics
import Derived.WalkSmall
namespace Go.Proofs.Yteelnkhajlmnfaa
open Go.RowKit

set_option maxRecDepth 100000 in
set_option maxHeartbeats 1000000 in
theorem hasAt_c {w : World} {b : Nat} {kv cv : Value} {ks : List Int} (hbox : w.heap[b]? = some (.cells #[kv, cv] 100 (0, 0))) (hk : IntsAt w kv ks) (hl : ks.length ≤ 9223372036854775807) (i : Nat) (hi : i ≤ ks.length) (key : Int) :
    Calls Try.prog 80 #[.pointer (some ⟨b, 0, none⟩), .int .i64 (i : Int), .int .i64 key] w fun e w' => e = .returned (.bool (decide (i < ks.length ∧ ks.getD i 0 = key))) ∧ w' = w := by
  obtain ⟨ka, kcap, rfl, k1, k2⟩ := hk
  obtain ⟨x1, x2, x3, x4⟩ := box2 hbox
  by_cases f1 : i < ks.length
  · rcases k2 with h0 | ⟨kb, ko, rfl, g3⟩
    · rw [h0] at f1; simp at f1
    have z1 := g3 i f1
    have f1' : ((i : Int) < (ks.length : Int)) := by omega
    have hd : decide (i < ks.length ∧ ks.getD i 0 = key) = (ks.getD i 0 == key) := by
      rw [Bool.eq_iff_iff]; simp [f1]
    rw [hd]
    clear g3 hd f1 k1 hbox
    generalize ks.getD i 0 = x at z1 ⊢
    go_enter Try.func80, Try.ntmps80
    go_wp2_with fail
    go_ret
    exact ⟨rfl, rfl⟩
  · have hd : decide (i < ks.length ∧ ks.getD i 0 = key) = false := by simp [f1]
    rw [hd]
    have f1' : ¬ ((i : Int) < (ks.length : Int)) := by omega
    clear hd f1 k1 k2 hbox
    go_enter Try.func80, Try.ntmps80
    go_wp2_with fail
    go_ret
    exact ⟨rfl, rfl⟩
end Go.Proofs.Yteelnkhajlmnfaa
