/- The contract of hasAt: whether a key is the one at a place of a node. -/
import Derived.Test.YtepkigcbjepbpaaProg
import Derived.Test.YtepkigcbjepbpaaBase
import Derived.Test.YtepkigcbjepbpaaApp
import Derived.Test.YtepkigcbjepbpaaNode
import Derived.WalkKit
import Derived.Deep.QuietTactic
import Derived.BigQuiet
import Derived.StillTailTactics
import Derived.WalkSmall

/- Finding: what the planting of a tree and the making of the iterator over the way down leave. -/
namespace Go.Proofs.Ytepkigcbjepbpaa
open Go.RowKit

/-- What the planting of a tree and the making of the iterator over the way down leave, from block B on. -/
def DownAt (B gf : Nat) (n : Int) (t : Tr) (s : Value) (W : World) : Prop :=
  ∃ lo hi b q bn bf : Nat, s = .func (.func 89) #[] #[.pointer (some ⟨bn, 0, none⟩), .pointer (some ⟨bf, 0, none⟩)] ∧ NodeIn W lo hi b t ∧ B ≤ lo ∧ hi ≤ W.heap.size ∧ B ≤ q ∧ B ≤ bn ∧ B ≤ bf ∧
    W.heap[bn]? = some (.cells #[.pointer (some ⟨b, 0, none⟩)] 71 (0, 0)) ∧
    W.heap[bf]? = some (.cells #[.func (.func gf) #[] #[.pointer (some ⟨q, 0, none⟩)]] 87 (0, 0)) ∧
    W.heap[q]? = some (.cells #[.int .i64 n] 3 (0, 0))

theorem ownsRow_held {w w' : World} {base : Nat} {e : TypeId} {size n : Nat} {v : Value} {xs : List Value} (h : w.ownsRow base e size v n xs) (hb : ∀ k, v.ownBlock = some k → w'.heap[k]? = w.heap[k]?) : w'.ownsRow base e size v n xs := by
  obtain ⟨h1, h2 | ⟨g, cap, cur, hv, hbb, hg, hr⟩⟩ := h
  · exact ⟨h1, .inl h2⟩
  · exact ⟨h1, .inr ⟨g, cap, cur, hv, hbb, (hb g (by rw [hv]; rfl)).trans hg, hr⟩⟩

theorem downAt_mk {B gf : Nat} {n : Int} {t : Tr} {wp w8 wl : World} {nb : Nat} (hB : B ≤ wp.heap.size) (hnd : NodeIn w8 wp.heap.size w8.heap.size nb t) (hl : wl.heap = w8.heap) (hs8 : wp.heap.size ≤ w8.heap.size) :
    DownAt B gf n t (.func (.func 89) #[] #[.pointer (some ⟨(wl.alloc (.cells #[.int .i64 n] 3)).heap.size, 0, none⟩), .pointer (some ⟨(wl.alloc (.cells #[.int .i64 n] 3)).heap.size + 1, 0, none⟩)])
      (((wl.alloc (.cells #[.int .i64 n] 3)).alloc (.cells #[.pointer (some ⟨nb, 0, none⟩)] 71)).alloc (.cells #[.func (.func gf) #[] #[.pointer (some ⟨wl.heap.size, 0, none⟩)]] 87)) := by
  have hls : wl.heap.size = w8.heap.size := by rw [hl]
  refine ⟨wp.heap.size, w8.heap.size, nb, wl.heap.size, _, _, rfl, hnd.same (fun k _ h => ?_), hB, by simp; omega, by omega, by simp; omega, by simp; omega, ?_, ?_, ?_⟩
  · rw [old_blk _ _ _ (by simp <;> omega), old_blk _ _ _ (by simp <;> omega), old_blk _ _ _ (by omega), hl]
  · rw [old_blk _ _ _ (by simp), new_blk]
  · rw [show (wl.alloc (.cells #[.int .i64 n] 3)).heap.size + 1 = ((wl.alloc (.cells #[.int .i64 n] 3)).alloc (.cells #[.pointer (some ⟨nb, 0, none⟩)] 71)).heap.size by simp, new_blk]
  · rw [old_blk _ _ _ (by simp <;> omega), old_blk _ _ _ (by simp), new_blk]
end Go.Proofs.Ytepkigcbjepbpaa

/- The contract of hasAt: whether a key is the one at a place of a node. -/
namespace Go.Proofs.Ytepkigcbjepbpaa
open Go.RowKit

set_option maxRecDepth 100000 in
set_option maxHeartbeats 1000000 in
theorem hasAt_c {w : World} {b : Nat} {kv cv : Value} {ks : List Int} (hbox : w.heap[b]? = some (.cells #[kv, cv] 93 (0, 0))) (hk : IntsAt w kv ks) (_hl : ks.length ≤ 9223372036854775807) (i : Nat) (hi : i ≤ ks.length) (key : Int) :
    Calls Try.prog 112 #[.pointer (some ⟨b, 0, none⟩), .int .i64 (i : Int), .int .i64 key] w fun e w' => e = .returned (.bool (decide (i < ks.length ∧ ks.getD i 0 = key))) ∧ w' = w := by
  obtain ⟨ka, kcap, rfl, k1, k2⟩ := hk
  obtain ⟨x1, x2, x3, x4⟩ := box2 hbox
  by_cases f1 : i < ks.length
  · rcases k2 with h0 | ⟨kb, ko, rfl, g3⟩
    · rw [h0] at f1; simp at f1
    have z1 := g3 i f1
    have f1' : ((i : Int) < (ks.length : Int)) := by omega
    have hd : decide (i < ks.length ∧ ks.getD i 0 = key) = (ks.getD i 0 == key) := by
      rw [Bool.eq_iff_iff]; simp [f1]
    rw [hd]
    clear g3 hd f1 k1 hbox
    generalize ks.getD i 0 = x at z1 ⊢
    go_enter Try.func112, Try.ntmps112
    go_wp2_with fail
    go_ret
    exact ⟨rfl, rfl⟩
  · have hd : decide (i < ks.length ∧ ks.getD i 0 = key) = false := by simp [f1]
    rw [hd]
    have f1' : ¬ ((i : Int) < (ks.length : Int)) := by omega
    clear hd f1 k1 k2 hbox
    go_enter Try.func112, Try.ntmps112
    go_wp2_with fail
    go_ret
    exact ⟨rfl, rfl⟩
end Go.Proofs.Ytepkigcbjepbpaa
