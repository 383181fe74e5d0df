/- The contract of hasAt: whether a key is the one at a place of a node. -/
import Derived.Sort.QuietIn
import Derived.TacticsInMore
import Derived.RangeFuncCalls
import Derived.WalkKit
import Derived.Test.YtjnkdbgebkajoaaProg
import Derived.Test.YtjnkdbgebkajoaaSq0
import Derived.Test.YtjnkdbgebkajoaaSq4
import Derived.Deep.QuietTactic
import Derived.BigQuiet
import Derived.StillTailTactics
import Derived.WalkSmall

/- Regions that draw their order and only read, inside a round of a loop over an iterator. -/
namespace Go.Proofs.Ytjnkdbgebkajoaa
open Go.RowKit

/-- An operation that is no deferring. -/
def undeferred (o : Oper) : Bool := match o.op with | .defer _ => false | _ => true

theorem undeferred_ne {o : Oper} (h : undeferred o = true) : ∀ c, o.op ≠ .defer c := by
  intro c hc
  unfold undeferred at h
  rw [hc] at h
  cases h

variable {F : Fence} {n : Nat} {P : Program} {ops : Array Oper} {Q : Exit → Act → World → Prop} {md : Region.Mode}

/-- What an operation does in a frame outside a round, it does inside one. -/
theorem wpAnyIn_round (l : Nat) (hro : F.round = none) (hp : ∀ (i : Nat) (o : Oper), ops[i]? = some o → undeferred o = true) : ∀ (fuel : Nat) (listed : Array Bool) (a : Act) (w : World),
    wpAnyIn F n P md ops Q fuel listed a w → wpAnyIn (F.inRound l) n P md ops Q fuel listed a w := by
  intro fuel
  induction fuel with
  | zero => intro listed a w h; exact h
  | succ fuel ih =>
    intro listed a w h
    refine ⟨h.1, fun i hi => ?_⟩
    have hh := h.2 i hi
    unfold wpOpIn at hh ⊢
    cases ho : ops[i]? with
    | none => simp only [ho] at hh ⊢; exact ih _ _ _ hh
    | some o =>
      simp only [ho] at hh ⊢
      by_cases hw : Region.wanted o (yielded ops a.tmps) = true
      · rw [if_pos hw] at hh ⊢
        have hh' := Oper.wpIn_mono (fun a w h => ih (listed.setIfInBounds i true) a w h) hh
        unfold Oper.wpIn at hh' ⊢
        refine ⟨hh'.1, ?_⟩
        have e := hh'.2
        rw [hro, Oper.semAt_eq none _ _ (undeferred_ne (hp i o ho))] at e
        rw [Oper.semAt_eq _ _ _ (undeferred_ne (hp i o ho))]
        exact e
      · rw [if_neg hw] at hh ⊢
        exact ⟨hh.1, ih _ _ _ hh.2⟩

/-- The law of quiet regions, inside a round. -/
theorem wpIn_quiet_round {id l : Nat} {a : Act} {w : World} {lst : List Oper} (hro : F.round = none) (hm : P.follows .mixedOrders = true) (hB : Region.lexB .any lst.toArray = true) (hp : lst.all undeferred = true)
    (h : wpQuietIn F n P lst.toArray (fun w' => ∃ n, w' = w.drewN n) (fun a' => ∀ w', (∃ n, w' = w.drewN n) → Q .normal a' w') lst a) : (Code.region id lst.toArray true).wpIn (F.inRound l) n P Q a w := by
  have hB' := hB
  simp only [Region.lexB, Bool.and_eq_true] at hB'
  refine wpIn_region_any hm (wpAnyIn_round l hro ?_ _ _ _ _ (wpAnyIn_of_quiet (C := fun w' => ∃ n, w' = w.drewN n) (Q := fun a' => ∀ w', (∃ n, w' = w.drewN n) → Q .normal a' w') hro (fun _ w' hw' h => h w' hw') _ _ _ _ ⟨1, rfl⟩ ?_))
  · intro i o ho
    rw [List.getElem?_toArray] at ho
    exact List.all_eq_true.1 hp o (List.mem_of_getElem? ho)
  · have h0 := wpAnyQIn_lex (F := F) (n := n) (P := P) (C := fun w' => ∃ n, w' = w.drewN n) (md := .any) hB'.1 lst 0 (Array.replicate lst.toArray.size false) a (by simp) (by simpa using hB'.2) h
    simpa using h0
end Go.Proofs.Ytjnkdbgebkajoaa

/- Finding: what the planting of a tree and the making of the iterator over the way down leave. -/
namespace Go.Proofs.Ytjnkdbgebkajoaa
open Go.RowKit

/-- What the planting of a tree and the making of the iterator over the way down leave, from block B on. -/
def DownAt (B gf : Nat) (n : Int) (t : Tr) (s : Value) (W : World) : Prop :=
  ∃ lo hi b q bn bf : Nat, s = .func (.func 125) #[] #[.pointer (some ⟨bn, 0, none⟩), .pointer (some ⟨bf, 0, none⟩)] ∧ NodeIn W lo hi b t ∧ B ≤ lo ∧ hi ≤ W.heap.size ∧ B ≤ q ∧ B ≤ bn ∧ B ≤ bf ∧
    W.heap[bn]? = some (.cells #[.pointer (some ⟨b, 0, none⟩)] 60 (0, 0)) ∧
    W.heap[bf]? = some (.cells #[.func (.func gf) #[] #[.pointer (some ⟨q, 0, none⟩)]] 82 (0, 0)) ∧
    W.heap[q]? = some (.cells #[.int .i64 n] 3 (0, 0))

theorem ownsRow_held {w w' : World} {base : Nat} {e : TypeId} {size n : Nat} {v : Value} {xs : List Value} (h : w.ownsRow base e size v n xs) (hb : ∀ k, v.ownBlock = some k → w'.heap[k]? = w.heap[k]?) : w'.ownsRow base e size v n xs := by
  obtain ⟨h1, h2 | ⟨g, cap, cur, hv, hbb, hg, hr⟩⟩ := h
  · exact ⟨h1, .inl h2⟩
  · exact ⟨h1, .inr ⟨g, cap, cur, hv, hbb, (hb g (by rw [hv]; rfl)).trans hg, hr⟩⟩

theorem downAt_mk {B gf : Nat} {n : Int} {t : Tr} {wp w8 wl : World} {nb : Nat} (hB : B ≤ wp.heap.size) (hnd : NodeIn w8 wp.heap.size w8.heap.size nb t) (hl : wl.heap = w8.heap) (hs8 : wp.heap.size ≤ w8.heap.size) :
    DownAt B gf n t (.func (.func 125) #[] #[.pointer (some ⟨(wl.alloc (.cells #[.int .i64 n] 3)).heap.size, 0, none⟩), .pointer (some ⟨(wl.alloc (.cells #[.int .i64 n] 3)).heap.size + 1, 0, none⟩)])
      (((wl.alloc (.cells #[.int .i64 n] 3)).alloc (.cells #[.pointer (some ⟨nb, 0, none⟩)] 60)).alloc (.cells #[.func (.func gf) #[] #[.pointer (some ⟨wl.heap.size, 0, none⟩)]] 82)) := by
  have hls : wl.heap.size = w8.heap.size := by rw [hl]
  refine ⟨wp.heap.size, w8.heap.size, nb, wl.heap.size, _, _, rfl, hnd.same (fun k _ h => ?_), hB, by simp; omega, by omega, by simp; omega, by simp; omega, ?_, ?_, ?_⟩
  · rw [old_blk _ _ _ (by simp <;> omega), old_blk _ _ _ (by simp <;> omega), old_blk _ _ _ (by omega), hl]
  · rw [old_blk _ _ _ (by simp), new_blk]
  · rw [show (wl.alloc (.cells #[.int .i64 n] 3)).heap.size + 1 = ((wl.alloc (.cells #[.int .i64 n] 3)).alloc (.cells #[.pointer (some ⟨nb, 0, none⟩)] 60)).heap.size by simp, new_blk]
  · rw [old_blk _ _ _ (by simp <;> omega), old_blk _ _ _ (by simp), new_blk]
end Go.Proofs.Ytjnkdbgebkajoaa

/- The contract of hasAt: whether a key is the one at a place of a node. -/
namespace Go.Proofs.Ytjnkdbgebkajoaa
open Go.RowKit

set_option maxRecDepth 100000 in
set_option maxHeartbeats 1000000 in
theorem hasAt_c {w : World} {b : Nat} {kv cv : Value} {ks : List Int} (hbox : w.heap[b]? = some (.cells #[kv, cv] 95 (0, 0))) (hk : IntsAt w kv ks) (_hl : ks.length ≤ 9223372036854775807) (i : Nat) (hi : i ≤ ks.length) (key : Int) :
    Calls Try.prog 128 #[.pointer (some ⟨b, 0, none⟩), .int .i64 (i : Int), .int .i64 key] w fun e w' => e = .returned (.bool (decide (i < ks.length ∧ ks.getD i 0 = key))) ∧ w' = w := by
  obtain ⟨ka, kcap, rfl, k1, k2⟩ := hk
  obtain ⟨x1, x2, x3, x4⟩ := box2 hbox
  by_cases f1 : i < ks.length
  · rcases k2 with h0 | ⟨kb, ko, rfl, g3⟩
    · rw [h0] at f1; simp at f1
    have z1 := g3 i f1
    have f1' : ((i : Int) < (ks.length : Int)) := by omega
    have hd : decide (i < ks.length ∧ ks.getD i 0 = key) = (ks.getD i 0 == key) := by
      rw [Bool.eq_iff_iff]; simp [f1]
    rw [hd]
    clear g3 hd f1 k1 hbox
    generalize ks.getD i 0 = x at z1 ⊢
    go_enter Try.func128, Try.ntmps128
    go_wp2_with fail
    go_ret
    exact ⟨rfl, rfl⟩
  · have hd : decide (i < ks.length ∧ ks.getD i 0 = key) = false := by simp [f1]
    rw [hd]
    have f1' : ¬ ((i : Int) < (ks.length : Int)) := by omega
    clear hd f1 k1 k2 hbox
    go_enter Try.func128, Try.ntmps128
    go_wp2_with fail
    go_ret
    exact ⟨rfl, rfl⟩
end Go.Proofs.Ytjnkdbgebkajoaa
