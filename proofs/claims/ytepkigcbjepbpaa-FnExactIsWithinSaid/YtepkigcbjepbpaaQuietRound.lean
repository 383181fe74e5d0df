/- Regions that draw their order and only read, inside a round of a loop over an iterator. -/
import Derived.Sort.QuietIn
import Derived.TacticsInMore
import Derived.RangeFuncCalls
import Derived.WalkKit
namespace Go.Proofs.Ytepkigcbjepbpaa
open Go.RowKit

/-- An operation that is no deferring. -/
def undeferred (o : Oper) : Bool := match o.op with | .defer _ => false | _ => true

theorem undeferred_ne {o : Oper} (h : undeferred o = true) : ∀ c, o.op ≠ .defer c := by
  intro c hc
  unfold undeferred at h
  rw [hc] at h
  cases h

variable {F : Fence} {n : Nat} {P : Program} {ops : Array Oper} {Q : Exit → Act → World → Prop} {md : Region.Mode}

/-- What an operation does in a frame outside a round, it does inside one. -/
theorem wpAnyIn_round (l : Nat) (hro : F.round = none) (hp : ∀ (i : Nat) (o : Oper), ops[i]? = some o → undeferred o = true) : ∀ (fuel : Nat) (listed : Array Bool) (a : Act) (w : World),
    wpAnyIn F n P md ops Q fuel listed a w → wpAnyIn (F.inRound l) n P md ops Q fuel listed a w := by
  intro fuel
  induction fuel with
  | zero => intro listed a w h; exact h
  | succ fuel ih =>
    intro listed a w h
    refine ⟨h.1, fun i hi => ?_⟩
    have hh := h.2 i hi
    unfold wpOpIn at hh ⊢
    cases ho : ops[i]? with
    | none => simp only [ho] at hh ⊢; exact ih _ _ _ hh
    | some o =>
      simp only [ho] at hh ⊢
      by_cases hw : Region.wanted o (yielded ops a.tmps) = true
      · rw [if_pos hw] at hh ⊢
        have hh' := Oper.wpIn_mono (fun a w h => ih (listed.setIfInBounds i true) a w h) hh
        unfold Oper.wpIn at hh' ⊢
        refine ⟨hh'.1, ?_⟩
        have e := hh'.2
        rw [hro, Oper.semAt_eq none _ _ (undeferred_ne (hp i o ho))] at e
        rw [Oper.semAt_eq _ _ _ (undeferred_ne (hp i o ho))]
        exact e
      · rw [if_neg hw] at hh ⊢
        exact ⟨hh.1, ih _ _ _ hh.2⟩

/-- The law of quiet regions, inside a round. -/
theorem wpIn_quiet_round {id l : Nat} {a : Act} {w : World} {lst : List Oper} (hro : F.round = none) (hm : P.follows .mixedOrders = true) (hB : Region.lexB .any lst.toArray = true) (hp : lst.all undeferred = true)
    (h : wpQuietIn F n P lst.toArray (fun w' => ∃ n, w' = w.drewN n) (fun a' => ∀ w', (∃ n, w' = w.drewN n) → Q .normal a' w') lst a) : (Code.region id lst.toArray true).wpIn (F.inRound l) n P Q a w := by
  have hB' := hB
  simp only [Region.lexB, Bool.and_eq_true] at hB'
  refine wpIn_region_any hm (wpAnyIn_round l hro ?_ _ _ _ _ (wpAnyIn_of_quiet (C := fun w' => ∃ n, w' = w.drewN n) (Q := fun a' => ∀ w', (∃ n, w' = w.drewN n) → Q .normal a' w') hro (fun _ w' hw' h => h w' hw') _ _ _ _ ⟨1, rfl⟩ ?_))
  · intro i o ho
    rw [List.getElem?_toArray] at ho
    exact List.all_eq_true.1 hp o (List.mem_of_getElem? ho)
  · have h0 := wpAnyQIn_lex (F := F) (n := n) (P := P) (C := fun w' => ∃ n, w' = w.drewN n) (md := .any) hB'.1 lst 0 (Array.replicate lst.toArray.size false) a (by simp) (by simpa using hB'.2) h
    simpa using h0
end Go.Proofs.Ytepkigcbjepbpaa
