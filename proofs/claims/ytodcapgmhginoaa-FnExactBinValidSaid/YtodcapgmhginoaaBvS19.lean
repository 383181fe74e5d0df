/- Loops over iterators: what an iterator owes its loop, and the law of the loop, where whoever goes on keeps the blocks of the other. -/
import Derived.RangeFuncNested
import Derived.WalkKit
import Derived.WalkSmall
import Derived.Lib.Hide
namespace Go.Proofs.Ytodcapgmhginoaa
open Go.RowKit

/-- What a step from w to w' keeps: the streams, and all blocks of a set. -/
structure Keep (K : Nat → Prop) (w w' : World) : Prop where
  os : w'.os = w.os
  tape : w'.tape = w.tape
  output : w'.output = w.output
  size : w.heap.size ≤ w'.heap.size
  block : ∀ k, k < w.heap.size → K k → w'.heap[k]? = w.heap[k]?

namespace Keep
theorem refl (K : Nat → Prop) (w : World) : Keep K w w := ⟨rfl, rfl, rfl, Nat.le_refl _, fun _ _ _ => rfl⟩
theorem trans {K : Nat → Prop} {a b c : World} (h : Keep K a b) (k : Keep K b c) : Keep K a c :=
  ⟨k.os.trans h.os, k.tape.trans h.tape, k.output.trans h.output, Nat.le_trans h.size k.size, fun i hi hk => (k.block i (Nat.lt_of_lt_of_le hi h.size) hk).trans (h.block i hi hk)⟩
theorem mono {K K' : Nat → Prop} {w w' : World} (h : Keep K w w') (hk : ∀ k, k < w.heap.size → K' k → K k) : Keep K' w w' := ⟨h.os, h.tape, h.output, h.size, fun i hi x => h.block i hi (hk i hi x)⟩
theorem drew (K : Nat → Prop) (w : World) : Keep K w w.drew := ⟨rfl, rfl, rfl, Nat.le_refl _, fun _ _ _ => rfl⟩
theorem drewN (K : Nat → Prop) (w : World) (n : Nat) : Keep K w (w.drewN n) := ⟨rfl, rfl, rfl, Nat.le_refl _, fun _ _ _ => rfl⟩
theorem alloc (K : Nat → Prop) (w : World) (o : Obj) : Keep K w (w.alloc o) := ⟨rfl, rfl, rfl, by simp, fun k hk _ => Below.heap_alloc w o k hk⟩
theorem setCell (K : Nat → Prop) (w : World) (p : Addr) (u : Value) (h : ¬ K p.block) : Keep K w (w.setCell p u) :=
  ⟨rfl, rfl, rfl, by simp, fun k _ hk => Below.heap_setCell w p u k (fun e => h (e ▸ hk))⟩
theorem putObj (K : Nat → Prop) (w : World) (l : Nat) (o : Obj) (h : ¬ K l) : Keep K w (w.putObj l o) :=
  ⟨rfl, rfl, rfl, by simp, fun k _ hk => World.putObj_heap_other (fun e => h (e ▸ hk))⟩
theorem of_below {K : Nat → Prop} {B : Nat} {w w' : World} (h : Below B w w') (hk : ∀ k, k < w.heap.size → K k → k < B) : Keep K w w' := ⟨h.os, h.tape, h.output, h.size, fun k hk' hK => h.block k (hk k hk' hK)⟩
theorem below {K : Nat → Prop} {B : Nat} {w w' : World} (h : Keep K w w') (hB : B ≤ w.heap.size) (hk : ∀ k, k < B → K k) : Below B w w' := ⟨h.os, h.tape, h.output, h.size, fun k hk' => h.block k (by omega) (hk k hk')⟩
theorem grown {K : Nat → Prop} {w w' : World} {row : Option Nat} (hg : w.grownBy w' row) (hr : ∀ k, row = some k → ¬ K k) : Keep K w w' :=
  ⟨hg.os, hg.tape, hg.output, hg.size, fun k hk hK => hg.block k hk (fun e => hr k e.symm hK)⟩
end Keep

/-- What a loop's owner says of its own blocks between two rounds abides whatever is done to the blocks of the other side, and to new ones. -/
def Abide {α : Type} (J : List α → (Nat → Prop) → World → Prop) : Prop :=
  ∀ pre Pv A Pv' B, J pre Pv A → Keep (fun k => ¬ Pv k) A B → (∀ k, Pv' k → Pv k ∨ A.heap.size ≤ k) → J pre Pv' B

/-- A call of yield, the round that it asks for, and what that round does. -/
def Round1 (P : Program) (l : Nat) (args : Array Value) (W : World) (R : Ending → World → Prop) : Prop :=
  ∃ fn tmps assign body, (Instr.yield l args).run P W = .ok (.round l fn tmps assign body) W ∧ ∀ m, RoundIn Fence.wide m P l fn tmps assign body W R

theorem Round1.mono {P : Program} {l : Nat} {args : Array Value} {W : World} {R R' : Ending → World → Prop} (h : Round1 P l args W R) (hr : ∀ e w, R e w → R' e w) : Round1 P l args W R' := by
  obtain ⟨fn, tmps, assign, body, hy, hR⟩ := h
  exact ⟨fn, tmps, assign, body, hy, fun m => (hR m).mono hr⟩

/-- What all rounds of loop l do, as long as the blocks of Pv₀ are kept from W₀ on. -/
def Rounds {α : Type} (P : Program) (l : Nat) (encs : α → Array Value) (J Jx : List α → (Nat → Prop) → World → Prop) (xs : List α) (Pv₀ : Nat → Prop) (W₀ : World) : Prop :=
  ∀ (pre : List α) (x : α) (Pv : Nat → Prop) (W : World), J pre Pv W → Keep Pv₀ W₀ W → (∀ k, Pv₀ k → Pv k) → (∀ k, Pv k → k < W.heap.size) → pre ++ [x] <+: xs → Round1 P l (encs x) W fun e W' =>
    Keep Pv W W' ∧ ((e = .returned (.bool true) ∧ J (pre ++ [x]) Pv W') ∨ (e = .returned (.bool false) ∧ Jx (pre ++ [x]) Pv W'))

/-- An iterator of xs. Rd: the blocks that it reads. -/
def Iter {α : Type} (P : Program) (g : Nat) (fb lb : Array Value) (encs : α → Array Value) (Rd : Nat → Prop) (xs : List α) (w₀ : World) : Prop :=
  ∀ (l : Nat) (J Jx : List α → (Nat → Prop) → World → Prop) (Pv : Nat → Prop) (W : World), Keep Rd w₀ W → (∀ k, Rd k → Pv k) → (∀ k, Pv k → k < W.heap.size) → Abide J → Abide Jx → Rounds P l encs J Jx xs Pv W → J [] Pv W →
    Calls P g (fb ++ #[.func (.yield l) #[] #[]] ++ lb) W fun e W' => (∃ v, e = .returned v) ∧ Keep Pv W W' ∧ (J xs Pv W' ∨ ∃ pre, pre <+: xs ∧ Jx pre Pv W')

/-- How a round's body may be left. -/
def bodyEnds {α : Type} (I : List α → (Nat → Prop) → World → Prop) (Ix : Code → List α → (Nat → Prop) → World → Prop) (xs : List α) (Pv : Nat → Prop) (W : World) : Exit → Act → World → Prop
  | .normal, _, W' => Keep Pv W W' ∧ I xs Pv W'
  | .ret, _, W' => Keep Pv W W' ∧ Ix .ret xs Pv W'
  | .exit id, _, W' => Keep Pv W W' ∧ Ix (.exit id) xs Pv W'
  | .goto t, _, W' => Keep Pv W W' ∧ Ix (.goto t) xs Pv W'
  | .panic _, _, _ => False
  | .outgrown, _, _ => False

variable {P : Program} {n : Nat}

/-- The law of 'for x := range seq' in a function's own frame, where the assignment may lay blocks. -/
theorem wp_loopA {α : Type} {g : Operand} {ps : Array Tmp} {assign body : Code} {Q : Exit → Act → World → Prop} {a : Act} {w : World}
    {gf : Nat} {fb lb : Array Value} (hg : a.eval g = .func (.func gf) fb lb) (eg : ∀ args w, (callFunc gf args).run P w = .ok (.enter gf args) w)
    {encs : α → Array Value} {Rd : Nat → Prop} {xs : List α} {w₀ : World} (hit : Iter P gf fb lb encs Rd xs w₀) (hk0 : Keep Rd w₀ w) (hps : ∀ x, (encs x).size = ps.size)
    (Pv : Nat → Prop) (hRd : ∀ k, Rd k → Pv k) (hPv : ∀ k, Pv k → k < w.heap.size)
    (I : List α → (Nat → Prop) → World → Prop) (Ix : Code → List α → (Nat → Prop) → World → Prop) (hI : Abide I) (hIx : ∀ c, Abide (Ix c)) (h0 : I [] Pv w) (Ax : α → Act → (Nat → Prop) → World → Prop) (hAx : ∀ x a' Pv A B, Ax x a' Pv A → Keep (fun k => ¬ Pv k) A B → Ax x a' Pv B)
    (hassign : ∀ (l m : Nat) (pre : List α) (x : α) (Pv' : Nat → Prop) (W : World), I pre Pv' W → (∀ k, Pv' k → k < W.heap.size) →
      assign.wpIn (Fence.wide.inRound l) m P (Exit.then (fun a' W' => Keep Pv' W W' ∧ I pre Pv' W' ∧ Ax x a' Pv' W') (fun _ _ _ => False)) { tmps := (ps.zip (encs x)).foldl (fun t (p, v) => t.setIfInBounds p v) a.tmps, defers := [] } W)
    (hbody : ∀ (l m : Nat) (pre : List α) (x : α) (a' : Act) (Pv' : Nat → Prop) (W : World), I pre Pv' W → Ax x a' Pv' W → Keep Pv w W → (∀ k, Pv k → Pv' k) → (∀ k, Pv' k → k < W.heap.size) → pre ++ [x] <+: xs → body.wpIn (Fence.wide.inRound l) m P (bodyEnds I Ix (pre ++ [x]) Pv' W) a' W)
    (hdone : ∀ (W : World), Keep Pv w W → I xs (fun k => Pv k ∨ k = w.heap.size ∨ k = w.heap.size + 1) W → w.heap.size + 1 < W.heap.size → W.heap[w.heap.size]? = some (.deferred (some [])) → Q .normal { a with defers := { target := .collected w.heap.size, args := #[] } :: a.defers } W)
    (hstop : ∀ (c : Code) (pre : List α) (W : World), Keep Pv w W → pre <+: xs → Ix c pre (fun k => Pv k ∨ k = w.heap.size ∨ k = w.heap.size + 1) W → w.heap.size + 1 < W.heap.size → W.heap[w.heap.size]? = some (.deferred (some [])) → c.wpIn Fence.wide n P Q { a with defers := { target := .collected w.heap.size, args := #[] } :: a.defers } W) :
    (Code.rangeFunc g ps assign body).wpIn Fence.wide n P Q a w := by
  refine wpIn_rangeFunc (fun fn hfn => ?_)
  -- the two blocks of the loop: D for the rounds' deferred calls, L its record
  let rec' : LoopState → Option Code → Loop := fun st pe => { state := st, pending := pe, fn, tmps := a.tmps, params := ps, assign, body, defers := w.heap.size }
  obtain ⟨rc, hrc⟩ : ∃ rc, rc = rec' := ⟨_, rfl⟩
  obtain ⟨W1, hW1⟩ : ∃ W1, W1 = (w.alloc (.deferred (some []))).alloc (.loop (rc .ready none)) := ⟨_, rfl⟩
  have hs1 : W1.heap.size = w.heap.size + 2 := by rw [hW1]; simp
  have hL1 : W1.heap[w.heap.size + 1]? = some (.loop (rc .ready none)) := by
    have h := World.alloc_heap_new (w.alloc (.deferred (some []))) (.loop (rc .ready none))
    rw [World.size_alloc] at h; rw [hW1]; exact h
  have hD1 : W1.heap[w.heap.size]? = some (.deferred (some [])) := by rw [hW1, Below.heap_alloc _ _ _ (by simp)]; exact World.alloc_heap_new w _
  have hk1 : ∀ K, Keep K w W1 := fun K => by rw [hW1]; exact (Keep.alloc K _ _).trans (Keep.alloc K _ _)
  have hent : (Instr.enterLoop fn a.tmps ps assign body none).run P w = .ok (w.heap.size + 1, [{ target := .collected w.heap.size, args := #[] }]) W1 := by
    rw [hW1, hrc]; exact run_enterLoop_outer _ _ _ _ _
  clear hW1
  refine ⟨w.heap.size + 1, _, W1, { target := .fn (.func gf) lb, args := fb ++ #[.func (.yield (w.heap.size + 1)) #[] #[]] }, W1, gf, fb ++ #[.func (.yield (w.heap.size + 1)) #[] #[]] ++ lb, W1, hent, ?_, fun _ _ => trivial, ?_, fun h => (by cases h), ?_⟩
  · simp only [resolve, hg]
    simp [go_sem]
  · simp [invoke, go_sem, eg]
  · have hc := hit (w.heap.size + 1)
      (fun pre Pv' W => (∀ k, Pv' k → k ≠ w.heap.size ∧ k ≠ w.heap.size + 1) ∧ w.heap.size + 1 < W.heap.size ∧ I pre (fun k => Pv' k ∨ k = w.heap.size ∨ k = w.heap.size + 1) W ∧ W.heap[w.heap.size + 1]? = some (.loop (rc .ready none)) ∧ W.heap[w.heap.size]? = some (.deferred (some [])))
      (fun pre Pv' W => ∃ c, (∀ k, Pv' k → k ≠ w.heap.size ∧ k ≠ w.heap.size + 1) ∧ w.heap.size + 1 < W.heap.size ∧ Ix c pre (fun k => Pv' k ∨ k = w.heap.size ∨ k = w.heap.size + 1) W ∧ W.heap[w.heap.size + 1]? = some (.loop (rc .done (some c))) ∧ W.heap[w.heap.size]? = some (.deferred (some [])))
      Pv W1 (hk0.trans (hk1 _)) hRd (fun k hk => by have := hPv k hk; omega)
      (fun pre Pv1 A Pv2 B h hk hp => by
        obtain ⟨g1, g2, g3, g4, g5⟩ := h
        have e1 : ¬ Pv1 (w.heap.size + 1) := fun x => (g1 _ x).2 rfl
        have e2 : ¬ Pv1 w.heap.size := fun x => (g1 _ x).1 rfl
        refine ⟨fun k hk' => ?_, Nat.lt_of_lt_of_le g2 hk.size, hI _ _ A _ B g3 (hk.mono (fun k _ h x => h (.inl x))) ?_, (hk.block _ g2 e1).trans g4, (hk.block _ (by omega) e2).trans g5⟩
        · rcases hp k hk' with h | h
          · exact g1 k h
          · omega
        · rintro k (h | h | h)
          · rcases hp k h with h | h
            · exact .inl (.inl h)
            · exact .inr h
          · exact .inl (.inr (.inl h))
          · exact .inl (.inr (.inr h)))
      (fun pre Pv1 A Pv2 B h hk hp => by
        obtain ⟨c, g1, g2, g3, g4, g5⟩ := h
        have e1 : ¬ Pv1 (w.heap.size + 1) := fun x => (g1 _ x).2 rfl
        have e2 : ¬ Pv1 w.heap.size := fun x => (g1 _ x).1 rfl
        refine ⟨c, fun k hk' => ?_, Nat.lt_of_lt_of_le g2 hk.size, hIx c _ _ A _ B g3 (hk.mono (fun k _ h x => h (.inl x))) ?_, (hk.block _ g2 e1).trans g4, (hk.block _ (by omega) e2).trans g5⟩
        · rcases hp k hk' with h | h
          · exact g1 k h
          · omega
        · rintro k (h | h | h)
          · rcases hp k h with h | h
            · exact .inl (.inl h)
            · exact .inr h
          · exact .inl (.inr (.inl h))
          · exact .inl (.inr (.inr h)))
      ?_ ⟨fun k hk => by have := hPv k hk; omega, by omega, ?_, hL1, hD1⟩
    · have hc' := (callsIn_wide (n := n - 1)).2 hc
      refine hc'.mono ?_
      rintro e W2 ⟨⟨v, rfl⟩, hkp, (⟨g1, g2, g3, g4, g5⟩ | ⟨pre, hpre, c, g1, g2, g3, g4, g5⟩)⟩
      · have hput : Keep (fun k => ¬ (Pv k ∨ k = w.heap.size ∨ k = w.heap.size + 1)) W2 (W2.putObj (w.heap.size + 1) (.loop { rc .ready none with state := .exhausted })) := Keep.putObj _ _ _ _ (fun h => h (.inr (.inr rfl)))
        refine ⟨none, W2.putObj (w.heap.size + 1) (.loop { rc .ready none with state := .exhausted }), (run_endLoop (P := P) g4 (by rw [hrc]; simp [rec'])).trans (by have hp : (rc .ready none).pending = none := (by rw [hrc]); exact congrArg (fun p => Result.ok p _) hp), ?_⟩
        refine hdone _ (((hk1 _).trans hkp).trans (Keep.putObj _ _ _ _ (fun h => (g1 _ h).2 rfl))) (hI _ _ _ _ _ g3 hput (fun k h => .inl h)) (by simp; omega) ((World.putObj_heap_other (by omega)).trans g5)
      · have hput : Keep (fun k => ¬ (Pv k ∨ k = w.heap.size ∨ k = w.heap.size + 1)) W2 (W2.putObj (w.heap.size + 1) (.loop { rc .done (some c) with state := .exhausted })) := Keep.putObj _ _ _ _ (fun h => h (.inr (.inr rfl)))
        refine ⟨some c, W2.putObj (w.heap.size + 1) (.loop { rc .done (some c) with state := .exhausted }), (run_endLoop (P := P) g4 (by rw [hrc]; simp [rec'])).trans (by have hp : (rc .done (some c)).pending = some c := (by rw [hrc]); exact congrArg (fun p => Result.ok p _) hp), ?_⟩
        refine hstop c pre _ (((hk1 _).trans hkp).trans (Keep.putObj _ _ _ _ (fun h => (g1 _ h).2 rfl))) hpre (hIx c _ _ _ _ _ g3 hput (fun k h => .inl h)) (by simp; omega) ((World.putObj_heap_other (by omega)).trans g5)
    · -- one round
      rintro pre x Pv1 W ⟨g1, g2, g3, g4, g5⟩ hkeep hsub hbnd hpre
      have hy := run_yield (P := P) (args := encs x) g4 (by rw [hrc]; exact hps x)
      have e1 : ¬ Pv1 (w.heap.size + 1) := fun x => (g1 _ x).2 rfl
      have e2 : ¬ Pv1 w.heap.size := fun x => (g1 _ x).1 rfl
      rw [hrc] at hy
      have hbD' : ∀ k, (Pv1 k ∨ k = w.heap.size ∨ k = w.heap.size + 1) → k < W.heap.size := fun k h => h.elim (fun h => hbnd k h) (fun h => h.elim (fun h => by omega) (fun h => by omega))
      refine ⟨fn, _, assign, body, hy, fun m => roundIn_of_wpIn hfn (wpIn_mono (hassign _ m pre x _ W g3 hbD') ?_)⟩
      intro e0 a' Wa hea
      cases e0 with
      | exit _ => exact hea.elim
      | goto _ => exact hea.elim
      | ret => exact hea.elim
      | panic _ => exact hea.elim
      | outgrown => exact hea.elim
      | normal =>
      obtain ⟨hka, hia, haa⟩ := hea
      have hsa := hka.size
      replace g4 := (hka.block _ g2 (.inr (.inr rfl))).trans g4
      replace g5 := (hka.block _ (by omega) (.inr (.inl rfl))).trans g5
      replace g2 := Nat.lt_of_lt_of_le g2 hsa
      replace g3 := hia
      replace hkeep := hkeep.trans (hka.mono (fun k _ h => .inl (hsub k h)))
      have hkW := hka.mono (K' := Pv1) (fun k _ h => .inl h)
      replace hbnd : ∀ k, Pv1 k → k < Wa.heap.size := fun k h => Nat.lt_of_lt_of_le (hbnd k h) hsa
      refine ⟨_, run_beginRound g4 (by rw [hrc]), ?_⟩
      obtain ⟨Wb, hWb⟩ : ∃ Wb, Wb = Wa.putObj (w.heap.size + 1) (.loop { rc .ready none with state := .busy }) := ⟨_, rfl⟩
      rw [← hWb]
      have kb : ∀ K : Nat → Prop, ¬ K (w.heap.size + 1) → Keep K Wa Wb := fun K h => by rw [hWb]; exact Keep.putObj _ _ _ _ h
      have hbL : Wb.heap[w.heap.size + 1]? = some (.loop { rc .ready none with state := .busy }) := by rw [hWb]; exact World.putObj_heap_same g2
      have hbD : Wb.heap[w.heap.size]? = some (.deferred (some [])) := by rw [hWb]; exact (World.putObj_heap_other (by omega)).trans g5
      have hbs : Wb.heap.size = Wa.heap.size := by rw [hWb]; simp
      have hib : I pre (fun k => Pv1 k ∨ k = w.heap.size ∨ k = w.heap.size + 1) Wb := hI _ _ _ _ _ g3 (kb _ (fun h => h (.inr (.inr rfl)))) (fun k h => .inl h)
      have hab := hAx _ _ _ _ _ haa (kb _ (fun h => h (.inr (.inr rfl))))
      refine wpIn_mono (hbody _ m pre x a' _ Wb hib hab (((hk1 _).trans hkeep).trans (kb _ (fun h => e1 (hsub _ h)))) (fun k h => .inl (hsub k h)) (fun k h => h.elim (fun h => by have := hbnd k h; omega) (fun h => h.elim (fun h => by omega) (fun h => by omega))) hpre) ?_
      -- the end of a round, by whatever way
      have fin : ∀ (jump : Option Code) (W3 : World), Keep (fun k => Pv1 k ∨ k = w.heap.size ∨ k = w.heap.size + 1) Wb W3 →
          ∃ W4, (Instr.endRound (w.heap.size + 1) jump).run P W3 = .ok (.bool jump.isNone) W4 ∧ Keep Pv1 Wa W4 ∧ w.heap.size + 1 < W4.heap.size ∧
            Keep (fun k => ¬ (Pv1 k ∨ k = w.heap.size ∨ k = w.heap.size + 1)) W3 W4 ∧ W4.heap[w.heap.size + 1]? = some (.loop (rc (if jump.isNone then .ready else .done) jump)) ∧ W4.heap[w.heap.size]? = some (.deferred (some [])) := fun jump W3 hk3 => by
        have h3 := (hk3.block (w.heap.size + 1) (by omega) (.inr (.inr rfl))).trans hbL
        have hsz := hk3.size
        have hr := run_endRound (P := P) jump h3
        rw [hrc] at hr ⊢
        refine ⟨_, hr, ?_, by simp; omega, Keep.putObj _ _ _ _ (fun h => h (.inr (.inr rfl))), World.putObj_heap_same (by omega), (World.putObj_heap_other (by omega)).trans ((hk3.block w.heap.size (by omega) (.inr (.inl rfl))).trans hbD)⟩
        exact ((kb _ e1).trans (hk3.mono (fun k _ h => .inl h))).trans (Keep.putObj _ _ _ _ e1)
      rintro e a3 W3 hp
      cases e with
      | normal =>
        obtain ⟨hk3, hi3⟩ := hp
        obtain ⟨W4, hr, hkk, hlt, hk4, hl4, hd4⟩ := fin none W3 hk3
        exact ⟨_, _, hr, hkW.trans hkk, .inl ⟨rfl, g1, hlt, hI _ _ _ _ _ hi3 hk4 (fun k h => .inl h), hl4, hd4⟩⟩
      | ret =>
        obtain ⟨hk3, hi3⟩ := hp
        obtain ⟨W4, hr, hkk, hlt, hk4, hl4, hd4⟩ := fin (some .ret) W3 hk3
        exact ⟨_, _, hr, hkW.trans hkk, .inr ⟨rfl, .ret, g1, hlt, hIx _ _ _ _ _ _ hi3 hk4 (fun k h => .inl h), hl4, hd4⟩⟩
      | exit id =>
        obtain ⟨hk3, hi3⟩ := hp
        obtain ⟨W4, hr, hkk, hlt, hk4, hl4, hd4⟩ := fin (some (.exit id)) W3 hk3
        exact ⟨_, _, hr, hkW.trans hkk, .inr ⟨rfl, .exit id, g1, hlt, hIx _ _ _ _ _ _ hi3 hk4 (fun k h => .inl h), hl4, hd4⟩⟩
      | goto t =>
        obtain ⟨hk3, hi3⟩ := hp
        obtain ⟨W4, hr, hkk, hlt, hk4, hl4, hd4⟩ := fin (some (.goto t)) W3 hk3
        exact ⟨_, _, hr, hkW.trans hkk, .inr ⟨rfl, .goto t, g1, hlt, hIx _ _ _ _ _ _ hi3 hk4 (fun k h => .inl h), hl4, hd4⟩⟩
      | panic ch => exact hp.elim
      | outgrown => exact hp.elim
    · exact hI _ _ _ _ _ h0 (hk1 _) (fun k h => by
        rcases h with h | h | h
        · exact .inl h
        · exact .inr (by omega)
        · exact .inr (by omega))

/-- The law where the assignment leaves the world as it is. -/
theorem wp_loop {α : Type} {g : Operand} {ps : Array Tmp} {assign body : Code} {Q : Exit → Act → World → Prop} {a : Act} {w : World}
    {gf : Nat} {fb lb : Array Value} (hg : a.eval g = .func (.func gf) fb lb) (eg : ∀ args w, (callFunc gf args).run P w = .ok (.enter gf args) w)
    {encs : α → Array Value} {Rd : Nat → Prop} {xs : List α} {w₀ : World} (hit : Iter P gf fb lb encs Rd xs w₀) (hk0 : Keep Rd w₀ w) (hps : ∀ x, (encs x).size = ps.size)
    (Pv : Nat → Prop) (hRd : ∀ k, Rd k → Pv k) (hPv : ∀ k, Pv k → k < w.heap.size)
    (I : List α → (Nat → Prop) → World → Prop) (Ix : Code → List α → (Nat → Prop) → World → Prop) (hI : Abide I) (hIx : ∀ c, Abide (Ix c)) (h0 : I [] Pv w) (a₁ : α → Act)
    (hassign : ∀ (l m : Nat) (x : α) (W : World) (K : Act → World → Prop), K (a₁ x) W →
      assign.wpIn (Fence.wide.inRound l) m P (Exit.then K (fun _ _ _ => False)) { tmps := (ps.zip (encs x)).foldl (fun t (p, v) => t.setIfInBounds p v) a.tmps, defers := [] } W)
    (hbody : ∀ (l m : Nat) (pre : List α) (x : α) (Pv' : Nat → Prop) (W : World), I pre Pv' W → Keep Pv w W → (∀ k, Pv k → Pv' k) → (∀ k, Pv' k → k < W.heap.size) → pre ++ [x] <+: xs → body.wpIn (Fence.wide.inRound l) m P (bodyEnds I Ix (pre ++ [x]) Pv' W) (a₁ x) W)
    (hdone : ∀ (W : World), Keep Pv w W → I xs (fun k => Pv k ∨ k = w.heap.size ∨ k = w.heap.size + 1) W → w.heap.size + 1 < W.heap.size → W.heap[w.heap.size]? = some (.deferred (some [])) → Q .normal { a with defers := { target := .collected w.heap.size, args := #[] } :: a.defers } W)
    (hstop : ∀ (c : Code) (pre : List α) (W : World), Keep Pv w W → pre <+: xs → Ix c pre (fun k => Pv k ∨ k = w.heap.size ∨ k = w.heap.size + 1) W → w.heap.size + 1 < W.heap.size → W.heap[w.heap.size]? = some (.deferred (some [])) → c.wpIn Fence.wide n P Q { a with defers := { target := .collected w.heap.size, args := #[] } :: a.defers } W) :
    (Code.rangeFunc g ps assign body).wpIn Fence.wide n P Q a w :=
  wp_loopA hg eg hit hk0 hps Pv hRd hPv I Ix hI hIx h0 (fun x a' _ _ => a' = a₁ x) (fun _ _ _ _ _ h _ => h)
    (fun l m pre x Pv' W hi _ => hassign l m x W _ ⟨Keep.refl _ _, hi, rfl⟩)
    (fun l m pre x a' Pv' W hi ha h1 h2 h3 h4 => by subst ha; exact hbody l m pre x Pv' W hi h1 h2 h3 h4) hdone hstop
end Go.Proofs.Ytodcapgmhginoaa
