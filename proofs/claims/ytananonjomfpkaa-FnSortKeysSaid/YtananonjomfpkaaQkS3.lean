/- Loops over iterators: what an iterator owes its loop, and the law of the loop, where whoever goes on keeps the blocks of the other. -/
import Derived.RangeFuncNested
import Derived.WalkKit
import Derived.WalkSmall
import Derived.Lib.Hide
namespace Go.Proofs.Ytananonjomfpkaa
open Go.RowKit
structure Keep (K : Nat → Prop) (w w' : World) : Prop where
 os : w'.os = w.os
 tape : w'.tape = w.tape
 output : w'.output = w.output
 size : w.heap.size ≤ w'.heap.size
 block : ∀ k, k < w.heap.size → K k → w'.heap[k]? = w.heap[k]?
namespace Keep
theorem trans {K : Nat → Prop} {a b c : World} (h : Keep K a b) (k : Keep K b c) : Keep K a c :=
 ⟨k.os.trans h.os, k.tape.trans h.tape, k.output.trans h.output, Nat.le_trans h.size k.size, fun i hi hk => (k.block i (Nat.lt_of_lt_of_le hi h.size) hk).trans (h.block i hi hk)⟩
theorem mono {K K' : Nat → Prop} {w w' : World} (h : Keep K w w') (hk : ∀ k, k < w.heap.size → K' k → K k) : Keep K' w w' := ⟨h.os, h.tape, h.output, h.size, fun i hi x => h.block i hi (hk i hi x)⟩
theorem drewN (K : Nat → Prop) (w : World) (n : Nat) : Keep K w (w.drewN n) := ⟨rfl, rfl, rfl, Nat.le_refl _, fun _ _ _ => rfl⟩
theorem alloc (K : Nat → Prop) (w : World) (o : Obj) : Keep K w (w.alloc o) := ⟨rfl, rfl, rfl, by simp, fun k hk _ => Below.heap_alloc w o k hk⟩
theorem below {K : Nat → Prop} {B : Nat} {w w' : World} (h : Keep K w w') (hB : B ≤ w.heap.size) (hk : ∀ k, k < B → K k) : Below B w w' := ⟨h.os, h.tape, h.output, h.size, fun k hk' => h.block k (by omega) (hk k hk')⟩
theorem grown {K : Nat → Prop} {w w' : World} {row : Option Nat} (hg : w.grownBy w' row) (hr : ∀ k, row = some k → ¬ K k) : Keep K w w' :=
 ⟨hg.os, hg.tape, hg.output, hg.size, fun k hk hK => hg.block k hk (fun e => hr k e.symm hK)⟩
end Keep
def Abide {α : Type} (J : List α → (Nat → Prop) → World → Prop) : Prop :=
 ∀ pre Pv A Pv' B, J pre Pv A → Keep (fun k => ¬ Pv k) A B → (∀ k, Pv' k → Pv k ∨ A.heap.size ≤ k) → J pre Pv' B
def Round1 (P : Program) (l : Nat) (args : Array Value) (W : World) (R : Ending → World → Prop) : Prop :=
 ∃ fn tmps assign body, (Instr.yield l args).run P W = .ok (.round l fn tmps assign body) W ∧ ∀ m, RoundIn Fence.wide m P l fn tmps assign body W R
def Rounds {α : Type} (P : Program) (l : Nat) (encs : α → Array Value) (J Jx : List α → (Nat → Prop) → World → Prop) (xs : List α) (Pv₀ : Nat → Prop) (W₀ : World) : Prop :=
 ∀ (pre : List α) (x : α) (Pv : Nat → Prop) (W : World), J pre Pv W → Keep Pv₀ W₀ W → (∀ k, Pv₀ k → Pv k) → (∀ k, Pv k → k < W.heap.size) → pre ++ [x] <+: xs → Round1 P l (encs x) W fun e W' =>
   Keep Pv W W' ∧ ((e = .returned (.bool true) ∧ J (pre ++ [x]) Pv W') ∨ (e = .returned (.bool false) ∧ Jx (pre ++ [x]) Pv W'))
def Iter {α : Type} (P : Program) (g : Nat) (fb lb : Array Value) (encs : α → Array Value) (Rd : Nat → Prop) (xs : List α) (w₀ : World) : Prop :=
 ∀ (l : Nat) (J Jx : List α → (Nat → Prop) → World → Prop) (Pv : Nat → Prop) (W : World), Keep Rd w₀ W → (∀ k, Rd k → Pv k) → (∀ k, Pv k → k < W.heap.size) → Abide J → Abide Jx → Rounds P l encs J Jx xs Pv W → J [] Pv W →
   Calls P g (fb ++ #[.func (.yield l) #[] #[]] ++ lb) W fun e W' => (∃ v, e = .returned v) ∧ Keep Pv W W' ∧ (J xs Pv W' ∨ ∃ pre, pre <+: xs ∧ Jx pre Pv W')
def bodyEnds {α : Type} (I : List α → (Nat → Prop) → World → Prop) (Ix : Code → List α → (Nat → Prop) → World → Prop) (xs : List α) (Pv : Nat → Prop) (W : World) : Exit → Act → World → Prop
 | .normal, _, W' => Keep Pv W W' ∧ I xs Pv W'
 | .ret, _, W' => Keep Pv W W' ∧ Ix .ret xs Pv W'
 | .exit id, _, W' => Keep Pv W W' ∧ Ix (.exit id) xs Pv W'
 | .goto t, _, W' => Keep Pv W W' ∧ Ix (.goto t) xs Pv W'
 | .panic _, _, _ => False
 | .outgrown, _, _ => False
variable {P : Program} {n : Nat}
end Go.Proofs.Ytananonjomfpkaa
