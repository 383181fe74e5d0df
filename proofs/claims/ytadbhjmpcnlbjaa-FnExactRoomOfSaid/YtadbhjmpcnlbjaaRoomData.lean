/- The fullest leaf, by the steps through a tree. -/
import Derived.Test.YtadbhjmpcnlbjaaProg
import Derived.Test.YtadbhjmpcnlbjaaBase
import Derived.Test.YtadbhjmpcnlbjaaTo
import Derived.Test.YtadbhjmpcnlbjaaNode
import Derived.Test.YtadbhjmpcnlbjaaAt
import Derived.Test.YtadbhjmpcnlbjaaStepData
import Derived.Test.YtadbhjmpcnlbjaaIter
import Derived.Test.YtadbhjmpcnlbjaaSteps
import Derived.Test.YtadbhjmpcnlbjaaStepUse
import Derived.Test.YtadbhjmpcnlbjaaRoomSpec
namespace Go.Proofs.Ytadbhjmpcnlbjaa
open Go.RowKit

/-- A property of lists of steps that grows to the greatest, said of a whole tree. -/
theorem evs_most (f : List Step → Nat) (h0 : f [] = 0) (happ : ∀ a b, f (a ++ b) = max (f a) (f b)) (hk : ∀ a k, f [.key a k] = 0) (he : ∀ a, f [.fin a] = 0) (F : Tr → Nat) (Fs : List Tr → Nat)
    (hFs0 : Fs [] = 0) (hFs : ∀ t r, Fs (t :: r) = max (F t) (Fs r)) (hF : ∀ a : ATr, F a.tr = max (f [.beg a]) (Fs (ATr.trs a.cs))) :
    ∀ n (a : ATr), a.weight ≤ n → f a.evs = F a.tr := by
  intro n
  induction n with
  | zero =>
    intro a ha
    have hc : a.cs.length = 0 := by have := ATr.ks_le a; omega
    have hk0 : a.ks.length = 0 := by have := ATr.ks_le a; omega
    rw [evs_eq, remS_end (by omega), hF, List.length_eq_zero_iff.1 hc]
    have : f [.beg a, .fin a] = max (f [.beg a]) (f [.fin a]) := happ [.beg a] [.fin a]
    rw [this, he, ATr.trs, hFs0]
  | succ n ih =>
    intro a ha
    have hrem : ∀ m p, 2 * max a.cs.length a.ks.length - p = m → f (remS (a, p)) = Fs (ATr.trs (a.cs.drop ((p + 1) / 2))) := by
      intro m
      induction m with
      | zero =>
        intro p hp
        rw [remS_end (by omega), he, List.drop_eq_nil_of_le (by omega), ATr.trs, hFs0]
      | succ m ihm =>
        intro p hp
        rw [remS_step (by omega), happ, ihm (p + 1) (by omega)]
        obtain ⟨i, hi⟩ : ∃ i, p = 2 * i ∨ p = 2 * i + 1 := ⟨p / 2, by omega⟩
        rcases hi with hi | hi
        · subst hi
          rw [show (2 * i + 1 + 1) / 2 = i + 1 by omega, show (2 * i + 1) / 2 = i by omega]
          by_cases hk1 : i < a.cs.length
          · rw [hev_kid hk1, ih a.cs[i] (by have := ATr.weight_kid hk1; omega), List.drop_eq_getElem_cons hk1, ATr.trs, hFs]
          · rw [hev_nokid hk1, h0, List.drop_eq_nil_of_le (by omega), List.drop_eq_nil_of_le (by omega), ATr.trs, hFs0]; omega
        · subst hi
          rw [show (2 * i + 1 + 1 + 1) / 2 = i + 1 by omega, show (2 * i + 1 + 1) / 2 = i + 1 by omega]
          by_cases hk1 : i < a.ks.length
          · rw [hev_key hk1, hk]; omega
          · rw [hev_nokey hk1, h0]; omega
    rw [evs_eq, hF]
    have : f (.beg a :: remS (a, 0)) = max (f [.beg a]) (f (remS (a, 0))) := happ [.beg a] (remS (a, 0))
    rw [this, hrem _ 0 rfl]
    simp

/-- How many keys the leaf that begins has that has most. -/
def begMost : List Step → Nat
  | [] => 0
  | .beg a :: r => max (if a.cs.length = 0 then a.ks.length else 0) (begMost r)
  | .key _ _ :: r => begMost r
  | .fin _ :: r => begMost r
theorem begMost_append (a b : List Step) : begMost (a ++ b) = max (begMost a) (begMost b) := by
  induction a with
  | nil => simp [begMost]
  | cons x r ih =>
    cases x with
    | beg c => simp only [begMost, List.cons_append, ih]; omega
    | key c k => simpa only [begMost, List.cons_append] using ih
    | fin c => simpa only [begMost, List.cons_append] using ih
theorem begMost_evs (a : ATr) : begMost a.evs = a.tr.leafMax := by
  refine evs_most begMost rfl begMost_append (fun _ _ => rfl) (fun _ => rfl) Tr.leafMax Tr.leafMaxs rfl (fun _ _ => rfl) (fun a => ?_) a.weight a (Nat.le_refl _)
  cases a with
  | mk nb no k c =>
    show max (if (ATr.trs c).length = 0 then k.length else 0) (Tr.leafMaxs (ATr.trs c)) = max (max (if c.length = 0 then k.length else 0) 0) (Tr.leafMaxs (ATr.trs c))
    rw [ATr.trs_length, Nat.max_zero]
end Go.Proofs.Ytadbhjmpcnlbjaa
