/- What the loops over steps need: a step's cells; how many steps of a kind a tree has. -/
import Derived.Test.YtodcapgmhginoaaProg
import Derived.Test.YtodcapgmhginoaaCnS0
import Derived.Test.YtodcapgmhginoaaCnS2
import Derived.Test.YtodcapgmhginoaaCnS6
import Derived.Test.YtodcapgmhginoaaCnS5
import Derived.Test.YtodcapgmhginoaaCnS7
import Derived.Test.YtodcapgmhginoaaCnS8
import Derived.Test.YtodcapgmhginoaaCnS21
namespace Go.Proofs.Ytodcapgmhginoaa
open Go.RowKit

def Step.node : Step → ATr
  | .beg a => a
  | .key a _ => a
  | .fin a => a
def Step.what : Step → Int
  | .beg _ => 0
  | .key _ _ => 1
  | .fin _ => 2
def Step.kk : Step → Int
  | .beg _ => 0
  | .key _ k => k
  | .fin _ => 0
theorem Step.enc_eq (x : Step) : x.enc = #[.agg #[.pointer (some x.node.addr), .int .i64 x.what, .int .i64 x.kk]] := by cases x <;> rfl

/-- A property of lists of steps that adds up, said of a whole tree. -/
theorem evs_sum (f : List Step → Nat) (h0 : f [] = 0) (happ : ∀ a b, f (a ++ b) = f a + f b) (hk : ∀ a k, f [.key a k] = 0) (he : ∀ a, f [.fin a] = 0) (F : Tr → Nat) (Fs : List Tr → Nat)
    (hFs0 : Fs [] = 0) (hFs : ∀ t r, Fs (t :: r) = F t + Fs r) (hF : ∀ a : ATr, F a.tr = f [.beg a] + Fs (ATr.trs a.cs)) :
    ∀ n (a : ATr), a.weight ≤ n → f a.evs = F a.tr := by
  intro n
  induction n with
  | zero =>
    intro a ha
    have hc : a.cs.length = 0 := by have := ATr.ks_le a; omega
    have hk0 : a.ks.length = 0 := by have := ATr.ks_le a; omega
    rw [evs_eq, remS_end (by omega), hF, List.length_eq_zero_iff.1 hc]
    have : f [.beg a, .fin a] = f [.beg a] + f [.fin a] := happ [.beg a] [.fin a]
    rw [this, he, ATr.trs, hFs0]
  | succ n ih =>
    intro a ha
    -- the steps from place p on
    have hrem : ∀ m p, 2 * max a.cs.length a.ks.length - p = m → f (remS (a, p)) = Fs (ATr.trs (a.cs.drop ((p + 1) / 2))) := by
      intro m
      induction m with
      | zero =>
        intro p hp
        rw [remS_end (by omega), he, List.drop_eq_nil_of_le (by omega), ATr.trs, hFs0]
      | succ m ihm =>
        intro p hp
        rw [remS_step (by omega), happ, ihm (p + 1) (by omega)]
        obtain ⟨i, hi⟩ : ∃ i, p = 2 * i ∨ p = 2 * i + 1 := ⟨p / 2, by omega⟩
        rcases hi with hi | hi
        · subst hi
          rw [show (2 * i + 1 + 1) / 2 = i + 1 by omega, show (2 * i + 1) / 2 = i by omega]
          by_cases hk1 : i < a.cs.length
          · rw [hev_kid hk1, ih a.cs[i] (by have := ATr.weight_kid hk1; omega), List.drop_eq_getElem_cons hk1, ATr.trs, hFs]
          · rw [hev_nokid hk1, h0, List.drop_eq_nil_of_le (by omega), List.drop_eq_nil_of_le (by omega), ATr.trs, hFs0]
        · subst hi
          rw [show (2 * i + 1 + 1 + 1) / 2 = i + 1 by omega, show (2 * i + 1 + 1) / 2 = i + 1 by omega]
          by_cases hk1 : i < a.ks.length
          · rw [hev_key hk1, hk]; omega
          · rw [hev_nokey hk1, h0]; omega
    rw [evs_eq, hF]
    have : f (.beg a :: remS (a, 0)) = f [.beg a] + f (remS (a, 0)) := happ [.beg a] (remS (a, 0))
    rw [this, hrem _ 0 rfl]
    simp

/-- How many nodes begin. -/
def begs : List Step → Nat
  | [] => 0
  | .beg _ :: r => begs r + 1
  | .key _ _ :: r => begs r
  | .fin _ :: r => begs r
theorem begs_append (a b : List Step) : begs (a ++ b) = begs a + begs b := by
  induction a with
  | nil => simp [begs]
  | cons x r ih => cases x <;> simp [begs, ih] <;> omega
theorem begs_evs (a : ATr) : begs a.evs = a.tr.count := by
  refine evs_sum begs rfl begs_append (fun _ _ => rfl) (fun _ => rfl) Tr.count Tr.counts rfl (fun _ _ => rfl) (fun a => ?_) a.weight a (Nat.le_refl _)
  cases a; simp [ATr.tr, Tr.count, begs, ATr.cs]

/-- How many nodes with just so many keys begin. -/
def fullBegs (n : Int) : List Step → Nat
  | [] => 0
  | .beg a :: r => fullBegs n r + (if (a.ks.length : Int) = n then 1 else 0)
  | .key _ _ :: r => fullBegs n r
  | .fin _ :: r => fullBegs n r
theorem fullBegs_append (n : Int) (a b : List Step) : fullBegs n (a ++ b) = fullBegs n a + fullBegs n b := by
  induction a with
  | nil => simp [fullBegs]
  | cons x r ih => cases x <;> simp [fullBegs, ih] <;> omega
theorem fullBegs_evs (n : Int) (a : ATr) : fullBegs n a.evs = a.tr.full n := by
  refine evs_sum (fullBegs n) rfl (fullBegs_append n) (fun _ _ => rfl) (fun _ => rfl) (Tr.full n) (Tr.fulls n) rfl (fun _ _ => rfl) (fun a => ?_) a.weight a (Nat.le_refl _)
  cases a with
  | mk nb no k c =>
    show (if (k.length : Int) = n then 1 else 0) + Tr.fulls n (ATr.trs c) = (0 + (if (k.length : Int) = n then 1 else 0)) + Tr.fulls n (ATr.trs c)
    rw [Nat.zero_add]

/-- The keys among the steps. -/
def keysOf : List Step → List Int
  | [] => []
  | .beg _ :: r => keysOf r
  | .key _ k :: r => k :: keysOf r
  | .fin _ :: r => keysOf r
theorem keysOf_append (a b : List Step) : keysOf (a ++ b) = keysOf a ++ keysOf b := by
  induction a with
  | nil => rfl
  | cons x r ih => cases x <;> simp [keysOf, ih]
end Go.Proofs.Ytodcapgmhginoaa
