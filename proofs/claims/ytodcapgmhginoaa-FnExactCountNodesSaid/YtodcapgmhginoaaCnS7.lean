/- What one comes by on the way through a tree: plain data. -/
import Derived.Test.YtodcapgmhginoaaCnS0
import Derived.Test.YtodcapgmhginoaaCnS5
namespace Go.Proofs.Ytodcapgmhginoaa
open Go.RowKit

/-- A node that begins, a key, a node that ends. -/
inductive Step where
  | beg (a : ATr)
  | key (a : ATr) (k : Int)
  | fin (a : ATr)

def Step.enc : Step → Array Value
  | .beg a => #[.agg #[.pointer (some a.addr), .int .i64 0, .int .i64 0]]
  | .key a k => #[.agg #[.pointer (some a.addr), .int .i64 1, .int .i64 k]]
  | .fin a => #[.agg #[.pointer (some a.addr), .int .i64 2, .int .i64 0]]

/-- The steps at place q of a node: of a kid, or a key. -/
def hev (a : ATr) (kss : List (List Step)) (q : Nat) : List Step :=
  if q % 2 = 1 then (if q / 2 < a.ks.length then [.key a (a.ks.getD (q / 2) 0)] else []) else (kss[q / 2]?).getD []

/-- The steps from place p on. -/
def remOf (a : ATr) (kss : List (List Step)) (p : Nat) : List Step :=
  (List.range' p (2 * max a.cs.length a.ks.length - p)).flatMap (hev a kss) ++ [.fin a]

namespace ATr
mutual
def evs : ATr → List Step
  | .mk nb no ks cs => .beg (.mk nb no ks cs) :: remOf (.mk nb no ks cs) (evss cs) 0
def evss : List ATr → List (List Step)
  | [] => []
  | a :: r => evs a :: evss r
end
theorem evss_get (c : List ATr) (i : Nat) : (evss c)[i]? = (c[i]?).map evs := by
  induction c generalizing i with
  | nil => simp [evss]
  | cons a r ih =>
    cases i with
    | zero => simp [evss]
    | succ i => simpa [evss] using ih i
end ATr

def remS (f : ATr × Nat) : List Step := remOf f.1 (ATr.evss f.1.cs) f.2
theorem evs_eq (a : ATr) : a.evs = .beg a :: remS (a, 0) := by cases a; rfl

theorem remS_end {a : ATr} {p : Nat} (h : 2 * max a.cs.length a.ks.length ≤ p) : remS (a, p) = [.fin a] := by
  unfold remS remOf
  rw [show 2 * max a.cs.length a.ks.length - p = 0 by omega]
  rfl
theorem remS_step {a : ATr} {p : Nat} (h : p < 2 * max a.cs.length a.ks.length) : remS (a, p) = hev a (ATr.evss a.cs) p ++ remS (a, p + 1) := by
  unfold remS remOf
  show (List.range' p (2 * max a.cs.length a.ks.length - p)).flatMap _ ++ _ = _ ++ ((List.range' (p + 1) (2 * max a.cs.length a.ks.length - (p + 1))).flatMap _ ++ _)
  rw [show 2 * max a.cs.length a.ks.length - p = (2 * max a.cs.length a.ks.length - (p + 1)) + 1 by omega, List.range'_succ, List.flatMap_cons, List.append_assoc]
theorem hev_kid {a : ATr} {i : Nat} (h : i < a.cs.length) : hev a (ATr.evss a.cs) (2 * i) = a.cs[i].evs := by
  unfold hev
  rw [if_neg (by omega), show 2 * i / 2 = i by omega, ATr.evss_get]
  simp [h]
theorem hev_nokid {a : ATr} {i : Nat} (h : ¬ i < a.cs.length) : hev a (ATr.evss a.cs) (2 * i) = [] := by
  unfold hev
  rw [if_neg (by omega), show 2 * i / 2 = i by omega, ATr.evss_get]
  simp [List.getElem?_eq_none (Nat.le_of_not_lt h)]
theorem hev_key {a : ATr} {i : Nat} (h : i < a.ks.length) : hev a (ATr.evss a.cs) (2 * i + 1) = [.key a (a.ks.getD i 0)] := by
  unfold hev
  rw [if_pos (by omega), show (2 * i + 1) / 2 = i by omega, if_pos h]
theorem hev_nokey {a : ATr} {i : Nat} (h : ¬ i < a.ks.length) : hev a (ATr.evss a.cs) (2 * i + 1) = [] := by
  unfold hev
  rw [if_pos (by omega), show (2 * i + 1) / 2 = i by omega, if_neg h]

/-- What is still to come, the way being told from the root on. -/
def restS : List (ATr × Nat) → List Step
  | [] => []
  | f :: r => restS r ++ remS f
theorem restS_snoc (fr : List (ATr × Nat)) (f : ATr × Nat) : restS (fr ++ [f]) = remS f ++ restS fr := by
  induction fr with
  | nil => simp [restS]
  | cons g r ih => simp [restS, ih]

namespace ATr
mutual
/-- How many rounds a whole tree takes. -/
def whole : ATr → Nat
  | .mk _ _ k c => 2 * max c.length k.length + 1 + wholes c
def wholes : List ATr → Nat
  | [] => 0
  | a :: r => whole a + wholes r
end
theorem wholes_drop (c : List ATr) (p : Nat) (h : p < c.length) : wholes (c.drop p) = c[p].whole + wholes (c.drop (p + 1)) := by
  rw [List.drop_eq_getElem_cons h]; rfl
end ATr
/-- How many rounds are still to come, at most. -/
def mu1 (f : ATr × Nat) : Nat := (2 * max f.1.cs.length f.1.ks.length - f.2) + 1 + ATr.wholes (f.1.cs.drop ((f.2 + 1) / 2))
def mu : List (ATr × Nat) → Nat
  | [] => 0
  | f :: r => mu1 f + mu r
theorem mu_snoc (fr : List (ATr × Nat)) (f : ATr × Nat) : mu (fr ++ [f]) = mu fr + mu1 f := by
  induction fr with
  | nil => simp [mu]
  | cons g r ih => simp [mu, ih]; omega
theorem whole_eq (a : ATr) : a.whole = mu1 (a, 0) := by cases a; simp [ATr.whole, mu1, ATr.cs, ATr.ks]
theorem mu1_odd {a : ATr} {i : Nat} (h : 2 * i + 1 < 2 * max a.cs.length a.ks.length) : mu1 (a, 2 * i + 1 + 1) < mu1 (a, 2 * i + 1) := by
  simp only [mu1]
  rw [show (2 * i + 1 + 1 + 1) / 2 = i + 1 by omega, show (2 * i + 1 + 1) / 2 = i + 1 by omega]
  omega
theorem mu1_nokid {a : ATr} {i : Nat} (h : 2 * i < 2 * max a.cs.length a.ks.length) (hn : ¬ i < a.cs.length) : mu1 (a, 2 * i + 1) < mu1 (a, 2 * i) := by
  simp only [mu1]
  rw [List.drop_eq_nil_of_le (by omega), List.drop_eq_nil_of_le (by omega)]
  omega
theorem mu1_kid {a : ATr} {i : Nat} (h : i < a.cs.length) : mu1 (a, 2 * i + 1) + mu1 (a.cs[i], 0) < mu1 (a, 2 * i) := by
  rw [← whole_eq]
  simp only [mu1]
  rw [show (2 * i + 1 + 1) / 2 = i + 1 by omega, show (2 * i + 1) / 2 = i by omega, ATr.wholes_drop a.cs i h]
  omega
end Go.Proofs.Ytodcapgmhginoaa
