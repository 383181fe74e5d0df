/- Trees of nodes with their addresses, as a function on nodes tells their kids: plain data of going through them. -/
import Derived.Test.YtodcapgmhginoaaBvS0
import Derived.Test.YtodcapgmhginoaaBvS16
import Derived.Test.YtodcapgmhginoaaBvS17
import Derived.Test.YtodcapgmhginoaaBvS18
import Derived.Test.YtodcapgmhginoaaBvS19
import Derived.Deep.AppendLies
namespace Go.Proofs.Ytodcapgmhginoaa
open Go.RowKit

/-- A tree as plain data: each node with a label and the address of its cells. -/
inductive Ro (α : Type) where
  | mk (x : α) (nb no : Nat) (cs : List (Ro α))

variable {α : Type}

namespace Ro
def lab : Ro α → α | .mk x _ _ _ => x
def nb : Ro α → Nat | .mk _ a _ _ => a
def no : Ro α → Nat | .mk _ _ a _ => a
def cs : Ro α → List (Ro α) | .mk _ _ _ c => c
def addr (a : Ro α) : Addr := ⟨a.nb, a.no, none⟩
mutual
/-- How many rounds a tree takes. -/
def work : Ro α → Nat
  | .mk _ _ _ c => 1 + works c
def works : List (Ro α) → Nat
  | [] => 0
  | a :: r => 1 + work a + works r
end
mutual
/-- How many nodes lie within each other. -/
def depth : Ro α → Nat
  | .mk _ _ _ c => 1 + depths c
def depths : List (Ro α) → Nat
  | [] => 0
  | a :: r => max (depth a) (depths r)
end
mutual
/-- How many nodes lie below. -/
def siz : Ro α → Nat
  | .mk _ _ _ c => sizs c
def sizs : List (Ro α) → Nat
  | [] => 0
  | a :: r => 1 + siz a + sizs r
end
theorem works_drop (c : List (Ro α)) (p : Nat) (h : p < c.length) : works (c.drop p) = 1 + c[p].work + works (c.drop (p + 1)) := by
  rw [List.drop_eq_getElem_cons h]; rfl
theorem siz_get : ∀ (c : List (Ro α)) (i : Nat) (h : i < c.length), c[i].siz + c.length ≤ sizs c
  | [], i, h => by simp at h
  | a :: r, 0, h => by
    have hl : ∀ r : List (Ro α), r.length ≤ sizs r := fun r => by induction r with | nil => simp [sizs] | cons b q ih => simp [sizs]; omega
    have := hl r
    simp [sizs]; omega
  | a :: r, i + 1, h => by
    have := siz_get r i (by simpa using h)
    simp [sizs] at this ⊢; omega
theorem siz_kid {a : Ro α} {i : Nat} (h : i < a.cs.length) : a.cs[i].siz + a.cs.length ≤ a.siz := by
  cases a with
  | mk x nb no c => exact siz_get c i h
theorem cs_le (a : Ro α) : a.cs.length ≤ a.siz := by
  rcases Nat.eq_zero_or_pos a.cs.length with h | h
  · omega
  · have := siz_kid h; omega
theorem depths_get (c : List (Ro α)) (i : Nat) (h : i < c.length) : depths (c.take (i + 1)) = max (depths (c.take i)) c[i].depth := by
  induction c generalizing i with
  | nil => simp at h
  | cons a r ih =>
    cases i with
    | zero => simp [depths]
    | succ i =>
      have := ih i (by simpa using h)
      simp [depths] at this ⊢
      (try rw [this])
      (try omega)
theorem depth_eq (a : Ro α) : a.depth = 1 + depths a.cs := by cases a; rfl
theorem depth_le : ∀ n (a : Ro α), a.siz ≤ n → a.depth ≤ n + 1 := by
  intro n
  induction n with
  | zero =>
    intro a ha
    have := cs_le a
    rw [depth_eq, List.length_eq_zero_iff.1 (show a.cs.length = 0 by omega)]
    simp [depths]
  | succ n ih =>
    intro a ha
    rw [depth_eq]
    have hall : ∀ i, i ≤ a.cs.length → depths (a.cs.take i) ≤ n + 1 := by
      intro i
      induction i with
      | zero => intro _; simp [depths]
      | succ i ihi =>
        intro hi
        rw [depths_get a.cs i (by omega)]
        have h1 := ihi (by omega)
        have h2 := ih a.cs[i] (by have := siz_kid (a := a) (i := i) (by omega); omega)
        omega
    have := hall a.cs.length (Nat.le_refl _)
    rw [List.take_length] at this
    omega
end Ro

/-- Such a tree, as g tells the kids of its nodes, wherever the world w is kept; a node's kids lie sz cells apart; kf tells them as a function. -/
inductive RoAt (P : Program) (g sz : Nat) (kf : Nat → Nat → Option Addr × Nat × Nat) (lf : Nat → Nat → α) (w : World) : Ro α → Prop where
  | mk (x : α) (nb no : Nat) (cs : List (Ro α)) (ha : Option Addr) (cap h ho : Nat) (hp : PAddr w ⟨nb, no, none⟩) (hx : x = lf nb no) (hkf : kf nb no = (ha, cs.length, cap))
      (hc : ∀ W, Below w.heap.size w W → Calls P g #[.pointer (some ⟨nb, no, none⟩)] W fun e W' => e = .returned (.slice ha cs.length cap) ∧ Below W.heap.size W W')
      (hn : ∀ i (hi : i < cs.length), cs[i].nb = h ∧ cs[i].no = ho + i * sz)
      (hkids : ∀ i (hi : i < cs.length), RoAt P g sz kf lf w cs[i])
      (e1 : cs.length = 0 ∨ ha = some ⟨h, ho, none⟩) : RoAt P g sz kf lf w (.mk x nb no cs)

section
variable {P : Program} {g sz : Nat} {kf : Nat → Nat → Option Addr × Nat × Nat} {lf : Nat → Nat → α} {w : World}

theorem RoAt.parts {a : Ro α} (h : RoAt P g sz kf lf w a) : ∃ ha cap hb ho, PAddr w a.addr ∧ a.lab = lf a.nb a.no ∧ kf a.nb a.no = (ha, a.cs.length, cap) ∧
    (∀ W, Below w.heap.size w W → Calls P g #[.pointer (some a.addr)] W fun e W' => e = .returned (.slice ha a.cs.length cap) ∧ Below W.heap.size W W') ∧
    (∀ i (hi : i < a.cs.length), a.cs[i].nb = hb ∧ a.cs[i].no = ho + i * sz) ∧ (∀ i (hi : i < a.cs.length), RoAt P g sz kf lf w a.cs[i]) ∧ (a.cs.length = 0 ∨ ha = some ⟨hb, ho, none⟩) := by
  cases h with
  | mk x nb no cs ha cap h ho hp hx hkf hc hn hkids e1 => exact ⟨ha, cap, h, ho, hp, hx, hkf, hc, hn, hkids, e1⟩

theorem RoAt.padd {a : Ro α} (h : RoAt P g sz kf lf w a) : PAddr w a.addr := by obtain ⟨_, _, _, _, h, _⟩ := h.parts; exact h
theorem PAddr.lt {a : Addr} (h : PAddr w a) : a.block < w.heap.size := by obtain ⟨c, t, h⟩ := h; exact (Array.getElem?_eq_some_iff.1 h).1

/-- It abides. -/
theorem RoAt.later {w' : World} {a : Ro α} (h : RoAt P g sz kf lf w a) (hb : Below w.heap.size w w') : RoAt P g sz kf lf w' a := by
  induction h with
  | mk x nb no cs ha cap h ho hp hx hkf hc hn hkids e1 ih =>
    exact .mk x nb no cs ha cap h ho (hp.kept (fun k h _ => hb.block k h)) hx hkf (fun W hW => hc W (hb.trans (hW.mono hb.size))) hn ih e1

/-- Two trees at one address are one. -/
theorem RoAt.one {a : Ro α} (h : RoAt P g sz kf lf w a) : ∀ {c : Ro α}, RoAt P g sz kf lf w c → c.addr = a.addr → c = a := by
  induction h with
  | mk x nb no cs ha cap h ho hp hx hkf hc hn hkids e1 ih =>
    intro c hcc f
    cases hcc with
    | mk x' nb' no' cs' ha' cap' h' ho' hp' hx' hkf' hc' hn' hkids' e1' =>
      simp only [Ro.addr, Ro.nb, Ro.no, Addr.mk.injEq, and_true] at f
      obtain ⟨rfl, rfl⟩ := f
      rw [hkf] at hkf'
      simp only [Prod.mk.injEq] at hkf'
      obtain ⟨m1, l1, _⟩ := hkf'
      have ec : cs' = cs := by
        apply List.ext_getElem l1.symm
        intro i i1 i2
        have b1 := hn i i2
        have b2 := hn' i i1
        have d1 := e1.resolve_left (by omega)
        have d2 := e1'.resolve_left (by omega)
        rw [d1, d2] at m1
        simp only [Option.some.injEq, Addr.mk.injEq, and_true] at m1
        obtain ⟨rfl, rfl⟩ := m1
        exact ih i i2 (hkids' i i1) (by simp only [Ro.addr]; rw [b1.1, b2.1, b1.2, b2.2])
      rw [ec, hx, hx']
end

/-- Rounds that are still to come. -/
def rtodo1 (f : Ro α × Nat) : Nat := 1 + Ro.works (f.1.cs.drop f.2)
def rtodo : List (Ro α × Nat) → Nat
  | [] => 0
  | f :: r => rtodo1 f + rtodo r
theorem rtodo_append (a b : List (Ro α × Nat)) : rtodo (a ++ b) = rtodo a + rtodo b := by
  induction a with
  | nil => simp [rtodo]
  | cons f r ih => simp [rtodo, ih]; omega

/-- Each one on the way lies in the one ahead of it. -/
abbrev RDown (fr : List (Ro α × Nat)) : Prop := fr.Pairwise (fun f g => g.1.siz < f.1.siz)
theorem rdown_len {fr : List (Ro α × Nat)} (h : RDown fr) {N : Nat} (hN : ∀ f ∈ fr, f.1.siz ≤ N) : fr.length ≤ N + 1 := by
  induction fr generalizing N with
  | nil => simp
  | cons f r ih =>
    obtain ⟨h1, h2⟩ := List.pairwise_cons.1 h
    cases r with
    | nil => simp
    | cons g r' =>
      have hg := h1 g (by simp)
      have hf := hN f (by simp)
      have := ih h2 (N := N - 1) (fun x hx => by have := h1 x hx; omega)
      simp at this ⊢; omega

/-- The kid at place i has been gone through: its depth stands in the map. -/
def doneK (M : Addr → Option Int) (a : Ro α) (i : Nat) : Prop := ∀ h : i < a.cs.length, M a.cs[i].addr = some (a.cs[i].depth : Int)

/-- What is said of the nodes over f, the nearest first: f is the kid that one has gone into last, those ahead of it are done. -/
def Under1 (M : Addr → Option Int) (root f : Ro α) : List (Ro α × Nat) → Prop
  | [] => f = root
  | g :: r => (0 < g.2 ∧ g.1.cs[g.2 - 1]? = some f) ∧ (∀ i, i + 1 < g.2 → doneK M g.1 i) ∧ Under1 M root g.1 r

/-- The whole way, from the last one on. -/
def OnWay (M : Addr → Option Int) (root : Ro α) : List (Ro α × Nat) → Prop
  | [] => M root.addr = some (root.depth : Int)
  | f :: r => (∀ i, i < f.2 → doneK M f.1 i) ∧ Under1 M root f.1 r

/-- What stands in the map: a node that is not done stands on the way; a number that is not 0 is a depth. -/
structure Told1 (RA : Ro α → Prop) (M : Addr → Option Int) (way : List (Ro α × Nat)) : Prop where
  zero : ∀ a, M a = some 0 → ∃ f ∈ way, a = f.1.addr
  deep : ∀ r z, RA r → M r.addr = some z → z ≠ 0 → z = (r.depth : Int)

theorem depth_pos (a : Ro α) : (a.depth : Int) ≠ 0 := by rw [Ro.depth_eq]; omega

theorem doneK_put {RA : Ro α → Prop} (hone : ∀ a b, RA a → RA b → b.addr = a.addr → b = a) (hkid : ∀ (a : Ro α) i (h : i < a.cs.length), RA a → RA a.cs[i]) {M : Addr → Option Int} {a q : Ro α} {i : Nat} (ha : RA a) (hq : RA q) (h : doneK M a i) {z : Int} (hz : z = q.depth ∨ M q.addr = none) : doneK (putK M q.addr z) a i := by
  intro hi
  have h' := h hi
  unfold putK
  by_cases he : a.cs[i].addr = q.addr
  · rw [if_pos he]
    rcases hz with hz | hz
    · rw [hz, hone q a.cs[i] hq (hkid a i hi ha) he]
    · rw [he, hz] at h'; cases h'
  · rw [if_neg he]; exact h'

theorem Under1.put {RA : Ro α → Prop} (hone : ∀ a b, RA a → RA b → b.addr = a.addr → b = a) (hkid : ∀ (a : Ro α) i (h : i < a.cs.length), RA a → RA a.cs[i]) {M : Addr → Option Int} {root f q : Ro α} {r : List (Ro α × Nat)} (hr : ∀ x ∈ r, RA x.1) (hq : RA q) (h : Under1 M root f r) {z : Int} (hz : z = q.depth ∨ M q.addr = none) : Under1 (putK M q.addr z) root f r := by
  induction r generalizing f with
  | nil => exact h
  | cons g r ih =>
    obtain ⟨h1, h2, h3⟩ := h
    exact ⟨h1, fun i hi => doneK_put hone hkid (hr g (by simp)) hq (h2 i hi) hz, ih (fun x hx => hr x (by simp [hx])) h3⟩

/-- The last one is done and left. -/
theorem OnWay.pop {RA : Ro α → Prop} (hone : ∀ a b, RA a → RA b → b.addr = a.addr → b = a) (hkid : ∀ (a : Ro α) i (h : i < a.cs.length), RA a → RA a.cs[i]) {M : Addr → Option Int} {root : Ro α} {f : Ro α × Nat} {r : List (Ro α × Nat)} (hf : RA f.1) (hr : ∀ x ∈ r, RA x.1) (h : OnWay M root (f :: r)) : OnWay (putK M f.1.addr (f.1.depth : Int)) root r := by
  obtain ⟨_, h2⟩ := h
  cases r with
  | nil =>
    obtain rfl : f.1 = root := h2
    show putK _ _ _ _ = _
    unfold putK; rw [if_pos rfl]
  | cons g r =>
    obtain ⟨⟨h3, h4⟩, h5, h6⟩ := h2
    refine ⟨fun i hi => ?_, h6.put hone hkid (fun x hx => hr x (by simp [hx])) hf (.inl rfl)⟩
    by_cases hl : i + 1 < g.2
    · exact doneK_put hone hkid (hr g (by simp)) hf (h5 i hl) (.inl rfl)
    · intro hic
      have e : g.2 - 1 = i := by omega
      rw [e, List.getElem?_eq_getElem hic] at h4
      have h4 := Option.some.inj h4
      rw [h4]; unfold putK; rw [if_pos rfl]

/-- A kid that is known. -/
theorem OnWay.known {M : Addr → Option Int} {root : Ro α} {a : Ro α} {p : Nat} {r : List (Ro α × Nat)} (h : OnWay M root ((a, p) :: r)) (hp : p < a.cs.length) (hk : M a.cs[p].addr = some (a.cs[p].depth : Int)) : OnWay M root ((a, p + 1) :: r) := by
  obtain ⟨h1, h2⟩ := h
  refine ⟨fun i hi => ?_, h2⟩
  by_cases he : i = p
  · subst he; exact fun _ => hk
  · exact h1 i (by show i < p; have : i < p + 1 := hi; omega)

/-- A kid that is new. -/
theorem OnWay.push {RA : Ro α → Prop} (hone : ∀ a b, RA a → RA b → b.addr = a.addr → b = a) (hkid : ∀ (a : Ro α) i (h : i < a.cs.length), RA a → RA a.cs[i]) {M : Addr → Option Int} {root : Ro α} {a : Ro α} {p : Nat} {r : List (Ro α × Nat)} (ha : RA a) (hr : ∀ x ∈ r, RA x.1) (h : OnWay M root ((a, p) :: r)) (hp : p < a.cs.length) (hk : M a.cs[p].addr = none) : OnWay (putK M a.cs[p].addr 0) root ((a.cs[p], 0) :: (a, p + 1) :: r) := by
  obtain ⟨h1, h2⟩ := h
  have hq := hkid a p hp ha
  exact ⟨fun i hi => (by cases hi), ⟨by show 0 < p + 1; omega, by show a.cs[p + 1 - 1]? = _; rw [Nat.add_sub_cancel, List.getElem?_eq_getElem hp]⟩, fun i hi => doneK_put hone hkid ha hq (h1 i (by have : i + 1 < p + 1 := hi; show i < p; omega)) (.inr hk), h2.put hone hkid hr hq (.inr hk)⟩

theorem Told1.pop {RA : Ro α → Prop} (hone : ∀ a b, RA a → RA b → b.addr = a.addr → b = a) {M : Addr → Option Int} {f : Ro α × Nat} {r r' : List (Ro α × Nat)} (h : Told1 RA M r') (hmem : ∀ x ∈ r', x = f ∨ x ∈ r) (hf : RA f.1) : Told1 RA (putK M f.1.addr (f.1.depth : Int)) r := by
  refine ⟨fun a ha => ?_, fun q z hq hz hne => ?_⟩
  · unfold putK at ha
    by_cases he : a = f.1.addr
    · rw [if_pos he] at ha; exact absurd (Option.some.inj ha) (depth_pos _)
    · rw [if_neg he] at ha
      obtain ⟨x, hx, e⟩ := h.zero a ha
      rcases hmem x hx with rfl | hx
      · exact absurd e he
      · exact ⟨x, hx, e⟩
  · unfold putK at hz
    by_cases he : q.addr = f.1.addr
    · rw [if_pos he] at hz; rw [← Option.some.inj hz, hone f.1 q hf hq he]
    · rw [if_neg he] at hz; exact h.deep q z hq hz hne

theorem Told1.push {RA : Ro α → Prop} {M : Addr → Option Int} {f : Ro α × Nat} {r r' : List (Ro α × Nat)} (h : Told1 RA M r) (hmem : ∀ x ∈ r, ∃ y ∈ r', y.1 = x.1) (hf : f ∈ r') : Told1 RA (putK M f.1.addr 0) r' := by
  refine ⟨fun a ha => ?_, fun q z hq hz hne => ?_⟩
  · unfold putK at ha
    by_cases he : a = f.1.addr
    · exact ⟨f, hf, he⟩
    · rw [if_neg he] at ha
      obtain ⟨x, hx, e⟩ := h.zero a ha
      obtain ⟨y, hy, ey⟩ := hmem x hx
      exact ⟨y, hy, by rw [e, ey]⟩
  · unfold putK at hz
    by_cases he : q.addr = f.1.addr
    · rw [if_pos he] at hz; exact absurd (Option.some.inj hz).symm hne
    · rw [if_neg he] at hz; exact h.deep q z hq hz hne

theorem Told1.weaken {RA : Ro α → Prop} {M : Addr → Option Int} {r r' : List (Ro α × Nat)} (h : Told1 RA M r) (hmem : ∀ x ∈ r, ∃ y ∈ r', y.1 = x.1) : Told1 RA M r' :=
  ⟨fun a ha => by obtain ⟨x, hx, e⟩ := h.zero a ha; obtain ⟨y, hy, ey⟩ := hmem x hx; exact ⟨y, hy, by rw [e, ey]⟩, h.deep⟩

namespace Ro
mutual
/-- Where one stands on the way through a tree: a node, and how many of its kids lie behind. -/
def trn : Ro α → List (Ro α × Nat)
  | .mk x nb no c => (.mk x nb no c, 0) :: trns (.mk x nb no c) 0 c
def trns (a : Ro α) (i : Nat) : List (Ro α) → List (Ro α × Nat)
  | [] => []
  | k :: r => trn k ++ (a, i + 1) :: trns a (i + 1) r
end
end Ro
/-- The turns from the p-th one of a node on. -/
def remT (f : Ro α × Nat) : List (Ro α × Nat) := f :: Ro.trns f.1 f.2 (f.1.cs.drop f.2)
theorem trn_eq (a : Ro α) : a.trn = remT (a, 0) := by cases a; simp [Ro.trn, remT, Ro.cs]
theorem remT_kid {a : Ro α} {p : Nat} (h : p < a.cs.length) : remT (a, p) = (a, p) :: (remT (a.cs[p], 0) ++ remT (a, p + 1)) := by
  show (a, p) :: Ro.trns a p (a.cs.drop p) = _
  rw [List.drop_eq_getElem_cons h]
  simp only [Ro.trns, trn_eq]; rfl
theorem remT_end {a : Ro α} {p : Nat} (h : a.cs.length ≤ p) : remT (a, p) = [(a, p)] := by
  show (a, p) :: Ro.trns a p (a.cs.drop p) = _
  rw [List.drop_eq_nil_of_le h]; rfl
/-- All that are still to come, the way being told from the root on. -/
def restT : List (Ro α × Nat) → List (Ro α × Nat)
  | [] => []
  | f :: r => restT r ++ remT f
theorem restT_snoc (fr : List (Ro α × Nat)) (f : Ro α × Nat) : restT (fr ++ [f]) = remT f ++ restT fr := by
  induction fr with
  | nil => simp [restT]
  | cons g r ih => simp [restT, ih]
/-- What the loop's own variables are given. -/
def turnEnc (f : Ro α × Nat) : Array Value := #[.pointer (some f.1.addr), .int .i64 f.2]
/-- The cells of the way's elements, from the root on. -/
def rcells : List (Ro α × Nat) → List Value
  | [] => []
  | f :: r => .pointer (some f.1.addr) :: .int .i64 f.2 :: rcells r
theorem rcells_append (a b : List (Ro α × Nat)) : rcells (a ++ b) = rcells a ++ rcells b := by
  induction a with
  | nil => rfl
  | cons f r ih => simp [rcells, ih]
theorem rcells_length (a : List (Ro α × Nat)) : (rcells a).length = a.length * 2 := by
  induction a with
  | nil => rfl
  | cons f r ih => simp [rcells, ih]; omega

/-- The slice at block g. -/
abbrev RWay (ty : TypeId) (W : World) (lo g cap : Nat) (fr : List (Ro α × Nat)) : Prop := W.ownsRow lo ty 2 (.slice (some ⟨g, 0, none⟩) fr.length cap) fr.length (rcells fr)

theorem RWay.blk {ty : TypeId} {W : World} {lo g cap : Nat} {fr : List (Ro α × Nat)} (h : RWay ty W lo g cap fr) : lo ≤ g ∧ ∃ cur, W.heap[g]? = some (.cells cur ty (0, 0)) ∧ fr.length ≤ cap ∧ cap ≤ maxLen ∧ cur.size = cap * 2 ∧ cur.toList.take (fr.length * 2) = rcells fr := by
  obtain ⟨h1, ⟨h2, _⟩ | ⟨g', cap', cur, hv, hb, hg, hn, hm, hs, ht⟩⟩ := h
  · simp at h2
  · simp only [Value.slice.injEq, Option.some.injEq, Addr.mk.injEq, and_true, true_and] at hv
    obtain ⟨rfl, rfl⟩ := hv
    exact ⟨hb, cur, hg, hn, hm, hs, ht⟩

theorem RWay.of {ty : TypeId} {W : World} {lo g cap : Nat} {fr : List (Ro α × Nat)} {cur : Array Value} (hb : lo ≤ g) (hg : W.heap[g]? = some (.cells cur ty (0, 0))) (hn : fr.length ≤ cap) (hm : cap ≤ maxLen) (hs : cur.size = cap * 2) (ht : cur.toList.take (fr.length * 2) = rcells fr) : RWay ty W lo g cap fr :=
  ⟨rcells_length fr, .inr ⟨g, cap, cur, rfl, hb, hg, hn, hm, hs, ht⟩⟩

theorem RWay.lt {ty : TypeId} {W : World} {lo g cap : Nat} {fr : List (Ro α × Nat)} (h : RWay ty W lo g cap fr) : g < W.heap.size := by
  obtain ⟨_, cur, hg, _⟩ := h.blk
  exact (Array.getElem?_eq_some_iff.1 hg).1

theorem RWay.kept {ty : TypeId} {W W' : World} {lo g cap : Nat} {fr : List (Ro α × Nat)} (h : RWay ty W lo g cap fr) (hb : W'.heap[g]? = W.heap[g]?) : RWay ty W' lo g cap fr := by
  obtain ⟨h1, cur, hg, hn, hm, hs, ht⟩ := h.blk
  exact RWay.of h1 (hb.trans hg) hn hm hs ht

/-- The last one's cells. -/
theorem RWay.last {ty : TypeId} {W : World} {lo g cap : Nat} {fr : List (Ro α × Nat)} {a : Ro α} {p : Nat} (h : RWay ty W lo g cap (fr ++ [(a, p)])) :
    W.cell? ⟨g, fr.length * 2, none⟩ = some (.pointer (some a.addr)) ∧ W.cell? ⟨g, fr.length * 2 + 1, none⟩ = some (.int .i64 p) ∧ W.frozen? ⟨g, fr.length * 2 + 1, none⟩ = false := by
  have h1 := World.ownsRow.cellAt h (fr.length * 2) (by simp)
  have h2 := World.ownsRow.cellAt h (fr.length * 2 + 1) (by simp; omega)
  rw [rcells_append] at h1 h2
  obtain ⟨_, cur, hg, _⟩ := h.blk
  refine ⟨?_, ?_, ?_⟩
  · rw [h1]; simp [List.getElem?_append, rcells_length, rcells]
  · rw [h2]; simp [List.getElem?_append, rcells_length, rcells]
  · simp [World.frozen?, hg]

/-- The last one goes on. -/
theorem RWay.pass {ty : TypeId} {W : World} {lo g cap : Nat} {fr : List (Ro α × Nat)} {a : Ro α} {p : Nat} (h : RWay ty W lo g cap (fr ++ [(a, p)])) (q : Nat) :
    RWay ty (W.setCell ⟨g, fr.length * 2 + 1, none⟩ (.int .i64 q)) lo g cap (fr ++ [(a, q)]) := by
  obtain ⟨h1, cur, hg, hn, hm, hs, ht⟩ := h.blk
  refine RWay.of h1 (cur := cur.setIfInBounds (fr.length * 2 + 1) (.int .i64 q)) ?_ (by simpa using hn) hm (by simpa using hs) ?_
  · simp [World.setCell, Array.getElem?_modify, hg]
  · have hl : (fr ++ [(a, q)]).length = (fr ++ [(a, p)]).length := by simp
    rw [hl]
    simp only [Array.toList_setIfInBounds]
    rw [List.take_set, ht, rcells_append, rcells_append]
    rw [List.set_append_right _ _ (by rw [rcells_length]; omega), rcells_length]
    congr 1
    rw [show fr.length * 2 + 1 - fr.length * 2 = 1 by omega]
    rfl

/-- The last one is left. -/
theorem RWay.pop {ty : TypeId} {W : World} {lo g cap : Nat} {fr : List (Ro α × Nat)} {f : Ro α × Nat} (h : RWay ty W lo g cap (fr ++ [f])) : RWay ty W lo g cap fr := by
  obtain ⟨h1, cur, hg, hn, hm, hs, ht⟩ := h.blk
  refine RWay.of h1 hg (by simp at hn; omega) hm hs ?_
  have h2 : cur.toList.take (fr.length * 2) = (cur.toList.take ((fr ++ [f]).length * 2)).take (fr.length * 2) := by rw [List.take_take]; congr 1; simp
  rw [h2, ht, rcells_append, List.take_left' (rcells_length fr)]

end Go.Proofs.Ytodcapgmhginoaa
