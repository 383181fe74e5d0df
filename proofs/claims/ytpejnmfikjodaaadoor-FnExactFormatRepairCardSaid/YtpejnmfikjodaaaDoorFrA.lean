/- The laws' copy of a repair. -/
import Derived.Test.YtpejnmfikjodaaaDoorProg
import Derived.JoinedOf
import Derived.KernelRfl
import Derived.WalkKit
import Derived.Lib.Hide
import Derived.Shelf.LaysM
import Derived.Shelf.Strconv.Itoa3
import Derived.Lib.AppendIntMem
import Derived.Lib.ItoaLen
import Derived.Laws.Concat
import Derived.Laws.IdiomStrings
import Derived.Deep.RegionHeld3

/- Three closed facts of the program as a whole that all rows ask. -/
namespace Go.Proofs.YtpejnmfikjodaaaDoor
open Go

theorem fact_enter : Tryd.prog.mayEnter = true := by kernel_rfl
theorem fact_lifts : (false == Tryd.prog.liftsFinal) = true := by kernel_rfl
theorem fact_make : (Tryd.prog.make == some Make.cut) = true := by kernel_rfl
theorem band {a b : Bool} (h1 : a = true) (h2 : b = true) : (a && b) = true := by rw [h1, h2]; rfl
end Go.Proofs.YtpejnmfikjodaaaDoor

/- Plain trees and how they lie in memory: the words that the contracts of this claim use. -/
namespace Go.Proofs.YtpejnmfikjodaaaDoor
open Go.RowKit

/-- A tree as plain data: its keys and its kids. -/
inductive Tr where
  | mk (ks : List Int) (cs : List Tr)

namespace Tr
mutual
/-- Keys and kids, all together. -/
def weight : Tr → Nat
  | .mk k c => k.length + weights c
def weights : List Tr → Nat
  | [] => 0
  | t :: r => 1 + weight t + weights r
end

theorem weights_append (a b : List Tr) : weights (a ++ b) = weights a + weights b := by
  induction a with
  | nil => simp [weights]
  | cons t r ih => simp [weights, ih]; omega

theorem weights_take_succ (cs : List Tr) (j : Nat) (h : j < cs.length) : weights (cs.take (j + 1)) = weights (cs.take j) + 1 + cs[j].weight := by
  rw [List.take_succ_eq_append_getElem h, weights_append]; simp [weights]; omega

theorem length_le_weights (cs : List Tr) : cs.length ≤ weights cs := by
  induction cs with
  | nil => simp
  | cons t r ih => simp [weights]; omega

theorem weights_take_ge (cs : List Tr) (j : Nat) : weights (cs.take j) + (cs.length - j) ≤ weights cs := by
  conv => rhs; rw [← List.take_append_drop j cs, weights_append]
  have := length_le_weights (cs.drop j)
  simp at this; omega

theorem weight_get_le (cs : List Tr) (j : Nat) (h : j < cs.length) : cs[j].weight + cs.length ≤ weights cs := by
  have h1 := weights_take_ge cs (j + 1)
  have h2 := weights_take_succ cs j h
  have h3 := length_le_weights (cs.take j)
  simp at h3; omega
end Tr

namespace Tr
mutual
/-- How many nodes. -/
def count : Tr → Nat
  | .mk _ c => 1 + counts c
def counts : List Tr → Nat
  | [] => 0
  | t :: r => count t + counts r
end
mutual
/-- How many nodes lie within each other. -/
def depth : Tr → Nat
  | .mk _ c => depths c + 1
def depths : List Tr → Nat
  | [] => 0
  | t :: r => max (depth t) (depths r)
end
mutual
/-- How many nodes have just so many keys. -/
def full (n : Int) : Tr → Nat
  | .mk k c => (if (k.length : Int) = n then 1 else 0) + fulls n c
def fulls (n : Int) : List Tr → Nat
  | [] => 0
  | t :: r => full n t + fulls n r
end

theorem counts_append (a b : List Tr) : counts (a ++ b) = counts a + counts b := by
  induction a with
  | nil => simp [counts]
  | cons t r ih => simp [counts, ih]; omega
theorem depths_append (a b : List Tr) : depths (a ++ b) = max (depths a) (depths b) := by
  induction a with
  | nil => simp [depths]
  | cons t r ih => simp [depths, ih]
theorem fulls_append (n : Int) (a b : List Tr) : fulls n (a ++ b) = fulls n a + fulls n b := by
  induction a with
  | nil => simp [fulls]
  | cons t r ih => simp [fulls, ih]; omega
theorem counts_take_succ (cs : List Tr) (j : Nat) (h : j < cs.length) : counts (cs.take (j + 1)) = counts (cs.take j) + cs[j].count := by
  rw [List.take_succ_eq_append_getElem h, counts_append]; simp [counts]
theorem depths_take_succ (cs : List Tr) (j : Nat) (h : j < cs.length) : depths (cs.take (j + 1)) = max (depths (cs.take j)) cs[j].depth := by
  rw [List.take_succ_eq_append_getElem h, depths_append]; simp [depths]
theorem fulls_take_succ (n : Int) (cs : List Tr) (j : Nat) (h : j < cs.length) : fulls n (cs.take (j + 1)) = fulls n (cs.take j) + cs[j].full n := by
  rw [List.take_succ_eq_append_getElem h, fulls_append]; simp [fulls]

mutual
theorem count_le : ∀ t : Tr, t.count ≤ t.weight + 1
  | .mk k c => by have := counts_le c; simp only [count, weight]; omega
theorem counts_le : ∀ c : List Tr, counts c ≤ weights c
  | [] => by simp [counts]
  | t :: r => by have := count_le t; have := counts_le r; simp only [counts, weights]; omega
end
mutual
theorem depth_le : ∀ t : Tr, t.depth ≤ t.count
  | .mk k c => by have := depths_le c; simp only [count, depth]; omega
theorem depths_le : ∀ c : List Tr, depths c ≤ counts c
  | [] => by simp [depths]
  | t :: r => by have := depth_le t; have := depths_le r; simp only [counts, depths]; omega
end
mutual
theorem full_le (n : Int) : ∀ t : Tr, t.full n ≤ t.count
  | .mk k c => by have := fulls_le n c; simp only [count, full]; split <;> omega
theorem fulls_le (n : Int) : ∀ c : List Tr, fulls n c ≤ counts c
  | [] => by simp [fulls]
  | t :: r => by have := full_le n t; have := fulls_le n r; simp only [counts, fulls]; omega
end
theorem fulls_take_le (n : Int) (cs : List Tr) (j : Nat) : fulls n (cs.take j) ≤ fulls n cs := by
  conv => rhs; rw [← List.take_append_drop j cs, fulls_append]
  omega
theorem counts_take_le (cs : List Tr) (j : Nat) : counts (cs.take j) ≤ counts cs := by
  conv => rhs; rw [← List.take_append_drop j cs, counts_append]
  omega
end Tr

/-- A slice of ints in memory below block B. -/
def IntsIn (w : World) (B : Nat) (v : Value) (ks : List Int) : Prop :=
  ∃ (a : Option Addr) (cap : Nat), v = .slice a ks.length cap ∧ ks.length ≤ cap ∧ cap ≤ maxLen ∧ (a = none → cap = 0) ∧
    (ks = [] ∨ ∃ b o, a = some ⟨b, o, none⟩ ∧ b < B ∧ ∀ i, i < ks.length → w.cell? ⟨b, o + i, none⟩ = some (.int .i64 (ks.getD i 0)))

/-- A slice of trees in memory below block B: two cells a tree. -/
def KidsIn (w : World) (B : Nat) (a : Option Addr) (n : Nat) (kvs cvs : Nat → Value) : Prop :=
  n = 0 ∨ ∃ b o, a = some ⟨b, o, none⟩ ∧ b < B ∧ ∀ i, i < n →
    w.cell? ⟨b, o + i * 2, none⟩ = some (kvs i) ∧ w.cell? ⟨b, o + i * 2 + 1, none⟩ = some (cvs i)

/-- A tree in memory below block B: its two slices. -/
inductive TreeIn (w : World) (B : Nat) : Value → Value → Tr → Prop where
  | mk (ks : List Int) (cs : List Tr) (kv : Value) (a : Option Addr) (cap : Nat) (kvs cvs : Nat → Value)
      (hk : IntsIn w B kv ks) (hlen : cs.length ≤ cap) (hcap : cap ≤ maxLen) (hat : KidsIn w B a cs.length kvs cvs)
      (hkids : ∀ i (h : i < cs.length), TreeIn w B (kvs i) (cvs i) cs[i]) :
      TreeIn w B kv (.slice a cs.length cap) (.mk ks cs)

theorem below_cell {B : Nat} {w w' : World} (h : Below B w w') {b o : Nat} (hb : b < B) : w'.cell? ⟨b, o, none⟩ = w.cell? ⟨b, o, none⟩ := h.cell (p := ⟨b, o, none⟩) hb

theorem bcell {C : Nat} {W w1 : World} (hb : Below C W w1) : (∀ b o, b < C → w1.cell? ⟨b, o, none⟩ = W.cell? ⟨b, o, none⟩) ∧ (∀ b o, b < C → w1.frozen? ⟨b, o, none⟩ = W.frozen? ⟨b, o, none⟩) :=
  ⟨fun b o h => hb.cell (p := ⟨b, o, none⟩) h, fun b o h => hb.frozen (p := ⟨b, o, none⟩) h⟩

/-- A box of one or two cells, its cells told. -/
theorem box1 {w : World} {b : Nat} {x : Value} {t : TypeId} (h : w.heap[b]? = some (.cells #[x] t (0, 0))) : w.cell? ⟨b, 0, none⟩ = some x ∧ w.frozen? ⟨b, 0, none⟩ = false := by
  constructor <;> simp [World.cell?, World.frozen?, h]
theorem box2 {w : World} {b : Nat} {x y : Value} {t : TypeId} (h : w.heap[b]? = some (.cells #[x, y] t (0, 0))) :
    w.cell? ⟨b, 0, none⟩ = some x ∧ w.cell? ⟨b, 1, none⟩ = some y ∧ w.frozen? ⟨b, 0, none⟩ = false ∧ w.frozen? ⟨b, 1, none⟩ = false := by
  refine ⟨?_, ?_, ?_, ?_⟩ <;> simp [World.cell?, World.frozen?, h]
theorem new_blk (w : World) (o : Obj) : (w.alloc o).heap[w.heap.size]? = some o := by
  show (w.heap.push o)[w.heap.size]? = _
  simp
theorem old_blk (w : World) (o : Obj) (k : Nat) (h : k < w.heap.size) : (w.alloc o).heap[k]? = w.heap[k]? := Below.heap_alloc w o k h
theorem set_blk {w : World} {b o : Nat} {c : Array Value} {t : TypeId} (v : Value) (h : w.heap[b]? = some (.cells c t (0, 0))) :
    (w.setCell ⟨b, o, none⟩ v).heap[b]? = some (.cells (c.setIfInBounds o v) t (0, 0)) := by
  simp [World.setCell, Array.getElem?_modify, h]
theorem set_other (w : World) (b o : Nat) (v : Value) (k : Nat) (h : k ≠ b) : (w.setCell ⟨b, o, none⟩ v).heap[k]? = w.heap[k]? := Below.heap_setCell w ⟨b, o, none⟩ v k h

theorem IntsIn.later {w w' : World} {B C : Nat} {v : Value} {ks : List Int} (h : IntsIn w B v ks) (hb : Below C w w') (hC : B ≤ C) : IntsIn w' B v ks := by
  obtain ⟨a, cap, hv, h1, h2, hnl, h3⟩ := h
  refine ⟨a, cap, hv, h1, h2, hnl, ?_⟩
  rcases h3 with h3 | ⟨b, o, h3, h4, h5⟩
  · exact .inl h3
  · exact .inr ⟨b, o, h3, h4, fun i hi => by rw [below_cell hb (by omega)]; exact h5 i hi⟩

theorem KidsIn.later {w w' : World} {B C : Nat} {a : Option Addr} {n : Nat} {kvs cvs : Nat → Value} (h : KidsIn w B a n kvs cvs) (hb : Below C w w') (hC : B ≤ C) : KidsIn w' B a n kvs cvs := by
  rcases h with h3 | ⟨b, o, h3, h4, h5⟩
  · exact .inl h3
  · exact .inr ⟨b, o, h3, h4, fun i hi => ⟨by rw [below_cell hb (by omega)]; exact (h5 i hi).1, by rw [below_cell hb (by omega)]; exact (h5 i hi).2⟩⟩

theorem TreeIn.later {w w' : World} {B C : Nat} {kv cv : Value} {t : Tr} (h : TreeIn w B kv cv t) (hb : Below C w w') (hC : B ≤ C) : TreeIn w' B kv cv t := by
  induction h with
  | mk ks cs kv a cap kvs cvs hk hlen hcap hat hkids ih => exact TreeIn.mk ks cs kv a cap kvs cvs (hk.later hb hC) hlen hcap (hat.later hb hC) ih

theorem IntsIn.wider {w : World} {B C : Nat} {v : Value} {ks : List Int} (h : IntsIn w B v ks) (hC : B ≤ C) : IntsIn w C v ks := by
  obtain ⟨a, cap, hv, h1, h2, hnl, h3⟩ := h
  refine ⟨a, cap, hv, h1, h2, hnl, ?_⟩
  rcases h3 with h3 | ⟨b, o, h3, h4, h5⟩
  · exact .inl h3
  · exact .inr ⟨b, o, h3, by omega, h5⟩

theorem KidsIn.wider {w : World} {B C : Nat} {a : Option Addr} {n : Nat} {kvs cvs : Nat → Value} (h : KidsIn w B a n kvs cvs) (hC : B ≤ C) : KidsIn w C a n kvs cvs := by
  rcases h with h3 | ⟨b, o, h3, h4, h5⟩
  · exact .inl h3
  · exact .inr ⟨b, o, h3, by omega, h5⟩

theorem TreeIn.wider {w : World} {B C : Nat} {kv cv : Value} {t : Tr} (h : TreeIn w B kv cv t) (hC : B ≤ C) : TreeIn w C kv cv t := by
  induction h with
  | mk ks cs kv a cap kvs cvs hk hlen hcap hat hkids ih => exact TreeIn.mk ks cs kv a cap kvs cvs (hk.wider hC) hlen hcap (hat.wider hC) ih

theorem TreeIn.slices {w : World} {B : Nat} {kv cv : Value} {t : Tr} (h : TreeIn w B kv cv t) : ∃ a n c a' n' c', kv = .slice a n c ∧ cv = .slice a' n' c' := by
  cases h with
  | mk ks cs kv a cap kvs cvs hk hlen hcap hat hkids =>
    obtain ⟨ka, kcap, rfl, _⟩ := hk
    exact ⟨_, _, _, _, _, _, rfl, rfl⟩

/-- The one rule on heights: a property that goes from all kids to the tree holds of all trees that lie in memory. -/
theorem TreeIn.parts {w : World} {B : Nat} {kv cv : Value} {ks : List Int} {cs : List Tr} (h : TreeIn w B kv cv (.mk ks cs)) :
    ∃ (a : Option Addr) (cap : Nat) (kvs cvs : Nat → Value), cv = .slice a cs.length cap ∧ IntsIn w B kv ks ∧ cs.length ≤ cap ∧ cap ≤ maxLen ∧ KidsIn w B a cs.length kvs cvs ∧
      ∀ i (h : i < cs.length), TreeIn w B (kvs i) (cvs i) cs[i] := by
  cases h with
  | mk _ _ _ a cap kvs cvs hk hlen hcap hat hkids => exact ⟨a, cap, kvs, cvs, rfl, hk, hlen, hcap, hat, hkids⟩

theorem ret_int {k : IntKind} {a b : Int} (h : a = b) : Ending.returned (.int k a) = .returned (.int k b) := by rw [h]
theorem ret_bool {a b : Bool} (h : a = b) : Ending.returned (.bool a) = .returned (.bool b) := by rw [h]

end Go.Proofs.YtpejnmfikjodaaaDoor

/- Where the library's decimal text of a number lies in this program. -/
namespace Go.Proofs.YtpejnmfikjodaaaDoor
open Go.Shelf Go.RowKit

def itoaRen : Go.Shelf.Ren := ⟨fun | 171 => 22 | 243 => 35 | 246 => 55 | 283 => 74 | 284 => 75 | 285 => 76 | 286 => 77 | 129 => 88 | 317 => 87 | 318 => 89 | 319 => 90 | 320 => 91 | 337 => 97 | 338 => 98 | n => n, fun | 3 => 3 | 9 => 9 | 2 => 2 | 4 => 4 | 171 => 111 | 0 => 0 | 53 => 112 | 37 => 22 | 5 => 5 | 173 => 115 | 212 => 124 | 51 => 125 | 20 => 20 | 213 => 126 | 46 => 127 | 232 => 135 | 233 => 136 | n => n, fun | 17 => 0 | 18 => 1 | 19 => 2 | n => n⟩
theorem itoaLay : Go.Proofs.LaysM.n171 Tryd.prog itoaRen := {
  mixed := by kernel_rfl
  f129 := Tryd.func88.trans (congrArg some (by kernel_rfl))
  f171 := Tryd.func22.trans (congrArg some (by kernel_rfl))
  f243 := Tryd.func35.trans (congrArg some (by kernel_rfl))
  f246 := Tryd.func55.trans (congrArg some (by kernel_rfl))
  f283 := Tryd.func74.trans (congrArg some (by kernel_rfl))
  f284 := Tryd.func75.trans (congrArg some (by kernel_rfl))
  f285 := Tryd.func76.trans (congrArg some (by kernel_rfl))
  f286 := Tryd.func77.trans (congrArg some (by kernel_rfl))
  f317 := Tryd.func87.trans (congrArg some (by kernel_rfl))
  f318 := Tryd.func89.trans (congrArg some (by kernel_rfl))
  f319 := Tryd.func90.trans (congrArg some (by kernel_rfl))
  f320 := Tryd.func91.trans (congrArg some (by kernel_rfl))
  f337 := Tryd.func97.trans (congrArg some (by kernel_rfl))
  f338 := Tryd.func98.trans (congrArg some (by kernel_rfl))
  t0 := Tryd.underlying0
  a0 := Tryd.isAgg0
  z0 := Tryd.sizeOf0
  v0 := Tryd.zeroValue0
  t2 := Tryd.underlying2
  a2 := Tryd.isAgg2
  z2 := Tryd.sizeOf2
  v2 := Tryd.zeroValue2
  t3 := Tryd.underlying3
  a3 := Tryd.isAgg3
  z3 := Tryd.sizeOf3
  v3 := Tryd.zeroValue3
  t4 := Tryd.underlying4
  a4 := Tryd.isAgg4
  z4 := Tryd.sizeOf4
  v4 := Tryd.zeroValue4
  t5 := Tryd.underlying5
  a5 := Tryd.isAgg5
  z5 := Tryd.sizeOf5
  v5 := Tryd.zeroValue5
  t9 := Tryd.underlying9
  a9 := Tryd.isAgg9
  z9 := Tryd.sizeOf9
  v9 := Tryd.zeroValue9
  t20 := Tryd.underlying20
  a20 := Tryd.isAgg20
  z20 := Tryd.sizeOf20
  v20 := Tryd.zeroValue20
  t37 := Tryd.underlying22
  a37 := Tryd.isAgg22
  z37 := Tryd.sizeOf22
  v37 := Tryd.zeroValue22
  t46 := Tryd.underlying127
  a46 := Tryd.isAgg127
  z46 := Tryd.sizeOf127
  v46 := Tryd.zeroValue127
  t51 := Tryd.underlying125
  a51 := Tryd.isAgg125
  z51 := Tryd.sizeOf125
  v51 := Tryd.zeroValue125
  t53 := Tryd.underlying112
  a53 := Tryd.isAgg112
  z53 := Tryd.sizeOf112
  v53 := Tryd.zeroValue112
  t171 := Tryd.underlying111
  a171 := Tryd.isAgg111
  z171 := Tryd.sizeOf111
  v171 := Tryd.zeroValue111
  t173 := Tryd.underlying115
  a173 := Tryd.isAgg115
  z173 := Tryd.sizeOf115
  v173 := Tryd.zeroValue115
  t212 := Tryd.underlying124
  a212 := Tryd.isAgg124
  z212 := Tryd.sizeOf124
  v212 := Tryd.zeroValue124
  t213 := Tryd.underlying126
  a213 := Tryd.isAgg126
  z213 := Tryd.sizeOf126
  t232 := Tryd.underlying135
  a232 := Tryd.isAgg135
  z232 := Tryd.sizeOf135
  v232 := Tryd.zeroValue135
  t233 := Tryd.underlying136
  a233 := Tryd.isAgg136
  z233 := Tryd.sizeOf136
  v233 := Tryd.zeroValue136
  g17 := by kernel_rfl
  g18 := by kernel_rfl
  g19 := by kernel_rfl
  i0 := by kernel_rfl
  i2 := by kernel_rfl
  i3 := by kernel_rfl
  i4 := by kernel_rfl
  i5 := by kernel_rfl
  i9 := by kernel_rfl
  i20 := by kernel_rfl
  i37 := by kernel_rfl
  i46 := by kernel_rfl
  i51 := by kernel_rfl
  i53 := by kernel_rfl
  i171 := by kernel_rfl
  i173 := by kernel_rfl
  i212 := by kernel_rfl
  i232 := by kernel_rfl
  i233 := by kernel_rfl
  m17 := by kernel_rfl
  m18 := by kernel_rfl
  m19 := by kernel_rfl }
end Go.Proofs.YtpejnmfikjodaaaDoor

/- Decimal texts: the model's l15Dec and the program's strconv.Itoa. -/
namespace Go.Proofs.YtpejnmfikjodaaaDoor
open Go.RowKit

theorem itoa_c (n : Int) (h0 : -9223372036854775808 ≤ n) (h1 : n ≤ 9223372036854775807) (w0 w : World)
    (htab : Lib.TabBelow Tryd.prog w0.heap.size w0 "internal/strconv.uint64pow10" .u64 Lib.pow10Tab) (hb : Below w0.heap.size w0 w) :
    Calls Tryd.prog 22 #[.int .i64 n] w fun e w' => e = .returned (.string ⟨(Lib.itoa n).toArray⟩) ∧ Below w.heap.size w w' := by
  have h := Go.Proofs.Any.strconv_Itoa (P := Tryd.prog) (ρ := itoaRen) { itoaLay with } n h0 h1 w (htab w hb)
  refine h.mono ?_
  rintro e w' ⟨rfl, k, os, rfl⟩
  exact ⟨rfl, ⟨rfl, rfl, rfl, by simp [Sort.grow], fun i hi => Sort.heap_grow_old _ _ hi⟩⟩

theorem str_add (l m : List UInt8) (h : l.length + m.length ≤ 1000000) (w : World) : (Op.stringOp .add ⟨l.toArray⟩ ⟨m.toArray⟩).run Tryd.prog w = .ok (.string ⟨(l ++ m).toArray⟩) w := by
  rw [run_string_add_sum w _ _ (by
    have h1 : (ByteArray.mk l.toArray).size = l.length := by show l.toArray.size = _; simp
    have h2 : (ByteArray.mk m.toArray).size = m.length := by show m.toArray.size = _; simp
    omega), ByteArray.mk_append_mk]

theorem dec_step {u : Nat} (h : ¬ u < 10) : Lib.decDigits u = Lib.decDigits (u / 10) ++ [UInt8.ofNat (48 + u % 10)] := by rw [Lib.decDigits, dif_neg h]
theorem digit_u8 (d : Nat) (h : d < 10) : ((UInt8.ofNat (48 + d)).toNat : Int) = 48 + d := by
  rw [UInt8.toNat_ofNat']
  omega

/-- One byte in a row of its own, read back as a text. -/
theorem byte_back (w : World) (d : Nat) (h : d < 10) (cap : Nat) : (convert 22 9 (.slice (some ⟨w.heap.size, 0, none⟩) 1 cap)).run Tryd.prog (w.alloc (.cells #[.int .u8 (48 + (d : Int))] 5)) = .ok (.string ⟨[UInt8.ofNat (48 + d)].toArray⟩) (w.alloc (.cells #[.int .u8 (48 + (d : Int))] 5)) := by
  refine run_convert_bytes_back (P := Tryd.prog) _ _ _ 5 ⟨w.heap.size, 0, none⟩ cap [UInt8.ofNat (48 + d)] Tryd.underlying22 Tryd.underlying5 Tryd.underlying9 (fun j hj => ?_)
  obtain rfl : j = 0 := by simpa using hj
  have hk : (w.alloc (.cells #[.int .u8 (48 + (d : Int))] 5)).heap[w.heap.size]? = some (.cells #[.int .u8 (48 + (d : Int))] 5 (0, 0)) := new_blk _ _
  generalize w.alloc (.cells #[.int .u8 (48 + (d : Int))] 5) = W at hk
  simp [World.cell?, Addr.add, hk]
  omega

set_option maxHeartbeats 2000000 in
set_option maxRecDepth 100000 in
theorem decPos_c (u : Nat) (hu : u ≤ 9223372036854775807) (w : World) :
    Calls Tryd.prog 23 #[.int .i64 u] w fun e w' => e = .returned (.string ⟨(Lib.decDigits u).toArray⟩) ∧ Below w.heap.size w w' := by
  obtain ⟨U, hU⟩ : ∃ U : Int, U = u := ⟨_, rfl⟩
  have h1 : ¬ U < -9223372036854775807 := by omega
  have h2 : ¬ U < 0 := by omega
  rw [← hU]
  have HU := Lib.hid hU
  clear hU
  go_enter Tryd.func23, Tryd.ntmps23
  go_wp2_with fail
  go_loopw [0, 3] (fun s0 s3 wr => ∃ (v : Nat) (s : List UInt8), v ≤ 9223372036854775807 ∧ s0 = .int .i64 v ∧ s3 = .string ⟨s.toArray⟩ ∧ Hid (Lib.decDigits u = Lib.decDigits v ++ s) ∧ Below w.heap.size w wr) (fun s0 _ _ => (intOf s0).toNat)
  case atStart => exact ⟨u, [], hu, by rw [HU.out], rfl, Lib.hid (by simp), Below.refl _ _⟩
  case round =>
    obtain ⟨v, s, hv, rfl, rfl, HD, hbel⟩ := hrel
    have hsz := hbel.size
    have HB := Lib.hid hbel
    clear hbel
    have hsl : s.length ≤ 20 := by
      have e := congrArg List.length HD.out
      rw [Lib.decDigits_length, List.length_append] at e
      have := Lib.nDigits_le20 u (by omega)
      omega
    by_cases h9 : v < 10
    · have hgt : ¬ (v : Int) > 9 := by omega
      have hbb := byte_back wr v h9 1
      have hsa := fun wx => str_add [UInt8.ofNat (48 + v)] s (by simp; omega) wx
      have HE := Lib.hid (show [UInt8.ofNat (48 + v)] ++ s = Lib.decDigits u by rw [HD.out, Lib.decDigits_one h9])
      generalize hL : [UInt8.ofNat (48 + v)] ++ s = L at hsa HE
      generalize [UInt8.ofNat (48 + v)] = b at hbb hsa
      clear hL
      have HBL := Lib.hid (HB.out.trans (((Below.refl wr.heap.size wr).alloc (Nat.le_refl _) (.cells #[.int .u8 (48 + (v : Int))] 5)).mono hsz))
      go_wp2_with fail
      go_ret
      exact ⟨by rw [HE.out]; rfl, HBL.out⟩
    · have hgt : (v : Int) > 9 := by omega
      have hbb := byte_back wr (v % 10) (by omega) 1
      rw [show (((v % 10 : Nat)) : Int) = (v : Int) % 10 by omega] at hbb
      have hsa := fun wx => str_add [UInt8.ofNat (48 + v % 10)] s (by simp; omega) wx
      have HE := Lib.hid (show Lib.decDigits u = Lib.decDigits (v / 10) ++ ([UInt8.ofNat (48 + v % 10)] ++ s) by rw [HD.out, dec_step h9, List.append_assoc])
      generalize hL : [UInt8.ofNat (48 + v % 10)] ++ s = L at hsa HE
      generalize [UInt8.ofNat (48 + v % 10)] = b at hbb hsa
      clear hL
      have HBL := Lib.hid (HB.out.trans (((Below.refl wr.heap.size wr).alloc (Nat.le_refl _) (.cells #[.int .u8 (48 + (v : Int) % 10)] 5)).mono hsz))
      go_wp2_with fail
      go_roundw
      case rel => exact ⟨v / 10, L, by omega, by first | rfl | go_num, rfl, HE, HBL.out⟩
      case measure => simp [intOf]; omega

theorem min_text : Lib.itoa (-9223372036854775808) = [45, 57, 50, 50, 51, 51, 55, 50, 48, 51, 54, 56, 53, 52, 55, 55, 53, 56, 48, 56] := by
  have h := Lib.itoa_neg 9223372036854775808 (by omega)
  rw [show (-((9223372036854775808 : Nat) : Int)) = -9223372036854775808 by rfl] at h
  rw [h]
  simp [Lib.decDigits]

set_option maxHeartbeats 2000000 in
set_option maxRecDepth 100000 in
theorem dec_c (n : Int) (h0 : -9223372036854775808 ≤ n) (h1 : n ≤ 9223372036854775807) (w : World) :
    Calls Tryd.prog 23 #[.int .i64 n] w fun e w' => e = .returned (.string ⟨(Lib.itoa n).toArray⟩) ∧ Below w.heap.size w w' := by
  by_cases hn : n < 0
  case neg =>
    obtain ⟨u, rfl⟩ : ∃ u : Nat, n = u := ⟨n.toNat, by omega⟩
    rw [Lib.itoa_nonneg]
    exact decPos_c u (by omega) w
  by_cases hm : n < -9223372036854775807
  · have HT := Lib.hid min_text
    obtain rfl : n = -9223372036854775808 := by omega
    go_enter Tryd.func23, Tryd.ntmps23
    go_wp2_with fail
    go_ret
    exact ⟨by rw [HT.out]; rfl, Below.refl _ _⟩
  · obtain ⟨u, hu⟩ : ∃ u : Nat, n = -(u : Int) := ⟨n.natAbs, by omega⟩
    have HP := Lib.hid (decPos_c u (by omega) w)
    have hsl : (Lib.decDigits u).length ≤ 20 := by rw [Lib.decDigits_length]; exact Lib.nDigits_le20 u (by omega)
    have hsa := fun wx => str_add [45] (Lib.decDigits u) (by simp; omega) wx
    have HE := Lib.hid (show [45] ++ Lib.decDigits u = Lib.itoa n by rw [hu, Lib.itoa_neg u (by omega)]; rfl)
    have hneg : -n = (u : Int) := by omega
    have hwr : IntKind.i64.wrap (-n) = (u : Int) := by rw [IntKind.wrap_i64]; omega
    generalize hL : [45] ++ Lib.decDigits u = L at hsa HE
    generalize hD : Lib.decDigits u = D at hsa HP
    clear hL hD hu
    go_enter Tryd.func23, Tryd.ntmps23
    go_wp2_with fail
    refine HP.out.mono ?_
    rintro e w2 ⟨rfl, hb2⟩
    have H2 := Lib.hid hb2
    clear hb2
    go_wp2_with fail
    go_ret
    exact ⟨by rw [HE.out]; rfl, H2.out⟩
end Go.Proofs.YtpejnmfikjodaaaDoor

/- The text of a repair: the contracts of the model and the program. -/
namespace Go.Proofs.YtpejnmfikjodaaaDoor
open Go.RowKit

/-- The text of a repair. -/
def repText (b j : Int) (s : Bool) : List UInt8 := Lib.itoa b ++ [32] ++ Lib.itoa j ++ (if s then [32, 115, 104, 114, 105, 110, 107, 115] else [])

theorem box3 {w : World} {g : Nat} {a b c : Value} {t : TypeId} (h : w.heap[g]? = some (.cells #[a, b, c] t (0, 0))) :
    w.cell? ⟨g, 0, none⟩ = some a ∧ w.cell? ⟨g, 1, none⟩ = some b ∧ w.cell? ⟨g, 2, none⟩ = some c := by
  simp [World.cell?, h]

set_option maxHeartbeats 2000000 in
set_option maxRecDepth 100000 in
theorem spec_formatRepair (b j : Int) (s : Bool) (hb0 : -9223372036854775808 ≤ b) (hb1 : b ≤ 9223372036854775807) (hj0 : -9223372036854775808 ≤ j) (hj1 : j ≤ 9223372036854775807) (w : World) :
    Calls Tryd.prog 10 #[.agg #[.int .i64 b, .int .i64 j, .bool s]] w fun e w' => e = .returned (.string ⟨(repText b j s).toArray⟩) ∧ Below w.heap.size w w' := by
  obtain ⟨W1, hW1⟩ : ∃ W1, W1 = w.alloc (.cells #[.int .i64 b, .int .i64 j, .bool s] 30) := ⟨_, rfl⟩
  have hs1 : w.heap.size < W1.heap.size := by rw [hW1]; simp
  have hf1 : Below w.heap.size w W1 := by rw [hW1]; exact (Below.refl _ _).alloc (Nat.le_refl _) _
  have hx1 : W1.heap[w.heap.size]? = some (.cells #[.int .i64 b, .int .i64 j, .bool s] 30 (0, 0)) := by rw [hW1, new_blk]
  have BOX : Hid (∀ wx : World, Below W1.heap.size W1 wx → wx.heap[w.heap.size]? = some (.cells #[.int .i64 b, .int .i64 j, .bool s] 30 (0, 0))) := Lib.hid (fun wx hx => (hx.block _ (by omega)).trans hx1)
  have HC : Hid (∀ (n : Int) (_ : -9223372036854775808 ≤ n) (_ : n ≤ 9223372036854775807) (wx : World), Below W1.heap.size W1 wx → Calls Tryd.prog 23 #[.int .i64 n] wx fun e w' => e = .returned (.string ⟨(Lib.itoa n).toArray⟩) ∧ Below wx.heap.size wx w') :=
    Lib.hid (fun n h0 h1 wx hx => dec_c n h0 h1 wx)
  have CB := HC.out b hb0 hb1
  have CJ := HC.out j hj0 hj1
  have hlb := Lib.itoa_length_le b hb0 hb1
  have hlj := Lib.itoa_length_le j hj0 hj1
  have e1 : repText b j false = (Lib.itoa b ++ [32]) ++ Lib.itoa j := by simp [repText]
  have e2 : repText b j true = ((Lib.itoa b ++ [32]) ++ Lib.itoa j) ++ [32, 115, 104, 114, 105, 110, 107, 115] := by simp [repText]
  generalize Lib.itoa b = B at CB hlb e1 e2
  generalize Lib.itoa j = J at CJ hlj e1 e2
  have hsa := fun wx => str_add B [32] (by simp; omega) wx
  have hl1 : (B ++ [32]).length ≤ 22 := by simp; omega
  generalize B ++ [32] = B1 at hsa hl1 e1 e2
  have hsb := fun wx => str_add B1 J (by omega) wx
  have hl2 : (B1 ++ J).length ≤ 43 := by simp; omega
  generalize B1 ++ J = L1 at hsb hl2 e1 e2
  have hsc := fun wx => str_add L1 [32, 115, 104, 114, 105, 110, 107, 115] (by simp; omega) wx
  generalize L1 ++ [32, 115, 104, 114, 105, 110, 107, 115] = L2 at hsc e2
  have HE := Lib.hid (And.intro e1 e2)
  have HCB := Lib.hid CB
  have HCJ := Lib.hid CJ
  have HF := Lib.hid hf1
  have HW1 := Lib.hid hW1
  clear hW1 hf1 hx1 CB CJ e1 e2 hlb hlj hl1 hl2
  go_enter Tryd.func10, Tryd.ntmps10
  go_wp2_with fail
  rw [← HW1.out]
  obtain ⟨x1, x2, x3⟩ := box3 (BOX.out W1 (Below.refl _ _))
  go_region_held3 (fun x => x.cell? ⟨w.heap.size, 0, none⟩ = some (.int .i64 b) ∧ x.cell? ⟨w.heap.size, 1, none⟩ = some (.int .i64 j))
    (first | exact ⟨x1, x2⟩ | exact ⟨z1, z2⟩ | exact ⟨q1, q2⟩ | go_keep)
    (first
      | (go_at_call 23; refine (HCJ.out _ HB4.out).mono ?_; rintro e w5 ⟨rfl, hb5⟩; have hB5 : Below W1.heap.size W1 w5 := HB4.out.trans (hb5.mono (by have := HB4.out.size; omega)); obtain ⟨q1, q2, -⟩ := box3 (BOX.out w5 hB5); have HB5 := Lib.hid hB5; clear hb5 hB5)
      | (go_at_call 23; refine (HCB.out _ (Below.refl _ _).drew).mono ?_; rintro e w4 ⟨rfl, hb4⟩; have hB4 : Below W1.heap.size W1 w4 := ((Below.refl _ _).drew).trans hb4; obtain ⟨z1, z2, -⟩ := box3 (BOX.out w4 hB4); have HB4 := Lib.hid hB4; clear hb4 hB4))
  clear x1 x2 x3 z1 z2 q1 q2
  obtain ⟨x1, x2, x3⟩ := box3 (BOX.out w5 HB5.out)
  have HL := Lib.hid (HF.out.trans (HB5.out.mono (by omega)))
  cases s
  · have HE1 := Lib.hid HE.out.1
    go_wp2_with fail
    go_ret
    exact ⟨by rw [HE1.out]; rfl, HL.out⟩
  · have HE1 := Lib.hid HE.out.2
    go_wp2_with fail
    go_ret
    exact ⟨by rw [HE1.out]; rfl, HL.out⟩

set_option maxHeartbeats 2000000 in
set_option maxRecDepth 100000 in
theorem impl_formatRepair (b j : Int) (s : Bool) (hb0 : -9223372036854775808 ≤ b) (hb1 : b ≤ 9223372036854775807) (hj0 : -9223372036854775808 ≤ j) (hj1 : j ≤ 9223372036854775807) (w0 w : World) (htab : Lib.TabBelow Tryd.prog w0.heap.size w0 "internal/strconv.uint64pow10" .u64 Lib.pow10Tab) (hw : Below w0.heap.size w0 w) :
    Calls Tryd.prog 9 #[.agg #[.int .i64 b, .int .i64 j, .bool s]] w fun e w' => e = .returned (.string ⟨(repText b j s).toArray⟩) ∧ Below w.heap.size w w' := by
  obtain ⟨W1, hW1⟩ : ∃ W1, W1 = w.alloc (.cells #[.int .i64 b, .int .i64 j, .bool s] 30) := ⟨_, rfl⟩
  have hs1 : w.heap.size < W1.heap.size := by rw [hW1]; simp
  have hf1 : Below w.heap.size w W1 := by rw [hW1]; exact (Below.refl _ _).alloc (Nat.le_refl _) _
  have hx1 : W1.heap[w.heap.size]? = some (.cells #[.int .i64 b, .int .i64 j, .bool s] 30 (0, 0)) := by rw [hW1, new_blk]
  have BOX : Hid (∀ wx : World, Below W1.heap.size W1 wx → wx.heap[w.heap.size]? = some (.cells #[.int .i64 b, .int .i64 j, .bool s] 30 (0, 0))) := Lib.hid (fun wx hx => (hx.block _ (by omega)).trans hx1)
  have HC : Hid (∀ (n : Int) (_ : -9223372036854775808 ≤ n) (_ : n ≤ 9223372036854775807) (wx : World), Below W1.heap.size W1 wx → Calls Tryd.prog 22 #[.int .i64 n] wx fun e w' => e = .returned (.string ⟨(Lib.itoa n).toArray⟩) ∧ Below wx.heap.size wx w') :=
    Lib.hid (fun n h0 h1 wx hx => itoa_c n h0 h1 w0 wx htab (hw.trans ((hf1.trans (hx.mono (by omega))).mono hw.size)))
  have CB := HC.out b hb0 hb1
  have CJ := HC.out j hj0 hj1
  have hlb := Lib.itoa_length_le b hb0 hb1
  have hlj := Lib.itoa_length_le j hj0 hj1
  have e1 : repText b j false = (Lib.itoa b ++ [32]) ++ Lib.itoa j := by simp [repText]
  have e2 : repText b j true = ((Lib.itoa b ++ [32]) ++ Lib.itoa j) ++ [32, 115, 104, 114, 105, 110, 107, 115] := by simp [repText]
  generalize Lib.itoa b = B at CB hlb e1 e2
  generalize Lib.itoa j = J at CJ hlj e1 e2
  have hsa := fun wx => str_add B [32] (by simp; omega) wx
  have hl1 : (B ++ [32]).length ≤ 22 := by simp; omega
  generalize B ++ [32] = B1 at hsa hl1 e1 e2
  have hsb := fun wx => str_add B1 J (by omega) wx
  have hl2 : (B1 ++ J).length ≤ 43 := by simp; omega
  generalize B1 ++ J = L1 at hsb hl2 e1 e2
  have hsc := fun wx => str_add L1 [32, 115, 104, 114, 105, 110, 107, 115] (by simp; omega) wx
  generalize L1 ++ [32, 115, 104, 114, 105, 110, 107, 115] = L2 at hsc e2
  have HE := Lib.hid (And.intro e1 e2)
  have HCB := Lib.hid CB
  have HCJ := Lib.hid CJ
  have HF := Lib.hid hf1
  have HW1 := Lib.hid hW1
  clear hW1 hf1 hx1 CB CJ e1 e2 hlb hlj hl1 hl2
  go_enter Tryd.func9, Tryd.ntmps9
  go_wp2_with fail
  rw [← HW1.out]
  obtain ⟨x1, x2, x3⟩ := box3 (BOX.out W1 (Below.refl _ _))
  go_region_held3 (fun x => x.cell? ⟨w.heap.size, 0, none⟩ = some (.int .i64 b) ∧ x.cell? ⟨w.heap.size, 1, none⟩ = some (.int .i64 j))
    (first | exact ⟨x1, x2⟩ | exact ⟨z1, z2⟩ | exact ⟨q1, q2⟩ | go_keep)
    (first
      | (go_at_call 22; refine (HCJ.out _ HB4.out).mono ?_; rintro e w5 ⟨rfl, hb5⟩; have hB5 : Below W1.heap.size W1 w5 := HB4.out.trans (hb5.mono (by have := HB4.out.size; omega)); obtain ⟨q1, q2, -⟩ := box3 (BOX.out w5 hB5); have HB5 := Lib.hid hB5; clear hb5 hB5)
      | (go_at_call 22; refine (HCB.out _ (Below.refl _ _).drew).mono ?_; rintro e w4 ⟨rfl, hb4⟩; have hB4 : Below W1.heap.size W1 w4 := ((Below.refl _ _).drew).trans hb4; obtain ⟨z1, z2, -⟩ := box3 (BOX.out w4 hB4); have HB4 := Lib.hid hB4; clear hb4 hB4))
  clear x1 x2 x3 z1 z2 q1 q2
  obtain ⟨x1, x2, x3⟩ := box3 (BOX.out w5 HB5.out)
  have HL := Lib.hid (HF.out.trans (HB5.out.mono (by omega)))
  cases s
  · have HE1 := Lib.hid HE.out.1
    go_wp2_with fail
    go_ret
    exact ⟨by rw [HE1.out]; rfl, HL.out⟩
  · have HE1 := Lib.hid HE.out.2
    go_wp2_with fail
    go_ret
    exact ⟨by rw [HE1.out]; rfl, HL.out⟩
end Go.Proofs.YtpejnmfikjodaaaDoor

/- The laws' copy of a repair. -/
namespace Go.Proofs.YtpejnmfikjodaaaDoor
open Go.RowKit

set_option maxHeartbeats 1000000 in
set_option maxRecDepth 100000 in
theorem toRep_c (b j : Int) (s : Bool) (w : World) :
    Calls Tryd.prog 14 #[.agg #[.int .i64 b, .int .i64 j, .bool s]] w fun e w' => e = .returned (.agg #[.int .i64 b, .int .i64 j, .bool s]) ∧ Below w.heap.size w w' := by
  go_enter Tryd.func14, Tryd.ntmps14
  go_wp2_with fail
  obtain ⟨W3, hW3⟩ : ∃ W3, W3 = (((w.alloc (.cells #[.int .i64 b, .int .i64 j, .bool s] 39)).alloc (.cells #[.int .i64 b, .int .i64 j, .bool s] 30)).alloc (.cells #[.int .i64 b, .int .i64 j, .bool s] 30)) := ⟨_, rfl⟩
  rw [← hW3]
  have hb3 : Below w.heap.size w W3 := by rw [hW3]; exact (((Below.refl _ _).alloc (Nat.le_refl _) _).alloc (by simp) _).alloc (by simp; omega) _
  have k1 : W3.heap[w.heap.size + 1]? = some (.cells #[.int .i64 b, .int .i64 j, .bool s] 30 (0, 0)) := by
    rw [hW3, old_blk _ _ _ (by simp), show w.heap.size + 1 = (w.alloc (.cells #[.int .i64 b, .int .i64 j, .bool s] 39)).heap.size by simp, new_blk]
  obtain ⟨c1, c2, c3⟩ := box3 k1
  exact bodyPost_ret (v := .agg #[.int .i64 b, .int .i64 j, .bool s]) (by simp [results, Tryd.results14, go_sem, c1, c2, c3]) rfl ⟨rfl, hb3⟩
end Go.Proofs.YtpejnmfikjodaaaDoor
