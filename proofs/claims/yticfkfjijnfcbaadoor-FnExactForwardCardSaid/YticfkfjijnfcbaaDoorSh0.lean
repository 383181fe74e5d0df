/- Appends onto a slice of ints of the call's own. -/
import Derived.WalkKit
import Derived.Lib.Hide
import Derived.Test.YticfkfjijnfcbaaDoorProg
import Derived.Laws.AppendOwnNone
import Derived.OwnWalk
import Derived.WalkSmall

/- Plain trees and how they lie in memory: the words that the contracts of this claim use. -/
namespace Go.Proofs.YticfkfjijnfcbaaDoor
open Go.RowKit

/-- A tree as plain data: its keys and its kids. -/
inductive Tr where
  | mk (ks : List Int) (cs : List Tr)

namespace Tr
mutual
/-- Keys and kids, all together. -/
def weight : Tr → Nat
  | .mk k c => k.length + weights c
def weights : List Tr → Nat
  | [] => 0
  | t :: r => 1 + weight t + weights r
end

theorem weights_append (a b : List Tr) : weights (a ++ b) = weights a + weights b := by
  induction a with
  | nil => simp [weights]
  | cons t r ih => simp [weights, ih]; omega

theorem weights_take_succ (cs : List Tr) (j : Nat) (h : j < cs.length) : weights (cs.take (j + 1)) = weights (cs.take j) + 1 + cs[j].weight := by
  rw [List.take_succ_eq_append_getElem h, weights_append]; simp [weights]; omega

theorem length_le_weights (cs : List Tr) : cs.length ≤ weights cs := by
  induction cs with
  | nil => simp
  | cons t r ih => simp [weights]; omega

theorem weights_take_ge (cs : List Tr) (j : Nat) : weights (cs.take j) + (cs.length - j) ≤ weights cs := by
  conv => rhs; rw [← List.take_append_drop j cs, weights_append]
  have := length_le_weights (cs.drop j)
  simp at this; omega

theorem weight_get_le (cs : List Tr) (j : Nat) (h : j < cs.length) : cs[j].weight + cs.length ≤ weights cs := by
  have h1 := weights_take_ge cs (j + 1)
  have h2 := weights_take_succ cs j h
  have h3 := length_le_weights (cs.take j)
  simp at h3; omega
end Tr

namespace Tr
mutual
/-- How many nodes. -/
def count : Tr → Nat
  | .mk _ c => 1 + counts c
def counts : List Tr → Nat
  | [] => 0
  | t :: r => count t + counts r
end
mutual
/-- How many nodes lie within each other. -/
def depth : Tr → Nat
  | .mk _ c => depths c + 1
def depths : List Tr → Nat
  | [] => 0
  | t :: r => max (depth t) (depths r)
end
mutual
/-- How many nodes have just so many keys. -/
def full (n : Int) : Tr → Nat
  | .mk k c => (if (k.length : Int) = n then 1 else 0) + fulls n c
def fulls (n : Int) : List Tr → Nat
  | [] => 0
  | t :: r => full n t + fulls n r
end

theorem counts_append (a b : List Tr) : counts (a ++ b) = counts a + counts b := by
  induction a with
  | nil => simp [counts]
  | cons t r ih => simp [counts, ih]; omega
theorem depths_append (a b : List Tr) : depths (a ++ b) = max (depths a) (depths b) := by
  induction a with
  | nil => simp [depths]
  | cons t r ih => simp [depths, ih]
theorem fulls_append (n : Int) (a b : List Tr) : fulls n (a ++ b) = fulls n a + fulls n b := by
  induction a with
  | nil => simp [fulls]
  | cons t r ih => simp [fulls, ih]; omega
theorem counts_take_succ (cs : List Tr) (j : Nat) (h : j < cs.length) : counts (cs.take (j + 1)) = counts (cs.take j) + cs[j].count := by
  rw [List.take_succ_eq_append_getElem h, counts_append]; simp [counts]
theorem depths_take_succ (cs : List Tr) (j : Nat) (h : j < cs.length) : depths (cs.take (j + 1)) = max (depths (cs.take j)) cs[j].depth := by
  rw [List.take_succ_eq_append_getElem h, depths_append]; simp [depths]
theorem fulls_take_succ (n : Int) (cs : List Tr) (j : Nat) (h : j < cs.length) : fulls n (cs.take (j + 1)) = fulls n (cs.take j) + cs[j].full n := by
  rw [List.take_succ_eq_append_getElem h, fulls_append]; simp [fulls]

mutual
theorem count_le : ∀ t : Tr, t.count ≤ t.weight + 1
  | .mk k c => by have := counts_le c; simp only [count, weight]; omega
theorem counts_le : ∀ c : List Tr, counts c ≤ weights c
  | [] => by simp [counts]
  | t :: r => by have := count_le t; have := counts_le r; simp only [counts, weights]; omega
end
mutual
theorem depth_le : ∀ t : Tr, t.depth ≤ t.count
  | .mk k c => by have := depths_le c; simp only [count, depth]; omega
theorem depths_le : ∀ c : List Tr, depths c ≤ counts c
  | [] => by simp [depths]
  | t :: r => by have := depth_le t; have := depths_le r; simp only [counts, depths]; omega
end
mutual
theorem full_le (n : Int) : ∀ t : Tr, t.full n ≤ t.count
  | .mk k c => by have := fulls_le n c; simp only [count, full]; split <;> omega
theorem fulls_le (n : Int) : ∀ c : List Tr, fulls n c ≤ counts c
  | [] => by simp [fulls]
  | t :: r => by have := full_le n t; have := fulls_le n r; simp only [counts, fulls]; omega
end
theorem fulls_take_le (n : Int) (cs : List Tr) (j : Nat) : fulls n (cs.take j) ≤ fulls n cs := by
  conv => rhs; rw [← List.take_append_drop j cs, fulls_append]
  omega
theorem counts_take_le (cs : List Tr) (j : Nat) : counts (cs.take j) ≤ counts cs := by
  conv => rhs; rw [← List.take_append_drop j cs, counts_append]
  omega
end Tr

/-- A slice of ints in memory below block B. -/
def IntsIn (w : World) (B : Nat) (v : Value) (ks : List Int) : Prop :=
  ∃ (a : Option Addr) (cap : Nat), v = .slice a ks.length cap ∧ ks.length ≤ cap ∧ cap ≤ maxLen ∧ (a = none → cap = 0) ∧
    (ks = [] ∨ ∃ b o, a = some ⟨b, o, none⟩ ∧ b < B ∧ ∀ i, i < ks.length → w.cell? ⟨b, o + i, none⟩ = some (.int .i64 (ks.getD i 0)))

/-- A slice of trees in memory below block B: two cells a tree. -/
def KidsIn (w : World) (B : Nat) (a : Option Addr) (n : Nat) (kvs cvs : Nat → Value) : Prop :=
  n = 0 ∨ ∃ b o, a = some ⟨b, o, none⟩ ∧ b < B ∧ ∀ i, i < n →
    w.cell? ⟨b, o + i * 2, none⟩ = some (kvs i) ∧ w.cell? ⟨b, o + i * 2 + 1, none⟩ = some (cvs i)

/-- A tree in memory below block B: its two slices. -/
inductive TreeIn (w : World) (B : Nat) : Value → Value → Tr → Prop where
  | mk (ks : List Int) (cs : List Tr) (kv : Value) (a : Option Addr) (cap : Nat) (kvs cvs : Nat → Value)
      (hk : IntsIn w B kv ks) (hlen : cs.length ≤ cap) (hcap : cap ≤ maxLen) (hat : KidsIn w B a cs.length kvs cvs)
      (hkids : ∀ i (h : i < cs.length), TreeIn w B (kvs i) (cvs i) cs[i]) :
      TreeIn w B kv (.slice a cs.length cap) (.mk ks cs)

theorem below_cell {B : Nat} {w w' : World} (h : Below B w w') {b o : Nat} (hb : b < B) : w'.cell? ⟨b, o, none⟩ = w.cell? ⟨b, o, none⟩ := h.cell (p := ⟨b, o, none⟩) hb

theorem bcell {C : Nat} {W w1 : World} (hb : Below C W w1) : (∀ b o, b < C → w1.cell? ⟨b, o, none⟩ = W.cell? ⟨b, o, none⟩) ∧ (∀ b o, b < C → w1.frozen? ⟨b, o, none⟩ = W.frozen? ⟨b, o, none⟩) :=
  ⟨fun b o h => hb.cell (p := ⟨b, o, none⟩) h, fun b o h => hb.frozen (p := ⟨b, o, none⟩) h⟩

/-- A box of one or two cells, its cells told. -/
theorem box1 {w : World} {b : Nat} {x : Value} {t : TypeId} (h : w.heap[b]? = some (.cells #[x] t (0, 0))) : w.cell? ⟨b, 0, none⟩ = some x ∧ w.frozen? ⟨b, 0, none⟩ = false := by
  constructor <;> simp [World.cell?, World.frozen?, h]
theorem box2 {w : World} {b : Nat} {x y : Value} {t : TypeId} (h : w.heap[b]? = some (.cells #[x, y] t (0, 0))) :
    w.cell? ⟨b, 0, none⟩ = some x ∧ w.cell? ⟨b, 1, none⟩ = some y ∧ w.frozen? ⟨b, 0, none⟩ = false ∧ w.frozen? ⟨b, 1, none⟩ = false := by
  refine ⟨?_, ?_, ?_, ?_⟩ <;> simp [World.cell?, World.frozen?, h]
theorem new_blk (w : World) (o : Obj) : (w.alloc o).heap[w.heap.size]? = some o := by
  show (w.heap.push o)[w.heap.size]? = _
  simp
theorem old_blk (w : World) (o : Obj) (k : Nat) (h : k < w.heap.size) : (w.alloc o).heap[k]? = w.heap[k]? := Below.heap_alloc w o k h
theorem set_blk {w : World} {b o : Nat} {c : Array Value} {t : TypeId} (v : Value) (h : w.heap[b]? = some (.cells c t (0, 0))) :
    (w.setCell ⟨b, o, none⟩ v).heap[b]? = some (.cells (c.setIfInBounds o v) t (0, 0)) := by
  simp [World.setCell, Array.getElem?_modify, h]
theorem set_other (w : World) (b o : Nat) (v : Value) (k : Nat) (h : k ≠ b) : (w.setCell ⟨b, o, none⟩ v).heap[k]? = w.heap[k]? := Below.heap_setCell w ⟨b, o, none⟩ v k h

theorem IntsIn.later {w w' : World} {B C : Nat} {v : Value} {ks : List Int} (h : IntsIn w B v ks) (hb : Below C w w') (hC : B ≤ C) : IntsIn w' B v ks := by
  obtain ⟨a, cap, hv, h1, h2, hnl, h3⟩ := h
  refine ⟨a, cap, hv, h1, h2, hnl, ?_⟩
  rcases h3 with h3 | ⟨b, o, h3, h4, h5⟩
  · exact .inl h3
  · exact .inr ⟨b, o, h3, h4, fun i hi => by rw [below_cell hb (by omega)]; exact h5 i hi⟩

theorem KidsIn.later {w w' : World} {B C : Nat} {a : Option Addr} {n : Nat} {kvs cvs : Nat → Value} (h : KidsIn w B a n kvs cvs) (hb : Below C w w') (hC : B ≤ C) : KidsIn w' B a n kvs cvs := by
  rcases h with h3 | ⟨b, o, h3, h4, h5⟩
  · exact .inl h3
  · exact .inr ⟨b, o, h3, h4, fun i hi => ⟨by rw [below_cell hb (by omega)]; exact (h5 i hi).1, by rw [below_cell hb (by omega)]; exact (h5 i hi).2⟩⟩

theorem TreeIn.later {w w' : World} {B C : Nat} {kv cv : Value} {t : Tr} (h : TreeIn w B kv cv t) (hb : Below C w w') (hC : B ≤ C) : TreeIn w' B kv cv t := by
  induction h with
  | mk ks cs kv a cap kvs cvs hk hlen hcap hat hkids ih => exact TreeIn.mk ks cs kv a cap kvs cvs (hk.later hb hC) hlen hcap (hat.later hb hC) ih

theorem IntsIn.wider {w : World} {B C : Nat} {v : Value} {ks : List Int} (h : IntsIn w B v ks) (hC : B ≤ C) : IntsIn w C v ks := by
  obtain ⟨a, cap, hv, h1, h2, hnl, h3⟩ := h
  refine ⟨a, cap, hv, h1, h2, hnl, ?_⟩
  rcases h3 with h3 | ⟨b, o, h3, h4, h5⟩
  · exact .inl h3
  · exact .inr ⟨b, o, h3, by omega, h5⟩

theorem KidsIn.wider {w : World} {B C : Nat} {a : Option Addr} {n : Nat} {kvs cvs : Nat → Value} (h : KidsIn w B a n kvs cvs) (hC : B ≤ C) : KidsIn w C a n kvs cvs := by
  rcases h with h3 | ⟨b, o, h3, h4, h5⟩
  · exact .inl h3
  · exact .inr ⟨b, o, h3, by omega, h5⟩

theorem TreeIn.wider {w : World} {B C : Nat} {kv cv : Value} {t : Tr} (h : TreeIn w B kv cv t) (hC : B ≤ C) : TreeIn w C kv cv t := by
  induction h with
  | mk ks cs kv a cap kvs cvs hk hlen hcap hat hkids ih => exact TreeIn.mk ks cs kv a cap kvs cvs (hk.wider hC) hlen hcap (hat.wider hC) ih

theorem TreeIn.slices {w : World} {B : Nat} {kv cv : Value} {t : Tr} (h : TreeIn w B kv cv t) : ∃ a n c a' n' c', kv = .slice a n c ∧ cv = .slice a' n' c' := by
  cases h with
  | mk ks cs kv a cap kvs cvs hk hlen hcap hat hkids =>
    obtain ⟨ka, kcap, rfl, _⟩ := hk
    exact ⟨_, _, _, _, _, _, rfl, rfl⟩

/-- The one rule on heights: a property that goes from all kids to the tree holds of all trees that lie in memory. -/
theorem TreeIn.parts {w : World} {B : Nat} {kv cv : Value} {ks : List Int} {cs : List Tr} (h : TreeIn w B kv cv (.mk ks cs)) :
    ∃ (a : Option Addr) (cap : Nat) (kvs cvs : Nat → Value), cv = .slice a cs.length cap ∧ IntsIn w B kv ks ∧ cs.length ≤ cap ∧ cap ≤ maxLen ∧ KidsIn w B a cs.length kvs cvs ∧
      ∀ i (h : i < cs.length), TreeIn w B (kvs i) (cvs i) cs[i] := by
  cases h with
  | mk _ _ _ a cap kvs cvs hk hlen hcap hat hkids => exact ⟨a, cap, kvs, cvs, rfl, hk, hlen, hcap, hat, hkids⟩

theorem ret_int {k : IntKind} {a b : Int} (h : a = b) : Ending.returned (.int k a) = .returned (.int k b) := by rw [h]
theorem ret_bool {a b : Bool} (h : a = b) : Ending.returned (.bool a) = .returned (.bool b) := by rw [h]

end Go.Proofs.YticfkfjijnfcbaaDoor

/- The contracts of the functions that weigh an argument: szIntS, szTreeS, szTree. -/
namespace Go.Proofs.YticfkfjijnfcbaaDoor
open Go.RowKit

/-- What szTree and its kin return. -/
def leftOf (n : Int) (m : Nat) : Int := if n < m then -1 else n - m
theorem leftOf_lt {n : Int} {m : Nat} (h : n < m) : leftOf n m = -1 := if_pos h
theorem leftOf_ge {n : Int} {m : Nat} (h : m ≤ n) : leftOf n m = n - m := if_neg (by omega)

theorem szIntS_c (a : Option Addr) (len cap : Nat) (n : Int) (w : World) (h0 : 0 ≤ n) (h1 : n ≤ 1048576) (h2 : len ≤ 9223372036854775807) :
    Calls Tryd.prog 55 #[.slice a len cap, .int .i64 n] w fun e w' => e = .returned (.int .i64 (leftOf n len)) ∧ w = w' := by
  go_enter Tryd.func55, Tryd.ntmps55
  go_wp2
  · go_ret
    exact ⟨ret_int (leftOf_lt (by omega)).symm, rfl⟩
  · go_ret
    exact ⟨ret_int (leftOf_ge (by omega)).symm, rfl⟩

set_option maxHeartbeats 400000 in
theorem szTreeS_c (cs : List Tr) (a : Option Addr) (cap : Nat) (n : Int) (w : World) (B : Nat) (kvs cvs : Nat → Value) (hB : B ≤ w.heap.size)
    (h0 : 0 ≤ n) (h1 : n ≤ 1048576) (hlen : cs.length ≤ cap) (hcap : cap ≤ 9223372036854775807)
    (hat : KidsIn w B a cs.length kvs cvs)
    (hsz : ∀ i (h : i < cs.length) w' (m : Int), Below B w w' → B ≤ w'.heap.size → 0 ≤ m → m ≤ 1048576 →
      Calls Tryd.prog 15 #[.agg #[kvs i, cvs i], .int .i64 m] w' fun e w'' => e = .returned (.int .i64 (leftOf m cs[i].weight)) ∧ Below w'.heap.size w' w'') :
    Calls Tryd.prog 56 #[.slice a cs.length cap, .int .i64 n] w fun e w' => e = .returned (.int .i64 (leftOf n (Tr.weights cs))) ∧ Below w.heap.size w w' := by
  have HAT := Lib.hid hat
  have HSZ := Lib.hid hsz
  clear hat hsz
  have hl0 := Tr.length_le_weights cs
  go_enter Tryd.func56, Tryd.ntmps56
  go_wp2_with fail
  · go_ret
    exact ⟨ret_int (leftOf_lt (by omega)).symm, Below.refl _ _⟩
  · go_loopw [1, 5] (fun l i wr => ∃ (j : Nat) (m : Int), j ≤ cs.length ∧ i = .int .i64 j ∧ l = .int .i64 m ∧ 0 ≤ m ∧ m + Tr.weights (cs.take j) + (cs.length - j : Nat) = n ∧ Below w.heap.size w wr) (fun _ i _ => cs.length - (intOf i).toNat)
    case atStart => exact ⟨0, _, Nat.zero_le _, rfl, rfl, by omega, by simp [Tr.weights], Below.refl _ _⟩
    case round =>
      obtain ⟨j, m, hj, rfl, rfl, hm, hsum, hbel⟩ := hrel
      by_cases hlt : j < cs.length
      · rcases HAT.out with h | ⟨b, off, rfl, hb, hat⟩
        · omega
        obtain ⟨ha, hc⟩ := hat j hlt
        have ha' : wr.cell? ⟨b, off + j * 2, none⟩ = some (kvs j) := by rw [below_cell hbel (by omega)]; exact ha
        have hc' : wr.cell? ⟨b, off + j * 2 + 1, none⟩ = some (cvs j) := by rw [below_cell hbel (by omega)]; exact hc
        have hw1 := Tr.weights_take_ge cs (j + 1)
        have hw2 := Tr.weights_take_succ cs j hlt
        have hsz := hbel.size
        have hcall := HSZ.out j hlt wr m (hbel.mono hB) (by omega) hm (by omega)
        have HC := Lib.hid hcall
        have HS := Lib.hid hsum
        have HW := Lib.hid hw2
        clear ha hc hat hcall hw2 hsum
        go_wp2_with fail
        refine HC.out.mono ?_
        rintro e w1 ⟨rfl, hb1⟩
        by_cases hneg : m < cs[j].weight
        · rw [leftOf_lt hneg]
          go_wp2_with fail
          go_ret
          have := HW.out
          have := HS.out
          exact ⟨ret_int (leftOf_lt (by omega)).symm, hbel.trans (hb1.mono hsz)⟩
        · have hge : (cs[j].weight : Int) ≤ m := by omega
          rw [leftOf_ge hge]
          go_wp2_with fail
          go_roundw
          case rel =>
            have := HW.out
            have := HS.out
            exact ⟨j + 1, _, by omega, by go_num, rfl, by omega, by omega, hbel.trans (hb1.mono hsz)⟩
          case measure => simp [intOf]; omega
      · obtain rfl : j = cs.length := by omega
        have HS := Lib.hid hsum
        clear hsum
        go_wp2_with fail
        go_ret
        have := HS.out
        rw [List.take_length] at this
        exact ⟨ret_int (by rw [leftOf_ge (by omega)]; omega), hbel⟩

set_option maxHeartbeats 400000 in
theorem szTree_c {w : World} {B : Nat} {kv cv : Value} {t : Tr} (ht : TreeIn w B kv cv t) :
    ∀ w' (n : Int), Below B w w' → B ≤ w'.heap.size → 0 ≤ n → n ≤ 1048576 →
    Calls Tryd.prog 15 #[.agg #[kv, cv], .int .i64 n] w' fun e w'' => e = .returned (.int .i64 (leftOf n t.weight)) ∧ Below w'.heap.size w' w'' := by
  induction ht with
  | mk ks cs kv a cap kvs cvs hk hlen hcap hat hkids ih =>
    intro w' n hbw hB h0 h1
    obtain ⟨ka, kcap, rfl, k1, k2, _, k3⟩ := hk
    unfold maxLen at hcap k2
    have hlk : ks.length ≤ 9223372036854775807 := by omega
    clear k3 hkids
    have HAT := Lib.hid hat
    have IH := Lib.hid ih
    clear hat ih
    go_enter Tryd.func15, Tryd.ntmps15
    go_wp2_with fail
    refine (szIntS_c ka ks.length kcap n _ h0 h1 hlk).mono ?_
    rintro e w1 ⟨rfl, rfl⟩
    by_cases hneg : n < ks.length
    · rw [leftOf_lt hneg]
      go_wp2_with fail
      go_ret
      exact ⟨ret_int (leftOf_lt (by simp only [Tr.weight]; omega)).symm, (Below.refl _ _).alloc (Nat.le_refl _) _⟩
    · rw [leftOf_ge (by omega)]
      go_wp2_with fail
      have hbox : Below w'.heap.size w' (w'.alloc (.cells #[.slice ka ks.length kcap, .slice a cs.length cap] 25)) := (Below.refl _ _).alloc (Nat.le_refl _) _
      have hbs := hbox.size
      have HB := Lib.hid hbox
      clear hbox
      refine (szTreeS_c cs a cap _ _ B kvs cvs (by omega) (by omega) (by omega) hlen hcap ((HAT.out.later hbw (Nat.le_refl _)).later HB.out hB) (fun i hi w2 m hb2 hs2 m0 m1 => ?_)).mono ?_
      · exact IH.out i hi w2 m (hbw.trans ((HB.out.mono hB).trans hb2)) hs2 m0 m1
      · rintro e w2 ⟨rfl, hb2⟩
        by_cases hneg2 : n - ks.length < Tr.weights cs
        · rw [leftOf_lt hneg2]
          go_wp2_with fail
          go_ret
          exact ⟨ret_int (leftOf_lt (by simp only [Tr.weight]; omega)).symm, HB.out.trans (hb2.mono hbs)⟩
        · rw [leftOf_ge (by omega)]
          go_wp2_with fail
          go_ret
          exact ⟨ret_int (by rw [leftOf_ge (by simp only [Tr.weight]; omega)]; simp only [Tr.weight]; omega), HB.out.trans (hb2.mono hbs)⟩

end Go.Proofs.YticfkfjijnfcbaaDoor

/- Appends onto a slice of ints of the call's own. -/
namespace Go.Proofs.YticfkfjijnfcbaaDoor
open Go.RowKit

/-- A slice of ints that can be read, wherever it lies. -/
def IntsAt (w : World) (v : Value) (ks : List Int) : Prop :=
  ∃ (a : Option Addr) (cap : Nat), v = .slice a ks.length cap ∧ (a = none → cap = 0) ∧
    (ks = [] ∨ ∃ b o, a = some ⟨b, o, none⟩ ∧ ∀ i, i < ks.length → w.cell? ⟨b, o + i, none⟩ = some (.int .i64 (ks.getD i 0)))

theorem IntsIn.at {w : World} {B : Nat} {v : Value} {ks : List Int} (h : IntsIn w B v ks) : IntsAt w v ks := by
  obtain ⟨a, cap, hv, h1, h2, hnl, h3⟩ := h
  refine ⟨a, cap, hv, hnl, ?_⟩
  rcases h3 with h3 | ⟨b, o, h3, _, h4⟩
  · exact .inl h3
  · exact .inr ⟨b, o, h3, h4⟩

/-- A slice of ints of the call's own, from block lo on. -/
abbrev IntsOwn (w : World) (lo : Nat) (v : Value) (ks : List Int) : Prop := w.ownsRow lo 3 1 v ks.length (ks.map (Value.int .i64))

theorem IntsOwn.in {w : World} {lo : Nat} {v : Value} {ks : List Int} (h : IntsOwn w lo v ks) : IntsIn w w.heap.size v ks := by
  have h0 := h
  obtain ⟨h1, ⟨h2, h3⟩ | ⟨g, cap, cur, hv, hb, hg, hn, hm, hs, ht⟩⟩ := h
  · obtain rfl : ks = [] := List.length_eq_zero_iff.1 h3
    exact ⟨none, 0, h2, by simp, by unfold maxLen; omega, fun _ => rfl, .inl rfl⟩
  · refine ⟨_, cap, hv, hn, hm, by simp, .inr ⟨g, 0, rfl, (Array.getElem?_eq_some_iff.1 hg).1, fun i hi => ?_⟩⟩
    subst hv
    rw [Nat.zero_add, World.ownsRow.cellAt h0 i (by omega)]
    simp [hi]

theorem IntsOwn.inB {w : World} {lo B : Nat} {v : Value} {ks : List Int} (h : IntsOwn w lo v ks) (hB : w.heap.size ≤ B) : IntsIn w B v ks := (IntsOwn.in h).wider hB

theorem IntsOwn.later {w w' : World} {lo C : Nat} {v : Value} {ks : List Int} (h : IntsOwn w lo v ks) (hb : Below C w w') (hC : w.heap.size ≤ C) : IntsOwn w' lo v ks := by
  obtain ⟨h1, h2 | ⟨g, cap, cur, hv, hbb, hg, hr⟩⟩ := h
  · exact ⟨h1, .inl h2⟩
  · exact ⟨h1, .inr ⟨g, cap, cur, hv, hbb, (hb.block g (by have := (Array.getElem?_eq_some_iff.1 hg).1; omega)).trans hg, hr⟩⟩

/-- Below a number that is no greater than the row's base. -/
theorem IntsOwn.lower {w : World} {lo lo' : Nat} {v : Value} {ks : List Int} (h : IntsOwn w lo v ks) (hl : lo' ≤ lo) : IntsOwn w lo' v ks := by
  obtain ⟨h1, h2 | ⟨g, cap, cur, hv, hbb, hr⟩⟩ := h
  · exact ⟨h1, .inl h2⟩
  · exact ⟨h1, .inr ⟨g, cap, cur, hv, by omega, hr⟩⟩

theorem IntsOwn.shown {w : World} {lo : Nat} {v : Value} {ks : List Int} (h : IntsOwn w lo v ks) : ∃ a c, v = .slice a ks.length c := by
  obtain ⟨h1, ⟨h2, h3⟩ | ⟨g, cap, cur, hv, hbb, hr⟩⟩ := h
  · exact ⟨_, _, by rw [h2, h3]⟩
  · exact ⟨_, _, hv⟩

theorem IntsOwn.alloc' {w : World} {lo : Nat} {v : Value} {ks : List Int} (h : IntsOwn w lo v ks) (o : Obj) : IntsOwn (w.alloc o) lo v ks := World.ownsRow.alloc h o

/-- A row of one int, just laid. -/
theorem IntsAt.one (w : World) (x : Int) : IntsAt (w.alloc (.cells #[.int .i64 x] 3)) (.slice (some ⟨w.heap.size, 0, none⟩) 1 1) [x] :=
  ⟨_, _, rfl, by simp, .inr ⟨_, 0, rfl, fun i hi => by
    obtain rfl : i = 0 := by simpa using hi
    rw [World.cell?_alloc_at _ _ _ _ rfl]; rfl⟩⟩

theorem Tryd.infoTree : (Tryd.prog.info? 33).map (fun i => (i.zero, i.size, i.bytes)) = some (some (.agg #[.slice none 0 0, .slice none 0 0]), 2, 48) := by kernel_rfl

theorem Tryd.appInfo : (Tryd.prog.info? 3).map (fun i => (i.zero, i.size, i.bytes)) = some (some (.int .i64 0), 1, 8) := by kernel_rfl

/-- 'append(out, more...)'. -/
theorem wpList_append_ints {w : World} {ops : Array Oper} {rest : List Oper} {o : Oper} {a : Act} {Q : Exit → Act → World → Prop} (hgd : o.guard = none) (s x : Operand)
    (ho : o.op = .call { callee := .builtin .append, args := #[s, x], argTypes := #[22, 22] })
    (lo : Nat) (v y : Value) (xs ms : List Int) (hs : a.eval s = v) (hown : IntsOwn w lo v xs) (hx : a.eval x = y) (hsrc : IntsAt w y ms)
    (hlen : xs.length + ms.length ≤ 17592186044416) (hlo : lo ≤ w.heap.size)
    (h : ∀ v' w', IntsOwn w' lo v' (xs ++ ms) → Below lo w w' → w.grownBy w' v.ownBlock → (∃ a c, v' = .slice a (xs ++ ms).length c) → wpList Tryd.prog ops Q rest (a.put o.dst v') w') : wpList Tryd.prog ops Q (o :: rest) a w := by
  obtain ⟨i0, hi, hz0, hz1, hz2⟩ := info_parts Tryd.appInfo
  obtain ⟨pa, cap, rfl, hnl, hat⟩ := hsrc
  rcases pa with _ | p
  · obtain rfl := hnl rfl
    obtain rfl : ms = [] := by
      rcases hat with h | ⟨b, o, h, _⟩
      · exact h
      · cases h
    refine wpList_append_own_none hgd s x 22 ho lo 3 i0 1 Tryd.underlying22 hi v _ _ hs hown hx (h v w (by simpa using hown) (Below.refl _ _) (World.grownBy.refl _ _) ?_)
    simpa using IntsOwn.shown hown
  · refine wpList_append_own w hgd s x 22 ho lo 3 i0 (.int .i64 0) 1 8 Tryd.underlying22 hi hz0 hz1 hz2 rfl (by decide) v _ _ hs hown p ms.length cap (ms.map (Value.int .i64)) hx (by simp) (fun j u hj => ?_) (ints_oneCell .i64 ms) (by unfold maxLen; omega) (by omega) hlo (fun v' w' hown' hgrow _ => ?_)
    · have hjl : j < ms.length := by
        have := (List.getElem?_eq_some_iff.1 hj).1
        simpa using this
      rcases hat with h | ⟨b, o, h, hc⟩
      · simp [h] at hjl
      · cases h
        have hu : u = .int .i64 (ms.getD j 0) := by
          rw [List.getElem?_map] at hj
          simp [hjl] at hj
          simp [← hj, hjl]
        rw [hu, Addr.add_lit]
        exact hc j hjl
    · have hown2 : IntsOwn w' lo v' (xs ++ ms) := by
        unfold IntsOwn
        rw [List.length_append, List.map_append]
        exact hown'
      refine h v' w' hown2 ((Below.refl lo w).grown hgrow hlo (fun k hk => (hown.lt k hk).1)) hgrow (IntsOwn.shown hown2)
end Go.Proofs.YticfkfjijnfcbaaDoor
