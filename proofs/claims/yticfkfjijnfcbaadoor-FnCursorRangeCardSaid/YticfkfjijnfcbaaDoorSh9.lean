/- A walker's stack: isIndex and push. -/
import Derived.Test.YticfkfjijnfcbaaDoorProg
import Derived.Test.YticfkfjijnfcbaaDoorSh0
import Derived.Test.YticfkfjijnfcbaaDoorSh2
import Derived.Test.YticfkfjijnfcbaaDoorSh3
import Derived.Test.YticfkfjijnfcbaaDoorKeys
import Derived.Test.YticfkfjijnfcbaaDoorSh7
import Derived.Test.YticfkfjijnfcbaaDoorSh4
import Derived.Test.YticfkfjijnfcbaaDoorSh8
import Derived.Deep.QuietTactic
import Derived.BigQuiet
import Derived.WalkSmall
import Derived.IntWalk
import Derived.Test.YticfkfjijnfcbaaDoorSh1
import Derived.Deep.RegionHeld3
import Derived.StillTailTactics

/- How many keys the fullest leaf has; the model's RoomOf. -/
namespace Go.Proofs.YticfkfjijnfcbaaDoor
open Go.RowKit

namespace Tr
mutual
/-- How many keys the leaf has that has most. -/
def leafMax : Tr → Nat
  | .mk k c => max (if c.length = 0 then k.length else 0) (leafMaxs c)
def leafMaxs : List Tr → Nat
  | [] => 0
  | t :: r => max (leafMax t) (leafMaxs r)
end
theorem leafMaxs_append (a b : List Tr) : leafMaxs (a ++ b) = max (leafMaxs a) (leafMaxs b) := by
  induction a with
  | nil => simp [leafMaxs]
  | cons t r ih => simp only [leafMaxs, ih, List.cons_append]; omega
theorem leafMaxs_take_succ (cs : List Tr) (j : Nat) (h : j < cs.length) : leafMaxs (cs.take (j + 1)) = max (leafMaxs (cs.take j)) cs[j].leafMax := by
  rw [List.take_succ_eq_append_getElem h, leafMaxs_append]; simp [leafMaxs]
theorem leafMax_get (cs : List Tr) (j : Nat) (h : j < cs.length) : cs[j].leafMax ≤ leafMaxs cs := by
  induction cs generalizing j with
  | nil => simp at h
  | cons t r ih =>
    cases j with
    | zero => simp only [leafMaxs, List.getElem_cons_zero]; omega
    | succ j => have := ih j (by simpa using h); simp only [leafMaxs, List.getElem_cons_succ]; omega
mutual
theorem leafMax_le {wide : Int} (h0 : 0 ≤ wide) : ∀ (t : Tr) (least depth : Int), nodesB wide least depth t = true → (t.leafMax : Int) ≤ wide
  | .mk k c, least, depth, h => by
    simp only [nodesB, Bool.and_eq_true, Bool.or_eq_true] at h
    have h1 : (k.length : Int) ≤ wide := by have := h.1.1; simp [inB] at this; omega
    rcases h.2 with h2 | h2
    · have hc : c = [] := by simpa using h2
      subst hc
      simp [leafMax, leafMaxs]; omega
    · have := leafMaxs_le h0 c _ h2.2
      simp only [leafMax]
      split <;> omega
theorem leafMaxs_le {wide : Int} (h0 : 0 ≤ wide) : ∀ (c : List Tr) (depth : Int), nodesAllB wide depth c = true → (leafMaxs c : Int) ≤ wide
  | [], depth, _ => by simpa [leafMaxs] using h0
  | t :: r, depth, h => by
    simp only [nodesAllB, Bool.and_eq_true] at h
    have h1 := leafMax_le h0 t _ _ h.1
    have h2 := leafMaxs_le h0 r _ h.2
    simp only [leafMaxs]; omega
end
/-- What RoomOf tells. -/
def roomB (wide : Int) (t : Tr) : Int := if validB wide t then wide - t.leafMax else -1
theorem valid_wide {wide : Int} {t : Tr} (h : validB wide t = true) : 2 ≤ wide ∧ wide ≤ 6 := by
  simp only [validB, Bool.and_eq_true, inB, decide_eq_true_eq] at h
  exact h.1
theorem valid_leafMax {wide : Int} {t : Tr} (h : validB wide t = true) : (t.leafMax : Int) ≤ wide := by
  have := valid_wide h
  simp only [validB, Bool.and_eq_true] at h
  exact leafMax_le (by omega) t _ _ h.2.1
end Tr



end Go.Proofs.YticfkfjijnfcbaaDoor

/- A tree that is valid for some width has few keys. -/
namespace Go.Proofs.YticfkfjijnfcbaaDoor
open Go.RowKit

namespace Tr
theorem keys_length (k : List Int) (c : List Tr) : (Tr.mk k c).keys.length = lens (keyss c) + k.length := by
  have hk := length_keyss c
  simp only [keys, upto_length]
  rw [List.take_of_length_le (by omega), List.take_of_length_le (by omega)]
mutual
theorem small {wide : Int} (h2 : 2 ≤ wide) : ∀ (t : Tr) (d : Int), nodesB wide (wide / 2) d t = true → t.weight + 1 ≤ 2 * t.keys.length
  | .mk k c, d, h => by
    simp only [nodesB, Bool.and_eq_true, Bool.or_eq_true] at h
    have h1 : wide / 2 ≤ (k.length : Int) := by have := h.1.1; simp [inB] at this; omega
    rw [keys_length]
    simp only [weight]
    rcases h.2 with h3 | h3
    · have hc : c = [] := by simpa using h3
      subst hc
      simp [weights, keyss, lens]; omega
    · have := smalls h2 c _ h3.2
      omega
theorem smalls {wide : Int} (h2 : 2 ≤ wide) : ∀ (c : List Tr) (d : Int), nodesAllB wide d c = true → weights c ≤ 2 * lens (keyss c)
  | [], d, _ => by simp [weights]
  | t :: r, d, h => by
    simp only [nodesAllB, Bool.and_eq_true] at h
    have h3 := small h2 t _ h.1
    have h4 := smalls h2 r _ h.2
    simp only [weights, keyss, lens]; omega
end
theorem few : ∀ (l : List Int) (lo : Int), l.Pairwise (· < ·) → (∀ x, x ∈ l → lo ≤ x ∧ x ≤ 99) → (l.length : Int) ≤ max 0 (100 - lo)
  | [], lo, _, _ => by simp; omega
  | a :: r, lo, hp, hm => by
    rw [List.pairwise_cons] at hp
    have h1 := hm a (by simp)
    have h2 := few r (a + 1) hp.2 (fun x hx => ⟨by have := hp.1 x hx; omega, (hm x (by simp [hx])).2⟩)
    simp only [List.length_cons]
    omega
theorem sorted_mem {ks : List Int} (h : sortedB ks = true) : ∀ x, x ∈ ks → 0 ≤ x ∧ x ≤ 99 := fun x hx => by
  obtain ⟨i, hi, rfl⟩ := List.mem_iff_getElem.1 hx
  simp only [sortedB, List.all_eq_true, List.mem_range] at h
  have h1 := h i hi
  simp only [okAt, Bool.and_eq_true, inB, decide_eq_true_eq] at h1
  have h2 := h1.1
  simpa [List.getD_eq_getElem?_getD, hi] using h2
theorem valid_keys {wide : Int} {t : Tr} (h : validB wide t = true) : sortedB t.keys = true := by
  simp only [validB, Bool.and_eq_true] at h; exact h.2.2
theorem valid_well {wide : Int} {t : Tr} (h : validB wide t = true) : Well t := by
  have h' := h
  simp only [validB, Bool.and_eq_true] at h'
  exact ⟨⟨wide, 0, _, h'.2.1⟩, pairwise_of_sorted h'.2.2⟩
theorem valid_small {wide : Int} {t : Tr} (h : validB wide t = true) : t.weight ≤ 200 := by
  have hk := valid_keys h
  have hf := few t.keys 0 (pairwise_of_sorted hk) (sorted_mem hk)
  have hw := valid_wide h
  simp only [validB, Bool.and_eq_true] at h
  cases t with
  | mk k c =>
    rw [keys_length] at hf
    have h' := h.2.1
    simp only [nodesB, Bool.and_eq_true, Bool.or_eq_true] at h'
    simp only [weight]
    rcases h'.2 with h3 | h3
    · have hc : c = [] := by simpa using h3
      subst hc
      simp [weights] at hf ⊢; omega
    · have := smalls hw.1 c _ h3.2
      omega
end Tr
end Go.Proofs.YticfkfjijnfcbaaDoor

/- Paths that lead to nodes: plain data. -/
namespace Go.Proofs.YticfkfjijnfcbaaDoor
open Go.RowKit
namespace Tr

theorem nodeTo_append : ∀ (p q : List Int) (t : Tr), nodeTo (p ++ q) t = (nodeTo p t).bind (nodeTo q)
  | [], q, t => rfl
  | i :: p, q, .mk k c => by
    show nodeTo (i :: (p ++ q)) (.mk k c) = _
    simp only [nodeTo]
    split
    · exact nodeTo_append p q _
    · rfl

theorem nodeTo_nodes {wide : Int} : ∀ (ks : List Int) (t u : Tr) (least d : Int), nodesB wide least d t = true → nodeTo ks t = some u → ∃ l, nodesB wide l (d - ks.length) u = true
  | [], t, u, least, d, h, hn => by
    simp only [nodeTo, Option.some.injEq] at hn
    subst hn
    exact ⟨least, by simpa using h⟩
  | i :: p, .mk k c, u, least, d, h, hn => by
    simp only [nodeTo] at hn
    split at hn
    · rename_i hi
      obtain ⟨N, rfl⟩ : ∃ N : Nat, i = N := ⟨i.toNat, by omega⟩
      have hN : N < c.length := by omega
      rw [Int.toNat_natCast] at hn
      have hge : c.getD N (.mk [] []) = c[N] := by rw [List.getD_eq_getElem?_getD, List.getElem?_eq_getElem hN]; rfl
      rw [hge] at hn
      obtain ⟨-, hsh⟩ := nodes_mem h
      rcases hsh with ⟨h0, _⟩ | ⟨_, _, _, _, hk⟩
      · omega
      obtain ⟨l, hl⟩ := nodeTo_nodes p c[N] u _ _ (hk _ (List.getElem_mem hN)) hn
      refine ⟨l, ?_⟩
      rw [show d - ((N : Int) :: p).length = d - 1 - p.length by simp; omega]
      exact hl
    · cases hn

theorem nodeTo_few {ks : List Int} {t u : Tr} (hs : t.someB = true) (h : nodeTo ks t = some u) : ks.length ≤ 5 := by
  obtain ⟨wide, hw1, hw2, hv⟩ : ∃ q : Nat, 2 ≤ q ∧ q ≤ 6 ∧ validB q t = true := by
    refine Classical.byContradiction fun hno => ?_
    have := (someB_of t).2 (fun q h1 h2 => by
      cases hq : validB q t
      · rfl
      · exact absurd ⟨q, h1, h2, hq⟩ hno)
    rw [this] at hs
    cases hs
  have hk := sorted_len (valid_keys hv)
  have h' := hv
  simp only [validB, Bool.and_eq_true] at h'
  have hn := h'.2.1
  obtain ⟨l, hl⟩ := nodeTo_nodes ks t u _ _ hn h
  have hpos := nodesB_pos wide u.weight _ _ u (Nat.le_refl _) hl
  obtain ⟨e, he⟩ : ∃ e, t.depth = e + 1 := ⟨t.depth - 1, by omega⟩
  rw [he] at hn
  by_cases h6 : e ≤ 5
  · omega
  · exfalso
    have := nodes_keys wide (by omega) e 0 _ t rfl (.inr (by omega)) (by simpa using hn)
    have h2 : 2 ^ 7 ≤ 2 ^ (e + 1) := Nat.pow_le_pow_right (by omega) (by omega)
    omega
end Tr
end Go.Proofs.YticfkfjijnfcbaaDoor

/- The contracts of the reader of drawn bytes: pick, num, of, l15Open. -/
namespace Go.Proofs.YticfkfjijnfcbaaDoor
open Go.RowKit

/-- The reader at block r: its bytes, below block B, and its place. -/
def Rd (w : World) (B r : Nat) (bs : List Nat) (p : Nat) : Prop :=
  ∃ (a : Option Addr) (cap : Nat), w.heap[r]? = some (.cells #[.slice a bs.length cap, .int .i64 p] 143 (0, 0)) ∧ bs.length ≤ 2000 ∧ (∀ x ∈ bs, x < 256) ∧ B ≤ r ∧
    (bs = [] ∨ ∃ b o, a = some ⟨b, o, none⟩ ∧ b < B ∧ ∀ i, i < bs.length → w.cell? ⟨b, o + i, none⟩ = some (.int .u8 (bs.getD i 0 : Nat)))

theorem xorNat (a b : Nat) (ha : a < 4611686018427387904) (hb : b < 4611686018427387904) : bits .xor .i64 (a : Int) (b : Int) = ((a ^^^ b : Nat) : Int) := by
  have hx : a ^^^ b < 2 ^ 62 := Nat.xor_lt_two_pow (by omega) (by omega)
  have h1 : (BitVec.ofInt 64 (a : Int)).toNat = a := by
    rw [BitVec.ofInt_natCast, BitVec.toNat_ofNat]; exact Nat.mod_eq_of_lt (by omega)
  have h2 : (BitVec.ofInt 64 (b : Int)).toNat = b := by
    rw [BitVec.ofInt_natCast, BitVec.toNat_ofNat]; exact Nat.mod_eq_of_lt (by omega)
  show IntKind.i64.wrap ((BitVec.ofInt 64 (a : Int) ^^^ BitVec.ofInt 64 (b : Int)).toNat : Int) = _
  rw [BitVec.toNat_xor, h1, h2, IntKind.wrap_i64]
  omega

/-- What is mixed is no negative number. -/
theorem mix_nonneg (z1 z2 p L : Nat) (h1 : z1 < 256) (h2 : z2 < 256) (hp : p ≤ 1000000000) :
    ∃ N : Nat, bits .xor .i64 ((z1 : Int) * 131 + (z2 : Int) * 1117 + (p : Int) * 29 + (p : Int) / (L : Int) * 53) (((z1 : Int) * 131 + (z2 : Int) * 1117 + (p : Int) * 29 + (p : Int) / (L : Int) * 53) / 64) = (N : Int) := by
  have hq : p / L ≤ p := Nat.div_le_self _ _
  have e1 : (z1 : Int) * 131 + (z2 : Int) * 1117 + (p : Int) * 29 + (p : Int) / (L : Int) * 53 = ((z1 * 131 + z2 * 1117 + p * 29 + p / L * 53 : Nat) : Int) := by
    rw [← Int.natCast_ediv p L]; omega
  rw [e1]
  have e2 : ((z1 * 131 + z2 * 1117 + p * 29 + p / L * 53 : Nat) : Int) / 64 = (((z1 * 131 + z2 * 1117 + p * 29 + p / L * 53) / 64 : Nat) : Int) := by omega
  rw [e2, xorNat _ _ (by omega) (by omega)]
  exact ⟨_, rfl⟩

/-- What pick leaves. -/
def Picked (w : World) (r p : Nat) (n : Int) (e : Ending) (w' : World) : Prop :=
  ∃ (x : Int) (m : Nat), e = .returned (.int .i64 x) ∧ 0 ≤ x ∧ (1 ≤ n → x < n) ∧ (n < 1 → x = 0) ∧ w' = (w.setCell ⟨r, 1, none⟩ (.int .i64 (p + 1))).drewN m

set_option maxHeartbeats 2000000 in
set_option maxRecDepth 100000 in
theorem pick_c (w : World) (B r : Nat) (bs : List Nat) (p : Nat) (n : Int) (h : Rd w B r bs p) (hp : p ≤ 1000000000) (hn1 : -1000000000 ≤ n) (hn2 : n ≤ 1000000000) :
    Calls Tryd.prog 98 #[.pointer (some ⟨r, 0, none⟩), .int .i64 n] w (Picked w r p n) := by
  obtain ⟨a, cap, hblk, hlen, hby, hBr, hat⟩ := h
  obtain ⟨x1, x2, x3, x4⟩ := box2 hblk
  have HAT := Lib.hid hat
  have HBY := Lib.hid hby
  have HBK := Lib.hid hblk
  have hrl : r < w.heap.size := (Array.getElem?_eq_some_iff.1 hblk).1
  have y0 := set_blk (o := 1) (.int .i64 ((p : Int) + 1)) hblk
  obtain ⟨y1, y2, y3, y4⟩ := box2 y0
  clear hat hby hblk y0
  by_cases hn : n < 1
  · go_enter Tryd.func98, Tryd.ntmps98
    go_wp2_with fail
    go_ret
    exact ⟨0, 0, rfl, Int.le_refl _, fun h => by omega, fun _ => rfl, rfl⟩
  · by_cases hl0 : bs.length = 0
    · have hl0' : ((bs.length : Int) == 0) = true := by simp [List.length_eq_zero_iff.1 hl0]
      clear hl0
      go_enter Tryd.func98, Tryd.ntmps98
      go_wp2_with fail
      go_ret
      exact ⟨0, 0, rfl, Int.le_refl _, fun h => by omega, fun _ => rfl, rfl⟩
    · have hl0' : ((bs.length : Int) == 0) = false := beq_eq_false_iff_ne.2 (by omega)
      rcases HAT.out with h | ⟨b, o, rfl, hb, hat⟩
      · rw [h] at hl0; simp at hl0
      have hcell : ∀ i, i < bs.length → (w.setCell ⟨r, 1, none⟩ (.int .i64 ((p : Int) + 1))).cell? ⟨b, o + i, none⟩ = some (.int .u8 (bs.getD i 0 : Nat)) := fun i hi => by
        rw [World.cell?_of_block (w := w) (set_other _ _ _ _ _ (by show b ≠ r; omega))]; exact hat i hi
      have hrange : ∀ i, i < bs.length → bs.getD i 0 < 256 := fun i hi => HBY.out _ (by rw [List.getD_eq_getElem?_getD, List.getElem?_eq_getElem hi]; exact List.getElem_mem hi)
      by_cases hpl : p < bs.length
      · have c1 := hcell p hpl
        have hr1 := hrange p hpl
        clear hat hcell hrange
        generalize bs.getD p 0 = z at c1 hr1
        have hz : (0 : Int) ≤ (z : Int) := by omega
        go_enter Tryd.func98, Tryd.ntmps98
        go_wp2_with fail
        go_ret
        exact ⟨_, 0, rfl, Int.emod_nonneg _ (by omega), fun h => Int.emod_lt_of_pos _ (by omega), fun h => by omega, rfl⟩
      · have hl1 : 0 < bs.length := by omega
        obtain ⟨L, hL⟩ : ∃ L, L = bs.length := ⟨_, rfl⟩
        have hq1 : p % L < L := Nat.mod_lt _ (by omega)
        have hq2 : (p * 7 + 3) % L < L := Nat.mod_lt _ (by omega)
        have hq3 : p / L ≤ p := Nat.div_le_self _ _
        have c1 := hcell (p % L) (by omega)
        have c2 := hcell ((p * 7 + 3) % L) (by omega)
        have hr1 := hrange (p % L) (by omega)
        have hr2 := hrange ((p * 7 + 3) % L) (by omega)
        clear hat hcell hrange
        rw [← hL] at y1 hlen hl0' hl1 hpl hl0
        clear x1
        generalize bs.getD (p % L) 0 = z1 at c1 hr1
        generalize bs.getD ((p * 7 + 3) % L) 0 = z2 at c2 hr2
        have HL := Lib.hid hL
        clear hL HAT HBY HBK
        have i1 : (0 : Int) ≤ ((p : Int) * 7 + 3) % (L : Int) := Int.emod_nonneg _ (by omega)
        have i2 : ((p : Int) * 7 + 3) % (L : Int) < (L : Int) := Int.emod_lt_of_pos _ (by omega)
        have i3 : (0 : Int) ≤ (p : Int) % (L : Int) := Int.emod_nonneg _ (by omega)
        have i4 : (p : Int) % (L : Int) < (L : Int) := Int.emod_lt_of_pos _ (by omega)
        have i5 : (0 : Int) ≤ (p : Int) / (L : Int) := Int.ediv_nonneg (by omega) (by omega)
        have i6 : (p : Int) / (L : Int) ≤ (p : Int) := Int.ediv_le_self _ (by omega)
        go_enter Tryd.func98, Tryd.ntmps98
        go_wp2_with fail
        go_quiet (fail)
        go_wp2_with fail
        go_ret
        obtain ⟨N, hN⟩ := mix_nonneg z1 z2 p L hr1 hr2 hp
        rw [hN]
        refine ⟨_, nq, rfl, ?_, ?_, ?_, rfl⟩
        · rw [Int.tmod_eq_emod_of_nonneg (by omega)]; exact Int.emod_nonneg _ (by omega)
        · intro _; rw [Int.tmod_eq_emod_of_nonneg (by omega)]; exact Int.emod_lt_of_pos _ (by omega)
        · intro h; omega

theorem Rd.picked {w : World} {B r p : Nat} {bs : List Nat} (h : Rd w B r bs p) (m : Nat) : Rd ((w.setCell ⟨r, 1, none⟩ (.int .i64 (p + 1))).drewN m) B r bs (p + 1) := by
  obtain ⟨a, cap, hblk, hlen, hby, hBr, hat⟩ := h
  refine ⟨a, cap, ?_, hlen, hby, hBr, ?_⟩
  · have := set_blk (o := 1) (.int .i64 ((p : Int) + 1)) hblk
    simpa using this
  · rcases hat with h | ⟨b, o, h1, h2, h3⟩
    · exact .inl h
    · exact .inr ⟨b, o, h1, h2, fun i hi => by
        show (w.setCell ⟨r, 1, none⟩ (.int .i64 (p + 1))).cell? _ = _
        rw [World.cell?_of_block (w := w) (set_other _ _ _ _ _ (by show b ≠ r; omega))]; exact h3 i hi⟩
end Go.Proofs.YticfkfjijnfcbaaDoor

/- The contracts of the model's draws: num, l1Least, l1Most, l1Sample. -/
namespace Go.Proofs.YticfkfjijnfcbaaDoor
open Go.RowKit

/-- Below block C nothing has turned but block r. -/
structure Only (C r : Nat) (w w' : World) : Prop where
  os : w'.os = w.os
  tape : w'.tape = w.tape
  output : w'.output = w.output
  size : w.heap.size ≤ w'.heap.size
  block : ∀ k, k < C → k ≠ r → w'.heap[k]? = w.heap[k]?

theorem Only.refl (C r : Nat) (w : World) : Only C r w w := ⟨rfl, rfl, rfl, Nat.le_refl _, fun _ _ _ => rfl⟩
theorem Only.trans {C r : Nat} {a b c : World} (h : Only C r a b) (k : Only C r b c) : Only C r a c :=
  ⟨k.os.trans h.os, k.tape.trans h.tape, k.output.trans h.output, Nat.le_trans h.size k.size, fun i h1 h2 => (k.block i h1 h2).trans (h.block i h1 h2)⟩
theorem below_only {C r : Nat} {a b : World} (h : Below C a b) : Only C r a b := ⟨h.os, h.tape, h.output, h.size, fun k h1 _ => h.block k h1⟩
theorem Only.below {C r B : Nat} {a b : World} (h : Only C r a b) (hB : B ≤ C) (hr : B ≤ r) : Below B a b := ⟨h.os, h.tape, h.output, h.size, fun k hk => h.block k (by omega) (by omega)⟩
theorem Only.mono {C C' r : Nat} {a b : World} (h : Only C r a b) (hC : C' ≤ C) : Only C' r a b := ⟨h.os, h.tape, h.output, h.size, fun k hk hr => h.block k (by omega) hr⟩
theorem Only.picked (C r p : Nat) (w : World) (m : Nat) : Only C r w ((w.setCell ⟨r, 1, none⟩ (.int .i64 (p + 1))).drewN m) :=
  ⟨rfl, rfl, rfl, by simp [World.drewN, World.setCell], fun k _ hr => set_other w r 1 _ k hr⟩

theorem Rd.later {w w' : World} {B C r p : Nat} {bs : List Nat} (h : Rd w B r bs p) (hb : Below C w w') (hr : r < C) : Rd w' B r bs p := by
  obtain ⟨a, cap, hblk, hlen, hby, hBr, hat⟩ := h
  refine ⟨a, cap, (hb.block r hr).trans hblk, hlen, hby, hBr, ?_⟩
  rcases hat with h | ⟨b, o, h1, h2, h3⟩
  · exact .inl h
  · exact .inr ⟨b, o, h1, h2, fun i hi => by rw [below_cell hb (by omega)]; exact h3 i hi⟩

theorem Rd.lt {w : World} {B r p : Nat} {bs : List Nat} (h : Rd w B r bs p) : r < w.heap.size := by
  obtain ⟨a, cap, hblk, _⟩ := h
  exact (Array.getElem?_eq_some_iff.1 hblk).1

/-- A row of ints that another block's cell does not touch. -/
theorem IntsOwn.only {w w' : World} {lo C r : Nat} {v : Value} {ks : List Int} (h : IntsOwn w lo v ks) (hb : Only C r w w') (hC : w.heap.size ≤ C) (hr : r < lo) : IntsOwn w' lo v ks := by
  obtain ⟨h1, h2 | ⟨g, cap, cur, hv, hbb, hg, hrr⟩⟩ := h
  · exact ⟨h1, .inl h2⟩
  · exact ⟨h1, .inr ⟨g, cap, cur, hv, hbb, (hb.block g (by have := (Array.getElem?_eq_some_iff.1 hg).1; omega) (by omega)).trans hg, hrr⟩⟩

/-- What num leaves. -/
def Nummed (w : World) (r p : Nat) (ks : List Int) (e : Ending) (w' : World) : Prop :=
  ∃ (i m : Nat), i < ks.length ∧ e = .returned (.int .i64 (ks.getD i 0)) ∧ w' = (w.setCell ⟨r, 1, none⟩ (.int .i64 (p + 1))).drewN m

theorem num_c (w : World) (B r : Nat) (bs : List Nat) (p : Nat) (b : Nat) (ks : List Int) (cap : Nat) (h : Rd w B r bs p) (hp : p ≤ 1000000000) (hbr : b ≠ r) (hk0 : 1 ≤ ks.length) (hk1 : ks.length ≤ 1000)
    (hat : ∀ i, i < ks.length → w.cell? ⟨b, i, none⟩ = some (.int .i64 (ks.getD i 0))) :
    Calls Tryd.prog 97 #[.pointer (some ⟨r, 0, none⟩), .slice (some ⟨b, 0, none⟩) ks.length cap] w (Nummed w r p ks) := by
  have HR := Lib.hid h
  have HAT := Lib.hid hat
  clear h hat
  go_enter Tryd.func97, Tryd.ntmps97
  go_wp2_with fail
  refine (pick_c w B r bs p ks.length HR.out hp (by omega) (by omega)).mono ?_
  rintro e w1 ⟨x, m, rfl, hx0, hx1, _, rfl⟩
  obtain ⟨i, rfl⟩ := Int.eq_ofNat_of_zero_le hx0
  have hi : i < ks.length := by have := hx1 (by omega); omega
  have hc : ((w.setCell ⟨r, 1, none⟩ (.int .i64 (p + 1))).drewN m).cell? ⟨b, i, none⟩ = some (.int .i64 (ks.getD i 0)) := by
    show (w.setCell ⟨r, 1, none⟩ (.int .i64 (p + 1))).cell? ⟨b, i, none⟩ = _
    rw [World.cell?_of_block (w := w) (a := ⟨b, i, none⟩) (set_other _ _ _ _ _ hbr)]; exact HAT.out i hi
  generalize hW : (w.setCell ⟨r, 1, none⟩ (.int .i64 (p + 1))).drewN m = W at hc ⊢
  have HW := Lib.hid hW
  clear hW hx1 hx0
  generalize hy : ks.getD i 0 = y at hc
  have HY := Lib.hid hy
  clear hy
  go_wp2_with fail
  go_ret
  exact ⟨i, m, hi, by rw [HY.out]; rfl, HW.out.symm⟩

/-- As few keys as a kid has, and as many. -/
def leastN (wide : Nat) : Nat → Nat
  | 0 => 0
  | d + 1 => wide / 2 + (wide / 2 + 1) * leastN wide d
def mostN (wide : Nat) : Nat → Nat
  | 0 => 0
  | d + 1 => wide + (wide + 1) * mostN wide d
/-- How few keys a tree has that is so deep. -/
def lowN (wide d : Nat) : Nat := if 1 < d then 1 + 2 * leastN wide (d - 1) else 0
theorem leastN_le_mostN (wide d : Nat) : leastN wide d ≤ mostN wide d := by
  induction d with
  | zero => exact Nat.le_refl _
  | succ d ih =>
    simp only [leastN, mostN]
    have h1 : wide / 2 ≤ wide := Nat.div_le_self _ _
    have h2 := Nat.mul_le_mul (show wide / 2 + 1 ≤ wide + 1 by omega) ih
    omega
theorem mostN_bound (wide d : Nat) (hw : wide ≤ 6) (_hd : d ≤ 8) : mostN wide d ≤ 7 ^ d - 1 := by
  have h : ∀ d, mostN wide d + 1 ≤ 7 ^ d := by
    intro d
    induction d with
    | zero => simp [mostN]
    | succ d ih =>
      simp only [mostN, Nat.pow_succ]
      have h2 := Nat.mul_le_mul (show wide + 1 ≤ 7 by omega) ih
      rw [Nat.mul_add] at h2
      omega
  have := h d
  omega

theorem l1Most_c (wide : Nat) (hw : wide ≤ 6) (d : Nat) : ∀ (w : World), d ≤ 8 →
    Calls Tryd.prog 137 #[.int .i64 wide, .int .i64 d] w fun e w' => e = .returned (.int .i64 (mostN wide d)) ∧ w = w' := by
  induction d with
  | zero =>
    intro w _
    go_enter Tryd.func137, Tryd.ntmps137
    go_wp2_with fail
    go_ret
    exact ⟨rfl, rfl⟩
  | succ d ih =>
    intro w hd
    have hm := mostN_bound wide d hw (by omega)
    have h7 : 7 ^ d ≤ 7 ^ 8 := Nat.pow_le_pow_right (by omega) (by omega)
    have hm2 : mostN wide d ≤ 5764801 := by omega
    have hne : (((d + 1 : Nat) : Int) == 0) = false := beq_eq_false_iff_ne.2 (by omega)
    have hfin : (wide : Int) + (wide + 1) * (mostN wide d : Int) = (mostN wide (d + 1) : Int) := by simp only [mostN]; push_cast; rfl
    have hsub : (((d + 1 : Nat) : Int) - 1) = (d : Int) := by omega
    have hp0 : (0 : Int) ≤ ((wide : Int) + 1) * (mostN wide d : Int) := Int.mul_nonneg (by omega) (by omega)
    have hp1 : ((wide : Int) + 1) * (mostN wide d : Int) ≤ 7 * 5764801 := Int.mul_le_mul (by omega) (by omega) (by omega) (by omega)
    have HF := Lib.hid hfin
    have HC := Lib.hid (ih w (by omega))
    clear hfin hm h7 ih
    generalize mostN wide d = M at HC HF hm2 hp0 hp1
    go_enter Tryd.func137, Tryd.ntmps137
    go_wp2_with fail
    refine HC.out.mono ?_
    rintro e w1 ⟨rfl, rfl⟩
    go_wp2_with fail
    go_ret
    exact ⟨ret_int HF.out, rfl⟩

theorem l1Least_c (wide : Nat) (hw : wide ≤ 6) (d : Nat) : ∀ (w : World), d ≤ 8 →
    Calls Tryd.prog 136 #[.int .i64 wide, .int .i64 d] w fun e w' => e = .returned (.int .i64 (leastN wide d)) ∧ w = w' := by
  induction d with
  | zero =>
    intro w _
    go_enter Tryd.func136, Tryd.ntmps136
    go_wp2_with fail
    go_ret
    exact ⟨rfl, rfl⟩
  | succ d ih =>
    intro w hd
    have hm := mostN_bound wide d hw (by omega)
    have hlm := leastN_le_mostN wide d
    have h7 : 7 ^ d ≤ 7 ^ 8 := Nat.pow_le_pow_right (by omega) (by omega)
    have hm2 : leastN wide d ≤ 5764801 := by omega
    have hne : (((d + 1 : Nat) : Int) == 0) = false := beq_eq_false_iff_ne.2 (by omega)
    have hfin : (wide : Int) / 2 + ((wide : Int) / 2 + 1) * (leastN wide d : Int) = (leastN wide (d + 1) : Int) := by simp only [leastN]; push_cast; rfl
    have hsub : (((d + 1 : Nat) : Int) - 1) = (d : Int) := by omega
    have hp0 : (0 : Int) ≤ ((wide : Int) / 2 + 1) * (leastN wide d : Int) := Int.mul_nonneg (by omega) (by omega)
    have hp1 : ((wide : Int) / 2 + 1) * (leastN wide d : Int) ≤ 7 * 5764801 := Int.mul_le_mul (by omega) (by omega) (by omega) (by omega)
    have HF := Lib.hid hfin
    have HC := Lib.hid (ih w (by omega))
    clear hfin hm h7 ih hlm
    generalize leastN wide d = M at HC HF hm2 hp0 hp1
    go_enter Tryd.func136, Tryd.ntmps136
    go_wp2_with fail
    refine HC.out.mono ?_
    rintro e w1 ⟨rfl, rfl⟩
    go_wp2_with fail
    go_ret
    exact ⟨ret_int HF.out, rfl⟩
end Go.Proofs.YticfkfjijnfcbaaDoor

/- A walker's stack: isIndex and push. -/
namespace Go.Proofs.YticfkfjijnfcbaaDoor
open Go.RowKit

theorem isIndex_c (n : Int) (c : Nat) (w : World) :
    Calls Tryd.prog 112 #[.int .i64 n, .int .i64 c] w fun e w' => e = .returned (.bool (inB n 0 ((c : Int) - 1))) ∧ w' = w := by
  obtain ⟨C, hC⟩ : ∃ C : Int, C = c := ⟨_, rfl⟩
  rw [← hC]
  clear hC
  by_cases h0 : 0 ≤ n
  · by_cases h1 : n < C
    · have HE := Lib.hid (inB_true h0 (show n ≤ C - 1 by omega))
      go_enter Tryd.func112, Tryd.ntmps112
      go_wp2_with fail
      go_ret
      exact ⟨by rw [HE.out]; rfl, rfl⟩
    · have HE := Lib.hid (inB_false (n := n) (lo := 0) (hi := C - 1) (by omega))
      go_enter Tryd.func112, Tryd.ntmps112
      go_wp2_with fail
      go_ret
      exact ⟨by rw [HE.out]; rfl, rfl⟩
  · have HE := Lib.hid (inB_false (n := n) (lo := 0) (hi := C - 1) (by omega))
    go_enter Tryd.func112, Tryd.ntmps112
    go_wp2_with fail
    go_ret
    exact ⟨by rw [HE.out]; rfl, rfl⟩

/-- A walker: its six joints and how deep it stands. -/
structure Walker (w : World) (b : Nat) (f : Nat → Value × Int) (D : Nat) : Prop where
  blk : ∃ C : Array Value, w.heap[b]? = some (.cells C 127 (0, 0)) ∧ C.size = 13 ∧ C[12]? = some (.int .i64 D) ∧ ∀ i, i < D → C[2 * i]? = some (f i).1 ∧ C[2 * i + 1]? = some (.int .i64 (f i).2)

set_option maxHeartbeats 1000000 in
set_option maxRecDepth 100000 in
theorem push_c {w : World} {b D : Nat} {f : Nat → Value × Int} (h : Walker w b f D) (hD : D < 6) (p : Addr) (a : Int) :
    Calls Tryd.prog 113 #[.pointer (some ⟨b, 0, none⟩), .pointer (some p), .int .i64 a] w fun e w' => e = .returned (.tuple #[]) ∧ Walker w' b (fun i => if i = D then (.pointer (some p), a) else f i) (D + 1) ∧ Only w.heap.size b w w' := by
  obtain ⟨C, hx, hC, h12, hat⟩ := h.blk
  have hlt : b < w.heap.size := (Array.getElem?_eq_some_iff.1 hx).1
  have x1 : w.cell? ⟨b, 12, none⟩ = some (.int .i64 D) := by simp [World.cell?, hx, h12]
  obtain ⟨v1, hv1⟩ : ∃ v, C[D * 2]? = some v := ⟨C[D * 2], by simp⟩
  obtain ⟨v2, hv2⟩ : ∃ v, C[D * 2 + 1]? = some v := ⟨C[D * 2 + 1], by simp⟩
  have x2 : w.cell? ⟨b, D * 2, none⟩ = some v1 := by simp [World.cell?, hx, hv1]
  have x3 : w.cell? ⟨b, D * 2 + 1, none⟩ = some v2 := by simp [World.cell?, hx, hv2]
  have x4 : w.frozen? ⟨b, D * 2, none⟩ = false := by simp [World.frozen?, hx]
  have x5 : w.frozen? ⟨b, D * 2 + 1, none⟩ = false := by simp [World.frozen?, hx]
  have x6 : w.frozen? ⟨b, 12, none⟩ = false := by simp [World.frozen?, hx]
  have hDi : (D : Int) < 6 := by omega
  have hD0 : (0 : Int) ≤ (D : Int) := by omega
  have HH := Lib.hid (And.intro hx (And.intro hC (And.intro h12 hat)))
  clear h hx hC h12 hat hv1 hv2
  go_enter Tryd.func113, Tryd.ntmps113
  go_wp2_with fail
  go_region
  obtain ⟨W1, hW1⟩ : ∃ W1, W1 = ((w.setCell ⟨b, D * 2, none⟩ (.pointer (some p))).setCell ⟨b, D * 2 + 1, none⟩ (.int .i64 a)).drew := ⟨_, rfl⟩
  rw [← hW1]
  have hx := HH.out.1
  have hC := HH.out.2.1
  have hx1 : W1.heap[b]? = some (.cells ((C.setIfInBounds (D * 2) (.pointer (some p))).setIfInBounds (D * 2 + 1) (.int .i64 a)) 127 (0, 0)) := by
    rw [hW1]; exact set_blk (o := D * 2 + 1) _ (set_blk (o := D * 2) _ hx)
  have ho1 : Only w.heap.size b w W1 := by
    rw [hW1]
    exact ⟨rfl, rfl, rfl, by simp [World.drew], fun k _ hne => by show (((w.setCell _ _).setCell _ _)).heap[k]? = _; rw [set_other _ _ _ _ _ hne, set_other _ _ _ _ _ hne]⟩
  obtain ⟨C1, hC1⟩ : ∃ C1, C1 = (C.setIfInBounds (D * 2) (.pointer (some p))).setIfInBounds (D * 2 + 1) (.int .i64 a) := ⟨_, rfl⟩
  rw [← hC1] at hx1
  have h12 : C1[12]? = some (.int .i64 D) := by
    rw [hC1, Array.getElem?_setIfInBounds_ne (by omega), Array.getElem?_setIfInBounds_ne (by omega)]; exact HH.out.2.2.1
  have y1 : W1.cell? ⟨b, 12, none⟩ = some (.int .i64 D) := by simp [World.cell?, hx1, h12]
  have y2 : W1.frozen? ⟨b, 12, none⟩ = false := by simp [World.frozen?, hx1]
  have hwr : IntKind.i64.wrap ((D : Int) + 1) = (D : Int) + 1 := by rw [IntKind.wrap_i64]; omega
  have HX := Lib.hid (And.intro hx1 (And.intro hC1 (And.intro ho1 hC)))
  clear hW1 hx1 hC1 ho1 hx hC h12 x1 x2 x3 x4 x5 x6
  go_wp2_with fail
  refine bodyPost_end (v := .tuple #[]) (by simp [results, Tryd.results113, go_sem]) rfl ⟨rfl, ⟨⟨_, set_blk (o := 12) (.int .i64 ((D : Int) + 1)) HX.out.1, ?_, ?_, ?_⟩⟩, ?_⟩
  · rw [HX.out.2.1]; simp [HX.out.2.2.2]
  · have hs : 12 < C1.size := by rw [HX.out.2.1]; simp [HX.out.2.2.2]
    rw [Array.getElem?_setIfInBounds_self_of_lt hs]
    simp
  · intro i hi
    rw [Array.getElem?_setIfInBounds_ne (by omega), Array.getElem?_setIfInBounds_ne (by omega), HX.out.2.1]
    have hCs := HX.out.2.2.2
    by_cases e : i = D
    · subst e
      rw [if_pos rfl]
      constructor
      · rw [Array.getElem?_setIfInBounds_ne (by omega), show 2 * i = i * 2 by omega, Array.getElem?_setIfInBounds_self_of_lt (by omega)]
      · rw [show 2 * i + 1 = i * 2 + 1 by omega, Array.getElem?_setIfInBounds_self_of_lt (by simp; omega)]
    · rw [if_neg e, Array.getElem?_setIfInBounds_ne (by omega), Array.getElem?_setIfInBounds_ne (by omega), Array.getElem?_setIfInBounds_ne (by omega), Array.getElem?_setIfInBounds_ne (by omega)]
      exact HH.out.2.2.2 i (by omega)
  · have ho := HX.out.2.2.1
    exact ⟨ho.os, ho.tape, ho.output, by have := ho.size; simp; omega, fun k h1 hne => by rw [set_other _ _ _ _ _ hne]; exact ho.block k h1 hne⟩
end Go.Proofs.YticfkfjijnfcbaaDoor
