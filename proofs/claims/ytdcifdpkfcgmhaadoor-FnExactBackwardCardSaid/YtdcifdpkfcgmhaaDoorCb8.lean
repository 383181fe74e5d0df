/- The contracts of the reader of drawn bytes: pick, num, of, l15Open. -/
import Derived.Test.YtdcifdpkfcgmhaaDoorProg
import Derived.Test.YtdcifdpkfcgmhaaDoorCbS1
import Derived.Test.YtdcifdpkfcgmhaaDoorCbS5
import Derived.Test.YtdcifdpkfcgmhaaDoorCbS7
import Derived.Test.YtdcifdpkfcgmhaaDoorCbS8
import Derived.Test.YtdcifdpkfcgmhaaDoorCbS19
import Derived.Test.YtdcifdpkfcgmhaaDoorCbS16
import Derived.Test.YtdcifdpkfcgmhaaDoorCbS11
import Derived.Test.YtdcifdpkfcgmhaaDoorCbS18
import Derived.Test.YtdcifdpkfcgmhaaDoorCb3
import Derived.Test.YtdcifdpkfcgmhaaDoorCbS17
import Derived.Deep.QuietTactic
import Derived.BigQuiet
import Derived.WalkSmall
import Derived.IntWalk

/- A tree that is valid for some width has few keys. -/
namespace Go.Proofs.YtdcifdpkfcgmhaaDoor
open Go.RowKit

namespace Tr
theorem keys_length (k : List Int) (c : List Tr) : (Tr.mk k c).keys.length = lens (keyss c) + k.length := by
  have hk := length_keyss c
  simp only [keys, upto_length]
  rw [List.take_of_length_le (by omega), List.take_of_length_le (by omega)]
mutual
theorem small {wide : Int} (h2 : 2 ≤ wide) : ∀ (t : Tr) (d : Int), nodesB wide (wide / 2) d t = true → t.weight + 1 ≤ 2 * t.keys.length
  | .mk k c, d, h => by
    simp only [nodesB, Bool.and_eq_true, Bool.or_eq_true] at h
    have h1 : wide / 2 ≤ (k.length : Int) := by have := h.1.1; simp [inB] at this; omega
    rw [keys_length]
    simp only [weight]
    rcases h.2 with h3 | h3
    · have hc : c = [] := by simpa using h3
      subst hc
      simp [weights, keyss, lens]; omega
    · have := smalls h2 c _ h3.2
      omega
theorem smalls {wide : Int} (h2 : 2 ≤ wide) : ∀ (c : List Tr) (d : Int), nodesAllB wide d c = true → weights c ≤ 2 * lens (keyss c)
  | [], d, _ => by simp [weights]
  | t :: r, d, h => by
    simp only [nodesAllB, Bool.and_eq_true] at h
    have h3 := small h2 t _ h.1
    have h4 := smalls h2 r _ h.2
    simp only [weights, keyss, lens]; omega
end
theorem few : ∀ (l : List Int) (lo : Int), l.Pairwise (· < ·) → (∀ x, x ∈ l → lo ≤ x ∧ x ≤ 99) → (l.length : Int) ≤ max 0 (100 - lo)
  | [], lo, _, _ => by simp; omega
  | a :: r, lo, hp, hm => by
    rw [List.pairwise_cons] at hp
    have h1 := hm a (by simp)
    have h2 := few r (a + 1) hp.2 (fun x hx => ⟨by have := hp.1 x hx; omega, (hm x (by simp [hx])).2⟩)
    simp only [List.length_cons]
    omega
theorem sorted_mem {ks : List Int} (h : sortedB ks = true) : ∀ x, x ∈ ks → 0 ≤ x ∧ x ≤ 99 := fun x hx => by
  obtain ⟨i, hi, rfl⟩ := List.mem_iff_getElem.1 hx
  simp only [sortedB, List.all_eq_true, List.mem_range] at h
  have h1 := h i hi
  simp only [okAt, Bool.and_eq_true, inB, decide_eq_true_eq] at h1
  have h2 := h1.1
  simpa [List.getD_eq_getElem?_getD, hi] using h2
theorem valid_keys {wide : Int} {t : Tr} (h : validB wide t = true) : sortedB t.keys = true := by
  simp only [validB, Bool.and_eq_true] at h; exact h.2.2
theorem valid_well {wide : Int} {t : Tr} (h : validB wide t = true) : Well t := by
  have h' := h
  simp only [validB, Bool.and_eq_true] at h'
  exact ⟨⟨wide, 0, _, h'.2.1⟩, pairwise_of_sorted h'.2.2⟩
theorem valid_small {wide : Int} {t : Tr} (h : validB wide t = true) : t.weight ≤ 200 := by
  have hk := valid_keys h
  have hf := few t.keys 0 (pairwise_of_sorted hk) (sorted_mem hk)
  have hw := valid_wide h
  simp only [validB, Bool.and_eq_true] at h
  cases t with
  | mk k c =>
    rw [keys_length] at hf
    have h' := h.2.1
    simp only [nodesB, Bool.and_eq_true, Bool.or_eq_true] at h'
    simp only [weight]
    rcases h'.2 with h3 | h3
    · have hc : c = [] := by simpa using h3
      subst hc
      simp [weights] at hf ⊢; omega
    · have := smalls hw.1 c _ h3.2
      omega
end Tr
end Go.Proofs.YtdcifdpkfcgmhaaDoor

/- Paths that lead to nodes: plain data. -/
namespace Go.Proofs.YtdcifdpkfcgmhaaDoor
open Go.RowKit
namespace Tr

theorem nodeTo_append : ∀ (p q : List Int) (t : Tr), nodeTo (p ++ q) t = (nodeTo p t).bind (nodeTo q)
  | [], q, t => rfl
  | i :: p, q, .mk k c => by
    show nodeTo (i :: (p ++ q)) (.mk k c) = _
    simp only [nodeTo]
    split
    · exact nodeTo_append p q _
    · rfl

theorem nodeTo_nodes {wide : Int} : ∀ (ks : List Int) (t u : Tr) (least d : Int), nodesB wide least d t = true → nodeTo ks t = some u → ∃ l, nodesB wide l (d - ks.length) u = true
  | [], t, u, least, d, h, hn => by
    simp only [nodeTo, Option.some.injEq] at hn
    subst hn
    exact ⟨least, by simpa using h⟩
  | i :: p, .mk k c, u, least, d, h, hn => by
    simp only [nodeTo] at hn
    split at hn
    · rename_i hi
      obtain ⟨N, rfl⟩ : ∃ N : Nat, i = N := ⟨i.toNat, by omega⟩
      have hN : N < c.length := by omega
      rw [Int.toNat_natCast] at hn
      have hge : c.getD N (.mk [] []) = c[N] := by rw [List.getD_eq_getElem?_getD, List.getElem?_eq_getElem hN]; rfl
      rw [hge] at hn
      obtain ⟨-, hsh⟩ := nodes_mem h
      rcases hsh with ⟨h0, _⟩ | ⟨_, _, _, _, hk⟩
      · omega
      obtain ⟨l, hl⟩ := nodeTo_nodes p c[N] u _ _ (hk _ (List.getElem_mem hN)) hn
      refine ⟨l, ?_⟩
      rw [show d - ((N : Int) :: p).length = d - 1 - p.length by simp; omega]
      exact hl
    · cases hn

theorem nodeTo_few {ks : List Int} {t u : Tr} (hs : t.someB = true) (h : nodeTo ks t = some u) : ks.length ≤ 5 := by
  obtain ⟨wide, hw1, hw2, hv⟩ : ∃ q : Nat, 2 ≤ q ∧ q ≤ 6 ∧ validB q t = true := by
    refine Classical.byContradiction fun hno => ?_
    have := (someB_of t).2 (fun q h1 h2 => by
      cases hq : validB q t
      · rfl
      · exact absurd ⟨q, h1, h2, hq⟩ hno)
    rw [this] at hs
    cases hs
  have hk := sorted_len (valid_keys hv)
  have h' := hv
  simp only [validB, Bool.and_eq_true] at h'
  have hn := h'.2.1
  obtain ⟨l, hl⟩ := nodeTo_nodes ks t u _ _ hn h
  have hpos := nodesB_pos wide u.weight _ _ u (Nat.le_refl _) hl
  obtain ⟨e, he⟩ : ∃ e, t.depth = e + 1 := ⟨t.depth - 1, by omega⟩
  rw [he] at hn
  by_cases h6 : e ≤ 5
  · omega
  · exfalso
    have := nodes_keys wide (by omega) e 0 _ t rfl (.inr (by omega)) (by simpa using hn)
    have h2 : 2 ^ 7 ≤ 2 ^ (e + 1) := Nat.pow_le_pow_right (by omega) (by omega)
    omega
end Tr
end Go.Proofs.YtdcifdpkfcgmhaaDoor

/- The contracts of the reader of drawn bytes: pick, num, of, l15Open. -/
namespace Go.Proofs.YtdcifdpkfcgmhaaDoor
open Go.RowKit

/-- The reader at block r: its bytes, below block B, and its place. -/
def Rd (w : World) (B r : Nat) (bs : List Nat) (p : Nat) : Prop :=
  ∃ (a : Option Addr) (cap : Nat), w.heap[r]? = some (.cells #[.slice a bs.length cap, .int .i64 p] 141 (0, 0)) ∧ bs.length ≤ 2000 ∧ (∀ x ∈ bs, x < 256) ∧ B ≤ r ∧
    (bs = [] ∨ ∃ b o, a = some ⟨b, o, none⟩ ∧ b < B ∧ ∀ i, i < bs.length → w.cell? ⟨b, o + i, none⟩ = some (.int .u8 (bs.getD i 0 : Nat)))

theorem xorNat (a b : Nat) (ha : a < 4611686018427387904) (hb : b < 4611686018427387904) : bits .xor .i64 (a : Int) (b : Int) = ((a ^^^ b : Nat) : Int) := by
  have hx : a ^^^ b < 2 ^ 62 := Nat.xor_lt_two_pow (by omega) (by omega)
  have h1 : (BitVec.ofInt 64 (a : Int)).toNat = a := by
    rw [BitVec.ofInt_natCast, BitVec.toNat_ofNat]; exact Nat.mod_eq_of_lt (by omega)
  have h2 : (BitVec.ofInt 64 (b : Int)).toNat = b := by
    rw [BitVec.ofInt_natCast, BitVec.toNat_ofNat]; exact Nat.mod_eq_of_lt (by omega)
  show IntKind.i64.wrap ((BitVec.ofInt 64 (a : Int) ^^^ BitVec.ofInt 64 (b : Int)).toNat : Int) = _
  rw [BitVec.toNat_xor, h1, h2, IntKind.wrap_i64]
  omega

/-- What is mixed is no negative number. -/
theorem mix_nonneg (z1 z2 p L : Nat) (h1 : z1 < 256) (h2 : z2 < 256) (hp : p ≤ 1000000000) :
    ∃ N : Nat, bits .xor .i64 ((z1 : Int) * 131 + (z2 : Int) * 1117 + (p : Int) * 29 + (p : Int) / (L : Int) * 53) (((z1 : Int) * 131 + (z2 : Int) * 1117 + (p : Int) * 29 + (p : Int) / (L : Int) * 53) / 64) = (N : Int) := by
  have hq : p / L ≤ p := Nat.div_le_self _ _
  have e1 : (z1 : Int) * 131 + (z2 : Int) * 1117 + (p : Int) * 29 + (p : Int) / (L : Int) * 53 = ((z1 * 131 + z2 * 1117 + p * 29 + p / L * 53 : Nat) : Int) := by
    rw [← Int.natCast_ediv p L]; omega
  rw [e1]
  have e2 : ((z1 * 131 + z2 * 1117 + p * 29 + p / L * 53 : Nat) : Int) / 64 = (((z1 * 131 + z2 * 1117 + p * 29 + p / L * 53) / 64 : Nat) : Int) := by omega
  rw [e2, xorNat _ _ (by omega) (by omega)]
  exact ⟨_, rfl⟩

/-- What pick leaves. -/
def Picked (w : World) (r p : Nat) (n : Int) (e : Ending) (w' : World) : Prop :=
  ∃ (x : Int) (m : Nat), e = .returned (.int .i64 x) ∧ 0 ≤ x ∧ (1 ≤ n → x < n) ∧ (n < 1 → x = 0) ∧ w' = (w.setCell ⟨r, 1, none⟩ (.int .i64 (p + 1))).drewN m

set_option maxHeartbeats 2000000 in
set_option maxRecDepth 100000 in
theorem pick_c (w : World) (B r : Nat) (bs : List Nat) (p : Nat) (n : Int) (h : Rd w B r bs p) (hp : p ≤ 1000000000) (hn1 : -1000000000 ≤ n) (hn2 : n ≤ 1000000000) :
    Calls Tryd.prog 96 #[.pointer (some ⟨r, 0, none⟩), .int .i64 n] w (Picked w r p n) := by
  obtain ⟨a, cap, hblk, hlen, hby, hBr, hat⟩ := h
  obtain ⟨x1, x2, x3, x4⟩ := box2 hblk
  have HAT := Lib.hid hat
  have HBY := Lib.hid hby
  have HBK := Lib.hid hblk
  have hrl : r < w.heap.size := (Array.getElem?_eq_some_iff.1 hblk).1
  have y0 := set_blk (o := 1) (.int .i64 ((p : Int) + 1)) hblk
  obtain ⟨y1, y2, y3, y4⟩ := box2 y0
  clear hat hby hblk y0
  by_cases hn : n < 1
  · go_enter Tryd.func96, Tryd.ntmps96
    go_wp2_with fail
    go_ret
    exact ⟨0, 0, rfl, Int.le_refl _, fun h => by omega, fun _ => rfl, rfl⟩
  · by_cases hl0 : bs.length = 0
    · have hl0' : ((bs.length : Int) == 0) = true := by simp [List.length_eq_zero_iff.1 hl0]
      clear hl0
      go_enter Tryd.func96, Tryd.ntmps96
      go_wp2_with fail
      go_ret
      exact ⟨0, 0, rfl, Int.le_refl _, fun h => by omega, fun _ => rfl, rfl⟩
    · have hl0' : ((bs.length : Int) == 0) = false := beq_eq_false_iff_ne.2 (by omega)
      rcases HAT.out with h | ⟨b, o, rfl, hb, hat⟩
      · rw [h] at hl0; simp at hl0
      have hcell : ∀ i, i < bs.length → (w.setCell ⟨r, 1, none⟩ (.int .i64 ((p : Int) + 1))).cell? ⟨b, o + i, none⟩ = some (.int .u8 (bs.getD i 0 : Nat)) := fun i hi => by
        rw [World.cell?_of_block (w := w) (set_other _ _ _ _ _ (by show b ≠ r; omega))]; exact hat i hi
      have hrange : ∀ i, i < bs.length → bs.getD i 0 < 256 := fun i hi => HBY.out _ (by rw [List.getD_eq_getElem?_getD, List.getElem?_eq_getElem hi]; exact List.getElem_mem hi)
      by_cases hpl : p < bs.length
      · have c1 := hcell p hpl
        have hr1 := hrange p hpl
        clear hat hcell hrange
        generalize bs.getD p 0 = z at c1 hr1
        have hz : (0 : Int) ≤ (z : Int) := by omega
        go_enter Tryd.func96, Tryd.ntmps96
        go_wp2_with fail
        go_ret
        exact ⟨_, 0, rfl, Int.emod_nonneg _ (by omega), fun h => Int.emod_lt_of_pos _ (by omega), fun h => by omega, rfl⟩
      · have hl1 : 0 < bs.length := by omega
        obtain ⟨L, hL⟩ : ∃ L, L = bs.length := ⟨_, rfl⟩
        have hq1 : p % L < L := Nat.mod_lt _ (by omega)
        have hq2 : (p * 7 + 3) % L < L := Nat.mod_lt _ (by omega)
        have hq3 : p / L ≤ p := Nat.div_le_self _ _
        have c1 := hcell (p % L) (by omega)
        have c2 := hcell ((p * 7 + 3) % L) (by omega)
        have hr1 := hrange (p % L) (by omega)
        have hr2 := hrange ((p * 7 + 3) % L) (by omega)
        clear hat hcell hrange
        rw [← hL] at y1 hlen hl0' hl1 hpl hl0
        clear x1
        generalize bs.getD (p % L) 0 = z1 at c1 hr1
        generalize bs.getD ((p * 7 + 3) % L) 0 = z2 at c2 hr2
        have HL := Lib.hid hL
        clear hL HAT HBY HBK
        have i1 : (0 : Int) ≤ ((p : Int) * 7 + 3) % (L : Int) := Int.emod_nonneg _ (by omega)
        have i2 : ((p : Int) * 7 + 3) % (L : Int) < (L : Int) := Int.emod_lt_of_pos _ (by omega)
        have i3 : (0 : Int) ≤ (p : Int) % (L : Int) := Int.emod_nonneg _ (by omega)
        have i4 : (p : Int) % (L : Int) < (L : Int) := Int.emod_lt_of_pos _ (by omega)
        have i5 : (0 : Int) ≤ (p : Int) / (L : Int) := Int.ediv_nonneg (by omega) (by omega)
        have i6 : (p : Int) / (L : Int) ≤ (p : Int) := Int.ediv_le_self _ (by omega)
        go_enter Tryd.func96, Tryd.ntmps96
        go_wp2_with fail
        go_quiet (fail)
        go_wp2_with fail
        go_ret
        obtain ⟨N, hN⟩ := mix_nonneg z1 z2 p L hr1 hr2 hp
        rw [hN]
        refine ⟨_, nq, rfl, ?_, ?_, ?_, rfl⟩
        · rw [Int.tmod_eq_emod_of_nonneg (by omega)]; exact Int.emod_nonneg _ (by omega)
        · intro _; rw [Int.tmod_eq_emod_of_nonneg (by omega)]; exact Int.emod_lt_of_pos _ (by omega)
        · intro h; omega

theorem Rd.picked {w : World} {B r p : Nat} {bs : List Nat} (h : Rd w B r bs p) (m : Nat) : Rd ((w.setCell ⟨r, 1, none⟩ (.int .i64 (p + 1))).drewN m) B r bs (p + 1) := by
  obtain ⟨a, cap, hblk, hlen, hby, hBr, hat⟩ := h
  refine ⟨a, cap, ?_, hlen, hby, hBr, ?_⟩
  · have := set_blk (o := 1) (.int .i64 ((p : Int) + 1)) hblk
    simpa using this
  · rcases hat with h | ⟨b, o, h1, h2, h3⟩
    · exact .inl h
    · exact .inr ⟨b, o, h1, h2, fun i hi => by
        show (w.setCell ⟨r, 1, none⟩ (.int .i64 (p + 1))).cell? _ = _
        rw [World.cell?_of_block (w := w) (set_other _ _ _ _ _ (by show b ≠ r; omega))]; exact h3 i hi⟩
end Go.Proofs.YtdcifdpkfcgmhaaDoor
