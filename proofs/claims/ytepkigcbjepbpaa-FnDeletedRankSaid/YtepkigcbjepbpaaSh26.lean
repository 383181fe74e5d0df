/- A tree in memory with the addresses of its nodes; what one comes by on the way through it. -/
import Derived.Test.YtepkigcbjepbpaaProg
import Derived.Test.YtepkigcbjepbpaaSh0
import Derived.Deep.QuietTactic
import Derived.BigQuiet
import Derived.WalkSmall
import Derived.IntWalk
import Derived.WalkKit
import Derived.ProofKit
import Derived.OpenShut
import Derived.ChangeOld
import Derived.Below
import Derived.LaidEqlPtr
import Derived.Test.YtepkigcbjepbpaaSh4
import Derived.Test.YtepkigcbjepbpaaSh21

/- The contracts of the reader of drawn bytes: pick, num, of, l15Open. -/
namespace Go.Proofs.Ytepkigcbjepbpaa
open Go.RowKit

def Rd (w : World) (B r : Nat) (bs : List Nat) (p : Nat) : Prop :=
  ∃ (a : Option Addr) (cap : Nat), w.heap[r]? = some (.cells #[.slice a bs.length cap, .int .i64 p] 131 (0, 0)) ∧ bs.length ≤ 2000 ∧ (∀ x ∈ bs, x < 256) ∧ B ≤ r ∧
    (bs = [] ∨ ∃ b o, a = some ⟨b, o, none⟩ ∧ b < B ∧ ∀ i, i < bs.length → w.cell? ⟨b, o + i, none⟩ = some (.int .u8 (bs.getD i 0 : Nat)))

theorem xorNat (a b : Nat) (ha : a < 4611686018427387904) (hb : b < 4611686018427387904) : bits .xor .i64 (a : Int) (b : Int) = ((a ^^^ b : Nat) : Int) := by
  have hx : a ^^^ b < 2 ^ 62 := Nat.xor_lt_two_pow (by omega) (by omega)
  have h1 : (BitVec.ofInt 64 (a : Int)).toNat = a := by
    rw [BitVec.ofInt_natCast, BitVec.toNat_ofNat]; exact Nat.mod_eq_of_lt (by omega)
  have h2 : (BitVec.ofInt 64 (b : Int)).toNat = b := by
    rw [BitVec.ofInt_natCast, BitVec.toNat_ofNat]; exact Nat.mod_eq_of_lt (by omega)
  show IntKind.i64.wrap ((BitVec.ofInt 64 (a : Int) ^^^ BitVec.ofInt 64 (b : Int)).toNat : Int) = _
  rw [BitVec.toNat_xor, h1, h2, IntKind.wrap_i64]
  omega

theorem mix_nonneg (z1 z2 p L : Nat) (h1 : z1 < 256) (h2 : z2 < 256) (hp : p ≤ 1000000000) :
    ∃ N : Nat, bits .xor .i64 ((z1 : Int) * 131 + (z2 : Int) * 1117 + (p : Int) * 29 + (p : Int) / (L : Int) * 53) (((z1 : Int) * 131 + (z2 : Int) * 1117 + (p : Int) * 29 + (p : Int) / (L : Int) * 53) / 64) = (N : Int) := by
  have hq : p / L ≤ p := Nat.div_le_self _ _
  have e1 : (z1 : Int) * 131 + (z2 : Int) * 1117 + (p : Int) * 29 + (p : Int) / (L : Int) * 53 = ((z1 * 131 + z2 * 1117 + p * 29 + p / L * 53 : Nat) : Int) := by
    rw [← Int.natCast_ediv p L]; omega
  rw [e1]
  have e2 : ((z1 * 131 + z2 * 1117 + p * 29 + p / L * 53 : Nat) : Int) / 64 = (((z1 * 131 + z2 * 1117 + p * 29 + p / L * 53) / 64 : Nat) : Int) := by omega
  rw [e2, xorNat _ _ (by omega) (by omega)]
  exact ⟨_, rfl⟩

def Picked (w : World) (r p : Nat) (n : Int) (e : Ending) (w' : World) : Prop :=
  ∃ (x : Int) (m : Nat), e = .returned (.int .i64 x) ∧ 0 ≤ x ∧ (1 ≤ n → x < n) ∧ (n < 1 → x = 0) ∧ w' = (w.setCell ⟨r, 1, none⟩ (.int .i64 (p + 1))).drewN m

set_option maxHeartbeats 2000000 in
set_option maxRecDepth 100000 in
theorem pick_c (w : World) (B r : Nat) (bs : List Nat) (p : Nat) (n : Int) (h : Rd w B r bs p) (hp : p ≤ 1000000000) (hn1 : -1000000000 ≤ n) (hn2 : n ≤ 1000000000) :
    Calls Try.prog 80 #[.pointer (some ⟨r, 0, none⟩), .int .i64 n] w (Picked w r p n) := by
  obtain ⟨a, cap, hblk, hlen, hby, hBr, hat⟩ := h
  obtain ⟨x1, x2, x3, x4⟩ := box2 hblk
  have HAT := Lib.hid hat
  have HBY := Lib.hid hby
  have HBK := Lib.hid hblk
  have hrl : r < w.heap.size := (Array.getElem?_eq_some_iff.1 hblk).1
  have y0 := set_blk (o := 1) (.int .i64 ((p : Int) + 1)) hblk
  obtain ⟨y1, y2, y3, y4⟩ := box2 y0
  clear hat hby hblk y0
  by_cases hn : n < 1
  · go_enter Try.func80, Try.ntmps80
    go_wp2_with fail
    go_ret
    exact ⟨0, 0, rfl, Int.le_refl _, fun h => by omega, fun _ => rfl, rfl⟩
  · by_cases hl0 : bs.length = 0
    · have hl0' : ((bs.length : Int) == 0) = true := by simp [List.length_eq_zero_iff.1 hl0]
      clear hl0
      go_enter Try.func80, Try.ntmps80
      go_wp2_with fail
      go_ret
      exact ⟨0, 0, rfl, Int.le_refl _, fun h => by omega, fun _ => rfl, rfl⟩
    · have hl0' : ((bs.length : Int) == 0) = false := beq_eq_false_iff_ne.2 (by omega)
      rcases HAT.out with h | ⟨b, o, rfl, hb, hat⟩
      · rw [h] at hl0; simp at hl0
      have hcell : ∀ i, i < bs.length → (w.setCell ⟨r, 1, none⟩ (.int .i64 ((p : Int) + 1))).cell? ⟨b, o + i, none⟩ = some (.int .u8 (bs.getD i 0 : Nat)) := fun i hi => by
        rw [World.cell?_of_block (w := w) (set_other _ _ _ _ _ (by show b ≠ r; omega))]; exact hat i hi
      have hrange : ∀ i, i < bs.length → bs.getD i 0 < 256 := fun i hi => HBY.out _ (by rw [List.getD_eq_getElem?_getD, List.getElem?_eq_getElem hi]; exact List.getElem_mem hi)
      by_cases hpl : p < bs.length
      · have c1 := hcell p hpl
        have hr1 := hrange p hpl
        clear hat hcell hrange
        generalize bs.getD p 0 = z at c1 hr1
        have hz : (0 : Int) ≤ (z : Int) := by omega
        go_enter Try.func80, Try.ntmps80
        go_wp2_with fail
        go_ret
        exact ⟨_, 0, rfl, Int.emod_nonneg _ (by omega), fun h => Int.emod_lt_of_pos _ (by omega), fun h => by omega, rfl⟩
      · have hl1 : 0 < bs.length := by omega
        obtain ⟨L, hL⟩ : ∃ L, L = bs.length := ⟨_, rfl⟩
        have hq1 : p % L < L := Nat.mod_lt _ (by omega)
        have hq2 : (p * 7 + 3) % L < L := Nat.mod_lt _ (by omega)
        have hq3 : p / L ≤ p := Nat.div_le_self _ _
        have c1 := hcell (p % L) (by omega)
        have c2 := hcell ((p * 7 + 3) % L) (by omega)
        have hr1 := hrange (p % L) (by omega)
        have hr2 := hrange ((p * 7 + 3) % L) (by omega)
        clear hat hcell hrange
        rw [← hL] at y1 hlen hl0' hl1 hpl hl0
        clear x1
        generalize bs.getD (p % L) 0 = z1 at c1 hr1
        generalize bs.getD ((p * 7 + 3) % L) 0 = z2 at c2 hr2
        have HL := Lib.hid hL
        clear hL HAT HBY HBK
        have i1 : (0 : Int) ≤ ((p : Int) * 7 + 3) % (L : Int) := Int.emod_nonneg _ (by omega)
        have i2 : ((p : Int) * 7 + 3) % (L : Int) < (L : Int) := Int.emod_lt_of_pos _ (by omega)
        have i3 : (0 : Int) ≤ (p : Int) % (L : Int) := Int.emod_nonneg _ (by omega)
        have i4 : (p : Int) % (L : Int) < (L : Int) := Int.emod_lt_of_pos _ (by omega)
        have i5 : (0 : Int) ≤ (p : Int) / (L : Int) := Int.ediv_nonneg (by omega) (by omega)
        have i6 : (p : Int) / (L : Int) ≤ (p : Int) := Int.ediv_le_self _ (by omega)
        go_enter Try.func80, Try.ntmps80
        go_wp2_with fail
        go_quiet (fail)
        go_wp2_with fail
        go_ret
        obtain ⟨N, hN⟩ := mix_nonneg z1 z2 p L hr1 hr2 hp
        rw [hN]
        refine ⟨_, nq, rfl, ?_, ?_, ?_, rfl⟩
        · rw [Int.tmod_eq_emod_of_nonneg (by omega)]; exact Int.emod_nonneg _ (by omega)
        · intro _; rw [Int.tmod_eq_emod_of_nonneg (by omega)]; exact Int.emod_lt_of_pos _ (by omega)
        · intro h; omega

theorem Rd.picked {w : World} {B r p : Nat} {bs : List Nat} (h : Rd w B r bs p) (m : Nat) : Rd ((w.setCell ⟨r, 1, none⟩ (.int .i64 (p + 1))).drewN m) B r bs (p + 1) := by
  obtain ⟨a, cap, hblk, hlen, hby, hBr, hat⟩ := h
  refine ⟨a, cap, ?_, hlen, hby, hBr, ?_⟩
  · have := set_blk (o := 1) (.int .i64 ((p : Int) + 1)) hblk
    simpa using this
  · rcases hat with h | ⟨b, o, h1, h2, h3⟩
    · exact .inl h
    · exact .inr ⟨b, o, h1, h2, fun i hi => by
        show (w.setCell ⟨r, 1, none⟩ (.int .i64 (p + 1))).cell? _ = _
        rw [World.cell?_of_block (w := w) (set_other _ _ _ _ _ (by show b ≠ r; omega))]; exact h3 i hi⟩
end Go.Proofs.Ytepkigcbjepbpaa

/- The contracts of the model's draws: num, l1Least, l1Most, l1Sample. -/
namespace Go.Proofs.Ytepkigcbjepbpaa
open Go.RowKit

structure Only (C r : Nat) (w w' : World) : Prop where
  os : w'.os = w.os
  tape : w'.tape = w.tape
  output : w'.output = w.output
  size : w.heap.size ≤ w'.heap.size
  block : ∀ k, k < C → k ≠ r → w'.heap[k]? = w.heap[k]?

theorem Only.refl (C r : Nat) (w : World) : Only C r w w := ⟨rfl, rfl, rfl, Nat.le_refl _, fun _ _ _ => rfl⟩
theorem Only.trans {C r : Nat} {a b c : World} (h : Only C r a b) (k : Only C r b c) : Only C r a c :=
  ⟨k.os.trans h.os, k.tape.trans h.tape, k.output.trans h.output, Nat.le_trans h.size k.size, fun i h1 h2 => (k.block i h1 h2).trans (h.block i h1 h2)⟩
theorem below_only {C r : Nat} {a b : World} (h : Below C a b) : Only C r a b := ⟨h.os, h.tape, h.output, h.size, fun k h1 _ => h.block k h1⟩
theorem Only.below {C r B : Nat} {a b : World} (h : Only C r a b) (hB : B ≤ C) (hr : B ≤ r) : Below B a b := ⟨h.os, h.tape, h.output, h.size, fun k hk => h.block k (by omega) (by omega)⟩
theorem Only.mono {C C' r : Nat} {a b : World} (h : Only C r a b) (hC : C' ≤ C) : Only C' r a b := ⟨h.os, h.tape, h.output, h.size, fun k hk hr => h.block k (by omega) hr⟩
theorem Only.picked (C r p : Nat) (w : World) (m : Nat) : Only C r w ((w.setCell ⟨r, 1, none⟩ (.int .i64 (p + 1))).drewN m) :=
  ⟨rfl, rfl, rfl, by simp [World.drewN, World.setCell], fun k _ hr => set_other w r 1 _ k hr⟩

theorem Rd.later {w w' : World} {B C r p : Nat} {bs : List Nat} (h : Rd w B r bs p) (hb : Below C w w') (hr : r < C) : Rd w' B r bs p := by
  obtain ⟨a, cap, hblk, hlen, hby, hBr, hat⟩ := h
  refine ⟨a, cap, (hb.block r hr).trans hblk, hlen, hby, hBr, ?_⟩
  rcases hat with h | ⟨b, o, h1, h2, h3⟩
  · exact .inl h
  · exact .inr ⟨b, o, h1, h2, fun i hi => by rw [below_cell hb (by omega)]; exact h3 i hi⟩

theorem Rd.lt {w : World} {B r p : Nat} {bs : List Nat} (h : Rd w B r bs p) : r < w.heap.size := by
  obtain ⟨a, cap, hblk, _⟩ := h
  exact (Array.getElem?_eq_some_iff.1 hblk).1

theorem IntsOwn.only {w w' : World} {lo C r : Nat} {v : Value} {ks : List Int} (h : IntsOwn w lo v ks) (hb : Only C r w w') (hC : w.heap.size ≤ C) (hr : r < lo) : IntsOwn w' lo v ks := by
  obtain ⟨h1, h2 | ⟨g, cap, cur, hv, hbb, hg, hrr⟩⟩ := h
  · exact ⟨h1, .inl h2⟩
  · exact ⟨h1, .inr ⟨g, cap, cur, hv, hbb, (hb.block g (by have := (Array.getElem?_eq_some_iff.1 hg).1; omega) (by omega)).trans hg, hrr⟩⟩

def Nummed (w : World) (r p : Nat) (ks : List Int) (e : Ending) (w' : World) : Prop :=
  ∃ (i m : Nat), i < ks.length ∧ e = .returned (.int .i64 (ks.getD i 0)) ∧ w' = (w.setCell ⟨r, 1, none⟩ (.int .i64 (p + 1))).drewN m

theorem num_c (w : World) (B r : Nat) (bs : List Nat) (p : Nat) (b : Nat) (ks : List Int) (cap : Nat) (h : Rd w B r bs p) (hp : p ≤ 1000000000) (hbr : b ≠ r) (hk0 : 1 ≤ ks.length) (hk1 : ks.length ≤ 1000)
    (hat : ∀ i, i < ks.length → w.cell? ⟨b, i, none⟩ = some (.int .i64 (ks.getD i 0))) :
    Calls Try.prog 78 #[.pointer (some ⟨r, 0, none⟩), .slice (some ⟨b, 0, none⟩) ks.length cap] w (Nummed w r p ks) := by
  have HR := Lib.hid h
  have HAT := Lib.hid hat
  clear h hat
  go_enter Try.func78, Try.ntmps78
  go_wp2_with fail
  refine (pick_c w B r bs p ks.length HR.out hp (by omega) (by omega)).mono ?_
  rintro e w1 ⟨x, m, rfl, hx0, hx1, _, rfl⟩
  obtain ⟨i, rfl⟩ := Int.eq_ofNat_of_zero_le hx0
  have hi : i < ks.length := by have := hx1 (by omega); omega
  have hc : ((w.setCell ⟨r, 1, none⟩ (.int .i64 (p + 1))).drewN m).cell? ⟨b, i, none⟩ = some (.int .i64 (ks.getD i 0)) := by
    show (w.setCell ⟨r, 1, none⟩ (.int .i64 (p + 1))).cell? ⟨b, i, none⟩ = _
    rw [World.cell?_of_block (w := w) (a := ⟨b, i, none⟩) (set_other _ _ _ _ _ hbr)]; exact HAT.out i hi
  generalize hW : (w.setCell ⟨r, 1, none⟩ (.int .i64 (p + 1))).drewN m = W at hc ⊢
  have HW := Lib.hid hW
  clear hW hx1 hx0
  generalize hy : ks.getD i 0 = y at hc
  have HY := Lib.hid hy
  clear hy
  go_wp2_with fail
  go_ret
  exact ⟨i, m, hi, by rw [HY.out]; rfl, HW.out.symm⟩

def leastN (wide : Nat) : Nat → Nat
  | 0 => 0
  | d + 1 => wide / 2 + (wide / 2 + 1) * leastN wide d
def mostN (wide : Nat) : Nat → Nat
  | 0 => 0
  | d + 1 => wide + (wide + 1) * mostN wide d
def lowN (wide d : Nat) : Nat := if 1 < d then 1 + 2 * leastN wide (d - 1) else 0
theorem leastN_le_mostN (wide d : Nat) : leastN wide d ≤ mostN wide d := by
  induction d with
  | zero => exact Nat.le_refl _
  | succ d ih =>
    simp only [leastN, mostN]
    have h1 : wide / 2 ≤ wide := Nat.div_le_self _ _
    have h2 := Nat.mul_le_mul (show wide / 2 + 1 ≤ wide + 1 by omega) ih
    omega
theorem mostN_bound (wide d : Nat) (hw : wide ≤ 6) (_hd : d ≤ 8) : mostN wide d ≤ 7 ^ d - 1 := by
  have h : ∀ d, mostN wide d + 1 ≤ 7 ^ d := by
    intro d
    induction d with
    | zero => simp [mostN]
    | succ d ih =>
      simp only [mostN, Nat.pow_succ]
      have h2 := Nat.mul_le_mul (show wide + 1 ≤ 7 by omega) ih
      rw [Nat.mul_add] at h2
      omega
  have := h d
  omega

theorem l1Most_c (wide : Nat) (hw : wide ≤ 6) (d : Nat) : ∀ (w : World), d ≤ 8 →
    Calls Try.prog 115 #[.int .i64 wide, .int .i64 d] w fun e w' => e = .returned (.int .i64 (mostN wide d)) ∧ w = w' := by
  induction d with
  | zero =>
    intro w _
    go_enter Try.func115, Try.ntmps115
    go_wp2_with fail
    go_ret
    exact ⟨rfl, rfl⟩
  | succ d ih =>
    intro w hd
    have hm := mostN_bound wide d hw (by omega)
    have h7 : 7 ^ d ≤ 7 ^ 8 := Nat.pow_le_pow_right (by omega) (by omega)
    have hm2 : mostN wide d ≤ 5764801 := by omega
    have hne : (((d + 1 : Nat) : Int) == 0) = false := beq_eq_false_iff_ne.2 (by omega)
    have hfin : (wide : Int) + (wide + 1) * (mostN wide d : Int) = (mostN wide (d + 1) : Int) := by simp only [mostN]; push_cast; rfl
    have hsub : (((d + 1 : Nat) : Int) - 1) = (d : Int) := by omega
    have hp0 : (0 : Int) ≤ ((wide : Int) + 1) * (mostN wide d : Int) := Int.mul_nonneg (by omega) (by omega)
    have hp1 : ((wide : Int) + 1) * (mostN wide d : Int) ≤ 7 * 5764801 := Int.mul_le_mul (by omega) (by omega) (by omega) (by omega)
    have HF := Lib.hid hfin
    have HC := Lib.hid (ih w (by omega))
    clear hfin hm h7 ih
    generalize mostN wide d = M at HC HF hm2 hp0 hp1
    go_enter Try.func115, Try.ntmps115
    go_wp2_with fail
    refine HC.out.mono ?_
    rintro e w1 ⟨rfl, rfl⟩
    go_wp2_with fail
    go_ret
    exact ⟨ret_int HF.out, rfl⟩

theorem l1Least_c (wide : Nat) (hw : wide ≤ 6) (d : Nat) : ∀ (w : World), d ≤ 8 →
    Calls Try.prog 114 #[.int .i64 wide, .int .i64 d] w fun e w' => e = .returned (.int .i64 (leastN wide d)) ∧ w = w' := by
  induction d with
  | zero =>
    intro w _
    go_enter Try.func114, Try.ntmps114
    go_wp2_with fail
    go_ret
    exact ⟨rfl, rfl⟩
  | succ d ih =>
    intro w hd
    have hm := mostN_bound wide d hw (by omega)
    have hlm := leastN_le_mostN wide d
    have h7 : 7 ^ d ≤ 7 ^ 8 := Nat.pow_le_pow_right (by omega) (by omega)
    have hm2 : leastN wide d ≤ 5764801 := by omega
    have hne : (((d + 1 : Nat) : Int) == 0) = false := beq_eq_false_iff_ne.2 (by omega)
    have hfin : (wide : Int) / 2 + ((wide : Int) / 2 + 1) * (leastN wide d : Int) = (leastN wide (d + 1) : Int) := by simp only [leastN]; push_cast; rfl
    have hsub : (((d + 1 : Nat) : Int) - 1) = (d : Int) := by omega
    have hp0 : (0 : Int) ≤ ((wide : Int) / 2 + 1) * (leastN wide d : Int) := Int.mul_nonneg (by omega) (by omega)
    have hp1 : ((wide : Int) / 2 + 1) * (leastN wide d : Int) ≤ 7 * 5764801 := Int.mul_le_mul (by omega) (by omega) (by omega) (by omega)
    have HF := Lib.hid hfin
    have HC := Lib.hid (ih w (by omega))
    clear hfin hm h7 ih hlm
    generalize leastN wide d = M at HC HF hm2 hp0 hp1
    go_enter Try.func114, Try.ntmps114
    go_wp2_with fail
    refine HC.out.mono ?_
    rintro e w1 ⟨rfl, rfl⟩
    go_wp2_with fail
    go_ret
    exact ⟨ret_int HF.out, rfl⟩
end Go.Proofs.Ytepkigcbjepbpaa

/- Bytes in memory, and the reader that the model opens over them. -/
namespace Go.Proofs.Ytepkigcbjepbpaa
open Go.RowKit

theorem cellB {w w' : World} {b o : Nat} (h : w'.heap[b]? = w.heap[b]?) : w'.cell? ⟨b, o, none⟩ = w.cell? ⟨b, o, none⟩ := World.cell?_of_block (w := w) (a := ⟨b, o, none⟩) h

def BytesIn (w : World) (B : Nat) (v : Value) (bs : List Nat) : Prop :=
  ∃ (a : Option Addr) (cap : Nat), v = .slice a bs.length cap ∧ bs.length ≤ cap ∧ cap ≤ maxLen ∧ (∀ x ∈ bs, x < 256) ∧
    (bs = [] ∨ ∃ b o, a = some ⟨b, o, none⟩ ∧ b < B ∧ ∀ i, i < bs.length → w.cell? ⟨b, o + i, none⟩ = some (.int .u8 (bs.getD i 0 : Nat)))

set_option maxHeartbeats 1000000 in
set_option maxRecDepth 100000 in
theorem open_c {w : World} {B : Nat} {v : Value} {bs : List Nat} (h : BytesIn w B v bs) (w' : World) (hbw : Below B w w') (hB : B ≤ w'.heap.size) :
    Calls Try.prog 76 #[v] w' fun e w'' => e = .returned (.pointer (some ⟨w'.heap.size, 0, none⟩)) ∧ (∃ bs', Rd w'' w'.heap.size w'.heap.size bs' 0) ∧ Below w'.heap.size w' w'' := by
  obtain ⟨a, cap, rfl, hl, hm, h256, hat⟩ := h
  unfold maxLen at hm
  have HAT := Lib.hid hat
  have H256 := Lib.hid h256
  have HBW := Lib.hid hbw
  clear hat h256 hbw
  by_cases h2 : bs.length ≤ 2000
  · have h2' : ¬ ((bs.length : Int) > 2000) := by omega
    go_enter Try.func76, Try.ntmps76
    go_wp2_with fail
    go_ret
    refine ⟨rfl, ⟨bs, a, cap, new_blk _ _, h2, H256.out, Nat.le_refl _, ?_⟩, (Below.refl _ _).alloc (Nat.le_refl _) _⟩
    rcases HAT.out with h | ⟨b, o, h5, h6, h7⟩
    · exact .inl h
    · refine .inr ⟨b, o, h5, by omega, fun i hi => ?_⟩
      rw [cellB (old_blk _ _ b (by omega)), below_cell HBW.out h6]
      exact h7 i hi
  · have h2' : ((bs.length : Int) > 2000) := by omega
    have hcap : (2000 : Int) ≤ (cap : Int) := by omega
    have hl2 : (bs.take 2000).length = 2000 := by simp; omega
    rcases HAT.out with h | ⟨b, o, rfl, h6, h7⟩
    · rw [h] at h2; simp at h2
    have H7 := Lib.hid h7
    have HL2 := Lib.hid hl2
    clear h7 hl2
    go_enter Try.func76, Try.ntmps76
    go_wp2_with fail
    go_ret
    refine ⟨rfl, ⟨bs.take 2000, _, cap, by rw [HL2.out]; exact new_blk _ _, by rw [HL2.out]; omega, fun x hx => H256.out x (List.mem_of_mem_take hx), Nat.le_refl _, .inr ⟨b, o, rfl, by omega, fun i hi => ?_⟩⟩, (Below.refl _ _).alloc (Nat.le_refl _) _⟩
    rw [HL2.out] at hi
    rw [cellB (old_blk _ _ b (by omega)), below_cell HBW.out h6, H7.out i (by omega)]
    simp [List.getD_eq_getElem?_getD, hi]
end Go.Proofs.Ytepkigcbjepbpaa

/- Bytes that came in, as a slice in memory. -/
namespace Go.Proofs.Ytepkigcbjepbpaa
open Go.ChangeShapes Go.WideShapes Go.ChangeAt Go.RowKit
variable {H : Type} {enc : TypeId × Value → H} {w : World} {base : Nat} {spare : Nat → Bool} {held : Bool}

theorem Try.cellsU8 : Try.prog.cellsOf 5 = 1 := by kernel_rfl

theorem bytes_of_trod (fuel : Nat) {a0 : Option Addr} {len cap : Nat} {x : DataW H × List MemPlace} (hs : ∀ b, spare b = true) (h : DataW.trod enc Try.prog w base spare held fuel 36 [.slice a0 len cap] = some x) :
    ∃ bs, BytesIn w w.heap.size (.slice a0 len cap) bs := by
  rcases open_ints Try.underlying36 Try.underlying5 Try.cellsU8 h with ⟨hcs, hx⟩ | ⟨a, len', cap', zs, hcs, _, hl, hm, hz, hx, hcell, hwz⟩
  · simp only [List.cons.injEq, Value.slice.injEq, and_true] at hcs
    obtain ⟨rfl, rfl, rfl⟩ := hcs
    exact ⟨[], none, 0, rfl, Nat.le_refl _, by unfold maxLen; omega, (fun x h => by cases h), .inl rfl⟩
  · simp only [List.cons.injEq, Value.slice.injEq, and_true] at hcs
    obtain ⟨rfl, rfl, rfl⟩ := hcs
    rw [hs, if_pos rfl] at hz
    have hb : ∀ z ∈ zs, 0 ≤ z ∧ z ≤ 255 := fun z hz' => by
      have h5 := hwz z hz'
      have e1 : IntKind.u8.min = 0 := rfl
      have e2 : IntKind.u8.max = 255 := rfl
      simpa [Lit.wf, e1, e2] using h5
    have hlen : ((zs.take len).map Int.toNat).length = len := by simp; omega
    refine ⟨(zs.take len).map Int.toNat, some a, cap, by rw [hlen], by rw [hlen]; exact hl, hm, fun x hx => ?_, ?_⟩
    · obtain ⟨z, hz1, rfl⟩ := List.mem_map.1 hx
      have := hb z (List.mem_of_mem_take hz1)
      omega
    · by_cases h0 : len = 0
      · left; subst h0; simp
      · obtain ⟨b, off, spot⟩ := a
        have hspot : spot = none := by simpa [Addr.add] using World.cell?_spot (hcell 0 (by omega))
        subst hspot
        refine .inr ⟨b, off, rfl, ?_, fun i hi => ?_⟩
        · have h1 := hcell 0 (by omega)
          rw [add_plain] at h1
          exact World.block_lt_of_cell? w _ h1
        · rw [hlen] at hi
          have h1 := hcell i (by omega)
          rw [add_plain] at h1
          rw [h1]
          have hzi := hb zs[i] (List.getElem_mem (by omega))
          have e1 : zs.getD i 0 = zs[i] := by simp [List.getD_eq_getElem?_getD, show i < zs.length by omega]
          have e2 : ((zs.take len).map Int.toNat).getD i 0 = zs[i].toNat := by simp [List.getD_eq_getElem?_getD, hi, show i < zs.length by omega]
          rw [e1, e2]
          congr 2
          omega
end Go.Proofs.Ytepkigcbjepbpaa

/- Maps whose keys are pointers: what the operations on them do, in any program. -/
namespace Go.Proofs.Ytepkigcbjepbpaa
open Go.RowKit

def PAddr (w : World) (a : Addr) : Prop := ∃ (c : Array Value) (t : TypeId), w.heap[a.block]? = some (.cells c t (0, 0))

def mkEntry (x : Addr × Value × Nat) : MapEntry := { key := .pointer (some x.1), val := x.2.1, born := x.2.2 }

def pfind (q : Addr) : List (Addr × Value × Nat) → Nat → Option (Nat × Value)
  | [], _ => none
  | e :: es, i => if q = e.1 then some (i, e.2.1) else pfind q es (i + 1)

theorem pfind_none {q : Addr} : ∀ {L : List (Addr × Value × Nat)} {i : Nat}, (∀ e ∈ L, q ≠ e.1) → pfind q L i = none
  | [], _, _ => rfl
  | e :: es, i, h => by
    simp only [pfind]
    rw [if_neg (h e (by simp))]
    exact pfind_none (fun x hx => h x (by simp [hx]))

section
variable {P : Program} {T K E V : TypeId} {j : TypeInfo}

theorem run_equal_ptr (w : World) (hk : P.underlying K = some (.pointer E)) (hE : P.info? E = some j) (hsz : j.size ≠ 0) {a b : Addr} (ha : PAddr w a) (hb : PAddr w b) :
    (Op.equal K (.pointer (some a)) (.pointer (some b))).run P w = .ok (decide (a = b)) w := by
  by_cases h : a = b
  · subst h
    have h : ∀ d : Nat, (Op.equalIn (d + 1) K (.pointer (some a)) (.pointer (some a))).run P w = .ok true w := fun d => by
      simp [Op.equalIn, run_underlying hk, sizeOf, typeInfo, hE, run_sameAddr_same]
    have h1 := h 9999
    rw [decide_eq_true rfl]
    exact h1
  · obtain ⟨ca, ta, ha⟩ := ha
    obtain ⟨cb, tb, hb⟩ := hb
    have h1 : ∀ d : Nat, (Op.equalIn (d + 1) K (.pointer (some a)) (.pointer (some b))).run P w = .ok false w := fun d => by
      simp [Op.equalIn, run_underlying hk, sizeOf, typeInfo, hE, hsz, run_sameAddr_other w h ha hb]
    have h2 := h1 9999
    rw [decide_eq_false h]
    exact h2

theorem run_findAsking_ptr (w : World) (hk : P.underlying K = some (.pointer E)) (hE : P.info? E = some j) (hsz : j.size ≠ 0) {q : Addr} (hq : PAddr w q) :
    ∀ (L : List (Addr × Value × Nat)) (i : Nat), (∀ e ∈ L, PAddr w e.1) → (Instr.findAsking K (.pointer (some q)) (L.map mkEntry) i).run P w = .ok (pfind q L i) w
  | [], i, _ => by simp [Instr.findAsking, pfind]
  | e :: es, i, h => by
    have h1 := run_equal_ptr w hk hE hsz hq (h e (by simp))
    have h2 := run_findAsking_ptr w hk hE hsz hq es (i + 1) (fun x hx => h x (by simp [hx]))
    by_cases hqe : q = e.1
    · simp only [List.map_cons, Instr.findAsking, mkEntry, pfind, if_pos hqe, Sem.run_bind]
      rw [h1]
      simp [hqe]
    · simp only [List.map_cons, Instr.findAsking, mkEntry, pfind, if_neg hqe, Sem.run_bind]
      rw [h1]
      simp only [decide_eq_false hqe, Result.andThen_ok]
      exact h2

theorem run_findKey_ptr (w : World) (hk : P.underlying K = some (.pointer E)) (hE : P.info? E = some j) (hsz : j.size ≠ 0) {q : Addr} (hq : PAddr w q) (L : List (Addr × Value × Nat)) (h : ∀ e ∈ L, PAddr w e.1) :
    (Instr.findKey K (.pointer (some q)) (L.map mkEntry)).run P w = .ok (pfind q L 0) w := by
  cases L with
  | nil => simp [Instr.findKey, run_underlying hk, Instr.findNow, pfind]
  | cons e es =>
    have h1 := run_findAsking_ptr w hk hE hsz hq (e :: es) 0 h
    simp only [List.map_cons] at h1
    simp [Instr.findKey, run_underlying hk, Instr.findNow, Instr.sameNow, mkEntry] at h1 ⊢
    exact h1

theorem run_checkKey_ptr (w : World) (em : Bool) (n : Nat) (hk : P.underlying K = some (.pointer E)) (v : Value) : (Instr.checkKey em (n + 1) K v).run P w = .ok () w := by
  simp [Instr.checkKey, run_underlying hk]

def PMapIs (w : World) (b : Nat) (L : List (Addr × Value × Nat)) (clock : Nat) : Prop := w.heap[b]? = some (.map (L.map mkEntry).toArray clock)

theorem run_lookup_ptr (w : World) (hT : P.underlying T = some (.map K V)) (hk : P.underlying K = some (.pointer E)) (hE : P.info? E = some j) (hsz : j.size ≠ 0) {z : Value} {jv : TypeInfo} (hV : P.info? V = some jv) (hz : jv.zero = some z)
    {b : Nat} {L : List (Addr × Value × Nat)} {clock : Nat} (hm : PMapIs w b L clock) {q : Addr} (hq : PAddr w q) (h : ∀ e ∈ L, PAddr w e.1) :
    (Instr.lookup T (.map (some b)) (.pointer (some q)) false).run P w = .ok (((pfind q L 0).map (·.2)).getD z) w := by
  have h1 := run_findKey_ptr w hk hE hsz hq L h
  unfold PMapIs at hm
  cases hf : pfind q L 0 with
  | none =>
    rw [hf] at h1
    simp [Instr.lookup, run_underlying hT, getObj, Sem.run, hm, run_checkKey_ptr w _ 9999 hk, h1, zeroValue, typeInfo, hV, hz]
  | some r =>
    rw [hf] at h1
    simp [Instr.lookup, run_underlying hT, getObj, Sem.run, hm, run_checkKey_ptr w _ 9999 hk, h1]

theorem run_mapUpdate_new (w : World) (hT : P.underlying T = some (.map K V)) (hk : P.underlying K = some (.pointer E)) (hE : P.info? E = some j) (hsz : j.size ≠ 0)
    {b : Nat} {L : List (Addr × Value × Nat)} {clock : Nat} (hm : PMapIs w b L clock) {q : Addr} (hq : PAddr w q) (h : ∀ e ∈ L, PAddr w e.1) (hne : ∀ e ∈ L, q ≠ e.1) (v : Value) :
    (Instr.mapUpdate T (.map (some b)) (.pointer (some q)) v).run P w = .ok () { w with heap := w.heap.setIfInBounds b (.map ((L ++ [(q, v, clock)]).map mkEntry).toArray (clock + 1)) } := by
  have h1 := run_findKey_ptr w hk hE hsz hq L h
  rw [pfind_none hne] at h1
  unfold PMapIs at hm
  simp [Instr.mapUpdate, run_underlying hT, getObj, setObj, Sem.run, hm, run_checkKey_ptr w _ 9999 hk, h1, mkEntry]

end
end Go.Proofs.Ytepkigcbjepbpaa

/- A tree in memory with the addresses of its nodes; what one comes by on the way through it. -/
namespace Go.Proofs.Ytepkigcbjepbpaa
open Go.RowKit

inductive ATr where
  | mk (nb no : Nat) (ks : List Int) (cs : List ATr)

namespace ATr
def nb : ATr → Nat | .mk a _ _ _ => a
def no : ATr → Nat | .mk _ a _ _ => a
def ks : ATr → List Int | .mk _ _ k _ => k
def cs : ATr → List ATr | .mk _ _ _ c => c
def addr (a : ATr) : Addr := ⟨a.nb, a.no, none⟩
mutual
def tr : ATr → Tr
  | .mk _ _ k c => .mk k (trs c)
def trs : List ATr → List Tr
  | [] => []
  | a :: r => tr a :: trs r
end
theorem trs_length (c : List ATr) : (trs c).length = c.length := by
  induction c with
  | nil => rfl
  | cons a r ih => simp [trs, ih]
theorem trs_get (c : List ATr) (i : Nat) (h : i < c.length) : (trs c)[i]'(by rw [trs_length]; exact h) = c[i].tr := by
  induction c generalizing i with
  | nil => simp at h
  | cons a r ih =>
    cases i with
    | zero => rfl
    | succ i => simpa [trs] using ih i (by simpa using h)
def weight (a : ATr) : Nat := a.tr.weight
theorem weight_kid {a : ATr} {i : Nat} (h : i < a.cs.length) : a.cs[i].weight + a.cs.length ≤ a.weight := by
  cases a with
  | mk nb no k c =>
    have h' : i < c.length := h
    have h1 := Tr.weight_get_le (trs c) i (by rw [trs_length]; exact h')
    rw [trs_get c i h', trs_length] at h1
    have h2 : (ATr.mk nb no k c).weight = k.length + Tr.weights (trs c) := by simp [weight, tr, Tr.weight]
    show c[i].tr.weight + c.length ≤ _
    omega
theorem ks_le (a : ATr) : a.ks.length + a.cs.length ≤ a.weight := by
  cases a with
  | mk nb no k c =>
    have h1 := Tr.length_le_weights (trs c)
    rw [trs_length] at h1
    have h2 : (ATr.mk nb no k c).weight = k.length + Tr.weights (trs c) := by simp [weight, tr, Tr.weight]
    show k.length + c.length ≤ _
    omega
end ATr

inductive AT (w : World) : ATr → Prop where
  | mk (nb no : Nat) (ks : List Int) (cs : List ATr) (ka ha : Option Addr) (kc hc g go h ho : Nat)
      (hp : PAddr w ⟨nb, no, none⟩)
      (h0 : w.cell? ⟨nb, no, none⟩ = some (.slice ka ks.length kc))
      (h1 : w.cell? ⟨nb, no + 1, none⟩ = some (.slice ha cs.length hc))
      (hk : ∀ i, i < ks.length → w.cell? ⟨g, go + i, none⟩ = some (.int .i64 (ks.getD i 0)))
      (hn : ∀ i (hi : i < cs.length), cs[i].nb = h ∧ cs[i].no = ho + i * 2)
      (hkids : ∀ i (hi : i < cs.length), AT w cs[i])
      (e0 : ks.length = 0 ∨ ka = some ⟨g, go, none⟩) (e1 : cs.length = 0 ∨ ha = some ⟨h, ho, none⟩) : AT w (.mk nb no ks cs)

theorem AT.parts {w : World} {a : ATr} (h : AT w a) : ∃ ka ha kc hc g go h ho, PAddr w a.addr ∧ w.cell? ⟨a.nb, a.no, none⟩ = some (.slice ka a.ks.length kc) ∧
    w.cell? ⟨a.nb, a.no + 1, none⟩ = some (.slice ha a.cs.length hc) ∧ (∀ i, i < a.ks.length → w.cell? ⟨g, go + i, none⟩ = some (.int .i64 (a.ks.getD i 0))) ∧
    (∀ i (hi : i < a.cs.length), a.cs[i].nb = h ∧ a.cs[i].no = ho + i * 2) ∧ (∀ i (hi : i < a.cs.length), AT w a.cs[i]) ∧ (a.ks.length = 0 ∨ ka = some ⟨g, go, none⟩) ∧ (a.cs.length = 0 ∨ ha = some ⟨h, ho, none⟩) := by
  cases h with
  | mk nb no ks cs ka ha kc hc g go h ho hp h0 h1 hk hn hkids e0 e1 => exact ⟨ka, ha, kc, hc, g, go, h, ho, hp, h0, h1, hk, hn, hkids, e0, e1⟩

theorem AT.later {w w' : World} {a : ATr} (h : AT w a) (hb : ∀ k, k < w.heap.size → w'.heap[k]? = w.heap[k]?) : AT w' a := by
  have hcell : ∀ (b o : Nat) (v : Value), w.cell? ⟨b, o, none⟩ = some v → w'.cell? ⟨b, o, none⟩ = some v := fun b o v hv => by
    have := World.block_lt_of_cell? w _ hv
    rw [← hv]
    exact World.cell?_of_block (w := w) (a := ⟨b, o, none⟩) (hb b this)
  induction h with
  | mk nb no ks cs ka ha kc hc g go h ho hp h0 h1 hk hn hkids e0 e1 ih =>
    refine .mk nb no ks cs ka ha kc hc g go h ho ?_ (hcell _ _ _ h0) (hcell _ _ _ h1) (fun i hi => hcell _ _ _ (hk i hi)) hn ih e0 e1
    obtain ⟨c, t, hp⟩ := hp
    exact ⟨c, t, (hb _ (Array.getElem?_eq_some_iff.1 hp).1).trans hp⟩

theorem AT.one {w : World} {a : ATr} (h : AT w a) : ∀ {c : ATr}, AT w c → c.nb = a.nb → c.no = a.no → c = a := by
  induction h with
  | mk nb no ks cs ka ha kc hc g go h ho hp h0 h1 hk hn hkids e0 e1 ih =>
    intro c hcc f1 f2
    cases hcc with
    | mk nb' no' ks' cs' ka' ha' kc' hc' g' go' h' ho' hp' h0' h1' hk' hn' hkids' e0' e1' =>
      simp only [ATr.nb, ATr.no] at f1 f2
      subst f1 f2
      rw [h0] at h0'
      rw [h1] at h1'
      simp only [Option.some.injEq, Value.slice.injEq] at h0' h1'
      obtain ⟨m1, l1, _⟩ := h0'
      obtain ⟨m2, l2, _⟩ := h1'
      have ek : ks' = ks := by
        apply List.ext_getElem l1.symm
        intro i i1 i2
        have a1 := hk i i2
        have a2 := hk' i i1
        have d1 := e0.resolve_left (by omega)
        have d2 := e0'.resolve_left (by omega)
        rw [d1, d2] at m1
        simp only [Option.some.injEq, Addr.mk.injEq, and_true] at m1
        obtain ⟨rfl, rfl⟩ := m1
        rw [a1] at a2
        simp only [Option.some.injEq, Value.int.injEq, true_and] at a2
        simpa [List.getD_eq_getElem?_getD, i1, i2] using a2.symm
      have ec : cs' = cs := by
        apply List.ext_getElem l2.symm
        intro i i1 i2
        have b1 := hn i i2
        have b2 := hn' i i1
        have d1 := e1.resolve_left (by omega)
        have d2 := e1'.resolve_left (by omega)
        rw [d1, d2] at m2
        simp only [Option.some.injEq, Addr.mk.injEq, and_true] at m2
        obtain ⟨rfl, rfl⟩ := m2
        exact ih i i2 (hkids' i i1) (by rw [b1.1, b2.1]) (by rw [b1.2, b2.2])
      rw [ek, ec]

theorem AT.of_p {w : World} {P : Nat → Prop} {kv cv : Value} {t : Tr} (h : TreeQ w P kv cv t) : ∀ (nb no : Nat), PAddr w ⟨nb, no, none⟩ → w.cell? ⟨nb, no, none⟩ = some kv → w.cell? ⟨nb, no + 1, none⟩ = some cv →
    ∃ a : ATr, a.nb = nb ∧ a.no = no ∧ a.tr = t ∧ AT w a := by
  induction h with
  | mk ks cs kv a cap kvs cvs hk hlen hcap hat hkids ih =>
    intro nb no hp h0 h1
    obtain ⟨ka, kcap, rfl, k1, k2, k3, k4⟩ := hk
    obtain ⟨g, go, hkc, e0⟩ : ∃ g go, (∀ i, i < ks.length → w.cell? ⟨g, go + i, none⟩ = some (.int .i64 (ks.getD i 0))) ∧ (ks.length = 0 ∨ ka = some ⟨g, go, none⟩) := by
      rcases k4 with k4 | ⟨b, o, k5, k6, k7⟩
      · exact ⟨0, 0, fun i hi => by rw [k4] at hi; simp at hi, .inl (by rw [k4]; rfl)⟩
      · exact ⟨b, o, k7, .inr k5⟩
    obtain ⟨hh, ho, hkk, e1⟩ : ∃ hh ho, (∀ i (hi : i < cs.length), ∃ a : ATr, a.nb = hh ∧ a.no = ho + i * 2 ∧ a.tr = cs[i] ∧ AT w a) ∧ (cs.length = 0 ∨ a = some ⟨hh, ho, none⟩) := by
      rcases hat with h2 | ⟨b, o, h2, h3, h4⟩
      · exact ⟨0, 0, fun i hi => by omega, .inl h2⟩
      · exact ⟨b, o, fun i hi => ih i hi b (o + i * 2) h3.2 (h4 i hi).1 (h4 i hi).2, .inr h2⟩
    let f : Nat → ATr := fun i => if hi : i < cs.length then (hkk i hi).choose else .mk 0 0 [] []
    have hf : ∀ i (hi : i < cs.length), (f i).nb = hh ∧ (f i).no = ho + i * 2 ∧ (f i).tr = cs[i] ∧ AT w (f i) := fun i hi => by
      show (if hi : i < cs.length then (hkk i hi).choose else ATr.mk 0 0 [] []).nb = hh ∧ _
      simp only [f, dif_pos hi]
      exact (hkk i hi).choose_spec
    have hln : ((List.range cs.length).map f).length = cs.length := by simp
    refine ⟨.mk nb no ks ((List.range cs.length).map f), rfl, rfl, ?_, ?_⟩
    · simp only [ATr.tr]
      congr 1
      apply List.ext_getElem
      · rw [ATr.trs_length, hln]
      · intro i i1 i2
        rw [ATr.trs_get _ i (by rw [hln]; exact i2)]
        simp only [List.getElem_map, List.getElem_range]
        exact (hf i i2).2.2.1
    · refine .mk nb no ks _ ka a kcap cap g go hh ho hp h0 (by rw [hln]; exact h1) hkc (fun i hi => ?_) (fun i hi => ?_) e0 (by rw [hln]; exact e1)
      · rw [hln] at hi
        simp only [List.getElem_map, List.getElem_range]
        exact ⟨(hf i hi).1, (hf i hi).2.1⟩
      · rw [hln] at hi
        simp only [List.getElem_map, List.getElem_range]
        exact (hf i hi).2.2.2

def TreeA (w : World) (kv cv : Value) (t : Tr) : Prop := TreeQ w (fun k => k < w.heap.size) kv cv t
theorem TreeQ.a {w : World} {P : Nat → Prop} {kv cv : Value} {t : Tr} (h : TreeQ w P kv cv t) (hP : ∀ k, P k → k < w.heap.size) : TreeA w kv cv t := h.same (fun _ _ => rfl) hP
theorem TreeA.later {w w' : World} {C : Nat} {kv cv : Value} {t : Tr} (h : TreeA w kv cv t) (hb : Below C w w') (hC : w.heap.size ≤ C) : TreeA w' kv cv t :=
  TreeQ.same h (fun k e => hb.block k (by have : k < w.heap.size := e; omega)) (fun k e => Nat.lt_of_lt_of_le e hb.size)
theorem TreeA.tree {w : World} {kv cv : Value} {t : Tr} (h : TreeA w kv cv t) : TreeIn w w.heap.size kv cv t := TreeQ.tree h (fun _ e => e)
theorem TreeA.slices {w : World} {kv cv : Value} {t : Tr} (h : TreeA w kv cv t) : ∃ a n c a' n' c', kv = .slice a n c ∧ cv = .slice a' n' c' := TreeQ.slices h
theorem TreeA.at {w : World} {kv cv : Value} {t : Tr} (h : TreeA w kv cv t) : ∀ (nb no : Nat), PAddr w ⟨nb, no, none⟩ → w.cell? ⟨nb, no, none⟩ = some kv → w.cell? ⟨nb, no + 1, none⟩ = some cv →
    ∃ a : ATr, a.nb = nb ∧ a.no = no ∧ a.tr = t ∧ AT w a := AT.of_p h
end Go.Proofs.Ytepkigcbjepbpaa
