/- Bytes in memory, and the reader that the model opens over them. -/
import Derived.Test.YticfkfjijnfcbaaDoorCu0
/- The contracts of the model's draws: num, l1Least, l1Most, l1Sample. -/
namespace Go.Proofs.YticfkfjijnfcbaaDoor
open Go.RowKit
structure Only (C r : Nat) (w w' : World) : Prop where
 os : w'.os = w.os
 tape : w'.tape = w.tape
 output : w'.output = w.output
 size : w.heap.size ≤ w'.heap.size
 block : ∀ k, k < C → k ≠ r → w'.heap[k]? = w.heap[k]?
theorem Only.refl (C r : Nat) (w : World) : Only C r w w := ⟨rfl, rfl, rfl, Nat.le_refl _, fun _ _ _ => rfl⟩
theorem Only.trans {C r : Nat} {a b c : World} (h : Only C r a b) (k : Only C r b c) : Only C r a c :=
 ⟨k.os.trans h.os, k.tape.trans h.tape, k.output.trans h.output, Nat.le_trans h.size k.size, fun i h1 h2 => (k.block i h1 h2).trans (h.block i h1 h2)⟩
theorem below_only {C r : Nat} {a b : World} (h : Below C a b) : Only C r a b := ⟨h.os, h.tape, h.output, h.size, fun k h1 _ => h.block k h1⟩
theorem Only.below {C r B : Nat} {a b : World} (h : Only C r a b) (hB : B ≤ C) (hr : B ≤ r) : Below B a b := ⟨h.os, h.tape, h.output, h.size, fun k hk => h.block k (by omega) (by omega)⟩
theorem Only.mono {C C' r : Nat} {a b : World} (h : Only C r a b) (hC : C' ≤ C) : Only C' r a b := ⟨h.os, h.tape, h.output, h.size, fun k hk hr => h.block k (by omega) hr⟩
theorem Only.picked (C r p : Nat) (w : World) (m : Nat) : Only C r w ((w.setCell ⟨r, 1, none⟩ (.int .i64 (p + 1))).drewN m) :=
 ⟨rfl, rfl, rfl, by simp [World.drewN, World.setCell], fun k _ hr => set_other w r 1 _ k hr⟩
theorem Rd.later {w w' : World} {B C r p : Nat} {bs : List Nat} (h : Rd w B r bs p) (hb : Below C w w') (hr : r < C) : Rd w' B r bs p := by
 obtain ⟨a, cap, hblk, hlen, hby, hBr, hat⟩ := h
 refine ⟨a, cap, (hb.block r hr).trans hblk, hlen, hby, hBr, ?_⟩
 rcases hat with h | ⟨b, o, h1, h2, h3⟩
 · exact .inl h
 · exact .inr ⟨b, o, h1, h2, fun i hi => by rw [below_cell hb (by omega)]; exact h3 i hi⟩
theorem Rd.lt {w : World} {B r p : Nat} {bs : List Nat} (h : Rd w B r bs p) : r < w.heap.size := by
 obtain ⟨a, cap, hblk, _⟩ := h
 exact (Array.getElem?_eq_some_iff.1 hblk).1
theorem IntsOwn.only {w w' : World} {lo C r : Nat} {v : Value} {ks : List Int} (h : IntsOwn w lo v ks) (hb : Only C r w w') (hC : w.heap.size ≤ C) (hr : r < lo) : IntsOwn w' lo v ks := by
 obtain ⟨h1, h2 | ⟨g, cap, cur, hv, hbb, hg, hrr⟩⟩ := h
 · exact ⟨h1, .inl h2⟩
 · exact ⟨h1, .inr ⟨g, cap, cur, hv, hbb, (hb.block g (by have := (Array.getElem?_eq_some_iff.1 hg).1; omega) (by omega)).trans hg, hrr⟩⟩
def Nummed (w : World) (r p : Nat) (ks : List Int) (e : Ending) (w' : World) : Prop :=
 ∃ (i m : Nat), i < ks.length ∧ e = .returned (.int .i64 (ks.getD i 0)) ∧ w' = (w.setCell ⟨r, 1, none⟩ (.int .i64 (p + 1))).drewN m
theorem num_c (w : World) (B r : Nat) (bs : List Nat) (p : Nat) (b : Nat) (ks : List Int) (cap : Nat) (h : Rd w B r bs p) (hp : p ≤ 1000000000) (hbr : b ≠ r) (hk0 : 1 ≤ ks.length) (hk1 : ks.length ≤ 1000)
   (hat : ∀ i, i < ks.length → w.cell? ⟨b, i, none⟩ = some (.int .i64 (ks.getD i 0))) :
   Calls Tryd.prog 97 #[.pointer (some ⟨r, 0, none⟩), .slice (some ⟨b, 0, none⟩) ks.length cap] w (Nummed w r p ks) := by
 have HR := Lib.hid h
 have HAT := Lib.hid hat
 clear h hat
 go_enter Tryd.func97, Tryd.ntmps97
 go_wp2_with fail
 refine (pick_c w B r bs p ks.length HR.out hp (by omega) (by omega)).mono ?_
 rintro e w1 ⟨x, m, rfl, hx0, hx1, _, rfl⟩
 obtain ⟨i, rfl⟩ := Int.eq_ofNat_of_zero_le hx0
 have hi : i < ks.length := by have := hx1 (by omega); omega
 have hc : ((w.setCell ⟨r, 1, none⟩ (.int .i64 (p + 1))).drewN m).cell? ⟨b, i, none⟩ = some (.int .i64 (ks.getD i 0)) := by
   show (w.setCell ⟨r, 1, none⟩ (.int .i64 (p + 1))).cell? ⟨b, i, none⟩ = _
   rw [World.cell?_of_block (w := w) (a := ⟨b, i, none⟩) (set_other _ _ _ _ _ hbr)]; exact HAT.out i hi
 generalize hW : (w.setCell ⟨r, 1, none⟩ (.int .i64 (p + 1))).drewN m = W at hc ⊢
 have HW := Lib.hid hW
 clear hW hx1 hx0
 generalize hy : ks.getD i 0 = y at hc
 have HY := Lib.hid hy
 clear hy
 go_wp2_with fail
 go_ret
 exact ⟨i, m, hi, by rw [HY.out]; rfl, HW.out.symm⟩
def leastN (wide : Nat) : Nat → Nat
 | 0 => 0
 | d + 1 => wide / 2 + (wide / 2 + 1) * leastN wide d
def mostN (wide : Nat) : Nat → Nat
 | 0 => 0
 | d + 1 => wide + (wide + 1) * mostN wide d
def lowN (wide d : Nat) : Nat := if 1 < d then 1 + 2 * leastN wide (d - 1) else 0
theorem leastN_le_mostN (wide d : Nat) : leastN wide d ≤ mostN wide d := by
 induction d with
 | zero => exact Nat.le_refl _
 | succ d ih =>
   simp only [leastN, mostN]
   have h1 : wide / 2 ≤ wide := Nat.div_le_self _ _
   have h2 := Nat.mul_le_mul (show wide / 2 + 1 ≤ wide + 1 by omega) ih
   omega
theorem mostN_bound (wide d : Nat) (hw : wide ≤ 6) (_hd : d ≤ 8) : mostN wide d ≤ 7 ^ d - 1 := by
 have h : ∀ d, mostN wide d + 1 ≤ 7 ^ d := by
   intro d
   induction d with
   | zero => simp [mostN]
   | succ d ih =>
     simp only [mostN, Nat.pow_succ]
     have h2 := Nat.mul_le_mul (show wide + 1 ≤ 7 by omega) ih
     rw [Nat.mul_add] at h2
     omega
 have := h d
 omega
theorem l1Most_c (wide : Nat) (hw : wide ≤ 6) (d : Nat) : ∀ (w : World), d ≤ 8 →
   Calls Tryd.prog 137 #[.int .i64 wide, .int .i64 d] w fun e w' => e = .returned (.int .i64 (mostN wide d)) ∧ w = w' := by
 induction d with
 | zero =>
   intro w _
   go_enter Tryd.func137, Tryd.ntmps137
   go_wp2_with fail
   go_ret
   exact ⟨rfl, rfl⟩
 | succ d ih =>
   intro w hd
   have hm := mostN_bound wide d hw (by omega)
   have h7 : 7 ^ d ≤ 7 ^ 8 := Nat.pow_le_pow_right (by omega) (by omega)
   have hm2 : mostN wide d ≤ 5764801 := by omega
   have hne : (((d + 1 : Nat) : Int) == 0) = false := beq_eq_false_iff_ne.2 (by omega)
   have hfin : (wide : Int) + (wide + 1) * (mostN wide d : Int) = (mostN wide (d + 1) : Int) := by simp only [mostN]; push_cast; rfl
   have hsub : (((d + 1 : Nat) : Int) - 1) = (d : Int) := by omega
   have hp0 : (0 : Int) ≤ ((wide : Int) + 1) * (mostN wide d : Int) := Int.mul_nonneg (by omega) (by omega)
   have hp1 : ((wide : Int) + 1) * (mostN wide d : Int) ≤ 7 * 5764801 := Int.mul_le_mul (by omega) (by omega) (by omega) (by omega)
   have HF := Lib.hid hfin
   have HC := Lib.hid (ih w (by omega))
   clear hfin hm h7 ih
   generalize mostN wide d = M at HC HF hm2 hp0 hp1
   go_enter Tryd.func137, Tryd.ntmps137
   go_wp2_with fail
   refine HC.out.mono ?_
   rintro e w1 ⟨rfl, rfl⟩
   go_wp2_with fail
   go_ret
   exact ⟨ret_int HF.out, rfl⟩
theorem l1Least_c (wide : Nat) (hw : wide ≤ 6) (d : Nat) : ∀ (w : World), d ≤ 8 →
   Calls Tryd.prog 136 #[.int .i64 wide, .int .i64 d] w fun e w' => e = .returned (.int .i64 (leastN wide d)) ∧ w = w' := by
 induction d with
 | zero =>
   intro w _
   go_enter Tryd.func136, Tryd.ntmps136
   go_wp2_with fail
   go_ret
   exact ⟨rfl, rfl⟩
 | succ d ih =>
   intro w hd
   have hm := mostN_bound wide d hw (by omega)
   have hlm := leastN_le_mostN wide d
   have h7 : 7 ^ d ≤ 7 ^ 8 := Nat.pow_le_pow_right (by omega) (by omega)
   have hm2 : leastN wide d ≤ 5764801 := by omega
   have hne : (((d + 1 : Nat) : Int) == 0) = false := beq_eq_false_iff_ne.2 (by omega)
   have hfin : (wide : Int) / 2 + ((wide : Int) / 2 + 1) * (leastN wide d : Int) = (leastN wide (d + 1) : Int) := by simp only [leastN]; push_cast; rfl
   have hsub : (((d + 1 : Nat) : Int) - 1) = (d : Int) := by omega
   have hp0 : (0 : Int) ≤ ((wide : Int) / 2 + 1) * (leastN wide d : Int) := Int.mul_nonneg (by omega) (by omega)
   have hp1 : ((wide : Int) / 2 + 1) * (leastN wide d : Int) ≤ 7 * 5764801 := Int.mul_le_mul (by omega) (by omega) (by omega) (by omega)
   have HF := Lib.hid hfin
   have HC := Lib.hid (ih w (by omega))
   clear hfin hm h7 ih hlm
   generalize leastN wide d = M at HC HF hm2 hp0 hp1
   go_enter Tryd.func136, Tryd.ntmps136
   go_wp2_with fail
   refine HC.out.mono ?_
   rintro e w1 ⟨rfl, rfl⟩
   go_wp2_with fail
   go_ret
   exact ⟨ret_int HF.out, rfl⟩
end Go.Proofs.YticfkfjijnfcbaaDoor
/- Bytes in memory, and the reader that the model opens over them. -/
namespace Go.Proofs.YticfkfjijnfcbaaDoor
open Go.RowKit
theorem cellB {w w' : World} {b o : Nat} (h : w'.heap[b]? = w.heap[b]?) : w'.cell? ⟨b, o, none⟩ = w.cell? ⟨b, o, none⟩ := World.cell?_of_block (w := w) (a := ⟨b, o, none⟩) h
def BytesIn (w : World) (B : Nat) (v : Value) (bs : List Nat) : Prop :=
 ∃ (a : Option Addr) (cap : Nat), v = .slice a bs.length cap ∧ bs.length ≤ cap ∧ cap ≤ maxLen ∧ (∀ x ∈ bs, x < 256) ∧
   (bs = [] ∨ ∃ b o, a = some ⟨b, o, none⟩ ∧ b < B ∧ ∀ i, i < bs.length → w.cell? ⟨b, o + i, none⟩ = some (.int .u8 (bs.getD i 0 : Nat)))
set_option maxHeartbeats 1000000 in
set_option maxRecDepth 100000 in
theorem open_c {w : World} {B : Nat} {v : Value} {bs : List Nat} (h : BytesIn w B v bs) (w' : World) (hbw : Below B w w') (hB : B ≤ w'.heap.size) :
   Calls Tryd.prog 84 #[v] w' fun e w'' => e = .returned (.pointer (some ⟨w'.heap.size, 0, none⟩)) ∧ (∃ bs', Rd w'' w'.heap.size w'.heap.size bs' 0) ∧ Below w'.heap.size w' w'' := by
 obtain ⟨a, cap, rfl, hl, hm, h256, hat⟩ := h
 unfold maxLen at hm
 have HAT := Lib.hid hat
 have H256 := Lib.hid h256
 have HBW := Lib.hid hbw
 clear hat h256 hbw
 by_cases h2 : bs.length ≤ 2000
 · have h2' : ¬ ((bs.length : Int) > 2000) := by omega
   go_enter Tryd.func84, Tryd.ntmps84
   go_wp2_with fail
   go_ret
   refine ⟨rfl, ⟨bs, a, cap, new_blk _ _, h2, H256.out, Nat.le_refl _, ?_⟩, (Below.refl _ _).alloc (Nat.le_refl _) _⟩
   rcases HAT.out with h | ⟨b, o, h5, h6, h7⟩
   · exact .inl h
   · refine .inr ⟨b, o, h5, by omega, fun i hi => ?_⟩
     rw [cellB (old_blk _ _ b (by omega)), below_cell HBW.out h6]
     exact h7 i hi
 · have h2' : ((bs.length : Int) > 2000) := by omega
   have hcap : (2000 : Int) ≤ (cap : Int) := by omega
   have hl2 : (bs.take 2000).length = 2000 := by simp; omega
   rcases HAT.out with h | ⟨b, o, rfl, h6, h7⟩
   · rw [h] at h2; simp at h2
   have H7 := Lib.hid h7
   have HL2 := Lib.hid hl2
   clear h7 hl2
   go_enter Tryd.func84, Tryd.ntmps84
   go_wp2_with fail
   go_ret
   refine ⟨rfl, ⟨bs.take 2000, _, cap, by rw [HL2.out]; exact new_blk _ _, by rw [HL2.out]; omega, fun x hx => H256.out x (List.mem_of_mem_take hx), Nat.le_refl _, .inr ⟨b, o, rfl, by omega, fun i hi => ?_⟩⟩, (Below.refl _ _).alloc (Nat.le_refl _) _⟩
   rw [HL2.out] at hi
   rw [cellB (old_blk _ _ b (by omega)), below_cell HBW.out h6, H7.out i (by omega)]
   simp [List.getD_eq_getElem?_getD, hi]
end Go.Proofs.YticfkfjijnfcbaaDoor
