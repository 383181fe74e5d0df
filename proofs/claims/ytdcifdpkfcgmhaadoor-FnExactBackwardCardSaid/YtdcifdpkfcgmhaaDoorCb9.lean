/- A walker's stack: isIndex and push. -/
import Derived.Test.YtdcifdpkfcgmhaaDoorProg
import Derived.Test.YtdcifdpkfcgmhaaDoorCbS1
import Derived.Test.YtdcifdpkfcgmhaaDoorCb0
import Derived.Test.YtdcifdpkfcgmhaaDoorCb8
import Derived.Test.YtdcifdpkfcgmhaaDoorCb2
import Derived.Deep.RegionHeld3
import Derived.Deep.QuietTactic
import Derived.BigQuiet
import Derived.StillTailTactics

/- The contracts of the model's draws: num, l1Least, l1Most, l1Sample. -/
namespace Go.Proofs.YtdcifdpkfcgmhaaDoor
open Go.RowKit

/-- Below block C nothing has turned but block r. -/
structure Only (C r : Nat) (w w' : World) : Prop where
  os : w'.os = w.os
  tape : w'.tape = w.tape
  output : w'.output = w.output
  size : w.heap.size ≤ w'.heap.size
  block : ∀ k, k < C → k ≠ r → w'.heap[k]? = w.heap[k]?

theorem Only.refl (C r : Nat) (w : World) : Only C r w w := ⟨rfl, rfl, rfl, Nat.le_refl _, fun _ _ _ => rfl⟩
theorem Only.trans {C r : Nat} {a b c : World} (h : Only C r a b) (k : Only C r b c) : Only C r a c :=
  ⟨k.os.trans h.os, k.tape.trans h.tape, k.output.trans h.output, Nat.le_trans h.size k.size, fun i h1 h2 => (k.block i h1 h2).trans (h.block i h1 h2)⟩
theorem below_only {C r : Nat} {a b : World} (h : Below C a b) : Only C r a b := ⟨h.os, h.tape, h.output, h.size, fun k h1 _ => h.block k h1⟩
theorem Only.below {C r B : Nat} {a b : World} (h : Only C r a b) (hB : B ≤ C) (hr : B ≤ r) : Below B a b := ⟨h.os, h.tape, h.output, h.size, fun k hk => h.block k (by omega) (by omega)⟩
theorem Only.mono {C C' r : Nat} {a b : World} (h : Only C r a b) (hC : C' ≤ C) : Only C' r a b := ⟨h.os, h.tape, h.output, h.size, fun k hk hr => h.block k (by omega) hr⟩
theorem Only.picked (C r p : Nat) (w : World) (m : Nat) : Only C r w ((w.setCell ⟨r, 1, none⟩ (.int .i64 (p + 1))).drewN m) :=
  ⟨rfl, rfl, rfl, by simp [World.drewN, World.setCell], fun k _ hr => set_other w r 1 _ k hr⟩

theorem Rd.later {w w' : World} {B C r p : Nat} {bs : List Nat} (h : Rd w B r bs p) (hb : Below C w w') (hr : r < C) : Rd w' B r bs p := by
  obtain ⟨a, cap, hblk, hlen, hby, hBr, hat⟩ := h
  refine ⟨a, cap, (hb.block r hr).trans hblk, hlen, hby, hBr, ?_⟩
  rcases hat with h | ⟨b, o, h1, h2, h3⟩
  · exact .inl h
  · exact .inr ⟨b, o, h1, h2, fun i hi => by rw [below_cell hb (by omega)]; exact h3 i hi⟩

theorem Rd.lt {w : World} {B r p : Nat} {bs : List Nat} (h : Rd w B r bs p) : r < w.heap.size := by
  obtain ⟨a, cap, hblk, _⟩ := h
  exact (Array.getElem?_eq_some_iff.1 hblk).1

/-- A row of ints that another block's cell does not touch. -/
theorem IntsOwn.only {w w' : World} {lo C r : Nat} {v : Value} {ks : List Int} (h : IntsOwn w lo v ks) (hb : Only C r w w') (hC : w.heap.size ≤ C) (hr : r < lo) : IntsOwn w' lo v ks := by
  obtain ⟨h1, h2 | ⟨g, cap, cur, hv, hbb, hg, hrr⟩⟩ := h
  · exact ⟨h1, .inl h2⟩
  · exact ⟨h1, .inr ⟨g, cap, cur, hv, hbb, (hb.block g (by have := (Array.getElem?_eq_some_iff.1 hg).1; omega) (by omega)).trans hg, hrr⟩⟩

/-- What num leaves. -/
def Nummed (w : World) (r p : Nat) (ks : List Int) (e : Ending) (w' : World) : Prop :=
  ∃ (i m : Nat), i < ks.length ∧ e = .returned (.int .i64 (ks.getD i 0)) ∧ w' = (w.setCell ⟨r, 1, none⟩ (.int .i64 (p + 1))).drewN m

theorem num_c (w : World) (B r : Nat) (bs : List Nat) (p : Nat) (b : Nat) (ks : List Int) (cap : Nat) (h : Rd w B r bs p) (hp : p ≤ 1000000000) (hbr : b ≠ r) (hk0 : 1 ≤ ks.length) (hk1 : ks.length ≤ 1000)
    (hat : ∀ i, i < ks.length → w.cell? ⟨b, i, none⟩ = some (.int .i64 (ks.getD i 0))) :
    Calls Tryd.prog 95 #[.pointer (some ⟨r, 0, none⟩), .slice (some ⟨b, 0, none⟩) ks.length cap] w (Nummed w r p ks) := by
  have HR := Lib.hid h
  have HAT := Lib.hid hat
  clear h hat
  go_enter Tryd.func95, Tryd.ntmps95
  go_wp2_with fail
  refine (pick_c w B r bs p ks.length HR.out hp (by omega) (by omega)).mono ?_
  rintro e w1 ⟨x, m, rfl, hx0, hx1, _, rfl⟩
  obtain ⟨i, rfl⟩ := Int.eq_ofNat_of_zero_le hx0
  have hi : i < ks.length := by have := hx1 (by omega); omega
  have hc : ((w.setCell ⟨r, 1, none⟩ (.int .i64 (p + 1))).drewN m).cell? ⟨b, i, none⟩ = some (.int .i64 (ks.getD i 0)) := by
    show (w.setCell ⟨r, 1, none⟩ (.int .i64 (p + 1))).cell? ⟨b, i, none⟩ = _
    rw [World.cell?_of_block (w := w) (a := ⟨b, i, none⟩) (set_other _ _ _ _ _ hbr)]; exact HAT.out i hi
  generalize hW : (w.setCell ⟨r, 1, none⟩ (.int .i64 (p + 1))).drewN m = W at hc ⊢
  have HW := Lib.hid hW
  clear hW hx1 hx0
  generalize hy : ks.getD i 0 = y at hc
  have HY := Lib.hid hy
  clear hy
  go_wp2_with fail
  go_ret
  exact ⟨i, m, hi, by rw [HY.out]; rfl, HW.out.symm⟩

/-- As few keys as a kid has, and as many. -/
def leastN (wide : Nat) : Nat → Nat
  | 0 => 0
  | d + 1 => wide / 2 + (wide / 2 + 1) * leastN wide d
def mostN (wide : Nat) : Nat → Nat
  | 0 => 0
  | d + 1 => wide + (wide + 1) * mostN wide d
/-- How few keys a tree has that is so deep. -/
def lowN (wide d : Nat) : Nat := if 1 < d then 1 + 2 * leastN wide (d - 1) else 0
theorem leastN_le_mostN (wide d : Nat) : leastN wide d ≤ mostN wide d := by
  induction d with
  | zero => exact Nat.le_refl _
  | succ d ih =>
    simp only [leastN, mostN]
    have h1 : wide / 2 ≤ wide := Nat.div_le_self _ _
    have h2 := Nat.mul_le_mul (show wide / 2 + 1 ≤ wide + 1 by omega) ih
    omega
theorem mostN_bound (wide d : Nat) (hw : wide ≤ 6) (_hd : d ≤ 8) : mostN wide d ≤ 7 ^ d - 1 := by
  have h : ∀ d, mostN wide d + 1 ≤ 7 ^ d := by
    intro d
    induction d with
    | zero => simp [mostN]
    | succ d ih =>
      simp only [mostN, Nat.pow_succ]
      have h2 := Nat.mul_le_mul (show wide + 1 ≤ 7 by omega) ih
      rw [Nat.mul_add] at h2
      omega
  have := h d
  omega

theorem l1Most_c (wide : Nat) (hw : wide ≤ 6) (d : Nat) : ∀ (w : World), d ≤ 8 →
    Calls Tryd.prog 133 #[.int .i64 wide, .int .i64 d] w fun e w' => e = .returned (.int .i64 (mostN wide d)) ∧ w = w' := by
  induction d with
  | zero =>
    intro w _
    go_enter Tryd.func133, Tryd.ntmps133
    go_wp2_with fail
    go_ret
    exact ⟨rfl, rfl⟩
  | succ d ih =>
    intro w hd
    have hm := mostN_bound wide d hw (by omega)
    have h7 : 7 ^ d ≤ 7 ^ 8 := Nat.pow_le_pow_right (by omega) (by omega)
    have hm2 : mostN wide d ≤ 5764801 := by omega
    have hne : (((d + 1 : Nat) : Int) == 0) = false := beq_eq_false_iff_ne.2 (by omega)
    have hfin : (wide : Int) + (wide + 1) * (mostN wide d : Int) = (mostN wide (d + 1) : Int) := by simp only [mostN]; push_cast; rfl
    have hsub : (((d + 1 : Nat) : Int) - 1) = (d : Int) := by omega
    have hp0 : (0 : Int) ≤ ((wide : Int) + 1) * (mostN wide d : Int) := Int.mul_nonneg (by omega) (by omega)
    have hp1 : ((wide : Int) + 1) * (mostN wide d : Int) ≤ 7 * 5764801 := Int.mul_le_mul (by omega) (by omega) (by omega) (by omega)
    have HF := Lib.hid hfin
    have HC := Lib.hid (ih w (by omega))
    clear hfin hm h7 ih
    generalize mostN wide d = M at HC HF hm2 hp0 hp1
    go_enter Tryd.func133, Tryd.ntmps133
    go_wp2_with fail
    refine HC.out.mono ?_
    rintro e w1 ⟨rfl, rfl⟩
    go_wp2_with fail
    go_ret
    exact ⟨ret_int HF.out, rfl⟩

theorem l1Least_c (wide : Nat) (hw : wide ≤ 6) (d : Nat) : ∀ (w : World), d ≤ 8 →
    Calls Tryd.prog 132 #[.int .i64 wide, .int .i64 d] w fun e w' => e = .returned (.int .i64 (leastN wide d)) ∧ w = w' := by
  induction d with
  | zero =>
    intro w _
    go_enter Tryd.func132, Tryd.ntmps132
    go_wp2_with fail
    go_ret
    exact ⟨rfl, rfl⟩
  | succ d ih =>
    intro w hd
    have hm := mostN_bound wide d hw (by omega)
    have hlm := leastN_le_mostN wide d
    have h7 : 7 ^ d ≤ 7 ^ 8 := Nat.pow_le_pow_right (by omega) (by omega)
    have hm2 : leastN wide d ≤ 5764801 := by omega
    have hne : (((d + 1 : Nat) : Int) == 0) = false := beq_eq_false_iff_ne.2 (by omega)
    have hfin : (wide : Int) / 2 + ((wide : Int) / 2 + 1) * (leastN wide d : Int) = (leastN wide (d + 1) : Int) := by simp only [leastN]; push_cast; rfl
    have hsub : (((d + 1 : Nat) : Int) - 1) = (d : Int) := by omega
    have hp0 : (0 : Int) ≤ ((wide : Int) / 2 + 1) * (leastN wide d : Int) := Int.mul_nonneg (by omega) (by omega)
    have hp1 : ((wide : Int) / 2 + 1) * (leastN wide d : Int) ≤ 7 * 5764801 := Int.mul_le_mul (by omega) (by omega) (by omega) (by omega)
    have HF := Lib.hid hfin
    have HC := Lib.hid (ih w (by omega))
    clear hfin hm h7 ih hlm
    generalize leastN wide d = M at HC HF hm2 hp0 hp1
    go_enter Tryd.func132, Tryd.ntmps132
    go_wp2_with fail
    refine HC.out.mono ?_
    rintro e w1 ⟨rfl, rfl⟩
    go_wp2_with fail
    go_ret
    exact ⟨ret_int HF.out, rfl⟩
end Go.Proofs.YtdcifdpkfcgmhaaDoor

/- A walker's stack: isIndex and push. -/
namespace Go.Proofs.YtdcifdpkfcgmhaaDoor
open Go.RowKit

theorem isIndex_c (n : Int) (c : Nat) (w : World) :
    Calls Tryd.prog 109 #[.int .i64 n, .int .i64 c] w fun e w' => e = .returned (.bool (inB n 0 ((c : Int) - 1))) ∧ w' = w := by
  obtain ⟨C, hC⟩ : ∃ C : Int, C = c := ⟨_, rfl⟩
  rw [← hC]
  clear hC
  by_cases h0 : 0 ≤ n
  · by_cases h1 : n < C
    · have HE := Lib.hid (inB_true h0 (show n ≤ C - 1 by omega))
      go_enter Tryd.func109, Tryd.ntmps109
      go_wp2_with fail
      go_ret
      exact ⟨by rw [HE.out]; rfl, rfl⟩
    · have HE := Lib.hid (inB_false (n := n) (lo := 0) (hi := C - 1) (by omega))
      go_enter Tryd.func109, Tryd.ntmps109
      go_wp2_with fail
      go_ret
      exact ⟨by rw [HE.out]; rfl, rfl⟩
  · have HE := Lib.hid (inB_false (n := n) (lo := 0) (hi := C - 1) (by omega))
    go_enter Tryd.func109, Tryd.ntmps109
    go_wp2_with fail
    go_ret
    exact ⟨by rw [HE.out]; rfl, rfl⟩

/-- A walker: its six joints and how deep it stands. -/
structure Walker (w : World) (b : Nat) (f : Nat → Value × Int) (D : Nat) : Prop where
  blk : ∃ C : Array Value, w.heap[b]? = some (.cells C 125 (0, 0)) ∧ C.size = 13 ∧ C[12]? = some (.int .i64 D) ∧ ∀ i, i < D → C[2 * i]? = some (f i).1 ∧ C[2 * i + 1]? = some (.int .i64 (f i).2)

set_option maxHeartbeats 1000000 in
set_option maxRecDepth 100000 in
theorem push_c {w : World} {b D : Nat} {f : Nat → Value × Int} (h : Walker w b f D) (hD : D < 6) (p : Addr) (a : Int) :
    Calls Tryd.prog 110 #[.pointer (some ⟨b, 0, none⟩), .pointer (some p), .int .i64 a] w fun e w' => e = .returned (.tuple #[]) ∧ Walker w' b (fun i => if i = D then (.pointer (some p), a) else f i) (D + 1) ∧ Only w.heap.size b w w' := by
  obtain ⟨C, hx, hC, h12, hat⟩ := h.blk
  have hlt : b < w.heap.size := (Array.getElem?_eq_some_iff.1 hx).1
  have x1 : w.cell? ⟨b, 12, none⟩ = some (.int .i64 D) := by simp [World.cell?, hx, h12]
  obtain ⟨v1, hv1⟩ : ∃ v, C[D * 2]? = some v := ⟨C[D * 2], by simp⟩
  obtain ⟨v2, hv2⟩ : ∃ v, C[D * 2 + 1]? = some v := ⟨C[D * 2 + 1], by simp⟩
  have x2 : w.cell? ⟨b, D * 2, none⟩ = some v1 := by simp [World.cell?, hx, hv1]
  have x3 : w.cell? ⟨b, D * 2 + 1, none⟩ = some v2 := by simp [World.cell?, hx, hv2]
  have x4 : w.frozen? ⟨b, D * 2, none⟩ = false := by simp [World.frozen?, hx]
  have x5 : w.frozen? ⟨b, D * 2 + 1, none⟩ = false := by simp [World.frozen?, hx]
  have x6 : w.frozen? ⟨b, 12, none⟩ = false := by simp [World.frozen?, hx]
  have hDi : (D : Int) < 6 := by omega
  have hD0 : (0 : Int) ≤ (D : Int) := by omega
  have HH := Lib.hid (And.intro hx (And.intro hC (And.intro h12 hat)))
  clear h hx hC h12 hat hv1 hv2
  go_enter Tryd.func110, Tryd.ntmps110
  go_wp2_with fail
  go_region
  obtain ⟨W1, hW1⟩ : ∃ W1, W1 = ((w.setCell ⟨b, D * 2, none⟩ (.pointer (some p))).setCell ⟨b, D * 2 + 1, none⟩ (.int .i64 a)).drew := ⟨_, rfl⟩
  rw [← hW1]
  have hx := HH.out.1
  have hC := HH.out.2.1
  have hx1 : W1.heap[b]? = some (.cells ((C.setIfInBounds (D * 2) (.pointer (some p))).setIfInBounds (D * 2 + 1) (.int .i64 a)) 125 (0, 0)) := by
    rw [hW1]; exact set_blk (o := D * 2 + 1) _ (set_blk (o := D * 2) _ hx)
  have ho1 : Only w.heap.size b w W1 := by
    rw [hW1]
    exact ⟨rfl, rfl, rfl, by simp [World.drew], fun k _ hne => by show (((w.setCell _ _).setCell _ _)).heap[k]? = _; rw [set_other _ _ _ _ _ hne, set_other _ _ _ _ _ hne]⟩
  obtain ⟨C1, hC1⟩ : ∃ C1, C1 = (C.setIfInBounds (D * 2) (.pointer (some p))).setIfInBounds (D * 2 + 1) (.int .i64 a) := ⟨_, rfl⟩
  rw [← hC1] at hx1
  have h12 : C1[12]? = some (.int .i64 D) := by
    rw [hC1, Array.getElem?_setIfInBounds_ne (by omega), Array.getElem?_setIfInBounds_ne (by omega)]; exact HH.out.2.2.1
  have y1 : W1.cell? ⟨b, 12, none⟩ = some (.int .i64 D) := by simp [World.cell?, hx1, h12]
  have y2 : W1.frozen? ⟨b, 12, none⟩ = false := by simp [World.frozen?, hx1]
  have hwr : IntKind.i64.wrap ((D : Int) + 1) = (D : Int) + 1 := by rw [IntKind.wrap_i64]; omega
  have HX := Lib.hid (And.intro hx1 (And.intro hC1 (And.intro ho1 hC)))
  clear hW1 hx1 hC1 ho1 hx hC h12 x1 x2 x3 x4 x5 x6
  go_wp2_with fail
  refine bodyPost_end (v := .tuple #[]) (by simp [results, Tryd.results110, go_sem]) rfl ⟨rfl, ⟨⟨_, set_blk (o := 12) (.int .i64 ((D : Int) + 1)) HX.out.1, ?_, ?_, ?_⟩⟩, ?_⟩
  · rw [HX.out.2.1]; simp [HX.out.2.2.2]
  · have hs : 12 < C1.size := by rw [HX.out.2.1]; simp [HX.out.2.2.2]
    rw [Array.getElem?_setIfInBounds_self_of_lt hs]
    simp
  · intro i hi
    rw [Array.getElem?_setIfInBounds_ne (by omega), Array.getElem?_setIfInBounds_ne (by omega), HX.out.2.1]
    have hCs := HX.out.2.2.2
    by_cases e : i = D
    · subst e
      rw [if_pos rfl]
      constructor
      · rw [Array.getElem?_setIfInBounds_ne (by omega), show 2 * i = i * 2 by omega, Array.getElem?_setIfInBounds_self_of_lt (by omega)]
      · rw [show 2 * i + 1 = i * 2 + 1 by omega, Array.getElem?_setIfInBounds_self_of_lt (by simp; omega)]
    · rw [if_neg e, Array.getElem?_setIfInBounds_ne (by omega), Array.getElem?_setIfInBounds_ne (by omega), Array.getElem?_setIfInBounds_ne (by omega), Array.getElem?_setIfInBounds_ne (by omega)]
      exact HH.out.2.2.2 i (by omega)
  · have ho := HX.out.2.2.1
    exact ⟨ho.os, ho.tape, ho.output, by have := ho.size; simp; omega, fun k h1 hne => by rw [set_other _ _ _ _ _ hne]; exact ho.block k h1 hne⟩
end Go.Proofs.YtdcifdpkfcgmhaaDoor
