/- A walker's stack: isIndex and push. -/
import Derived.Test.YtbdamminjbaaoaaDoorProg
import Derived.Test.YtbdamminjbaaoaaDoorCkS1
import Derived.Test.YtbdamminjbaaoaaDoorCkS7
import Derived.Test.YtbdamminjbaaoaaDoorCkS36
import Derived.Deep.RegionHeld3
import Derived.Deep.QuietTactic
import Derived.BigQuiet
import Derived.StillTailTactics
namespace Go.Proofs.YtbdamminjbaaoaaDoor
open Go.RowKit

theorem isIndex_c (n : Int) (c : Nat) (w : World) :
    Calls Tryd.prog 89 #[.int .i64 n, .int .i64 c] w fun e w' => e = .returned (.bool (inB n 0 ((c : Int) - 1))) ∧ w' = w := by
  obtain ⟨C, hC⟩ : ∃ C : Int, C = c := ⟨_, rfl⟩
  rw [← hC]
  clear hC
  by_cases h0 : 0 ≤ n
  · by_cases h1 : n < C
    · have HE := Lib.hid (inB_true h0 (show n ≤ C - 1 by omega))
      go_enter Tryd.func89, Tryd.ntmps89
      go_wp2_with fail
      go_ret
      exact ⟨by rw [HE.out]; rfl, rfl⟩
    · have HE := Lib.hid (inB_false (n := n) (lo := 0) (hi := C - 1) (by omega))
      go_enter Tryd.func89, Tryd.ntmps89
      go_wp2_with fail
      go_ret
      exact ⟨by rw [HE.out]; rfl, rfl⟩
  · have HE := Lib.hid (inB_false (n := n) (lo := 0) (hi := C - 1) (by omega))
    go_enter Tryd.func89, Tryd.ntmps89
    go_wp2_with fail
    go_ret
    exact ⟨by rw [HE.out]; rfl, rfl⟩

/-- A walker: its six joints and how deep it stands. -/
structure Walker (w : World) (b : Nat) (f : Nat → Value × Int) (D : Nat) : Prop where
  blk : ∃ C : Array Value, w.heap[b]? = some (.cells C 117 (0, 0)) ∧ C.size = 13 ∧ C[12]? = some (.int .i64 D) ∧ ∀ i, i < D → C[2 * i]? = some (f i).1 ∧ C[2 * i + 1]? = some (.int .i64 (f i).2)

set_option maxHeartbeats 1000000 in
set_option maxRecDepth 100000 in
theorem push_c {w : World} {b D : Nat} {f : Nat → Value × Int} (h : Walker w b f D) (hD : D < 6) (p : Addr) (a : Int) :
    Calls Tryd.prog 90 #[.pointer (some ⟨b, 0, none⟩), .pointer (some p), .int .i64 a] w fun e w' => e = .returned (.tuple #[]) ∧ Walker w' b (fun i => if i = D then (.pointer (some p), a) else f i) (D + 1) ∧ Only w.heap.size b w w' := by
  obtain ⟨C, hx, hC, h12, hat⟩ := h.blk
  have hlt : b < w.heap.size := (Array.getElem?_eq_some_iff.1 hx).1
  have x1 : w.cell? ⟨b, 12, none⟩ = some (.int .i64 D) := by simp [World.cell?, hx, h12]
  obtain ⟨v1, hv1⟩ : ∃ v, C[D * 2]? = some v := ⟨C[D * 2], by simp⟩
  obtain ⟨v2, hv2⟩ : ∃ v, C[D * 2 + 1]? = some v := ⟨C[D * 2 + 1], by simp⟩
  have x2 : w.cell? ⟨b, D * 2, none⟩ = some v1 := by simp [World.cell?, hx, hv1]
  have x3 : w.cell? ⟨b, D * 2 + 1, none⟩ = some v2 := by simp [World.cell?, hx, hv2]
  have x4 : w.frozen? ⟨b, D * 2, none⟩ = false := by simp [World.frozen?, hx]
  have x5 : w.frozen? ⟨b, D * 2 + 1, none⟩ = false := by simp [World.frozen?, hx]
  have x6 : w.frozen? ⟨b, 12, none⟩ = false := by simp [World.frozen?, hx]
  have hDi : (D : Int) < 6 := by omega
  have hD0 : (0 : Int) ≤ (D : Int) := by omega
  have HH := Lib.hid (And.intro hx (And.intro hC (And.intro h12 hat)))
  clear h hx hC h12 hat hv1 hv2
  go_enter Tryd.func90, Tryd.ntmps90
  go_wp2_with fail
  go_region
  obtain ⟨W1, hW1⟩ : ∃ W1, W1 = ((w.setCell ⟨b, D * 2, none⟩ (.pointer (some p))).setCell ⟨b, D * 2 + 1, none⟩ (.int .i64 a)).drew := ⟨_, rfl⟩
  rw [← hW1]
  have hx := HH.out.1
  have hC := HH.out.2.1
  have hx1 : W1.heap[b]? = some (.cells ((C.setIfInBounds (D * 2) (.pointer (some p))).setIfInBounds (D * 2 + 1) (.int .i64 a)) 117 (0, 0)) := by
    rw [hW1]; exact set_blk (o := D * 2 + 1) _ (set_blk (o := D * 2) _ hx)
  have ho1 : Only w.heap.size b w W1 := by
    rw [hW1]
    exact ⟨rfl, rfl, rfl, by simp [World.drew], fun k _ hne => by show (((w.setCell _ _).setCell _ _)).heap[k]? = _; rw [set_other _ _ _ _ _ hne, set_other _ _ _ _ _ hne]⟩
  obtain ⟨C1, hC1⟩ : ∃ C1, C1 = (C.setIfInBounds (D * 2) (.pointer (some p))).setIfInBounds (D * 2 + 1) (.int .i64 a) := ⟨_, rfl⟩
  rw [← hC1] at hx1
  have h12 : C1[12]? = some (.int .i64 D) := by
    rw [hC1, Array.getElem?_setIfInBounds_ne (by omega), Array.getElem?_setIfInBounds_ne (by omega)]; exact HH.out.2.2.1
  have y1 : W1.cell? ⟨b, 12, none⟩ = some (.int .i64 D) := by simp [World.cell?, hx1, h12]
  have y2 : W1.frozen? ⟨b, 12, none⟩ = false := by simp [World.frozen?, hx1]
  have hwr : IntKind.i64.wrap ((D : Int) + 1) = (D : Int) + 1 := by rw [IntKind.wrap_i64]; omega
  have HX := Lib.hid (And.intro hx1 (And.intro hC1 (And.intro ho1 hC)))
  clear hW1 hx1 hC1 ho1 hx hC h12 x1 x2 x3 x4 x5 x6
  go_wp2_with fail
  refine bodyPost_end (v := .tuple #[]) (by simp [results, Tryd.results90, go_sem]) rfl ⟨rfl, ⟨⟨_, set_blk (o := 12) (.int .i64 ((D : Int) + 1)) HX.out.1, ?_, ?_, ?_⟩⟩, ?_⟩
  · rw [HX.out.2.1]; simp [HX.out.2.2.2]
  · have hs : 12 < C1.size := by rw [HX.out.2.1]; simp [HX.out.2.2.2]
    rw [Array.getElem?_setIfInBounds_self_of_lt hs]
    simp
  · intro i hi
    rw [Array.getElem?_setIfInBounds_ne (by omega), Array.getElem?_setIfInBounds_ne (by omega), HX.out.2.1]
    have hCs := HX.out.2.2.2
    by_cases e : i = D
    · subst e
      rw [if_pos rfl]
      constructor
      · rw [Array.getElem?_setIfInBounds_ne (by omega), show 2 * i = i * 2 by omega, Array.getElem?_setIfInBounds_self_of_lt (by omega)]
      · rw [show 2 * i + 1 = i * 2 + 1 by omega, Array.getElem?_setIfInBounds_self_of_lt (by simp; omega)]
    · rw [if_neg e, Array.getElem?_setIfInBounds_ne (by omega), Array.getElem?_setIfInBounds_ne (by omega), Array.getElem?_setIfInBounds_ne (by omega), Array.getElem?_setIfInBounds_ne (by omega)]
      exact HH.out.2.2.2 i (by omega)
  · have ho := HX.out.2.2.1
    exact ⟨ho.os, ho.tape, ho.output, by have := ho.size; simp; omega, fun k h1 hne => by rw [set_other _ _ _ _ _ hne]; exact ho.block k h1 hne⟩
end Go.Proofs.YtbdamminjbaaoaaDoor
