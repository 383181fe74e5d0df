/- The contract of the function that copies a list of ints into new memory (To.tpl's, for seats without trees). -/
import Derived.Test.YtlogjmjoegnkbaaDoorProg
import Derived.Test.YtlogjmjoegnkbaaDoorFcS1
import Derived.Test.YtlogjmjoegnkbaaDoorFcS3
import Derived.Deep.OwnRows
namespace Go.Proofs.YtlogjmjoegnkbaaDoor
open Go.RowKit

theorem Tryd.infoInt : (Tryd.prog.info? 3).map (fun i => (i.zero, i.size, i.bytes)) = some (some (.int .i64 0), 1, 8) := by kernel_rfl

theorem toIntS_c (ks : List Int) (v : Value) (w : World) (B : Nat) (hB : B ≤ w.heap.size) (hk : IntsIn w B v ks) (hn : ks.length ≤ 1048576) :
    Calls Tryd.prog 11 #[v] w fun e w' => ∃ g, e = .returned (.slice (some ⟨g, 0, none⟩) ks.length ks.length) ∧ w.heap.size ≤ g ∧ w'.rowIs g 3 ks.length (fun i => .int .i64 (ks.getD i 0)) ∧ Below w.heap.size w w' := by
  obtain ⟨a, cap, rfl, h1, h2, _, h3⟩ := hk
  unfold maxLen at h2
  have HK := Lib.hid h3
  clear h3
  have hmk := run_make_row' (P := Tryd.prog) 22 3 (.int .i64 0) 8 Tryd.underlying22 Tryd.infoInt rfl .i64 .i64 ks.length (by omega) (by omega)
  have hrow0 := World.rowIs_made w (.int .i64 0) ks.length 3
  generalize hC : madeCells #[Value.int .i64 0] ks.length = C at hmk hrow0
  have HC := Lib.hid hC
  clear hC
  go_enter Tryd.func11, Tryd.ntmps11
  go_wp2_with fail
  go_loopw [4] (fun i wr => ∃ (j : Nat), j ≤ ks.length ∧ i = .int .i64 j ∧ wr.rowIs w.heap.size 3 ks.length (fun i => .int .i64 (if i < j then ks.getD i 0 else 0)) ∧ Below w.heap.size w wr) (fun i _ => ks.length - (intOf i).toNat)
  case atStart => exact ⟨0, Nat.zero_le _, rfl, by simpa using hrow0, (Below.refl _ _).alloc (Nat.le_refl _) _⟩
  case round =>
    obtain ⟨j, hj, rfl, hrow, hbel⟩ := hrel
    clear hmk hrow0
    by_cases hlt : j < ks.length
    · rcases HK.out with h | ⟨b, off, rfl, hb, hat⟩
      · simp [h] at hlt
      have ha' : wr.cell? ⟨b, off + j, none⟩ = some (.int .i64 (ks.getD j 0)) := by rw [below_cell hbel (by omega)]; exact hat j hlt
      have hc1 := hrow.cell hlt
      have hf1 := hrow.frozen j
      have HR := Lib.hid hrow
      clear hrow hat
      go_wp2_with fail
      go_roundw
      case rel =>
        refine ⟨j + 1, by omega, by go_num, (HR.out.set j _).congr (fun i hi => ?_), hbel.setCell (Nat.le_refl _) _⟩
        by_cases e : i = j
        · subst e; simp [hi]
        · simp only [if_neg e]
          by_cases h : i < j
          · rw [if_pos h, if_pos (by omega)]
          · rw [if_neg h, if_neg (by omega)]
      case measure => simp [intOf]; omega
    · obtain rfl : j = ks.length := by omega
      have HR := Lib.hid hrow
      clear hrow
      go_wp2_with fail
      go_ret
      exact ⟨_, rfl, Nat.le_refl _, HR.out.congr (fun i hi => by rw [if_pos hi]), hbel⟩

end Go.Proofs.YtlogjmjoegnkbaaDoor
