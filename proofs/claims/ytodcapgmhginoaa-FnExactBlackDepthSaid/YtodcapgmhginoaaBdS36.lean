/- From the reading of an argument to the coloured tree that lies in memory. -/
import Derived.Test.YtodcapgmhginoaaProg
import Derived.Test.YtodcapgmhginoaaBdS0
import Derived.Test.YtodcapgmhginoaaBdS35
import Derived.Test.YtodcapgmhginoaaBdS2
import Derived.ProofKit
import Derived.OpenShut
import Derived.Deep.Slices
namespace Go.Proofs.Ytodcapgmhginoaa
open Go.RowKit Go.ChangeShapes Go.WideShapes

theorem Try.cellsBool : Try.prog.cellsOf 4 = 1 := by kernel_rfl
theorem Try.cellsBKids : Try.prog.cellsOf 41 = 1 := by kernel_rfl
theorem Try.cellsBin : Try.prog.cellsOf 43 = 3 := by kernel_rfl

section
variable {H : Type} {enc : TypeId × Value → H} {w : World} {base : Nat} {spare : Nat → Bool} {held : Bool}

set_option maxRecDepth 100000 in
theorem bin_of_trod (fuel : Nat) : ∀ {cs : List Value} {x : DataW H × List MemPlace}, DataW.trod enc Try.prog w base spare held fuel 43 cs = some x →
    ∃ cv t, cs = [.int .i64 t.key, .bool t.red, cv] ∧ BinIn w w.heap.size cv t := by
  induction fuel using Nat.strongRecOn with
  | _ fuel ih =>
    intro cs x h
    obtain ⟨xs, n, rfl, _, hlen, hxl, hf⟩ := DataW.trod_struct Try.underlying43 h
    rw [Try.cellsBin] at hlen
    match cs, hlen, xs, hxl with
    | [c0, c1, c2], _, [y0, y1, y2], _ =>
      have hf0 := hf 0 _ rfl
      have hf1 := hf 1 _ rfl
      have hf2 := hf 2 _ rfl
      simp only [List.getElem?_cons_zero, List.getElem?_cons_succ] at hf0 hf1 hf2
      obtain ⟨kk, hk0, -, -⟩ := DataW.trod_int Try.underlying3 hf0
      obtain ⟨kr, hk1, -⟩ := DataW.trod_bool Try.underlying4 hf1
      obtain rfl : c0 = .int .i64 kk := by simpa [Try.cellsInt] using hk0
      obtain rfl : c1 = .bool kr := by simpa [Try.cellsBool] using hk1
      rcases DataW.trod_slice Try.underlying41 hf2 with ⟨hc1, _⟩ | ⟨a, len, cap, elems, rest, m, hn, hc1, _, _, hl, hm, hel, hat, _, _⟩
      · obtain rfl : c2 = .slice none 0 0 := by simpa [Try.cellsBKids] using hc1
        exact ⟨_, .mk kk kr [], rfl, .mk kk kr [] none 0 (fun _ => undef) (by simp) (by unfold maxLen; omega) (.inl rfl) (fun i hi => by simp at hi)⟩
      · obtain rfl : c2 = .slice (some a) len cap := by simpa [Try.cellsBKids] using hc1
        rw [Try.cellsBin] at hat
        have hall : ∀ i, i < len → ∃ v t, w.cell? (a.add (i * 3)) = some (.int .i64 t.key) ∧ w.cell? (a.add (i * 3 + 1)) = some (.bool t.red) ∧ w.cell? (a.add (i * 3 + 2)) = some v ∧ BinIn w w.heap.size v t := fun i hi => by
          have h1 := hat i hi
          rw [List.getElem?_eq_getElem (by omega)] at h1
          obtain ⟨cs', hcs, htr⟩ := Option.bind_eq_some_iff.1 h1
          obtain ⟨_, _, hcell⟩ := World.cells?_some hcs
          obtain ⟨v, t, rfl, ht⟩ := ih m (by omega) htr
          have e0 := hcell 0 (by omega)
          have e1 := hcell 1 (by omega)
          have e2 := hcell 2 (by omega)
          rw [add_zero_addr] at e0
          rw [Go.Deep.add_add] at e1 e2
          exact ⟨v, t, e0, e1, e2, ht⟩
        have hex : ∃ (cvs : Nat → Value) (f : Nat → Bt), ∀ i, i < len → w.cell? (a.add (i * 3)) = some (.int .i64 (f i).key) ∧ w.cell? (a.add (i * 3 + 1)) = some (.bool (f i).red) ∧ w.cell? (a.add (i * 3 + 2)) = some (cvs i) ∧ BinIn w w.heap.size (cvs i) (f i) := by
          refine ⟨fun i => if h : i < len then (hall i h).choose else undef, fun i => if h : i < len then (hall i h).choose_spec.choose else .mk 0 false [], fun i hi => ?_⟩
          simp only [dif_pos hi]
          exact (hall i hi).choose_spec.choose_spec
        obtain ⟨cvs, f, hf⟩ := hex
        have hfl : ((List.range len).map f).length = len := by simp
        refine ⟨_, .mk kk kr ((List.range len).map f), rfl, ?_⟩
        have := BinIn.mk (w := w) (B := w.heap.size) kk kr ((List.range len).map f) (some a) cap cvs (by omega) hm ?_ (fun i hi => ?_)
        · rw [hfl] at this; exact this
        · by_cases h0 : len = 0
          · exact .inl (by rw [hfl]; exact h0)
          · obtain ⟨g0, _⟩ := hf 0 (by omega)
            rw [Nat.zero_mul, add_zero_addr] at g0
            have hsp := cell_spot g0
            have hb := block_lt_of_cell g0
            obtain ⟨b, o, sp⟩ := a
            obtain rfl : sp = none := hsp
            refine .inr ⟨b, o, rfl, hb, fun i hi => ?_⟩
            rw [hfl] at hi
            obtain ⟨g1, g2, g3, _⟩ := hf i hi
            rw [Addr.add_lit] at g1 g2 g3
            simp only [List.getElem_map, List.getElem_range]
            exact ⟨g1, g2, g3⟩
        · rw [hfl] at hi
          simpa using (hf i hi).2.2.2
end
end Go.Proofs.Ytodcapgmhginoaa
