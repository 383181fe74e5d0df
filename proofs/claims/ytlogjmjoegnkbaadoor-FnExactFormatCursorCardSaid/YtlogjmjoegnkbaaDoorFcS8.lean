/- From the reading of an argument to the tree that lies in memory. -/
import Derived.Test.YtlogjmjoegnkbaaDoorProg
import Derived.Test.YtlogjmjoegnkbaaDoorFcS1
import Derived.ProofKit
import Derived.Deep.Slices
namespace Go.Proofs.YtlogjmjoegnkbaaDoor
open Go.RowKit Go.ChangeShapes Go.WideShapes

theorem Tryd.cellsInt : Tryd.prog.cellsOf 3 = 1 := by kernel_rfl
theorem Tryd.cellsInts : Tryd.prog.cellsOf 22 = 1 := by kernel_rfl


/-- An int that fits. -/
def Fits (n : Int) : Prop := -9223372036854775808 ≤ n ∧ n ≤ 9223372036854775807

/-- All keys are ints that fit. -/
inductive Tr.Fit : Tr → Prop where
  | mk (ks : List Int) (cs : List Tr) (hk : ∀ k ∈ ks, Fits k) (hc : ∀ i (h : i < cs.length), Tr.Fit cs[i]) : Tr.Fit (.mk ks cs)

theorem cell_spot {w : World} {a : Addr} {v : Value} (h : w.cell? a = some v) : a.spot = none := by
  unfold World.cell? at h
  split at h
  · split at h
    · cases h
    · rename_i hs
      cases hsp : a.spot with
      | none => rfl
      | some x => simp [hsp] at hs
  · cases h

theorem add_zero_addr (a : Addr) : a.add 0 = a := by simp [Addr.add]

section
variable {H : Type} {enc : TypeId × Value → H} {w : World} {base : Nat} {spare : Nat → Bool} {held : Bool}

theorem ints_of_trod {fuel : Nat} {cs : List Value} {x : DataW H × List MemPlace} (h : DataW.trod enc Tryd.prog w base spare held fuel 22 cs = some x) :
    ∃ v ks, cs = [v] ∧ IntsIn w w.heap.size v ks ∧ ∀ k ∈ ks, Fits k := by
  rcases open_ints Tryd.underlying22 Tryd.underlying3 Tryd.cellsInt h with ⟨rfl, _⟩ | ⟨a, len, cap, zs, rfl, _, hl, hm, hz, _, hcell, hwz⟩
  · exact ⟨_, [], rfl, ⟨none, 0, rfl, by simp, by unfold maxLen; omega, fun _ => rfl, .inl rfl⟩, by simp⟩
  · have hle : len ≤ zs.length := by rw [hz]; split <;> omega
    have htl : (zs.take len).length = len := by simp; omega
    refine ⟨_, zs.take len, rfl, ⟨some a, cap, by rw [htl], by omega, hm, by simp, ?_⟩, fun k hk => ?_⟩
    · by_cases h0 : len = 0
      · exact .inl (by subst h0; simp)
      · have hc0 := hcell 0 (by omega)
        have hb := block_lt_of_cell hc0
        rw [add_zero_addr] at hc0 hb
        have hsp := cell_spot hc0
        obtain ⟨b, o, sp⟩ := a
        obtain rfl : sp = none := hsp
        refine .inr ⟨b, o, rfl, hb, fun i hi => ?_⟩
        rw [htl] at hi
        have hci := hcell i (by omega)
        rw [Addr.add_lit] at hci
        rw [hci]
        congr 2
        simp [List.getD_eq_getElem?_getD, hi]
    · have := hwz k (List.mem_of_mem_take hk)
      simpa [Fits, Lit.wf, IntKind.min, IntKind.max, IntKind.signed, IntKind.bits] using this


end
end Go.Proofs.YtlogjmjoegnkbaaDoor
