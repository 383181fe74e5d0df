/- From the reading of an argument to the tree that lies in memory. -/
import Derived.Test.YtodcapgmhginoaaProg
import Derived.Test.YtodcapgmhginoaaBdS0
import Derived.ProofKit
import Derived.Deep.Slices
namespace Go.Proofs.Ytodcapgmhginoaa
open Go.RowKit Go.ChangeShapes Go.WideShapes

theorem Try.cellsInt : Try.prog.cellsOf 3 = 1 := by kernel_rfl
theorem Try.cellsInts : Try.prog.cellsOf 22 = 1 := by kernel_rfl
theorem Try.cellsKids : Try.prog.cellsOf 23 = 1 := by kernel_rfl

theorem Try.cellsTree : Try.prog.cellsOf 25 = 2 := by kernel_rfl

/-- An int that fits. -/
def Fits (n : Int) : Prop := -9223372036854775808 ≤ n ∧ n ≤ 9223372036854775807

/-- All keys are ints that fit. -/
inductive Tr.Fit : Tr → Prop where
  | mk (ks : List Int) (cs : List Tr) (hk : ∀ k ∈ ks, Fits k) (hc : ∀ i (h : i < cs.length), Tr.Fit cs[i]) : Tr.Fit (.mk ks cs)

theorem cell_spot {w : World} {a : Addr} {v : Value} (h : w.cell? a = some v) : a.spot = none := by
  unfold World.cell? at h
  split at h
  · split at h
    · cases h
    · rename_i hs
      cases hsp : a.spot with
      | none => rfl
      | some x => simp [hsp] at hs
  · cases h

theorem add_zero_addr (a : Addr) : a.add 0 = a := by simp [Addr.add]

section
variable {H : Type} {enc : TypeId × Value → H} {w : World} {base : Nat} {spare : Nat → Bool} {held : Bool}

theorem ints_of_trod {fuel : Nat} {cs : List Value} {x : DataW H × List MemPlace} (h : DataW.trod enc Try.prog w base spare held fuel 22 cs = some x) :
    ∃ v ks, cs = [v] ∧ IntsIn w w.heap.size v ks ∧ ∀ k ∈ ks, Fits k := by
  rcases open_ints Try.underlying22 Try.underlying3 Try.cellsInt h with ⟨rfl, _⟩ | ⟨a, len, cap, zs, rfl, _, hl, hm, hz, _, hcell, hwz⟩
  · exact ⟨_, [], rfl, ⟨none, 0, rfl, by simp, by unfold maxLen; omega, fun _ => rfl, .inl rfl⟩, by simp⟩
  · have hle : len ≤ zs.length := by rw [hz]; split <;> omega
    have htl : (zs.take len).length = len := by simp; omega
    refine ⟨_, zs.take len, rfl, ⟨some a, cap, by rw [htl], by omega, hm, by simp, ?_⟩, fun k hk => ?_⟩
    · by_cases h0 : len = 0
      · exact .inl (by subst h0; simp)
      · have hc0 := hcell 0 (by omega)
        have hb := block_lt_of_cell hc0
        rw [add_zero_addr] at hc0 hb
        have hsp := cell_spot hc0
        obtain ⟨b, o, sp⟩ := a
        obtain rfl : sp = none := hsp
        refine .inr ⟨b, o, rfl, hb, fun i hi => ?_⟩
        rw [htl] at hi
        have hci := hcell i (by omega)
        rw [Addr.add_lit] at hci
        rw [hci]
        congr 2
        simp [List.getD_eq_getElem?_getD, hi]
    · have := hwz k (List.mem_of_mem_take hk)
      simpa [Fits, Lit.wf, IntKind.min, IntKind.max, IntKind.signed, IntKind.bits] using this

set_option maxRecDepth 100000 in
theorem tree_of_trod (fuel : Nat) : ∀ {cs : List Value} {x : DataW H × List MemPlace}, DataW.trod enc Try.prog w base spare held fuel 25 cs = some x →
    ∃ kv cv t, cs = [kv, cv] ∧ TreeIn w w.heap.size kv cv t ∧ Tr.Fit t := by
  induction fuel using Nat.strongRecOn with
  | _ fuel ih =>
    intro cs x h
    obtain ⟨xs, n, rfl, _, hlen, hxl, hf⟩ := DataW.trod_struct Try.underlying25 h
    rw [Try.cellsTree] at hlen
    match cs, hlen, xs, hxl with
    | [c0, c1], _, [y0, y1], _ =>
      have hf0 := hf 0 _ rfl
      have hf1 := hf 1 _ rfl
      simp only [List.getElem?_cons_zero, List.getElem?_cons_succ] at hf0 hf1
      obtain ⟨kv, ks, hkv, hks, hkf⟩ := ints_of_trod hf0
      obtain rfl : c0 = kv := by simpa [Try.cellsInts] using hkv
      rcases DataW.trod_slice Try.underlying23 hf1 with ⟨hc1, _⟩ | ⟨a, len, cap, elems, rest, m, hn, hc1, _, _, hl, hm, hel, hat, _, _⟩
      · obtain rfl : c1 = .slice none 0 0 := by simpa [Try.cellsKids] using hc1
        exact ⟨_, _, .mk ks [], rfl, .mk ks [] _ none 0 (fun _ => undef) (fun _ => undef) hks (by simp) (by unfold maxLen; omega) (.inl rfl) (fun i hi => by simp at hi), .mk ks [] hkf (fun i hi => by simp at hi)⟩
      · obtain rfl : c1 = .slice (some a) len cap := by simpa [Try.cellsKids] using hc1
        rw [Try.cellsTree] at hat
        have hall : ∀ i, i < len → ∃ u v t, w.cell? (a.add (i * 2)) = some u ∧ w.cell? (a.add (i * 2 + 1)) = some v ∧ TreeIn w w.heap.size u v t ∧ Tr.Fit t := fun i hi => by
          have h1 := hat i hi
          rw [List.getElem?_eq_getElem (by omega)] at h1
          obtain ⟨cs', hcs, htr⟩ := Option.bind_eq_some_iff.1 h1
          obtain ⟨_, _, hcell⟩ := World.cells?_some hcs
          obtain ⟨u, v, t, rfl, ht, hft⟩ := ih m (by omega) htr
          have e0 := hcell 0 (by omega)
          have e1 := hcell 1 (by omega)
          rw [add_zero_addr] at e0
          rw [Go.Deep.add_add] at e1
          exact ⟨u, v, t, e0, e1, ht, hft⟩
        have hex : ∃ (kvs cvs : Nat → Value) (f : Nat → Tr), ∀ i, i < len → w.cell? (a.add (i * 2)) = some (kvs i) ∧ w.cell? (a.add (i * 2 + 1)) = some (cvs i) ∧ TreeIn w w.heap.size (kvs i) (cvs i) (f i) ∧ Tr.Fit (f i) := by
          refine ⟨fun i => if h : i < len then (hall i h).choose else undef, fun i => if h : i < len then (hall i h).choose_spec.choose else undef, fun i => if h : i < len then (hall i h).choose_spec.choose_spec.choose else .mk [] [], fun i hi => ?_⟩
          simp only [dif_pos hi]
          exact (hall i hi).choose_spec.choose_spec.choose_spec
        obtain ⟨kvs, cvs, f, hf⟩ := hex
        have hfl : ((List.range len).map f).length = len := by simp
        refine ⟨_, _, .mk ks ((List.range len).map f), rfl, ?_, .mk ks _ hkf (fun i hi => ?_)⟩
        · have := TreeIn.mk (w := w) (B := w.heap.size) ks ((List.range len).map f) _ (some a) cap kvs cvs hks (by omega) hm ?_ (fun i hi => ?_)
          · rw [hfl] at this; exact this
          · by_cases h0 : len = 0
            · exact .inl (by rw [hfl]; exact h0)
            · obtain ⟨g0, _, _, _⟩ := hf 0 (by omega)
              rw [Nat.zero_mul, add_zero_addr] at g0
              have hsp := cell_spot g0
              have hb := block_lt_of_cell g0
              obtain ⟨b, o, sp⟩ := a
              obtain rfl : sp = none := hsp
              refine .inr ⟨b, o, rfl, hb, fun i hi => ?_⟩
              rw [hfl] at hi
              obtain ⟨g1, g2, _, _⟩ := hf i hi
              rw [Addr.add_lit] at g1 g2
              exact ⟨g1, g2⟩
          · rw [hfl] at hi
            simpa using (hf i hi).2.2.1
        · rw [hfl] at hi
          simpa using (hf i hi).2.2.2

end
end Go.Proofs.Ytodcapgmhginoaa
