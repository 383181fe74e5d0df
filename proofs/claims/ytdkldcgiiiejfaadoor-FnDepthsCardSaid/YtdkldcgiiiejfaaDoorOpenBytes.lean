/- Bytes in memory, and the reader that the model opens over them. -/
import Derived.Test.YtdkldcgiiiejfaaDoorProg
import Derived.Test.YtdkldcgiiiejfaaDoorBase
import Derived.Test.YtdkldcgiiiejfaaDoorDa0
import Derived.Test.YtdkldcgiiiejfaaDoorDraw1
namespace Go.Proofs.YtdkldcgiiiejfaaDoor
open Go.RowKit

theorem cellB {w w' : World} {b o : Nat} (h : w'.heap[b]? = w.heap[b]?) : w'.cell? ⟨b, o, none⟩ = w.cell? ⟨b, o, none⟩ := World.cell?_of_block (w := w) (a := ⟨b, o, none⟩) h

/-- A slice of bytes in memory below block B. -/
def BytesIn (w : World) (B : Nat) (v : Value) (bs : List Nat) : Prop :=
  ∃ (a : Option Addr) (cap : Nat), v = .slice a bs.length cap ∧ bs.length ≤ cap ∧ cap ≤ maxLen ∧ (∀ x ∈ bs, x < 256) ∧
    (bs = [] ∨ ∃ b o, a = some ⟨b, o, none⟩ ∧ b < B ∧ ∀ i, i < bs.length → w.cell? ⟨b, o + i, none⟩ = some (.int .u8 (bs.getD i 0 : Nat)))

theorem BytesIn.later {w w' : World} {B C : Nat} {v : Value} {bs : List Nat} (h : BytesIn w B v bs) (hb : Below C w w') (hC : B ≤ C) : BytesIn w' B v bs := by
  obtain ⟨a, cap, hv, h1, h2, h3, h4⟩ := h
  refine ⟨a, cap, hv, h1, h2, h3, ?_⟩
  rcases h4 with h4 | ⟨b, o, h5, h6, h7⟩
  · exact .inl h4
  · exact .inr ⟨b, o, h5, h6, fun i hi => by rw [below_cell hb (by omega)]; exact h7 i hi⟩

set_option maxHeartbeats 1000000 in
set_option maxRecDepth 100000 in
theorem open_c {w : World} {B : Nat} {v : Value} {bs : List Nat} (h : BytesIn w B v bs) (w' : World) (hbw : Below B w w') (hB : B ≤ w'.heap.size) :
    Calls Tryd.prog 16 #[v] w' fun e w'' => e = .returned (.pointer (some ⟨w'.heap.size, 0, none⟩)) ∧ (∃ bs', Rd w'' w'.heap.size w'.heap.size bs' 0) ∧ Below w'.heap.size w' w'' := by
  obtain ⟨a, cap, rfl, hl, hm, h256, hat⟩ := h
  unfold maxLen at hm
  have HAT := Lib.hid hat
  have H256 := Lib.hid h256
  have HBW := Lib.hid hbw
  clear hat h256 hbw
  by_cases h2 : bs.length ≤ 2000
  · have h2' : ¬ ((bs.length : Int) > 2000) := by omega
    go_enter Tryd.func16, Tryd.ntmps16
    go_wp2_with fail
    go_ret
    refine ⟨rfl, ⟨bs, a, cap, new_blk _ _, h2, H256.out, Nat.le_refl _, ?_⟩, (Below.refl _ _).alloc (Nat.le_refl _) _⟩
    rcases HAT.out with h | ⟨b, o, h5, h6, h7⟩
    · exact .inl h
    · refine .inr ⟨b, o, h5, by omega, fun i hi => ?_⟩
      rw [cellB (old_blk _ _ b (by omega)), below_cell HBW.out h6]
      exact h7 i hi
  · have h2' : ((bs.length : Int) > 2000) := by omega
    have hcap : (2000 : Int) ≤ (cap : Int) := by omega
    have hl2 : (bs.take 2000).length = 2000 := by simp; omega
    rcases HAT.out with h | ⟨b, o, rfl, h6, h7⟩
    · rw [h] at h2; simp at h2
    have H7 := Lib.hid h7
    have HL2 := Lib.hid hl2
    clear h7 hl2
    go_enter Tryd.func16, Tryd.ntmps16
    go_wp2_with fail
    go_ret
    refine ⟨rfl, ⟨bs.take 2000, _, cap, by rw [HL2.out]; exact new_blk _ _, by rw [HL2.out]; omega, fun x hx => H256.out x (List.mem_of_mem_take hx), Nat.le_refl _, .inr ⟨b, o, rfl, by omega, fun i hi => ?_⟩⟩, (Below.refl _ _).alloc (Nat.le_refl _) _⟩
    rw [HL2.out] at hi
    rw [cellB (old_blk _ _ b (by omega)), below_cell HBW.out h6, H7.out i (by omega)]
    simp [List.getD_eq_getElem?_getD, hi]
end Go.Proofs.YtdkldcgiiiejfaaDoor
