/- The model's l1Build: what it leaves; at depth 1. -/
import Derived.Test.YthiohdbcclbgkaaProg
import Derived.Test.YthiohdbcclbgkaaBase
import Derived.Test.YthiohdbcclbgkaaApp
import Derived.Test.YthiohdbcclbgkaaPick
import Derived.Test.YthiohdbcclbgkaaDraw1
import Derived.Test.YthiohdbcclbgkaaTreeP
import Derived.Test.YthiohdbcclbgkaaLeaf
namespace Go.Proofs.Ythiohdbcclbgkaa
open Go.RowKit

/-- What l1Build leaves: some tree in new blocks, no heavier than so; the reader moved on. -/
def Built (w : World) (B r : Nat) (bs : List Nat) (p n D : Nat) (e : Ending) (w' : World) : Prop :=
  ∃ (kv cv : Value) (t : Tr) (q : Nat), e = .returned (.agg #[kv, cv]) ∧ TreeQ w' (fun k => w.heap.size ≤ k ∧ k < w'.heap.size) kv cv t ∧ t.weight ≤ n + 8 ^ D ∧ Rd w' B r bs q ∧ q ≤ p + 8 ^ D ∧ Only w.heap.size r w w' ∧ (∀ n c, cv = .slice none n c → c = 0)

theorem IntsP.at {w w' : World} {P : Nat → Prop} {v : Value} {ks : List Int} (h : IntsP w P v ks) (hb : ∀ k, P k → w'.heap[k]? = w.heap[k]?) : IntsAt w' v ks := by
  obtain ⟨a, cap, hv, h1, h2, hnl, h3⟩ := h
  refine ⟨a, cap, hv, hnl, ?_⟩
  rcases h3 with h3 | ⟨b, o, h3, h4, h5⟩
  · exact .inl h3
  · exact .inr ⟨b, o, h3, fun i hi => by rw [cellP (hb b h4)]; exact h5 i hi⟩

/-- A leaf that l1Leaf left, as a tree. -/
theorem leaf_tree {w w' : World} {kv : Value} {g : Nat} {ks : List Int} (ho : IntsOwn w' (w.heap.size + 1) kv ks) (_hg : w.heap.size < g) (_hk : w'.heap[g]? = some (.cells #[] 25 (0, 0))) :
    TreeQ w' (fun k => w.heap.size ≤ k ∧ k < w'.heap.size) kv (.slice (some ⟨g, 0, none⟩) 0 0) (.mk ks []) := by
  exact TreeQ.mk ks [] kv (some ⟨g, 0, none⟩) 0 (fun _ => .bool false) (fun _ => .bool false) (ho.p.same (fun _ _ => rfl) (fun k h => ⟨by omega, h.2⟩)) (Nat.le_refl _) (by unfold maxLen; omega) (.inl rfl) (fun i h => by simp at h)

/-- A tree that is stored into the box of the result. -/
theorem box_out {w2 F : World} {bx : Nat} {x y kv cv : Value} (kb : w2.heap[bx]? = some (.cells #[x, y] 25 (0, 0))) (hF : F = (w2.setCell ⟨bx, 0, none⟩ kv).setCell ⟨bx, 1, none⟩ cv) :
    F.heap[bx]? = some (.cells #[kv, cv] 25 (0, 0)) ∧ (∀ k, k ≠ bx → F.heap[k]? = w2.heap[k]?) ∧ F.heap.size = w2.heap.size ∧ ∀ C, C ≤ bx → Below C w2 F := by
  refine ⟨?_, fun k h1 => ?_, ?_, fun C hC => ?_⟩
  · rw [hF]; exact set_blk (o := 1) _ (set_blk (o := 0) _ kb)
  · rw [hF, set_other _ _ _ _ _ h1, set_other _ _ _ _ _ h1]
  · rw [hF]; simp
  · rw [hF]; exact ((Below.refl _ _).setCell (p := ⟨bx, 0, none⟩) hC _).setCell (p := ⟨bx, 1, none⟩) hC _

set_option maxHeartbeats 1000000 in
theorem build_base (w : World) (B r : Nat) (bs : List Nat) (p : Nat) (v : Value) (ks : List Int) (wide : Int) (root : Bool) (h : Rd w B r bs p) (hk : IntsP w (fun k => k ≠ r ∧ k < w.heap.size) v ks) (hl : ks.length ≤ 100) :
    Calls Try.prog 135 #[.pointer (some ⟨r, 0, none⟩), v, .int .i64 wide, .int .i64 1, .bool root] w (Built w B r bs p ks.length 1) := by
  obtain ⟨W1, hW1⟩ : ∃ W1, W1 = w.alloc (.cells #[.slice none 0 0, .slice none 0 0] 25) := ⟨_, rfl⟩
  have hs1 : W1.heap.size = w.heap.size + 1 := by rw [hW1]; simp
  have hb1 : Below w.heap.size w W1 := by rw [hW1]; exact (Below.refl _ _).alloc (Nat.le_refl _) _
  have kb1 : W1.heap[w.heap.size]? = some (.cells #[.slice none 0 0, .slice none 0 0] 25 (0, 0)) := by rw [hW1, new_blk]
  have HL := Lib.hid (leaf_c W1 v ks (fun w' hb => hk.at (fun k hk => (hb.block k (by omega)).trans (hb1.block k hk.2))) (by omega))
  have hrl := h.lt
  have HR := Lib.hid h
  have H1 := Lib.hid (And.intro hb1 kb1)
  have HW1 := Lib.hid hW1
  clear h hk hb1 kb1 hW1
  go_enter Try.func135, Try.ntmps135
  go_wp2_with fail
  rw [← HW1.out]
  refine HL.out.mono ?_
  rintro e w2 ⟨kv, g, rfl, hown, _, hg, hkg, hb2⟩
  obtain ⟨a2, c2, rfl⟩ := hown.shown
  have hs2 := hb2.size
  have kb2 := (hb2.block w.heap.size (by omega)).trans H1.out.2
  have hb12 : Below w.heap.size w w2 := H1.out.1.trans (hb2.mono (by omega))
  obtain ⟨c1, c2', c3, c4⟩ := box2 kb2
  have HX := Lib.hid (And.intro hown (And.intro hkg (And.intro kb2 hb12)))
  clear hown hkg kb2 hb12 hb2
  go_wp2_with fail
  obtain ⟨F, hF⟩ : ∃ F, F = (w2.setCell ⟨w.heap.size, 0, none⟩ (.slice a2 ks.length c2)).setCell ⟨w.heap.size, 1, none⟩ (.slice (some ⟨g, 0, none⟩) 0 0) := ⟨_, rfl⟩
  rw [← hF]
  have hsF : F.heap.size = w2.heap.size := by rw [hF]; simp
  have kF : F.heap[w.heap.size]? = some (.cells #[.slice a2 ks.length c2, .slice (some ⟨g, 0, none⟩) 0 0] 25 (0, 0)) := by
    rw [hF]; exact set_blk (o := 1) _ (set_blk (o := 0) _ HX.out.2.2.1)
  have kE : ∀ k, k ≠ w.heap.size → F.heap[k]? = w2.heap[k]? := fun k h1 => by
    rw [hF, set_other _ _ _ _ _ h1, set_other _ _ _ _ _ h1]
  have hbF : Below w.heap.size w F := by
    rw [hF]; exact (HX.out.2.2.2.setCell (p := ⟨w.heap.size, 0, none⟩) (Nat.le_refl _) _).setCell (p := ⟨w.heap.size, 1, none⟩) (Nat.le_refl _) _
  clear hF c1 c2' c3 c4
  obtain ⟨d1, d2, d3, d4⟩ := box2 kF
  have htree := leaf_tree (w := W1) HX.out.1 hg HX.out.2.1
  refine bodyPost_ret (v := .agg #[.slice a2 ks.length c2, .slice (some ⟨g, 0, none⟩) 0 0]) (by simp [results, Try.results135, go_sem, d1, d2]) rfl ⟨_, _, .mk ks [], p, rfl, ?_, ?_, HR.out.later hbF hrl, by omega, below_only hbF, fun n c h => by cases h⟩
  · exact htree.same (fun k hk => kE k (by omega)) (fun k hk => by omega)
  · simp [Tr.weight, Tr.weights]
end Go.Proofs.Ythiohdbcclbgkaa
