/- The contract of the model's l1Leaf. -/
import Derived.Test.YtdkldcgiiiejfaaDoorProg
import Derived.Test.YtdkldcgiiiejfaaDoorBase
import Derived.Test.YtdkldcgiiiejfaaDoorDa0
import Derived.Test.YtdkldcgiiiejfaaDoorTreeP
namespace Go.Proofs.YtdkldcgiiiejfaaDoor
open Go.RowKit

/-- What l1Leaf leaves: a row of keys, and an empty row of kids behind it. -/
def Leafed (w : World) (ks : List Int) (e : Ending) (w' : World) : Prop :=
  ∃ (kv : Value) (g : Nat), e = .returned (.agg #[kv, .slice (some ⟨g, 0, none⟩) 0 0]) ∧ IntsOwn w' (w.heap.size + 1) kv ks ∧ (∀ k, kv.ownBlock = some k → k < g) ∧
    w.heap.size < g ∧ w'.heap[g]? = some (.cells #[] 26 (0, 0)) ∧ Below w.heap.size w w'

set_option maxHeartbeats 1000000 in
theorem leaf_c (w : World) (v : Value) (ks : List Int) (hk : ∀ w', Below w.heap.size w w' → IntsAt w' v ks) (hl : ks.length ≤ 1048576) :
    Calls Tryd.prog 36 #[v] w (Leafed w ks) := by
  obtain ⟨W1, hW1⟩ : ∃ W1, W1 = w.alloc (.cells #[.slice none 0 0, .slice none 0 0] 26) := ⟨_, rfl⟩
  have hs1 : W1.heap.size = w.heap.size + 1 := by rw [hW1]; simp
  have hb1 : Below w.heap.size w W1 := by rw [hW1]; exact (Below.refl _ _).alloc (Nat.le_refl _) _
  have h00 : IntsOwn (W1.alloc (.cells #[] 3)) (w.heap.size + 1) (.slice (some ⟨w.heap.size + 1, 0, none⟩) 0 0) [] := by
    rw [← hs1]; exact World.ownsRow_made W1 #[] 0 (Nat.le_refl _) (by unfold maxLen; omega) rfl
  have hsrc : IntsAt (W1.alloc (.cells #[] 3)) v ks := hk _ (hb1.alloc (by omega) _)
  have hlo : w.heap.size + 1 ≤ (W1.alloc (.cells #[] 3)).heap.size := by simp; omega
  have hln : ([] : List Int).length + ks.length ≤ 17592186044416 := by simp; omega
  have kb0 : (W1.alloc (.cells #[] 3)).heap[w.heap.size]? = some (.cells #[.slice none 0 0, .slice none 0 0] 26 (0, 0)) := by rw [old_blk _ _ _ (by omega), hW1, new_blk]
  have hb2 : Below w.heap.size w (W1.alloc (.cells #[] 3)) := hb1.alloc (by omega) _
  have hs2 : (W1.alloc (.cells #[] 3)).heap.size = w.heap.size + 2 := by simp; omega
  have H00 := Lib.hid h00
  have HSRC := Lib.hid hsrc
  have HLN := Lib.hid hln
  have HB2 := Lib.hid (And.intro kb0 (And.intro hb2 hs2))
  rw [hW1] at H00 HSRC hlo HB2
  clear h00 hsrc hln hb1 hk hW1 hs1 kb0 hb2 hs2 W1
  go_enter Tryd.func36, Tryd.ntmps36
  go_wp2_with (at_builtin; refine wpList_append_ints rfl _ _ rfl (w.heap.size + 1) _ _ [] ks rfl H00.out rfl HSRC.out HLN.out hlo ?_; intro v2 w2 hown2 hbel2 _ hsh2; obtain ⟨a2, c2, rfl⟩ := hsh2; have hsz2 := hbel2.size; have hsz0 := HB2.out.2.2; have hlt2 : w.heap.size < w2.heap.size := (by omega); have kb2 := (hbel2.block w.heap.size (by omega)).trans HB2.out.1; obtain ⟨c1, c2', c3, c4⟩ := box2 kb2; have HOX := Lib.hid (And.intro hown2 (And.intro hbel2 (And.intro kb2 hsz2))); clear hown2 hbel2 kb2 hsz2 hsz0)
  obtain ⟨F, hF⟩ : ∃ F, F = (((w2.setCell ⟨w.heap.size, 0, none⟩ (.slice a2 ks.length c2)).setCell ⟨w.heap.size, 1, none⟩ (.slice (some ⟨w2.heap.size, 0, none⟩) 0 0)).alloc (.cells #[] 26)) := ⟨_, rfl⟩
  have hsF : ((w2.setCell ⟨w.heap.size, 0, none⟩ (.slice a2 ks.length c2)).setCell ⟨w.heap.size, 1, none⟩ (.slice (some ⟨w2.heap.size, 0, none⟩) 0 0)).heap.size = w2.heap.size := by simp
  have kF : F.heap[w.heap.size]? = some (.cells #[.slice a2 ks.length c2, .slice (some ⟨w2.heap.size, 0, none⟩) 0 0] 26 (0, 0)) := by
    rw [hF, old_blk _ _ _ (by rw [hsF]; exact hlt2)]
    exact set_blk (o := 1) _ (set_blk (o := 0) _ HOX.out.2.2.1)
  have kG : F.heap[w2.heap.size]? = some (.cells #[] 26 (0, 0)) := by
    have h := new_blk ((w2.setCell ⟨w.heap.size, 0, none⟩ (.slice a2 ks.length c2)).setCell ⟨w.heap.size, 1, none⟩ (.slice (some ⟨w2.heap.size, 0, none⟩) 0 0)) (.cells #[] 26)
    rw [hsF] at h; rw [hF]; exact h
  have kE : ∀ k, k ≠ w.heap.size → k < w2.heap.size → F.heap[k]? = w2.heap[k]? := fun k h1 h2 => by
    rw [hF, old_blk _ _ _ (by rw [hsF]; exact h2), set_other _ _ _ _ _ h1, set_other _ _ _ _ _ h1]
  have hzF : F.heap.size = w2.heap.size + 1 := by rw [hF]; simp
  rw [← hF]
  have hoF : F.os = w2.os ∧ F.tape = w2.tape ∧ F.output = w2.output := by rw [hF]; exact ⟨rfl, rfl, rfl⟩
  clear hF c1 c2' c3 c4
  obtain ⟨d1, d2, d3, d4⟩ := box2 kF
  have hb2 := HB2.out.2.1
  have hbe := HOX.out.2.1
  refine bodyPost_ret (v := .agg #[.slice a2 ks.length c2, .slice (some ⟨w2.heap.size, 0, none⟩) 0 0]) (by simp [results, Tryd.results36, go_sem, d1, d2]) rfl ⟨_, w2.heap.size, rfl, ?_, ?_, hlt2, kG, ?_⟩
  · have h := HOX.out.1
    rw [List.nil_append] at h
    exact h.keep (fun k h1 h2 => kE k (by omega) h2)
  · intro k hk
    have h := HOX.out.1
    rw [List.nil_append] at h
    exact (h.lt k hk).2
  · refine ⟨hoF.1.trans (hbe.os.trans hb2.os), hoF.2.1.trans (hbe.tape.trans hb2.tape), hoF.2.2.trans (hbe.output.trans hb2.output), by omega, fun k hk => ?_⟩
    rw [kE k (by omega) (by omega), hbe.block k (by omega), hb2.block k hk]
end Go.Proofs.YtdkldcgiiiejfaaDoor
