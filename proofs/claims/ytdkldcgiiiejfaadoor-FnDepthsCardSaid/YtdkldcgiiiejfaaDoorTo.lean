/- The contracts of the functions that copy an argument into new memory: toIntS, toTreeS, toTree. -/
import Derived.Test.YtdkldcgiiiejfaaDoorProg
import Derived.Test.YtdkldcgiiiejfaaDoorBase
import Derived.Test.YtdkldcgiiiejfaaDoorDa0
import Derived.Deep.OwnRows
namespace Go.Proofs.YtdkldcgiiiejfaaDoor
open Go.RowKit

theorem Tryd.infoInt : (Tryd.prog.info? 3).map (fun i => (i.zero, i.size, i.bytes)) = some (some (.int .i64 0), 1, 8) := by kernel_rfl


/-- What toTreeS and toTree leave: a tree in rows of its own, from block lo on. -/
inductive TreeNew (w : World) (lo : Nat) : Value → Value → Tr → Prop where
  | mk (ks : List Int) (cs : List Tr) (g h : Nat) (kvs cvs : Nat → Value) (hg : lo ≤ g) (hh : lo ≤ h)
      (hk : w.rowIs g 3 ks.length (fun i => .int .i64 (ks.getD i 0)))
      (hc : w.rowIs h 26 (cs.length * 2) (fun j => if j % 2 = 0 then kvs (j / 2) else cvs (j / 2)))
      (hkids : ∀ i (h : i < cs.length), TreeNew w lo (kvs i) (cvs i) cs[i]) :
      TreeNew w lo (.slice (some ⟨g, 0, none⟩) ks.length ks.length) (.slice (some ⟨h, 0, none⟩) cs.length cs.length) (.mk ks cs)

theorem TreeNew.later {w w' : World} {lo C : Nat} {kv cv : Value} {t : Tr} (h : TreeNew w lo kv cv t) (hb : Below C w w') (hC : w.heap.size ≤ C) : TreeNew w' lo kv cv t := by
  induction h with
  | mk ks cs g h kvs cvs hg hh hk hc hkids ih => exact .mk ks cs g h kvs cvs hg hh (hk.of_block (hb.block _ (by have := hk.lt; omega))) (hc.of_block (hb.block _ (by have := hc.lt; omega))) ih

theorem TreeNew.lower {w : World} {lo lo' : Nat} {kv cv : Value} {t : Tr} (h : TreeNew w lo kv cv t) (hl : lo' ≤ lo) : TreeNew w lo' kv cv t := by
  induction h with
  | mk ks cs g h kvs cvs hg hh hk hc hkids ih => exact .mk ks cs g h kvs cvs (by omega) (by omega) hk hc ih

theorem TreeNew.same {w w' : World} {lo : Nat} {kv cv : Value} {t : Tr} (h : TreeNew w lo kv cv t) (hb : ∀ k, lo ≤ k → k < w.heap.size → w'.heap[k]? = w.heap[k]?) (_ : True) : TreeNew w' lo kv cv t := by
  induction h with
  | mk ks cs g h kvs cvs hg hh hk hc hkids ih => exact .mk ks cs g h kvs cvs hg hh (hk.of_block (hb _ hg hk.lt)) (hc.of_block (hb _ hh hc.lt)) ih

theorem TreeNew.slices {w : World} {lo : Nat} {kv cv : Value} {t : Tr} (h : TreeNew w lo kv cv t) : ∃ g h n m, kv = .slice (some ⟨g, 0, none⟩) n n ∧ cv = .slice (some ⟨h, 0, none⟩) m m := by
  cases h with
  | mk ks cs g h kvs cvs hg hh hk hc hkids => exact ⟨_, _, _, _, rfl, rfl⟩

/-- Such a tree is a tree in memory. -/
theorem TreeNew.tree {w : World} {lo : Nat} {kv cv : Value} {t : Tr} (h : TreeNew w lo kv cv t) (hw : t.weight ≤ 1048576) : TreeIn w w.heap.size kv cv t := by
  induction h with
  | mk ks cs g h kvs cvs hg hh hk hc hkids ih =>
    simp only [Tr.weight] at hw
    have hl := Tr.length_le_weights cs
    refine .mk ks cs _ _ _ kvs cvs ⟨_, _, rfl, Nat.le_refl _, by unfold maxLen; omega, by simp, ?_⟩ (Nat.le_refl _) (by unfold maxLen; omega) ?_ (fun i hi => ih i hi (by have := Tr.weight_get_le cs i hi; omega))
    · exact .inr ⟨g, 0, rfl, hk.lt, fun i hi => by rw [Nat.zero_add]; exact hk.cell hi⟩
    · refine .inr ⟨h, 0, rfl, hc.lt, fun i hi => ?_⟩
      have h1 := hc.cell (i := i * 2) (by omega)
      have h2 := hc.cell (i := i * 2 + 1) (by omega)
      rw [if_pos (by omega), show i * 2 / 2 = i from by omega] at h1
      rw [if_neg (by omega), show (i * 2 + 1) / 2 = i from by omega] at h2
      rw [Nat.zero_add]
      exact ⟨h1, h2⟩

theorem pairRow_step (kvs cvs : Nat → Value) (z u v : Value) (j q : Nat) :
    (if q = j * 2 + 1 then v else if q = j * 2 then u else if q / 2 < j then (if q % 2 = 0 then kvs (q / 2) else cvs (q / 2)) else z) =
    (if q / 2 < j + 1 then (if q % 2 = 0 then (if q / 2 = j then u else kvs (q / 2)) else (if q / 2 = j then v else cvs (q / 2))) else z) := by
  by_cases e1 : q = j * 2 + 1
  · rw [if_pos e1, if_pos (by omega), if_neg (by omega), if_pos (by omega)]
  · rw [if_neg e1]
    by_cases e2 : q = j * 2
    · rw [if_pos e2, if_pos (by omega), if_pos (by omega), if_pos (by omega)]
    · rw [if_neg e2]
      by_cases e3 : q / 2 < j
      · rw [if_pos e3, if_pos (show q / 2 < j + 1 by omega)]
        have e4 : ¬ q / 2 = j := by omega
        simp only [if_neg e4]
      · rw [if_neg e3, if_neg (by omega)]



end Go.Proofs.YtdkldcgiiiejfaaDoor
