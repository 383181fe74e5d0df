/- The contract of the model's l1Leaf. -/
import Derived.Test.YthiohdbcclbgkaaProg
import Derived.Test.YthiohdbcclbgkaaBase
import Derived.Test.YthiohdbcclbgkaaApp

/- Trees in memory by the blocks that they lie in: a footprint. -/
namespace Go.Proofs.Ythiohdbcclbgkaa
open Go.RowKit

/-- A slice of ints, its block in P. -/
def IntsP (w : World) (P : Nat → Prop) (v : Value) (ks : List Int) : Prop :=
  ∃ (a : Option Addr) (cap : Nat), v = .slice a ks.length cap ∧ ks.length ≤ cap ∧ cap ≤ maxLen ∧ (a = none → cap = 0) ∧
    (ks = [] ∨ ∃ b o, a = some ⟨b, o, none⟩ ∧ P b ∧ ∀ i, i < ks.length → w.cell? ⟨b, o + i, none⟩ = some (.int .i64 (ks.getD i 0)))

/-- A slice of trees, its block in P. -/
def KidsP (w : World) (P : Nat → Prop) (a : Option Addr) (n : Nat) (kvs cvs : Nat → Value) : Prop :=
  n = 0 ∨ ∃ b o, a = some ⟨b, o, none⟩ ∧ P b ∧ ∀ i, i < n →
    w.cell? ⟨b, o + i * 2, none⟩ = some (kvs i) ∧ w.cell? ⟨b, o + i * 2 + 1, none⟩ = some (cvs i)

/-- A tree, its blocks in P. -/
inductive TreeP (w : World) (P : Nat → Prop) : Value → Value → Tr → Prop where
  | mk (ks : List Int) (cs : List Tr) (kv : Value) (a : Option Addr) (cap : Nat) (kvs cvs : Nat → Value)
      (hk : IntsP w P kv ks) (hlen : cs.length ≤ cap) (hcap : cap ≤ maxLen) (hat : KidsP w P a cs.length kvs cvs)
      (hkids : ∀ i (h : i < cs.length), TreeP w P (kvs i) (cvs i) cs[i]) :
      TreeP w P kv (.slice a cs.length cap) (.mk ks cs)

theorem cellP {w w' : World} {b o : Nat} (h : w'.heap[b]? = w.heap[b]?) : w'.cell? ⟨b, o, none⟩ = w.cell? ⟨b, o, none⟩ := World.cell?_of_block (w := w) (a := ⟨b, o, none⟩) h

theorem IntsP.same {w w' : World} {P Q : Nat → Prop} {v : Value} {ks : List Int} (h : IntsP w P v ks) (hb : ∀ k, P k → w'.heap[k]? = w.heap[k]?) (hq : ∀ k, P k → Q k) : IntsP w' Q v ks := by
  obtain ⟨a, cap, hv, h1, h2, hnl, h3⟩ := h
  refine ⟨a, cap, hv, h1, h2, hnl, ?_⟩
  rcases h3 with h3 | ⟨b, o, h3, h4, h5⟩
  · exact .inl h3
  · exact .inr ⟨b, o, h3, hq b h4, fun i hi => by rw [cellP (hb b h4)]; exact h5 i hi⟩

theorem KidsP.same {w w' : World} {P Q : Nat → Prop} {a : Option Addr} {n : Nat} {kvs cvs : Nat → Value} (h : KidsP w P a n kvs cvs) (hb : ∀ k, P k → w'.heap[k]? = w.heap[k]?) (hq : ∀ k, P k → Q k) : KidsP w' Q a n kvs cvs := by
  rcases h with h3 | ⟨b, o, h3, h4, h5⟩
  · exact .inl h3
  · exact .inr ⟨b, o, h3, hq b h4, fun i hi => ⟨by rw [cellP (hb b h4)]; exact (h5 i hi).1, by rw [cellP (hb b h4)]; exact (h5 i hi).2⟩⟩

theorem TreeP.same {w w' : World} {P Q : Nat → Prop} {kv cv : Value} {t : Tr} (h : TreeP w P kv cv t) (hb : ∀ k, P k → w'.heap[k]? = w.heap[k]?) (hq : ∀ k, P k → Q k) : TreeP w' Q kv cv t := by
  induction h with
  | mk ks cs kv a cap kvs cvs hk hlen hcap hat hkids ih => exact TreeP.mk ks cs kv a cap kvs cvs (hk.same hb hq) hlen hcap (hat.same hb hq) ih

theorem TreeP.tree {w : World} {B : Nat} {P : Nat → Prop} {kv cv : Value} {t : Tr} (h : TreeP w P kv cv t) (hq : ∀ k, P k → k < B) : TreeIn w B kv cv t := by
  induction h with
  | mk ks cs kv a cap kvs cvs hk hlen hcap hat hkids ih =>
    refine TreeIn.mk ks cs kv a cap kvs cvs ?_ hlen hcap ?_ ih
    · obtain ⟨a, cap, hv, h1, h2, hnl, h3⟩ := hk
      refine ⟨a, cap, hv, h1, h2, hnl, ?_⟩
      rcases h3 with h3 | ⟨b, o, h3, h4, h5⟩
      · exact .inl h3
      · exact .inr ⟨b, o, h3, hq b h4, h5⟩
    · rcases hat with h3 | ⟨b, o, h3, h4, h5⟩
      · exact .inl h3
      · exact .inr ⟨b, o, h3, hq b h4, h5⟩

theorem IntsIn.p {w : World} {B : Nat} {v : Value} {ks : List Int} (h : IntsIn w B v ks) : IntsP w (· < B) v ks := h
theorem TreeIn.p {w : World} {B : Nat} {kv cv : Value} {t : Tr} (h : TreeIn w B kv cv t) : TreeP w (· < B) kv cv t := by
  induction h with
  | mk ks cs kv a cap kvs cvs hk hlen hcap hat hkids ih => exact TreeP.mk ks cs kv a cap kvs cvs hk hlen hcap hat ih

theorem TreeP.slices {w : World} {P : Nat → Prop} {kv cv : Value} {t : Tr} (h : TreeP w P kv cv t) : ∃ a n c a' n' c', kv = .slice a n c ∧ cv = .slice a' n' c' := by
  cases h with
  | mk ks cs kv a cap kvs cvs hk hlen hcap hat hkids =>
    obtain ⟨ka, kcap, rfl, _⟩ := hk
    exact ⟨_, _, _, _, _, _, rfl, rfl⟩

theorem IntsOwn.p {w : World} {lo : Nat} {v : Value} {ks : List Int} (h : IntsOwn w lo v ks) : IntsP w (fun k => lo ≤ k ∧ k < w.heap.size) v ks := by
  obtain ⟨a, cap, hv, h1, h2, h3, h4⟩ := IntsOwn.in h
  refine ⟨a, cap, hv, h1, h2, h3, ?_⟩
  rcases h4 with h4 | ⟨b, o, h5, h6, h7⟩
  · exact .inl h4
  · refine .inr ⟨b, o, h5, ⟨?_, h6⟩, h7⟩
    obtain ⟨_, ⟨e1, _⟩ | ⟨g, c, cur, e1, e2, _⟩⟩ := h
    · rw [e1, h5] at hv; cases hv
    · rw [e1] at hv
      simp only [Value.slice.injEq] at hv
      rw [h5] at hv
      simp only [Option.some.injEq, Addr.mk.injEq, and_true] at hv
      obtain ⟨⟨rfl, _⟩, _⟩ := hv
      exact e2

theorem IntsOwn.keep {w w' : World} {lo : Nat} {v : Value} {ks : List Int} (h : IntsOwn w lo v ks) (hb : ∀ k, lo ≤ k → k < w.heap.size → w'.heap[k]? = w.heap[k]?) : IntsOwn w' lo v ks := by
  obtain ⟨h1, h2 | ⟨g, cap, cur, hv, hbb, hg, hr⟩⟩ := h
  · exact ⟨h1, .inl h2⟩
  · exact ⟨h1, .inr ⟨g, cap, cur, hv, hbb, (hb g hbb (Array.getElem?_eq_some_iff.1 hg).1).trans hg, hr⟩⟩

/-- A block of cells of which none is frozen. -/
def Plain (w : World) (k : Nat) : Prop := ∃ (c : Array Value) (t : TypeId), w.heap[k]? = some (.cells c t (0, 0))
theorem Plain.kept {w w' : World} {k : Nat} (h : Plain w k) (hb : w'.heap[k]? = w.heap[k]?) : Plain w' k := by
  obtain ⟨c, t, h⟩ := h
  exact ⟨c, t, hb.trans h⟩

/-- A slice of trees, its block in P, and plain. -/
def KidsQ (w : World) (P : Nat → Prop) (a : Option Addr) (n : Nat) (kvs cvs : Nat → Value) : Prop :=
  n = 0 ∨ ∃ b o, a = some ⟨b, o, none⟩ ∧ (P b ∧ Plain w b) ∧ ∀ i, i < n →
    w.cell? ⟨b, o + i * 2, none⟩ = some (kvs i) ∧ w.cell? ⟨b, o + i * 2 + 1, none⟩ = some (cvs i)

/-- A tree, its blocks in P, the kids in plain blocks. -/
inductive TreeQ (w : World) (P : Nat → Prop) : Value → Value → Tr → Prop where
  | mk (ks : List Int) (cs : List Tr) (kv : Value) (a : Option Addr) (cap : Nat) (kvs cvs : Nat → Value)
      (hk : IntsP w P kv ks) (hlen : cs.length ≤ cap) (hcap : cap ≤ maxLen) (hat : KidsQ w P a cs.length kvs cvs)
      (hkids : ∀ i (h : i < cs.length), TreeQ w P (kvs i) (cvs i) cs[i]) :
      TreeQ w P kv (.slice a cs.length cap) (.mk ks cs)

theorem KidsQ.same {w w' : World} {P Q : Nat → Prop} {a : Option Addr} {n : Nat} {kvs cvs : Nat → Value} (h : KidsQ w P a n kvs cvs) (hb : ∀ k, P k → w'.heap[k]? = w.heap[k]?) (hq : ∀ k, P k → Q k) : KidsQ w' Q a n kvs cvs := by
  rcases h with h3 | ⟨b, o, h3, h4, h5⟩
  · exact .inl h3
  · exact .inr ⟨b, o, h3, ⟨hq b h4.1, h4.2.kept (hb b h4.1)⟩, fun i hi => ⟨by rw [cellP (hb b h4.1)]; exact (h5 i hi).1, by rw [cellP (hb b h4.1)]; exact (h5 i hi).2⟩⟩

theorem TreeQ.same {w w' : World} {P Q : Nat → Prop} {kv cv : Value} {t : Tr} (h : TreeQ w P kv cv t) (hb : ∀ k, P k → w'.heap[k]? = w.heap[k]?) (hq : ∀ k, P k → Q k) : TreeQ w' Q kv cv t := by
  induction h with
  | mk ks cs kv a cap kvs cvs hk hlen hcap hat hkids ih => exact TreeQ.mk ks cs kv a cap kvs cvs (hk.same hb hq) hlen hcap (hat.same hb hq) ih

theorem TreeQ.p {w : World} {P : Nat → Prop} {kv cv : Value} {t : Tr} (h : TreeQ w P kv cv t) : TreeP w P kv cv t := by
  induction h with
  | mk ks cs kv a cap kvs cvs hk hlen hcap hat hkids ih =>
    refine TreeP.mk ks cs kv a cap kvs cvs hk hlen hcap ?_ ih
    rcases hat with h3 | ⟨b, o, h3, h4, h5⟩
    · exact .inl h3
    · exact .inr ⟨b, o, h3, h4.1, h5⟩

theorem TreeQ.tree {w : World} {B : Nat} {P : Nat → Prop} {kv cv : Value} {t : Tr} (h : TreeQ w P kv cv t) (hq : ∀ k, P k → k < B) : TreeIn w B kv cv t := h.p.tree hq

theorem TreeQ.slices {w : World} {P : Nat → Prop} {kv cv : Value} {t : Tr} (h : TreeQ w P kv cv t) : ∃ a n c a' n' c', kv = .slice a n c ∧ cv = .slice a' n' c' := h.p.slices
end Go.Proofs.Ythiohdbcclbgkaa

/- The contract of the model's l1Leaf. -/
namespace Go.Proofs.Ythiohdbcclbgkaa
open Go.RowKit

/-- What l1Leaf leaves: a row of keys, and an empty row of kids behind it. -/
def Leafed (w : World) (ks : List Int) (e : Ending) (w' : World) : Prop :=
  ∃ (kv : Value) (g : Nat), e = .returned (.agg #[kv, .slice (some ⟨g, 0, none⟩) 0 0]) ∧ IntsOwn w' (w.heap.size + 1) kv ks ∧ (∀ k, kv.ownBlock = some k → k < g) ∧
    w.heap.size < g ∧ w'.heap[g]? = some (.cells #[] 25 (0, 0)) ∧ Below w.heap.size w w'

set_option maxHeartbeats 1000000 in
theorem leaf_c (w : World) (v : Value) (ks : List Int) (hk : ∀ w', Below w.heap.size w w' → IntsAt w' v ks) (hl : ks.length ≤ 1048576) :
    Calls Try.prog 66 #[v] w (Leafed w ks) := by
  obtain ⟨W1, hW1⟩ : ∃ W1, W1 = w.alloc (.cells #[.slice none 0 0, .slice none 0 0] 25) := ⟨_, rfl⟩
  have hs1 : W1.heap.size = w.heap.size + 1 := by rw [hW1]; simp
  have hb1 : Below w.heap.size w W1 := by rw [hW1]; exact (Below.refl _ _).alloc (Nat.le_refl _) _
  have h00 : IntsOwn (W1.alloc (.cells #[] 3)) (w.heap.size + 1) (.slice (some ⟨w.heap.size + 1, 0, none⟩) 0 0) [] := by
    rw [← hs1]; exact World.ownsRow_made W1 #[] 0 (Nat.le_refl _) (by unfold maxLen; omega) rfl
  have hsrc : IntsAt (W1.alloc (.cells #[] 3)) v ks := hk _ (hb1.alloc (by omega) _)
  have hlo : w.heap.size + 1 ≤ (W1.alloc (.cells #[] 3)).heap.size := by simp; omega
  have hln : ([] : List Int).length + ks.length ≤ 17592186044416 := by simp; omega
  have kb0 : (W1.alloc (.cells #[] 3)).heap[w.heap.size]? = some (.cells #[.slice none 0 0, .slice none 0 0] 25 (0, 0)) := by rw [old_blk _ _ _ (by omega), hW1, new_blk]
  have hb2 : Below w.heap.size w (W1.alloc (.cells #[] 3)) := hb1.alloc (by omega) _
  have hs2 : (W1.alloc (.cells #[] 3)).heap.size = w.heap.size + 2 := by simp; omega
  have H00 := Lib.hid h00
  have HSRC := Lib.hid hsrc
  have HLN := Lib.hid hln
  have HB2 := Lib.hid (And.intro kb0 (And.intro hb2 hs2))
  rw [hW1] at H00 HSRC hlo HB2
  clear h00 hsrc hln hb1 hk hW1 hs1 kb0 hb2 hs2 W1
  go_enter Try.func66, Try.ntmps66
  go_wp2_with (at_builtin; refine wpList_append_ints rfl _ _ rfl (w.heap.size + 1) _ _ [] ks rfl H00.out rfl HSRC.out HLN.out hlo ?_; intro v2 w2 hown2 hbel2 _ hsh2; obtain ⟨a2, c2, rfl⟩ := hsh2; have hsz2 := hbel2.size; have hsz0 := HB2.out.2.2; have hlt2 : w.heap.size < w2.heap.size := (by omega); have kb2 := (hbel2.block w.heap.size (by omega)).trans HB2.out.1; obtain ⟨c1, c2', c3, c4⟩ := box2 kb2; have HOX := Lib.hid (And.intro hown2 (And.intro hbel2 (And.intro kb2 hsz2))); clear hown2 hbel2 kb2 hsz2 hsz0)
  obtain ⟨F, hF⟩ : ∃ F, F = (((w2.setCell ⟨w.heap.size, 0, none⟩ (.slice a2 ks.length c2)).setCell ⟨w.heap.size, 1, none⟩ (.slice (some ⟨w2.heap.size, 0, none⟩) 0 0)).alloc (.cells #[] 25)) := ⟨_, rfl⟩
  have hsF : ((w2.setCell ⟨w.heap.size, 0, none⟩ (.slice a2 ks.length c2)).setCell ⟨w.heap.size, 1, none⟩ (.slice (some ⟨w2.heap.size, 0, none⟩) 0 0)).heap.size = w2.heap.size := by simp
  have kF : F.heap[w.heap.size]? = some (.cells #[.slice a2 ks.length c2, .slice (some ⟨w2.heap.size, 0, none⟩) 0 0] 25 (0, 0)) := by
    rw [hF, old_blk _ _ _ (by rw [hsF]; exact hlt2)]
    exact set_blk (o := 1) _ (set_blk (o := 0) _ HOX.out.2.2.1)
  have kG : F.heap[w2.heap.size]? = some (.cells #[] 25 (0, 0)) := by
    have h := new_blk ((w2.setCell ⟨w.heap.size, 0, none⟩ (.slice a2 ks.length c2)).setCell ⟨w.heap.size, 1, none⟩ (.slice (some ⟨w2.heap.size, 0, none⟩) 0 0)) (.cells #[] 25)
    rw [hsF] at h; rw [hF]; exact h
  have kE : ∀ k, k ≠ w.heap.size → k < w2.heap.size → F.heap[k]? = w2.heap[k]? := fun k h1 h2 => by
    rw [hF, old_blk _ _ _ (by rw [hsF]; exact h2), set_other _ _ _ _ _ h1, set_other _ _ _ _ _ h1]
  have hzF : F.heap.size = w2.heap.size + 1 := by rw [hF]; simp
  rw [← hF]
  have hoF : F.os = w2.os ∧ F.tape = w2.tape ∧ F.output = w2.output := by rw [hF]; exact ⟨rfl, rfl, rfl⟩
  clear hF c1 c2' c3 c4
  obtain ⟨d1, d2, d3, d4⟩ := box2 kF
  have hb2 := HB2.out.2.1
  have hbe := HOX.out.2.1
  refine bodyPost_ret (v := .agg #[.slice a2 ks.length c2, .slice (some ⟨w2.heap.size, 0, none⟩) 0 0]) (by simp [results, Try.results66, go_sem, d1, d2]) rfl ⟨_, w2.heap.size, rfl, ?_, ?_, hlt2, kG, ?_⟩
  · have h := HOX.out.1
    rw [List.nil_append] at h
    exact h.keep (fun k h1 h2 => kE k (by omega) h2)
  · intro k hk
    have h := HOX.out.1
    rw [List.nil_append] at h
    exact (h.lt k hk).2
  · refine ⟨hoF.1.trans (hbe.os.trans hb2.os), hoF.2.1.trans (hbe.tape.trans hb2.tape), hoF.2.2.trans (hbe.output.trans hb2.output), by omega, fun k hk => ?_⟩
    rw [kE k (by omega) (by omega), hbe.block k (by omega), hb2.block k hk]
end Go.Proofs.Ythiohdbcclbgkaa
