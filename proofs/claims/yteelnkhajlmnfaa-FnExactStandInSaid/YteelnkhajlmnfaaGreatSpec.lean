/- The contract of the model's l4Greatest: the greatest key of a tree. -/
import Derived.Test.YteelnkhajlmnfaaProg
import Derived.Test.YteelnkhajlmnfaaBase
import Derived.Test.YteelnkhajlmnfaaApp
import Derived.Test.YteelnkhajlmnfaaSomeSpec
import Derived.Test.YteelnkhajlmnfaaPathD
import Derived.Test.YteelnkhajlmnfaaPathSpec
import Derived.Test.YteelnkhajlmnfaaStandData
import Derived.Deep.LoopGhost
import Derived.Deep.RegionWith
import Derived.Deep.QuietTactic
import Derived.BigQuiet
import Derived.WalkSmall
namespace Go.Proofs.Yteelnkhajlmnfaa
open Go.RowKit

set_option maxRecDepth 100000 in
set_option maxHeartbeats 4000000 in
theorem specGreatest_c {w : World} {B : Nat} {kv cv : Value} {t : Tr} (ht : TreeIn w B kv cv t) (hf : Tr.Full t) (hw : t.weight ≤ 1048576) (w' : World) (hbw : Below B w w') (hB : B ≤ w'.heap.size) :
    Calls Try.prog 76 #[.agg #[kv, cv]] w' fun e w'' => e = .returned (.int .i64 t.greatest) ∧ Below w'.heap.size w' w'' := by
  obtain ⟨a5, n5, m5, a6, n6, m6, rfl, rfl⟩ := ht.slices
  obtain ⟨W1, hW1⟩ : ∃ W1, W1 = w'.alloc (.cells #[.slice a5 n5 m5, .slice a6 n6 m6] 30) := ⟨_, rfl⟩
  have hs1 : W1.heap.size = w'.heap.size + 1 := by rw [hW1]; simp
  have hb1 : Below w'.heap.size w' W1 := by rw [hW1]; exact (Below.refl _ _).alloc (Nat.le_refl _) _
  have kb : W1.heap[w'.heap.size]? = some (.cells #[.slice a5 n5 m5, .slice a6 n6 m6] 30 (0, 0)) := by rw [hW1, new_blk]
  have HT := Lib.hid ht
  have HBW := Lib.hid hbw
  have HW1 := Lib.hid hW1
  have H1 := Lib.hid (And.intro hb1 kb)
  have HF := Lib.hid hf
  clear ht hbw hW1 hb1 kb hf
  go_enter Try.func76, Try.ntmps76
  go_wp2_with fail
  rw [← HW1.out]
  go_loopg [] t.weight (fun k wr => ∃ (tr : Tr) (kvr cvr : Value), wr.heap[w'.heap.size]? = some (.cells #[kvr, cvr] 30 (0, 0)) ∧ TreeIn w B kvr cvr tr ∧ Tr.Full tr ∧
    tr.weight ≤ k ∧ tr.greatest = t.greatest ∧ Below w'.heap.size w' wr ∧ tr.weight ≤ 1048576)
  case atStart => exact ⟨t, _, _, H1.out.2, HT.out, HF.out, Nat.le_refl _, rfl, H1.out.1, hw⟩
  case round =>
    obtain ⟨tr, kvr, cvr, hbox, htr, hfl, hk, hgr, hbel, hwt⟩ := hrel
    cases tr with
    | mk ks cs =>
    obtain ⟨a, cap, kvs, cvs, rfl, hki, hlen, hcap, hat, hkids⟩ := htr.parts
    obtain ⟨ka, kcap, rfl, k1, k2, k3, k4⟩ := hki
    have hsr := hbel.size
    have hlt := (Array.getElem?_eq_some_iff.1 hbox).1
    have hBr : Below B w wr := HBW.out.trans (hbel.mono hB)
    have hkn := hfl.keys
    have hki4 : IntsIn wr B (.slice ka ks.length kcap) ks := IntsIn.later ⟨ka, kcap, rfl, k1, k2, k3, k4⟩ hBr (Nat.le_refl _)
    unfold maxLen at k2 hcap
    have hl0 := Tr.length_le_weights cs
    have hwt' := hwt
    simp only [Tr.weight] at hwt'
    cases hcl : cs.length with
    | zero =>
      obtain ⟨m, hm⟩ : ∃ m, ks.length = m + 1 := ⟨ks.length - 1, by omega⟩
      have hg := Tr.greatest_leaf (k := ks) hcl
      rw [hm, Nat.add_sub_cancel] at hg
      obtain ⟨_, _, hv, _, _, _, h⟩ := hki4
      injection hv with e1 _ e3
      subst e1 e3
      rcases h with h | ⟨b, off, rfl, hb, hat4⟩
      · exact absurd (by rw [h]; rfl) hkn
      have ha' : wr.cell? ⟨b, off + m, none⟩ = some (.int .i64 (ks.getD m 0)) := hat4 m (by omega)
      rw [← hg, hgr] at ha'
      rw [hm, hcl] at hbox
      rw [hm] at k1
      have HBEL := Lib.hid hbel
      obtain ⟨x1, x2, x3, x4⟩ := box2 hbox
      clear hat4 hg hat hkids htr hfl hk hbel hgr hBr hbox k4 hm hkn hwt hwt' hl0 hcl
      go_wp2_with fail
      go_ret
      exact ⟨rfl, HBEL.out⟩
    | succ m =>
      have hic : m < cs.length := by omega
      have hgi := Tr.greatest_inner (k := ks) (cs := cs) (by omega)
      obtain ⟨ka5, kn5, kc5, ca5, cn5, cc5, hkv5, hcv5⟩ := (hkids m hic).slices
      rcases hat with h | ⟨kb5, ko5, rfl, hkb5, hkat5⟩
      · omega
      have hka := (hkat5 m hic).1
      have hkc := (hkat5 m hic).2
      rw [hkv5] at hka
      rw [hcv5] at hkc
      have z1 := (below_cell hBr hkb5).trans hka
      have z2 := (below_cell hBr hkb5).trans hkc
      have hgm : cs[m].greatest = t.greatest := by
        rw [← hgr, hgi]; congr 1; simp [hcl]
      rw [hcl] at hbox hlen
      obtain ⟨x1, x2, x3, x4⟩ := box2 hbox
      have HKV5 := Lib.hid (And.intro hkv5 hcv5)
      have HR := Lib.hid (And.intro hbox (And.intro hkids (And.intro hfl (And.intro hk (And.intro hbel (And.intro hgm hBr))))))
      have HCL := Lib.hid hcl
      clear hka hkc hkat5 hkv5 hcv5 hbox hkids hfl hk hbel hgm hBr hgi hgr htr hki4 k4 hcl
      go_wp2_with fail
      go_roundg cs[m].weight
      case measure => have h := HR.out.2.2.2.1; simp only [Tr.weight] at h; have := Tr.weight_get_le cs m hic; omega
      case rel =>
        refine ⟨cs[m], _, _, set_blk _ (set_blk _ HR.out.1), ?_, Tr.Tops.kid HR.out.2.2.1.tops m hic, Nat.le_refl _, HR.out.2.2.2.2.2.1, ?_, ?_⟩
        · rw [← HKV5.out.1, ← HKV5.out.2]; exact HR.out.2.1 m hic
        · exact (HR.out.2.2.2.2.1.setCell (Nat.le_refl _) _).setCell (Nat.le_refl _) _
        · have := Tr.weight_get_le cs m hic; omega
end Go.Proofs.Yteelnkhajlmnfaa
