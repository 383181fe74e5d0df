/- The contract of the program's greatest: the greatest key below a node. -/
import Derived.Test.YteelnkhajlmnfaaProg
import Derived.Test.YteelnkhajlmnfaaBase
import Derived.Test.YteelnkhajlmnfaaApp
import Derived.Test.YteelnkhajlmnfaaNode
import Derived.Test.YteelnkhajlmnfaaPathD
import Derived.Test.YteelnkhajlmnfaaWayIn
import Derived.Test.YteelnkhajlmnfaaStandData
import Derived.Test.YteelnkhajlmnfaaSz
import Derived.Deep.LoopGhost
import Derived.Deep.RegionWith
import Derived.Deep.QuietTactic
import Derived.BigQuiet
import Derived.WalkSmall
namespace Go.Proofs.Yteelnkhajlmnfaa
open Go.RowKit

set_option maxRecDepth 100000 in
set_option maxHeartbeats 4000000 in
theorem greatest_c {w : World} {lo hi b : Nat} {t : Tr} (ht : NodeAt w lo hi b t) (hf : Tr.Full t) (hw : t.weight ≤ 1048576) (hhi : hi ≤ w.heap.size) :
    Calls Try.prog 81 #[.pointer (some ⟨b, 0, none⟩)] w fun e w'' => e = .returned (.int .i64 t.greatest) ∧ Below w.heap.size w w'' := by
  have HT := Lib.hid ht
  have HF := Lib.hid hf
  clear ht hf
  go_enter Try.func81, Try.ntmps81
  go_wp2_with fail
  go_loopg [0] t.weight (fun k s0 wr => ∃ (tr : Tr) (b' : Nat), s0 = .pointer (some ⟨b', 0, none⟩) ∧ NodeAt w lo hi b' tr ∧ Tr.Full tr ∧
    tr.weight ≤ k ∧ tr.greatest = t.greatest ∧ Below w.heap.size w wr ∧ tr.weight ≤ 1048576)
  case atStart => exact ⟨t, b, rfl, HT.out, HF.out, Nat.le_refl _, rfl, Below.refl _ _, hw⟩
  case round =>
    obtain ⟨tr, b', rfl, htr, hfl, hk, hgr, hbel, hwt⟩ := hrel
    cases tr with
    | mk ks cs =>
    have htr' : NodeAt wr lo hi b' (.mk ks cs) := htr.same (fun k _ h => hbel.block k (by omega))
    obtain ⟨kv, a, cap, ps, hlo, hhb, hbox, hki, hlen, hcap, hat, hkids⟩ := htr'.parts
    have hkids0 : ∀ i (h : i < cs.length), NodeAt w lo hi (ps i) cs[i] := fun i h => (hkids i h).same (fun k _ h => (hbel.block k (by omega)).symm)
    obtain ⟨ka, kcap, rfl, k1, k2, k3, k4⟩ := hki
    have hkn := hfl.keys
    unfold maxLen at k2 hcap
    have hl0 := Tr.length_le_weights cs
    have hwt' := hwt
    simp only [Tr.weight] at hwt'
    cases hcl : cs.length with
    | zero =>
      obtain ⟨m, hm⟩ : ∃ m, ks.length = m + 1 := ⟨ks.length - 1, by omega⟩
      have hg := Tr.greatest_leaf (k := ks) hcl
      rw [hm, Nat.add_sub_cancel] at hg
      rcases k4 with h | ⟨kb, off, rfl, hb1, hb2, hat4⟩
      · exact absurd (by rw [h]; rfl) hkn
      have ha' : wr.cell? ⟨kb, off + m, none⟩ = some (.int .i64 (ks.getD m 0)) := hat4 m (by omega)
      rw [← hg, hgr] at ha'
      rw [hm, hcl] at hbox
      rw [hm] at k1
      have HBEL := Lib.hid hbel
      obtain ⟨x1, x2, x3, x4⟩ := box2 hbox
      clear hat4 hg hat hkids htr hfl hk hbel hgr hbox hm hkn hwt hwt' hl0 hcl htr' hkids0
      go_wp2_with fail
      go_quiet (fail)
      go_wp2_with fail
      go_ret
      exact ⟨rfl, below_drewN HBEL.out _⟩
    | succ m =>
      have hic : m < cs.length := by omega
      have hgi := Tr.greatest_inner (k := ks) (cs := cs) (by omega)
      rcases hat with h | ⟨qb, qo, rfl, q1, q2, q3⟩
      · omega
      have z1 := q3 m hic
      have hgm : cs[m].greatest = t.greatest := by
        rw [← hgr, hgi]; congr 1; simp [hcl]
      rw [hcl] at hbox hlen
      obtain ⟨x1, x2, x3, x4⟩ := box2 hbox
      have HR := Lib.hid (And.intro (hkids0 m hic) (And.intro (hfl.tops.kid m hic) (And.intro hk (And.intro hgm hbel))))
      have HCL := Lib.hid hcl
      clear q3 hbox hkids hkids0 hfl hk hbel hgm hgi hgr htr htr' k4 hcl
      go_wp2_with fail
      go_quiet (fail)
      go_wp2_with fail
      go_roundg cs[m].weight
      case measure => have h := HR.out.2.2.1; simp only [Tr.weight] at h; have := Tr.weight_get_le cs m hic; omega
      case rel =>
        exact ⟨cs[m], ps m, rfl, HR.out.1, HR.out.2.1, Nat.le_refl _, HR.out.2.2.2.1, below_drewN HR.out.2.2.2.2 _, by have := Tr.weight_get_le cs m hic; omega⟩
end Go.Proofs.Yteelnkhajlmnfaa
