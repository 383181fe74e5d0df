/- The program's text of a cursor. -/
import Derived.Test.YtlogjmjoegnkbaaDoorProg
import Derived.Test.YtlogjmjoegnkbaaDoorFcS1
import Derived.Test.YtlogjmjoegnkbaaDoorFcS12
import Derived.Test.YtlogjmjoegnkbaaDoorFcS9
import Derived.Lib.AppendIntMem
import Derived.Lib.ItoaLen
import Derived.Lib.Slices
import Derived.Laws.IdiomStrings
import Derived.OwnWalk
namespace Go.Proofs.YtlogjmjoegnkbaaDoor
open Go.RowKit

theorem infoByte : (Tryd.prog.info? 5).map (fun i => (i.zero, i.size, i.bytes)) = some (some (.int .u8 0), 1, 1) := by kernel_rfl
theorem dig_pos (u : Nat) : 0 < (Lib.decDigits u).length := by
  rw [Lib.decDigits]
  split <;> simp
theorem itoa_pos (n : Int) : 0 < (Lib.itoa n).length := by
  unfold Lib.itoa
  split
  · simp
  · exact dig_pos _

set_option maxHeartbeats 2000000 in
set_option maxRecDepth 100000 in
theorem impl_formatCursor {v : Value} {ks : List Int} (a : Int) (w0 w : World) (htab : Lib.TabBelow Tryd.prog w0.heap.size w0 "internal/strconv.uint64pow10" .u64 Lib.pow10Tab) (hw : Below w0.heap.size w0 w) (B : Nat) (hB : B ≤ w.heap.size) (hk : IntsIn w B v ks) (hf : ∀ k ∈ ks, Fits k) (ha : Fits a) (hn : ks.length ≤ 1048576) :
    Calls Tryd.prog 7 #[.agg #[v, .int .i64 a]] w fun e w' => e = .returned (.string ⟨(curText ks a).toArray⟩) ∧ Below w.heap.size w w' := by
  obtain ⟨va, vcap, rfl, -, -, -, h3⟩ := hk
  have HK := Lib.hid h3
  have HF := Lib.hid hf
  obtain ⟨W1, hW1⟩ : ∃ W1, W1 = w.alloc (.cells #[.slice va ks.length vcap, .int .i64 a] 27) := ⟨_, rfl⟩
  have hs1 : w.heap.size < W1.heap.size := by rw [hW1]; simp
  have hb1 : Below w.heap.size w W1 := by rw [hW1]; exact (Below.refl _ _).alloc (Nat.le_refl _) _
  have hx1 : W1.heap[w.heap.size]? = some (.cells #[.slice va ks.length vcap, .int .i64 a] 27 (0, 0)) := by rw [hW1, new_blk]
  have BOX : Hid (∀ wx : World, Below W1.heap.size W1 wx → wx.heap[w.heap.size]? = some (.cells #[.slice va ks.length vcap, .int .i64 a] 27 (0, 0))) := Lib.hid (fun wx hx => (hx.block _ (by omega)).trans hx1)
  have hx1x := hx1
  rw [hW1] at hx1x
  obtain ⟨x1, x2, x3, x4⟩ := box2 hx1x
  have HF1 := Lib.hid hb1
  have HA := Lib.hid ha
  have HT : Hid (Lib.TabBelow Tryd.prog W1.heap.size W1 "internal/strconv.uint64pow10" .u64 Lib.pow10Tab) := Lib.hid (fun wx hx => htab wx (hw.trans ((hb1.trans (hx.mono (by omega))).mono hw.size)))
  obtain ⟨i0, hi0, hz0, hz1, hz2⟩ := info_parts infoByte
  have HW1 := Lib.hid hW1
  clear h3 hf hW1 hb1 hx1 hx1x ha htab hw
  go_enter Tryd.func7, Tryd.ntmps7
  go_wp2_with fail
  rw [← HW1.out]
  clear x1 x2 x3 x4
  go_loopw [3, 5, 9] (fun s3 _ i wr => ∃ (j : Nat), j ≤ ks.length ∧ i = .int .i64 j ∧ wr.ownsRow W1.heap.size 5 1 s3 (pathText (ks.take j)).length (Lib.byteCells (pathText (ks.take j))) ∧ Below W1.heap.size W1 wr) (fun _ _ i _ => ks.length - (intOf i).toNat)
  case atStart => exact ⟨0, Nat.zero_le _, rfl, World.ownsRow_nil _ _ _ _, Below.refl _ _⟩
  case round =>
    obtain ⟨j, hj, rfl, hown, hbel⟩ := hrel
    obtain ⟨oa, oc, rfl⟩ := row_shown hown
    have hsz := hbel.size
    have HB := Lib.hid hbel
    have hpl := pathText_few HF.out hn j
    by_cases hlt : j < ks.length
    · rcases HK.out with h | ⟨b, off, rfl, hb, hat⟩
      · simp [h] at hlt
      have ha1 : wr.cell? ⟨b, off + j, none⟩ = some (.int .i64 (ks.getD j 0)) := by rw [below_cell (HF1.out.trans (hbel.mono (by omega))) (by omega)]; exact hat j hlt
      have hjl : (j : Int) < (ks.length : Int) := by omega
      have hfx := fits_at HF.out hlt
      have hsn := pathText_snoc ks hlt
      obtain ⟨Q, hQ⟩ : ∃ Q, Q = pathText (ks.take (j + 1)) := ⟨_, rfl⟩
      rw [← hQ] at hsn
      have HQ := Lib.hid hQ
      generalize ks.getD j 0 = x at ha1 hfx hsn
      have hli := Lib.itoa_length_le x hfx.1 hfx.2
      generalize pathText (ks.take j) = P at hpl hsn hown ⊢
      have HAP := Lib.hid (app_c W1.heap.size P x hfx.1 hfx.2 (.slice oa P.length oc) wr wr hown hsz (by omega) (HT.out.on hbel))
      rw [← List.append_assoc] at hsn
      have hpx : (P ++ Lib.itoa x).length ≤ 30000000 := by rw [List.length_append]; omega
      generalize P ++ Lib.itoa x = PX at HAP hpx hsn
      have HQL := Lib.hid hsn
      clear hat hb hbel hQ hsn hfx hown hli
      go_wp2_with fail
      refine HAP.out.mono ?_
      rintro e w2 ⟨v2, rfl, hown2, hb2⟩
      obtain ⟨a2, c2, rfl⟩ := row_shown hown2
      have hs2 := hb2.size
      have HO2 := Lib.hid (hown2.alloc (.cells #[.int .u8 47] 5))
      have HFR : Hid (∀ g, (Value.slice a2 PX.length c2).ownBlock = some g → W1.heap.size ≤ g) := Lib.hid (fun g hg => (hown2.lt g hg).1)
      have hlo : W1.heap.size ≤ (w2.alloc (.cells #[.int .u8 47] 5)).heap.size := by simp; omega
      have H2 := Lib.hid (HB.out.trans hb2)
      clear hb2 hown2
      go_wp2_with (at_builtin; refine wpList_append_own _ rfl _ _ 34 rfl W1.heap.size 5 i0 (.int .u8 0) 1 1 Tryd.underlying34 hi0 hz0 hz1 hz2 rfl (by decide) _ _ _ rfl HO2.out ⟨w2.heap.size, 0, none⟩ 1 1 [Value.int .u8 47] rfl rfl (by intro j u' hj; match j, hj with | 0, hj => simp at hj; subst hj; simp [Addr.add]) (by intro u' hu'; simp at hu'; subst hu'; rfl) (by unfold maxLen; omega) (by omega) hlo ?_; intro v3 w3 hown3 hgrow _; obtain ⟨a3, c3, rfl⟩ := row_shown hown3; have H3 := Lib.hid (And.intro hown3 hgrow); clear hown3 hgrow)
      go_roundw
      case rel =>
        refine ⟨j + 1, by omega, by go_num, ?_, (H2.out.alloc (by omega) _).grown H3.out.2 (by simp; omega) HFR.out⟩
        have h := H3.out.1
        have eL : Lib.byteCells PX ++ [Value.int .u8 47] = Lib.byteCells (PX ++ [47]) := by simp [Lib.byteCells]
        have eN : PX.length + 1 = (PX ++ [47]).length := by simp
        rw [eL, eN, ← HQL.out, HQ.out] at h
        first | exact h | (rw [eN, ← HQL.out, HQ.out]; exact h)
      case measure => simp [intOf]; omega
    · have hjl : ¬ (j : Int) < (ks.length : Int) := by omega
      obtain rfl : j = ks.length := by omega
      rw [List.take_length] at hpl ⊢
      obtain ⟨x1, x2, x3, x4⟩ := box2 (BOX.out wr hbel)
      have hla := Lib.itoa_length_le a HA.out.1 HA.out.2
      rw [List.take_length] at hown
      have HE := Lib.hid (show pathText ks ++ Lib.itoa a = curText ks a from rfl)
      generalize pathText ks = P at hpl HE hown ⊢
      have HAP := Lib.hid (app_c W1.heap.size P a HA.out.1 HA.out.2 (.slice oa P.length oc) wr wr hown hsz (by omega) (HT.out.on hbel))
      have hpos : 0 < (P ++ Lib.itoa a).length := by
        have : 0 < (Lib.itoa a).length := itoa_pos a
        rw [List.length_append]; omega
      generalize P ++ Lib.itoa a = PX at HAP HE hpos
      clear hbel hown
      go_wp2_with fail
      refine HAP.out.mono ?_
      rintro e w2 ⟨v2, rfl, hown2, hb2⟩
      rcases hown2.2 with ⟨-, h0⟩ | ⟨g, cap, cur, rfl, -⟩
      · omega
      have hcv := run_convert_bytes_back (P := Tryd.prog) w2 34 9 5 ⟨g, 0, none⟩ cap PX Tryd.underlying34 Tryd.underlying5 Tryd.underlying9 (fun j hj => hown2.cells (g := g) rfl j _ (by simp [Lib.byteCells, hj]))
      have H2 := Lib.hid (HF1.out.trans ((HB.out.trans hb2).mono (by omega)))
      clear hb2 hown2
      go_wp2_with fail
      go_ret
      exact ⟨by rw [HE.out]; rfl, H2.out⟩
end Go.Proofs.YtlogjmjoegnkbaaDoor
