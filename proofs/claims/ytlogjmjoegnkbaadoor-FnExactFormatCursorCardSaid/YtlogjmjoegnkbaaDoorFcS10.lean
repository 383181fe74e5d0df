/- The model's text of a cursor. -/
import Derived.Test.YtlogjmjoegnkbaaDoorProg
import Derived.Test.YtlogjmjoegnkbaaDoorFcS1
import Derived.Test.YtlogjmjoegnkbaaDoorFcS7
import Derived.Test.YtlogjmjoegnkbaaDoorFcS9
namespace Go.Proofs.YtlogjmjoegnkbaaDoor
open Go.RowKit

set_option maxHeartbeats 2000000 in
set_option maxRecDepth 100000 in
theorem specFormatCursor_c {v : Value} {ks : List Int} (a : Int) (w : World) (B : Nat) (hB : B ≤ w.heap.size) (hk : IntsIn w B v ks) (hf : ∀ k ∈ ks, Fits k) (ha : Fits a) (hn : ks.length ≤ 1048576) :
    Calls Tryd.prog 5 #[.agg #[v, .int .i64 a]] w fun e w' => e = .returned (.string ⟨(curText ks a).toArray⟩) ∧ Below w.heap.size w w' := by
  obtain ⟨va, vcap, rfl, -, -, -, h3⟩ := hk
  have HK := Lib.hid h3
  have HF := Lib.hid hf
  obtain ⟨W1, hW1⟩ : ∃ W1, W1 = w.alloc (.cells #[.slice va ks.length vcap, .int .i64 a] 27) := ⟨_, rfl⟩
  have hs1 : w.heap.size < W1.heap.size := by rw [hW1]; simp
  have hb1 : Below w.heap.size w W1 := by rw [hW1]; exact (Below.refl _ _).alloc (Nat.le_refl _) _
  have hx1 : W1.heap[w.heap.size]? = some (.cells #[.slice va ks.length vcap, .int .i64 a] 27 (0, 0)) := by rw [hW1, new_blk]
  have BOX : Hid (∀ wx : World, Below W1.heap.size W1 wx → wx.heap[w.heap.size]? = some (.cells #[.slice va ks.length vcap, .int .i64 a] 27 (0, 0))) := Lib.hid (fun wx hx => (hx.block _ (by omega)).trans hx1)
  have hx1x := hx1
  rw [hW1] at hx1x
  obtain ⟨x1, x2, x3, x4⟩ := box2 hx1x
  have HF1 := Lib.hid hb1
  have HA := Lib.hid ha
  have HW1 := Lib.hid hW1
  clear h3 hf hW1 hb1 hx1 hx1x ha
  go_enter Tryd.func5, Tryd.ntmps5
  go_wp2_with fail
  rw [← HW1.out]
  clear x1 x2 x3 x4
  go_loopw [3, 5, 9] (fun s3 _ i wr => ∃ (j : Nat), j ≤ ks.length ∧ i = .int .i64 j ∧ s3 = .string ⟨(pathText (ks.take j)).toArray⟩ ∧ Below W1.heap.size W1 wr) (fun _ _ i _ => ks.length - (intOf i).toNat)
  case atStart => exact ⟨0, Nat.zero_le _, rfl, rfl, Below.refl _ _⟩
  case round =>
    obtain ⟨j, hj, rfl, rfl, hbel⟩ := hrel
    have hsz := hbel.size
    have HB := Lib.hid hbel
    have hpl := pathText_few HF.out hn j
    by_cases hlt : j < ks.length
    · rcases HK.out with h | ⟨b, off, rfl, hb, hat⟩
      · simp [h] at hlt
      have ha1 : wr.cell? ⟨b, off + j, none⟩ = some (.int .i64 (ks.getD j 0)) := by rw [below_cell (HF1.out.trans (hbel.mono (by omega))) (by omega)]; exact hat j hlt
      have hjl : (j : Int) < (ks.length : Int) := by omega
      have hfx := fits_at HF.out hlt
      have hsn := pathText_snoc ks hlt
      obtain ⟨Q, hQ⟩ : ∃ Q, Q = pathText (ks.take (j + 1)) := ⟨_, rfl⟩
      rw [← hQ] at hsn
      have HQ := Lib.hid hQ
      generalize ks.getD j 0 = x at ha1 hfx hsn
      have hli := Lib.itoa_length_le x hfx.1 hfx.2
      have HD := Lib.hid (dec_c x hfx.1 hfx.2 wr)
      generalize pathText (ks.take j) = P at hpl hsn ⊢
      generalize hX : Lib.itoa x = X at HD hli hsn
      have hsa := fun wx => str_add P X (by omega) wx
      have hpx : (P ++ X).length ≤ 30000000 := by rw [List.length_append]; omega
      rw [← List.append_assoc] at hsn
      generalize P ++ X = PX at hsa hpx hsn
      have hsb := fun wx => str_add PX [47] (by simp; omega) wx
      rw [← hsn] at hsb
      clear hat hb hbel hQ hX hsn hfx
      go_wp2_with fail
      refine HD.out.mono ?_
      rintro e w2 ⟨rfl, hb2⟩
      have H2 := Lib.hid (HB.out.trans (hb2.mono hsz))
      clear hb2
      go_wp2_with fail
      go_roundw
      case rel => exact ⟨j + 1, by omega, by go_num, by rw [HQ.out], H2.out⟩
      case measure => simp [intOf]; omega
    · have hjl : ¬ (j : Int) < (ks.length : Int) := by omega
      obtain rfl : j = ks.length := by omega
      rw [List.take_length] at hpl ⊢
      obtain ⟨x1, x2, x3, x4⟩ := box2 (BOX.out wr hbel)
      have hla := Lib.itoa_length_le a HA.out.1 HA.out.2
      have HD := Lib.hid (dec_c a HA.out.1 HA.out.2 wr)
      have HE := Lib.hid (show pathText ks ++ Lib.itoa a = curText ks a from rfl)
      generalize pathText ks = P at hpl HE ⊢
      generalize Lib.itoa a = X at HD hla HE
      have hsa := fun wx => str_add P X (by omega) wx
      generalize P ++ X = PX at hsa HE
      clear hbel
      go_wp2_with fail
      refine HD.out.mono ?_
      rintro e w2 ⟨rfl, hb2⟩
      have H2 := Lib.hid (HF1.out.trans ((HB.out.trans (hb2.mono hsz)).mono (by omega)))
      clear hb2
      go_wp2_with fail
      go_ret
      exact ⟨by rw [HE.out]; rfl, H2.out⟩
end Go.Proofs.YtlogjmjoegnkbaaDoor
