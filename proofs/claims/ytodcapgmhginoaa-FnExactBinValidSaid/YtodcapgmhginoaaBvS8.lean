/- The contract of the model's BinKeys. -/
import Derived.Test.YtodcapgmhginoaaProg
import Derived.Test.YtodcapgmhginoaaBvS0
import Derived.Test.YtodcapgmhginoaaBvS1
import Derived.Test.YtodcapgmhginoaaBvS7
import Derived.Test.YtodcapgmhginoaaBvS2
import Derived.Test.YtodcapgmhginoaaBvS6
import Derived.Deep.Cut
import Derived.Deep.CutRange
import Derived.Deep.RegionLaw
import Derived.Deep.RegionWith
namespace Go.Proofs.Ytodcapgmhginoaa
open Go.RowKit

theorem row_none (w : World) (lo : Nat) (h : lo ≤ w.heap.size) : IntsOwn (w.alloc (.cells #[] 3)) lo (.slice (some ⟨w.heap.size, 0, none⟩) 0 0) [] :=
  IntsOwn.lower (World.ownsRow_made w #[] 0 (Nat.le_refl _) (by unfold maxLen; omega) rfl) h

set_option maxHeartbeats 4000000 in
set_option maxRecDepth 100000 in
theorem specBinKeys_c {w : World} {B : Nat} {cv : Value} {t : Bt} (ht : BinIn w B cv t) (hw : t.weight ≤ 1048576) :
    ∀ w', Below B w w' → B ≤ w'.heap.size →
    Calls Try.prog 36 #[.agg #[.int .i64 t.key, .bool t.red, cv]] w' fun e w'' => ∃ v, e = .returned v ∧ IntsOwn w'' w'.heap.size v t.keys ∧ Below w'.heap.size w' w'' := by
  induction ht with
  | mk key red cs a cap cvs hlen hcap hat hkids ih =>
    intro w' hbw hB
    simp only [Bt.weight] at hw
    unfold maxLen at hcap
    show Calls Try.prog 36 #[.agg #[.int .i64 key, .bool red, .slice a cs.length cap]] w' _
    obtain ⟨L, hL⟩ : ∃ L : Nat, L = cs.length := ⟨_, rfl⟩
    rw [← hL]
    obtain ⟨W2, hW2⟩ : ∃ W2, W2 = (w'.alloc (.cells #[.int .i64 key, .bool red, .slice a L cap] 48)).alloc (.cells #[] 3) := ⟨_, rfl⟩
    have hs2 : W2.heap.size = w'.heap.size + 2 := by rw [hW2]; simp
    have hb2 : Below w'.heap.size w' W2 := by rw [hW2]; exact ((Below.refl _ _).alloc (Nat.le_refl _) _).alloc (by simp) _
    have k2 : W2.heap[w'.heap.size]? = some (.cells #[.int .i64 key, .bool red, .slice a L cap] 48 (0, 0)) := by rw [hW2, old_blk _ _ _ (by simp), new_blk]
    have o2 : IntsOwn W2 (w'.heap.size + 1) (.slice (some ⟨w'.heap.size + 1, 0, none⟩) 0 0) [] := by
      rw [hW2]
      have h := row_none (w'.alloc (.cells #[.int .i64 key, .bool red, .slice a L cap] 48)) (w'.heap.size + 1) (by simp)
      rw [show (w'.alloc (.cells #[.int .i64 key, .bool red, .slice a L cap] 48)).heap.size = w'.heap.size + 1 by simp] at h
      exact h
    have H2 := Lib.hid (And.intro hb2 (And.intro k2 o2))
    have hs2' : w'.heap.size + 2 ≤ W2.heap.size := by omega
    have HW2 := Lib.hid hW2
    have k2x := k2
    rw [hW2] at k2x
    obtain ⟨x1, x2, x3, -⟩ := box3 k2x
    clear hW2 hb2 k2 o2 k2x hs2
    cases cs with
    | nil =>
      obtain rfl : L = 0 := hL
      go_enter Try.func36, Try.ntmps36
      go_wp2_with fail
      rw [← HW2.out]
      go_ret
      exact ⟨_, rfl, IntsOwn.lower H2.out.2.2 (by omega), H2.out.1⟩
    | cons c0 q =>
      obtain ⟨b, off, rfl, hb, hat⟩ := hat.resolve_left (by simp)
      obtain ⟨ha0, hr0, hc0⟩ := hat 0 (by simp)
      simp only [List.getElem_cons_zero, Nat.zero_mul, Nat.add_zero] at ha0 hr0 hc0
      have hbw2 : Below B w W2 := hbw.trans (H2.out.1.mono hB)
      rw [← below_cell hbw2 hb] at ha0 hr0 hc0
      obtain ⟨a1, n1, c1, e1, -⟩ := (hkids 0 (by simp)).parts
      have hih0 := ih 0 (by simp) (by have := Bt.weight_get_le (c0 :: q) 0 (by simp); simp at this ⊢; omega)
      simp only [List.getElem_cons_zero] at hih0 e1
      rw [e1] at hih0 hc0
      have hL1 : 1 ≤ L := by rw [hL]; simp
      have hz : ((L : Int) == 0) = false := by rw [beq_eq_false_iff_ne]; omega
      have hL0 : 0 < L := by omega
      have hLn : ¬ L = 0 := by omega
      obtain ⟨k0, hk0⟩ : ∃ k0, k0 = c0.key := ⟨_, rfl⟩
      obtain ⟨r0, hr0'⟩ : ∃ r0, r0 = c0.red := ⟨_, rfl⟩
      rw [← hk0] at ha0
      rw [← hr0'] at hr0
      rw [← hk0, ← hr0'] at hih0
      have HIH := Lib.hid hih0
      have HL := Lib.hid hL
      clear hk0 hr0' hL hih0 e1 hlen
      go_enter Try.func36, Try.ntmps36
      go_wp2_with fail
      rw [← HW2.out]
      have hcat : ∀ wx : World, Below (w'.heap.size + 1) W2 wx → wx.cell? ⟨w'.heap.size, 0, none⟩ = some (.int .i64 key) ∧ wx.cell? ⟨w'.heap.size, 2, none⟩ = some (.slice (some ⟨b, off, none⟩) L cap) := fun wx hx => by
        obtain ⟨g0, -, g2, -⟩ := box3 ((hx.block w'.heap.size (by omega)).trans H2.out.2.1)
        exact ⟨g0, g2⟩
      have HCAT := Lib.hid hcat
      clear x1 x2 x3 hcat
      obtain ⟨x1, x3⟩ := HCAT.out W2 (Below.refl _ _)
      have hB2 : B ≤ W2.heap.size := by have := H2.out.1.size; omega
      have HB2 := Lib.hid hbw2
      have HIHS := Lib.hid (And.intro hat (And.intro hkids ih))
      clear hbw2 hbw hat hkids ih
      have hkl := Bt.keys_le c0
      have hwl : c0.weight ≤ 1048576 := by simp only [Bt.weights] at hw; omega
      have hkeys : c0.keys.length + 1 ≤ 17592186044416 := by omega
      have HKL := Lib.hid hkeys
      have hbl : b < W2.heap.size := by omega
      have z1 : (W2.alloc (.cells #[.int .i64 key] 3)).cell? ⟨b, off, none⟩ = some (.int .i64 k0) := (World.cell?_of_block (w := W2) (a := ⟨b, off, none⟩) (old_blk W2 _ _ (by exact hbl))).trans ha0
      have z2 : (W2.alloc (.cells #[.int .i64 key] 3)).cell? ⟨b, off + 1, none⟩ = some (.bool r0) := (World.cell?_of_block (w := W2) (a := ⟨b, off + 1, none⟩) (old_blk W2 _ _ (by exact hbl))).trans hr0
      have z3 : (W2.alloc (.cells #[.int .i64 key] 3)).cell? ⟨b, off + 2, none⟩ = some _ := (World.cell?_of_block (w := W2) (a := ⟨b, off + 2, none⟩) (old_blk W2 _ _ (by exact hbl))).trans hc0
      have z4 : (W2.alloc (.cells #[.int .i64 key] 3)).cell? ⟨w'.heap.size, 0, none⟩ = some (.int .i64 key) := (World.cell?_of_block (w := W2) (a := ⟨w'.heap.size, 0, none⟩) (old_blk W2 _ _ (by show w'.heap.size < _; omega))).trans x1
      have z5 : (W2.alloc (.cells #[.int .i64 key] 3)).cell? ⟨w'.heap.size, 2, none⟩ = some (.slice (some ⟨b, off, none⟩) L cap) := (World.cell?_of_block (w := W2) (a := ⟨w'.heap.size, 2, none⟩) (old_blk W2 _ _ (by show w'.heap.size < _; omega))).trans x3
      clear hkl hwl hkeys hbl
      go_cut [3] from 10 to 20 (fun s3 wx => ∃ (a8 : Option Addr) (c8 : Nat) (L8 : List Int), s3 = .slice a8 L8.length c8 ∧ Hid (IntsOwn wx (w'.heap.size + 1) (.slice a8 L8.length c8) L8) ∧ Hid (L8 = c0.keys ++ [key]) ∧ Hid (Below (w'.heap.size + 1) W2 wx))
      case first =>
        go_region_law
          (first
            | (have hg1 := IntsOwn.alloc' H6.out.1 (.cells #[.int .i64 key] 3); have hg2 := IntsAt.one w6 key; refine step_append_ints (by rfl) (.tmp 16) (.tmp 19) (by rfl) (w'.heap.size + 1) _ _ L6 [key] (by rfl) hg1 (by rfl) hg2 ?_ ?_ ?_; (rw [← H6.out.2.1]; simpa using HKL.out); ((have h9 := H6.out.2.2.size); simp; omega); intro v8 w8 hown8 hbel8 hgrow8 hsh8; obtain ⟨a8, c8, rfl⟩ := hsh8; (generalize hL8 : L6 ++ [key] = L8 at hown8 ⊢); have h68 : Below (w'.heap.size + 1) W2 w8 := ((H6.out.2.2.alloc (by (have h9 := H6.out.2.2.size); omega) _).trans hbel8); obtain ⟨x1, x3⟩ := HCAT.out w8 h68; have H8 := Lib.hid (And.intro hown8 (And.intro hL8 h68)); clear hown8 hbel8 hL8 hgrow8 h68 hg1 hg2)
            | (have hg1 := H6.out.1; have hg2 := HKEY.out; refine step_append_ints (by rfl) (.tmp 16) (.tmp 19) (by rfl) (w'.heap.size + 1) _ _ L6 [key] (by rfl) hg1 (by rfl) hg2 ?_ ?_ ?_; (rw [← H6.out.2.1]; simpa using HKL.out); ((have h9 := H6.out.2.2.size); omega); intro v8 w8 hown8 hbel8 hgrow8 hsh8; obtain ⟨a8, c8, rfl⟩ := hsh8; (generalize hL8 : L6 ++ [key] = L8 at hown8 ⊢); have h68 : Below (w'.heap.size + 1) W2 w8 := (H6.out.2.2.trans hbel8); obtain ⟨x1, x3⟩ := HCAT.out w8 h68; have H8 := Lib.hid (And.intro hown8 (And.intro hL8 h68)); clear hown8 hbel8 hL8 hgrow8 h68 hg1 hg2)
            | ((refine step_append_ints (by rfl) (.tmp 10) (.tmp 15) (by rfl) (w'.heap.size + 1) (.slice (some ⟨w'.heap.size + 1, 0, none⟩) 0 0) (.slice va5 c0.keys.length vc5) [] c0.keys (by rfl) (by first | exact IntsOwn.later H2.out.2.2 H5.out.2.1 (Nat.le_refl _) | exact IntsOwn.alloc' (IntsOwn.later H2.out.2.2 H5.out.2.1 (Nat.le_refl _)) _) (by rfl) (by first | exact IntsIn.at (IntsOwn.in H5.out.1) | exact IntsIn.at (IntsOwn.in (IntsOwn.alloc' H5.out.1 _))) (by (have h9 := HKL.out); simp; omega) (by (have h9 := H5.out.2.1.size); first | omega | (simp; omega)) ?_; intro v6 w6 hown6 hbel6 hgrow6 hsh6; obtain ⟨a6, c6, rfl⟩ := hsh6; (generalize hL6 : ([] : List Int) ++ c0.keys = L6 at hown6 ⊢); have h26 : Below (w'.heap.size + 1) W2 w6 := (by first | exact (H5.out.2.1.mono (by omega)).trans hbel6 | exact ((H5.out.2.1.mono (by omega)).alloc (by (have h9 := H5.out.2.1.size); omega) _).trans hbel6); (first | (have HKEY : Hid (IntsAt w6 (.slice (some ⟨w5.heap.size, 0, none⟩) 1 1) [key]) := Lib.hid (IntsAt.of_block (ty := 3) (fr := (0, 0)) ((hgrow6.block w5.heap.size (by simp) (by (have h9 := H5.out.2.1.size); simp [Value.ownBlock]; omega)).trans (new_blk w5 _)))) | (have HKEY : Hid (IntsAt w6 (.slice (some ⟨W2.heap.size, 0, none⟩) 1 1) [key]) := Lib.hid (IntsAt.of_block (ty := 3) (fr := (0, 0)) ((hgrow6.block W2.heap.size (by (have h9 := H5.out.2.2.size); simp at h9; omega) (by simp [Value.ownBlock]; omega)).trans HK5.out))) | skip); obtain ⟨x1, x3⟩ := HCAT.out w6 h26; have H6 := Lib.hid (And.intro hown6 (And.intro hL6 h26)); clear hown6 hbel6 hL6 hgrow6 h26))
            | (go_simp; go_at_call 36; refine (HIH.out _ (by first | exact HB2.out.trans ((Below.refl _ _).drew.mono hB2) | exact HB2.out.trans ((Below.drew ((Below.refl W2.heap.size W2).alloc (Nat.le_refl _) _)).mono hB2)) (by simp <;> omega)).mono ?_; rintro e w5 ⟨v5, rfl, ho5, hb5⟩; obtain ⟨va5, vc5, rfl⟩ := IntsOwn.shown ho5; have hX5 : Below W2.heap.size W2 w5 := (by first | exact (Below.refl _ _).drew.trans hb5 | exact (Below.drew ((Below.refl W2.heap.size W2).alloc (Nat.le_refl _) _)).trans (hb5.mono (by simp))); (first | (have HK5 : Hid (w5.heap[W2.heap.size]? = some (.cells #[.int .i64 key] 3 (0, 0))) := Lib.hid ((hb5.block W2.heap.size (by simp)).trans (by show (W2.alloc _).heap[_]? = _; exact new_blk W2 _))) | skip); obtain ⟨x1, x3⟩ := HCAT.out w5 (hX5.mono (by omega)); have H5 := Lib.hid (And.intro ho5 (And.intro hX5 hb5)); clear ho5 hX5 hb5)
            | fail)
        all_goals (
          go_wp2_with fail
          go_meet
          exact ⟨a8, c8, L8, rfl, Lib.hid H8.out.1, Lib.hid (by rw [← H8.out.2.1, ← H6.out.2.1]; rfl), Lib.hid H8.out.2.2⟩)
      case rest =>
        obtain ⟨a8, c8, L8, rfl, HO8, HL8, HB8⟩ := hcut
        have hz8 := HB8.out.size
        clear x1 x3 z1 z2 z3 z4 z5 ha0 hr0 hc0
        obtain ⟨x1, x3⟩ := HCAT.out wc HB8.out
        cases q with
        | nil =>
          obtain rfl : L = 1 := HL.out
          have HE := Lib.hid (H2.out.1.trans (HB8.out.mono (by omega)))
          go_wp2_with fail
          go_ret
          exact ⟨_, rfl, IntsOwn.lower (by rw [Bt.keys_one, ← HL8.out]; exact HO8.out) (by omega), HE.out⟩
        | cons d1 r =>
          have hL2 : 1 < L := by rw [HL.out]; simp
          have hL2' : (1 : Int) < (L : Int) := by omega
          have hL1n : (1 : Nat) < L := hL2
          obtain ⟨ha1, hr1, hc1⟩ := HIHS.out.1 1 (by simp)
          simp only [List.getElem_cons_succ, List.getElem_cons_zero, Nat.one_mul] at ha1 hr1 hc1
          have hB8 : Below B w wc := HB2.out.trans (HB8.out.mono (by omega))
          have hbB := hb
          rw [← below_cell hB8 hbB] at ha1 hr1 hc1
          obtain ⟨a2, n2, d2, e2, -⟩ := (HIHS.out.2.1 1 (by simp)).parts
          have hih1 := HIHS.out.2.2 1 (by simp) (by have := Bt.weight_get_le (c0 :: d1 :: r) 1 (by simp); simp at this ⊢; omega)
          simp only [List.getElem_cons_succ, List.getElem_cons_zero] at hih1 e2
          rw [e2] at hih1 hc1
          obtain ⟨k1, hk1⟩ : ∃ k1, k1 = d1.key := ⟨_, rfl⟩
          obtain ⟨r1, hr1'⟩ : ∃ r1, r1 = d1.red := ⟨_, rfl⟩
          rw [← hk1] at ha1 hih1
          rw [← hr1'] at hr1 hih1
          have HIH1 := Lib.hid (hih1 wc hB8 (by omega))
          have hkl0 := Bt.keys_le c0
          have hkl1 := Bt.keys_le d1
          have hlen9 : L8.length + d1.keys.length ≤ 17592186044416 := by
            rw [HL8.out]
            simp only [Bt.weights] at hw
            simp; omega
          have HLEN9 := Lib.hid hlen9
          clear hk1 hr1' hih1 e2 hkl0 hkl1 hlen9 hB8
          go_wp2_with fail
          refine HIH1.out.mono ?_
          rintro e w9 ⟨v9, rfl, ho9, hb9⟩
          obtain ⟨va9, vc9, rfl⟩ := IntsOwn.shown ho9
          have hX9 : Below (w'.heap.size + 1) W2 w9 := HB8.out.trans (hb9.mono (by omega))
          have H9 := Lib.hid (And.intro (IntsOwn.later HO8.out hb9 (Nat.le_refl _)) (And.intro (IntsIn.at (IntsOwn.in ho9)) hX9))
          have hz9 := hX9.size
          clear ho9 hb9 hX9 ha1 hr1 hc1
          go_wp2_with (at_builtin; refine wpList_append_ints rfl _ _ rfl (w'.heap.size + 1) _ _ _ d1.keys rfl H9.out.1 rfl H9.out.2.1 HLEN9.out (by omega) ?_; intro v10 w10 hown10 hbel10 _ hsh10; obtain ⟨a10, c10, rfl⟩ := hsh10; (generalize hL10 : L8 ++ d1.keys = L10 at hown10 ⊢); have H10 := Lib.hid (And.intro hown10 (And.intro hL10 (H9.out.2.2.trans hbel10))); clear hown10 hL10 hbel10)
          go_ret
          exact ⟨_, rfl, IntsOwn.lower (by rw [Bt.keys_two, ← HL8.out, H10.out.2.1]; exact H10.out.1) (by omega), H2.out.1.trans (H10.out.2.2.mono (by omega))⟩
end Go.Proofs.Ytodcapgmhginoaa
