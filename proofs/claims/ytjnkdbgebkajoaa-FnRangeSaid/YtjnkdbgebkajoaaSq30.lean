/- For every slice of bytes, the law on ranges returns true and leaves its arguments as they were; no conditions. -/
import Derived.Test.YtjnkdbgebkajoaaProg
import Derived.Test.YtjnkdbgebkajoaaSq0
import Derived.Test.YtjnkdbgebkajoaaAt
import Derived.Test.YtjnkdbgebkajoaaSq3
import Derived.Test.YtjnkdbgebkajoaaSq26
import Derived.Test.YtjnkdbgebkajoaaSq27
import Derived.Test.YtjnkdbgebkajoaaSq13
import Derived.Test.YtjnkdbgebkajoaaSq14
import Derived.Test.YtjnkdbgebkajoaaImRank
import Derived.Test.YtjnkdbgebkajoaaSq16
import Derived.Test.YtjnkdbgebkajoaaSq17
import Derived.Test.YtjnkdbgebkajoaaSq28
import Derived.Test.YtjnkdbgebkajoaaSq18
import Derived.Test.YtjnkdbgebkajoaaSq29
import Derived.Test.YtjnkdbgebkajoaaSq19
import Derived.Test.YtjnkdbgebkajoaaSq24
import Derived.Deep.RegionHeld3
import Derived.Test.YtjnkdbgebkajoaaRows
import Derived.Test.YtjnkdbgebkajoaaFacts
import Derived.Test.YtjnkdbgebkajoaaSq1
import Derived.WalkKit
import Derived.ProofKit
import Derived.OpenShut
import Derived.ChangeOld
import Derived.Below

/- The law on ranges: the walk over the contracts. -/
namespace Go.Proofs.Ytjnkdbgebkajoaa
open Go.RowKit

set_option maxHeartbeats 8000000 in
set_option maxRecDepth 100000 in
theorem fnRange_c {w : World} {v : Value} {bs : List Nat} (h : BytesIn w w.heap.size v bs) :
    Calls Try.prog 4 #[v] w fun e w' => e = .returned (.bool true) ∧ Below w.heap.size w w' := by
  have H := Lib.hid h
  obtain ⟨a1, c1, rfl, -⟩ := h
  by_cases hc1 : bs.length ≤ 1048576
  case neg =>
    have hc1' : ((bs.length : Int) > 1048576) := by omega
    go_enter Try.func4, Try.ntmps4
    go_wp2_with fail
    go_ret
    exact ⟨rfl, Below.refl _ _⟩
  have hc1' : ¬ ((bs.length : Int) > 1048576) := by omega
  have HD := Lib.hid (drawRange_c H.out w (Below.refl _ _) (Nat.le_refl _))
  go_enter Try.func4, Try.ntmps4
  go_wp2_with fail
  refine HD.out.mono ?_
  rintro e w2 ⟨k2, d2, t, low, high, rfl, ht2, hw2, hb2⟩
  obtain ⟨b1, b2, b3, b4, b5, b6, rfl, rfl⟩ := ht2.slices
  have hs2 := hb2.size
  obtain ⟨W3, hW3⟩ : ∃ W3, W3 = w2.alloc (.cells #[.slice b1 b2 b3, .slice b4 b5 b6] 26) := ⟨_, rfl⟩
  have hs3 : w2.heap.size < W3.heap.size := by rw [hW3]; simp
  have hb3 : Below w2.heap.size w2 W3 := by rw [hW3]; exact (Below.refl _ _).alloc (Nat.le_refl _) _
  have hx3 : W3.heap[w2.heap.size]? = some (.cells #[.slice b1 b2 b3, .slice b4 b5 b6] 26 (0, 0)) := by rw [hW3, new_blk]
  have hta3 : TreeA W3 (.slice b1 b2 b3) (.slice b4 b5 b6) t := (ht2.a (fun k hk => hk.2)).later hb3 (Nat.le_refl _)
  have hwt : t.weight ≤ 1048576 := by omega
  have hct := Tr.count_le t
  have hdl := Tr.depth_le t
  obtain ⟨L, hL⟩ : ∃ L, L = t.rangeB low high := ⟨_, rfl⟩
  obtain ⟨rv, hrv⟩ : ∃ rv, rv = t.rvB low high := ⟨_, rfl⟩
  obtain ⟨r0, hr0⟩ : ∃ r0, r0 = t.rankB 0 := ⟨_, rfl⟩
  obtain ⟨rl, hrl⟩ : ∃ rl, rl = t.rankB low := ⟨_, rfl⟩
  obtain ⟨rh, hrh⟩ : ∃ rh, rh = t.rankB high := ⟨_, rfl⟩
  obtain ⟨Hk, hHk⟩ : ∃ Hk, Hk = (t.pathB high).2 := ⟨_, rfl⟩
  have C1 := fun (wx : World) (hx : Below W3.heap.size W3 wx) => impl_range hta3.tree hwt low high wx hx hx.size
  have C2 := fun (wx : World) (hx : Below W3.heap.size W3 wx) => impl_rangeVisits hta3.tree hwt low high wx hx hx.size
  have C3 := fun (wx : World) (hx : Below W3.heap.size W3 wx) => specRangeOf_c hta3.tree hwt low high wx hx hx.size
  have C4 := fun (wx : World) (hx : Below W3.heap.size W3 wx) => specRangeVisits_c hta3.tree hwt low high wx hx hx.size
  have C5 := fun (wx : World) (hx : Below W3.heap.size W3 wx) => impl_rank hta3.tree hwt 0 wx hx hx.size
  have C6 := fun (wx : World) (hx : Below W3.heap.size W3 wx) => impl_rank hta3.tree hwt low wx hx hx.size
  have C7 := fun (wx : World) (hx : Below W3.heap.size W3 wx) => impl_rank hta3.tree hwt high wx hx hx.size
  have C8 := fun (wx : World) (hx : Below W3.heap.size W3 wx) => impl_has hta3.tree hwt high wx hx hx.size
  have C9 := fun (wx : World) (hx : Below W3.heap.size W3 wx) => impl_count_a (hta3.later hx (Nat.le_refl _)) hwt
  have C10 := fun (wx : World) (hx : Below W3.heap.size W3 wx) => impl_depth_a (hta3.later hx (Nat.le_refl _)) hwt
  rw [← hL] at C1 C3
  rw [← hrv] at C2 C4
  rw [← hr0] at C5
  rw [← hrl] at C6
  rw [← hrh] at C7
  rw [← hHk] at C8
  have hLs : L.Pairwise (· < ·) := by
    rw [hL]
    unfold Tr.rangeB
    split
    · next hs => exact (Tr.Well.of_some hs).2.filter _
    · exact List.Pairwise.nil
  have HP := Lib.hid (And.intro hL (And.intro hrv (And.intro hr0 (And.intro hrl (And.intro hrh (And.intro hHk hLs))))))
  have HC1 := Lib.hid C1
  have HC2 := Lib.hid C2
  have HC3 := Lib.hid C3
  have HC4 := Lib.hid C4
  have HC5 := Lib.hid C5
  have HC6 := Lib.hid C6
  have HC7 := Lib.hid C7
  have HC8 := Lib.hid C8
  have HC9 := Lib.hid C9
  have HC10 := Lib.hid C10
  have BOX : Hid (∀ wx : World, Below W3.heap.size W3 wx → wx.heap[w2.heap.size]? = some (.cells #[.slice b1 b2 b3, .slice b4 b5 b6] 26 (0, 0))) := Lib.hid (fun wx hx => (hx.block _ (by omega)).trans hx3)
  have HF := Lib.hid (hb2.trans (hb3.mono (by omega)))
  have hx3x := hx3
  rw [hW3] at hx3x
  obtain ⟨x1, x2, x3, x4⟩ := box2 hx3x
  have HW3 := Lib.hid hW3
  have hnev : (rv != rv) = false := by simp
  clear ht2 hb2 hW3 hb3 hx3 hx3x hta3 C1 C2 C3 C4 C5 C6 C7 C8 C9 C10 hL hrv hr0 hrl hrh hHk hLs
  go_wp2_with fail
  rw [← HW3.out]
  refine (HC1.out W3 (Below.refl _ _)).mono ?_
  rintro e w4 ⟨v4, rfl, ho4, hb4⟩
  obtain ⟨va, vc, rfl⟩ := ho4.shown
  have H4 := Lib.hid hb4
  have HO4 := Lib.hid ho4
  clear hb4 ho4 x1 x2 x3 x4
  obtain ⟨x1, x2, x3, x4⟩ := box2 (BOX.out w4 H4.out)
  go_wp2_with fail
  refine (HC2.out w4 H4.out).mono ?_
  rintro e w5 ⟨rfl, hb5⟩
  have H5 := Lib.hid (H4.out.trans (hb5.mono (by have := H4.out.size; omega)))
  have HB5 := Lib.hid hb5
  clear hb5 x1 x2 x3 x4
  obtain ⟨x1, x2, x3, x4⟩ := box2 (BOX.out w5 H5.out)
  have HO5 := Lib.hid (IntsCut.later HO4.out (show Below w4.heap.size w4 w5 from HB5.out) (Nat.le_refl _))
  go_wp2_with fail
  refine (HC3.out w5 H5.out).mono ?_
  rintro e w6 ⟨v6, rfl, ho6, hb6⟩
  obtain ⟨qa, qc, rfl⟩ := IntsOwn.shown ho6
  have H6 := Lib.hid (H5.out.trans (hb6.mono (by have := H5.out.size; omega)))
  have HO6 := Lib.hid (And.intro (HO5.out.later hb6 (Nat.le_refl _)) ho6)
  clear hb6 ho6 x1 x2 x3 x4
  go_wp2_with fail
  refine (ftSame_c L _ _ w6 w6.heap.size (Nat.le_refl _) (HO6.out.1.inB (Nat.le_refl _)) (IntsOwn.inB HO6.out.2 (Nat.le_refl _))).mono ?_
  rintro e w7 ⟨rfl, hb7⟩
  have H7 := Lib.hid (H6.out.trans (hb7.mono (by have := H6.out.size; omega)))
  have HO7 := Lib.hid (HO6.out.1.later hb7 (Nat.le_refl _))
  clear hb7
  obtain ⟨x1, x2, x3, x4⟩ := box2 (BOX.out w7 H7.out)
  go_wp2_with fail
  refine (HC4.out w7 H7.out).mono ?_
  rintro e w8 ⟨rfl, hb8⟩
  have H8 := Lib.hid (H7.out.trans (hb8.mono (by have := H7.out.size; omega)))
  have HB8 := Lib.hid hb8
  clear hb8 x1 x2 x3 x4
  obtain ⟨x1, x2, x3, x4⟩ := box2 (BOX.out w8 H8.out)
  have HO8 := Lib.hid (HO7.out.later (show Below w7.heap.size w7 w8 from HB8.out) (Nat.le_refl _))
  go_wp2_with fail
  refine (ftSorted_c L HP.out.2.2.2.2.2.2 _ w8 w8.heap.size (Nat.le_refl _) (HO8.out.inB (Nat.le_refl _))).mono ?_
  rintro e w9 ⟨rfl, hb9⟩
  have H9 := Lib.hid (H8.out.trans (hb9.mono (by have := H8.out.size; omega)))
  clear hb9 x1 x2 x3 x4
  obtain ⟨x1, x2, x3, x4⟩ := box2 (BOX.out w9 H9.out)
  clear hnev
  go_wp2_with fail
  refine (HC5.out w9 H9.out).mono ?_
  rintro e w10 ⟨rfl, hb10⟩
  have H10 := Lib.hid (H9.out.trans (hb10.mono (by have := H9.out.size; omega)))
  clear hb10 x1 x2 x3 x4
  obtain ⟨x1, x2, x3, x4⟩ := box2 (BOX.out w10 H10.out)
  by_cases hneg : r0 < 0
  · have hs : t.someB = false := by
      cases hs : t.someB with
      | false => rfl
      | true =>
        have h1 := (rankB_is 0 t).1 hs
        rw [← HP.out.2.2.1] at h1
        omega
    have hLn : L = [] := by rw [HP.out.1]; simp [Tr.rangeB, hs]
    have hrvn : rv = -1 := by rw [HP.out.2.1, (Tr.rvB_is low high t).2.1 hs]
    clear hs HO4 HO5 HO6 HO7 HO8 HC1 HC3
    subst hLn hrvn
    go_wp2_with fail
    go_ret
    first
      | exact ⟨rfl, HF.out.trans (H10.out.mono (by have := HF.out.size; omega))⟩
      | exact ⟨ret_bool (by simp [*]), HF.out.trans (H10.out.mono (by have := HF.out.size; omega))⟩
  have hsome := Tr.rank_some (t := t) (key := 0) (by rw [← HP.out.2.2.1]; omega)
  have hwl := Tr.Well.of_some hsome
  by_cases hlh : low ≤ high
  case neg =>
    have hgt : low > high := by omega
    have hLn : L = [] := by
      rw [HP.out.1]
      unfold Tr.rangeB
      rw [if_pos hsome]
      unfold rangeL
      rw [List.filter_eq_nil_iff]
      intro x _
      simp [inB]
      omega
    have hrvn : rv = -1 := by rw [HP.out.2.1, (Tr.rvB_is low high t).2.2 hlh]
    clear hlh hwl hsome HO4 HO5 HO6 HO7 HO8 HC1 HC3
    subst hLn hrvn
    go_wp2_with fail
    go_ret
    first
      | exact ⟨rfl, HF.out.trans (H10.out.mono (by have := HF.out.size; omega))⟩
      | exact ⟨ret_bool (by simp [*]), HF.out.trans (H10.out.mono (by have := HF.out.size; omega))⟩
  have hgt : ¬ low > high := by omega
  have hLe : L = rangeL low high t.keys := by rw [HP.out.1, Tr.rangeB, if_pos hsome]
  have hlen := rangeL_count hlh hwl.2
  rw [← hLe] at hlen
  have hnext := place_next (x := high) hwl.2
  have hrle : rl = (place low t.keys : Int) := by rw [HP.out.2.2.2.1, (rankB_is low t).1 hsome]
  have hrhe : rh = (place high t.keys : Int) := by rw [HP.out.2.2.2.2.1, (rankB_is high t).1 hsome]
  have hHe : Hk = true ↔ high ∈ t.keys := by rw [HP.out.2.2.2.2.2.1]; exact Tr.hasB_iff high t hsome
  have hrve : rv = (t.rv low high : Int) := by rw [HP.out.2.1, (Tr.rvB_is low high t).1 hsome hlh]
  have hrv1 := Tr.rv_pos low high t
  have hrv2 := Tr.rv_le low high t
  have hrv3 : low = high → t.rv low high ≤ t.depth := fun e => by rw [← e]; exact Tr.rv_one low t.weight t (Nat.le_refl _)
  have hpl := place_le low t.keys
  have hph := place_le high t.keys
  have hkl := Tr.keys_length_le t
  obtain ⟨n0, hn0⟩ : ∃ n0 : Int, n0 = rh - rl := ⟨_, rfl⟩
  have hwn : IntKind.i64.wrap (rh - rl) = n0 := by rw [IntKind.wrap_i64]; omega
  have hLn : (L.length : Int) = n0 + (if Hk = true then 1 else 0) := by
    by_cases hm : high ∈ t.keys
    · rw [if_pos (hHe.2 hm)]
      rw [if_pos hm] at hnext
      omega
    · rw [if_neg (fun e => hm (hHe.1 e))]
      rw [if_neg hm] at hnext
      omega
  have hn0b : -1048576 ≤ n0 ∧ n0 ≤ 1048576 := by omega
  have hr1 : rv ≥ 1 := by omega
  have hr2 : rv ≤ (t.count : Int) := by omega
  have hr3 : low = high → rv ≤ (t.depth : Int) := fun e => by have := hrv3 e; omega
  have HX := Lib.hid (And.intro hLn (And.intro hn0b hr3))
  obtain ⟨CT, hCT⟩ : ∃ CT, CT = t.count := ⟨_, rfl⟩
  obtain ⟨DP, hDP⟩ : ∃ DP, DP = t.depth := ⟨_, rfl⟩
  rw [← hCT] at HC9 hr2 hct hdl
  rw [← hDP] at HC10 HX hdl
  clear hLe hlen hnext hrle hrhe hHe hrve hrv1 hrv2 hrv3 hpl hph hkl hn0 hLn hn0b hr3 hsome hwl hCT hDP
  go_upto_region 10 with (fail)
  go_region_held3 (fun x => x.cell? ⟨w2.heap.size, 0, none⟩ = some (.slice b1 b2 b3) ∧ x.cell? ⟨w2.heap.size, 1, none⟩ = some (.slice b4 b5 b6))
    (first | exact ⟨x1, x2⟩ | exact ⟨z1, z2⟩ | exact ⟨q1, q2⟩ | go_keep)
    (first
      | (go_at_call 30; refine (HC6.out _ HB11.out).mono ?_; rintro e w12 ⟨rfl, hb12⟩; have hB12 : Below W3.heap.size W3 w12 := HB11.out.trans (hb12.mono (by have := HB11.out.size; omega)); obtain ⟨q1, q2, -⟩ := box2 (BOX.out w12 hB12); have H12 := Lib.hid hB12; clear hb12 hB12)
      | (go_at_call 30; refine (HC7.out _ H10.out.drew).mono ?_; rintro e w11 ⟨rfl, hb11⟩; have hB11 : Below W3.heap.size W3 w11 := H10.out.drew.trans (hb11.mono (by have := H10.out.size; simp; omega)); obtain ⟨z1, z2, -⟩ := box2 (BOX.out w11 hB11); have HB11 := Lib.hid hB11; clear hb11 hB11)
      | fail)
  clear x1 x2 x3 x4 z1 z2 q1 q2
  obtain ⟨x1, x2, x3, x4⟩ := box2 (BOX.out w12 H12.out)
  go_wp2_with fail
  refine (HC8.out w12 H12.out).mono ?_
  rintro e w13 ⟨rfl, hb13⟩
  have H13 := Lib.hid (H12.out.trans (hb13.mono (by have := H12.out.size; omega)))
  clear hb13 x1 x2 x3 x4
  obtain ⟨x1, x2, x3, x4⟩ := box2 (BOX.out w13 H13.out)
  cases Hk with
  | true =>
    have hw1 : IntKind.i64.wrap (n0 + 1) = n0 + 1 := by have := HX.out.2.1; rw [IntKind.wrap_i64]; omega
    have hLL : (L.length : Int) = n0 + 1 := by have := HX.out.1; simpa using this
    have hLE : ((n0 + 1 : Int) == (n0 + 1)) = true := by simp
    go_wp2_with fail
    refine (HC9.out w13 H13.out).mono ?_
    rintro e w14 ⟨rfl, hb14⟩
    have H14 := Lib.hid (H13.out.trans (hb14.mono (by have := H13.out.size; omega)))
    clear hb14 x1 x2 x3 x4
    obtain ⟨x1, x2, x3, x4⟩ := box2 (BOX.out w14 H14.out)
    by_cases hle : low = high
    · have hne : (low != high) = false := by simp [hle]
      have hrd := HX.out.2.2 hle
      clear hle
      go_wp2_with fail
      refine (HC10.out w14 H14.out).mono ?_
      rintro e w15 ⟨rfl, hb15⟩
      have H15 := Lib.hid (H14.out.trans (hb15.mono (by have := H14.out.size; omega)))
      clear hb15 x1 x2 x3 x4
      obtain ⟨x1, x2, x3, x4⟩ := box2 (BOX.out w15 H15.out)
      go_wp2_with fail
      go_ret
      first
        | exact ⟨rfl, HF.out.trans (H15.out.mono (by have := HF.out.size; omega))⟩
        | exact ⟨ret_bool (by simp [*]), HF.out.trans (H15.out.mono (by have := HF.out.size; omega))⟩
    · have hne : (low != high) = true := by simp [hle]
      clear hle
      go_wp2_with fail
      go_ret
      first
        | exact ⟨rfl, HF.out.trans (H14.out.mono (by have := HF.out.size; omega))⟩
        | exact ⟨ret_bool (by simp [*]), HF.out.trans (H14.out.mono (by have := HF.out.size; omega))⟩
  | false =>
    have hLL : (L.length : Int) = n0 := by have := HX.out.1; simpa using this
    have hLE : ((n0 : Int) == n0) = true := by simp
    go_wp2_with fail
    refine (HC9.out w13 H13.out).mono ?_
    rintro e w14 ⟨rfl, hb14⟩
    have H14 := Lib.hid (H13.out.trans (hb14.mono (by have := H13.out.size; omega)))
    clear hb14 x1 x2 x3 x4
    obtain ⟨x1, x2, x3, x4⟩ := box2 (BOX.out w14 H14.out)
    by_cases hle : low = high
    · have hne : (low != high) = false := by simp [hle]
      have hrd := HX.out.2.2 hle
      clear hle
      go_wp2_with fail
      refine (HC10.out w14 H14.out).mono ?_
      rintro e w15 ⟨rfl, hb15⟩
      have H15 := Lib.hid (H14.out.trans (hb15.mono (by have := H14.out.size; omega)))
      clear hb15 x1 x2 x3 x4
      obtain ⟨x1, x2, x3, x4⟩ := box2 (BOX.out w15 H15.out)
      go_wp2_with fail
      go_ret
      first
        | exact ⟨rfl, HF.out.trans (H15.out.mono (by have := HF.out.size; omega))⟩
        | exact ⟨ret_bool (by simp [*]), HF.out.trans (H15.out.mono (by have := HF.out.size; omega))⟩
    · have hne : (low != high) = true := by simp [hle]
      clear hle
      go_wp2_with fail
      go_ret
      first
        | exact ⟨rfl, HF.out.trans (H14.out.mono (by have := HF.out.size; omega))⟩
        | exact ⟨ret_bool (by simp [*]), HF.out.trans (H14.out.mono (by have := HF.out.size; omega))⟩
end Go.Proofs.Ytjnkdbgebkajoaa

/- The statement on ranges, from the walk of its law. -/
namespace Go.Proofs.Ytjnkdbgebkajoaa.fnRangeRowP
open Go.ChangeShapes Go.WideShapes Go.ChangeAt Go.RowKit
set_option linter.unusedVariables false

theorem own : ownKnob Try.prog.godebug = none := by kernel_rfl
theorem laidOut : laidOutB Try.prog = true := by kernel_rfl

set_option maxRecDepth 100000 in
set_option maxHeartbeats 1000000 in
theorem lifted (os : Os) (started : os.Started) (H : Type) (enc : TypeId × Value → H) :
    ReturnsInHanded {} Try.checked os 4 .any (Rows.fnRangeSpec.pre6 enc Try.prog Try.f4 Rows.fnRangeRow.domain false) (Rows.fnRangeSpec.post enc Try.prog Try.f4 false true false false) := by
  refine returnsInHanded_of_change (C := Try.checked) own started (by kernel_rfl) Try.func4
    (ChangeSpec.witness6 (enc := enc) (C := Try.checked) false ⟨#[], #[.slice none 0 0], []⟩ 8 (by kernel_rfl) (by kernel_rfl) (by kernel_rfl) (by kernel_rfl)) ?_
  intro W base args ds gs before hval0 hW hcnd _
  have hval : ∀ (j : Nat) t v, Try.f4.params[j]? = some t → args[j]? = some v → Value.okWide Try.prog W .any base t v := hval0
  have hW' := hW
  obtain ⟨p, q, hA0, hV, rfl, hfz, hnd⟩ := hW
  have hA : DataW.TrodAll enc Try.prog W 0 (fun _ => true) true Try.f4.params.toList args.toList ds p := hA0
  rw [Try.params4] at hA hval
  obtain ⟨v0, vs0, d0, ds0, p0, q0, hargs, rfl, rfl, h0, r0⟩ := trodAll_cons hA
  obtain ⟨rfl, rfl, rfl⟩ := trodAll_nil r0
  obtain rfl : args = #[v0] := by cases args; simp_all
  obtain ⟨rfl, rfl⟩ := trodVars_none hV
  obtain ⟨a0, len0, cap0, rfl⟩ := okWide_slice Try.underlying22 (hval 0 22 v0 rfl rfl)
  have k0 := h0
  have lt0 : ∀ x ∈ p0, x.block < W.heap.size := by obtain ⟨m, hm⟩ := k0; exact DataW.trod_lt m _ _ _ hm
  obtain ⟨bs0, hb0⟩ : ∃ bs, BytesIn W W.heap.size (.slice a0 len0 cap0) bs := by
    obtain ⟨fuel, hf⟩ := h0
    exact bytes_of_trod fuel (fun _ => rfl) hf
  clear hA0 hval0
  refine (fnRange_c hb0).mono fun e W' ⟨he, bel⟩ => ?_
  subst he
  exact ⟨_, rfl, _, _, _, [], _, [], hW', trodAll_mk1 (shut_bool Try.underlying4 _), (trodAll_cons_mk (Below.trod laidOut (by kernel_rfl) (of_decide_eq_true (by kernel_rfl)) k0 bel lt0) trodAll_mk0), rfl, bel.frame _, fun h => by cases h⟩

theorem closed : joinedFacts Try.prog 4 Try.f4 Rows.fnRangeSpec Rows.fnRangeRow = true := by
  unfold joinedFacts
  exact band (band (band (band (band (band (band (by kernel_rfl) fact_enter) fact_lifts) fact_make) (by kernel_rfl)) (by kernel_rfl)) (by kernel_rfl)) (by kernel_rfl)

theorem over : Rows.fnRangeRow.holds Try.pinned (OpenSpec.ofChange Rows.fnRangeSpec) :=
  OpenClaim.holds_of_wide 4 Try.f4 rfl rfl rfl rfl rfl rfl rfl ⟨rfl, rfl, rfl, rfl, rfl⟩ rfl rfl rfl rfl rfl (by kernel_rfl) Try.func4 closed
    (of_decide_eq_true (by kernel_rfl)) (by unfold Func.isWrapper; first | (rw [if_pos (by decide +kernel)]; kernel_rfl) | (rw [if_neg (by decide +kernel)]; exact ⟨rfl, rfl⟩))
    (fun os started H enc _ => lifted os started H enc)
end Go.Proofs.Ytjnkdbgebkajoaa.fnRangeRowP

/- For every slice of bytes, the law on ranges returns true and leaves its arguments as they were; no conditions. -/
namespace Go.Proofs.Ytjnkdbgebkajoaa

theorem rangeLaw_said : Rows.FnRangeSaid := fnRangeRowP.over
end Go.Proofs.Ytjnkdbgebkajoaa
