/- For every slice of bytes, the law on keys one behind the other returns true and leaves its arguments as they were; no conditions. -/
import Derived.Test.YthiohdbcclbgkaaProg
import Derived.Test.YthiohdbcclbgkaaBase
import Derived.Test.YthiohdbcclbgkaaNa0
import Derived.Test.YthiohdbcclbgkaaAt
import Derived.Test.YthiohdbcclbgkaaNa3
import Derived.Test.YthiohdbcclbgkaaNa6
import Derived.Test.YthiohdbcclbgkaaNa13
import Derived.Test.YthiohdbcclbgkaaNextSpec
import Derived.Test.YthiohdbcclbgkaaImNext
import Derived.Test.YthiohdbcclbgkaaNa14
import Derived.Test.YthiohdbcclbgkaaImRank
import Derived.Test.YthiohdbcclbgkaaNa16
import Derived.Test.YthiohdbcclbgkaaNa22
import Derived.Test.YthiohdbcclbgkaaNa23
import Derived.Deep.RegionHeld3
import Derived.Test.YthiohdbcclbgkaaRows
import Derived.Test.YthiohdbcclbgkaaFacts
import Derived.Test.YthiohdbcclbgkaaNa1
import Derived.WalkKit
import Derived.ProofKit
import Derived.OpenShut
import Derived.ChangeOld
import Derived.Below

/- The law on keys one behind the other: the walk over the contracts. -/
namespace Go.Proofs.Ythiohdbcclbgkaa
open Go.RowKit

set_option maxHeartbeats 2000000 in
set_option maxRecDepth 100000 in
theorem fnNextAll_c {w : World} {v : Value} {bs : List Nat} (h : BytesIn w w.heap.size v bs) :
    Calls Try.prog 11 #[v] w fun e w' => e = .returned (.bool true) ∧ Below w.heap.size w w' := by
  have H := Lib.hid h
  obtain ⟨a1, c1, rfl, -⟩ := h
  by_cases hc1 : bs.length ≤ 1048576
  case neg =>
    have hc1' : ((bs.length : Int) > 1048576) := by omega
    go_enter Try.func11, Try.ntmps11
    go_wp2_with fail
    go_ret
    exact ⟨rfl, Below.refl _ _⟩
  have hc1' : ¬ ((bs.length : Int) > 1048576) := by omega
  have HD := Lib.hid (DrawNextKey_c H.out w (Below.refl _ _) (Nat.le_refl _))
  go_enter Try.func11, Try.ntmps11
  go_wp2_with fail
  refine HD.out.mono ?_
  rintro e w2 ⟨k2, d2, t, key, rfl, ht2, hw2, hkey, hb2⟩
  obtain ⟨b1, b2, b3, b4, b5, b6, rfl, rfl⟩ := ht2.slices
  have hs2 := hb2.size
  obtain ⟨W3, hW3⟩ : ∃ W3, W3 = w2.alloc (.cells #[.slice b1 b2 b3, .slice b4 b5 b6] 25) := ⟨_, rfl⟩
  have hs3 : w2.heap.size < W3.heap.size := by rw [hW3]; simp
  have hb3 : Below w2.heap.size w2 W3 := by rw [hW3]; exact (Below.refl _ _).alloc (Nat.le_refl _) _
  have hx3 : W3.heap[w2.heap.size]? = some (.cells #[.slice b1 b2 b3, .slice b4 b5 b6] 25 (0, 0)) := by rw [hW3, new_blk]
  have hta3 : TreeA W3 (.slice b1 b2 b3) (.slice b4 b5 b6) t := (ht2.a (fun k hk => hk.2)).later hb3 (Nat.le_refl _)
  have hwt : t.weight ≤ 1048576 := by omega
  obtain ⟨rk, hrk⟩ : ∃ rk, rk = t.rankB key := ⟨_, rfl⟩
  have C1 := fun (wx : World) (hx : Below W3.heap.size W3 wx) => impl_rank hta3.tree hwt key wx hx hx.size
  have C2 := fun (wx : World) (hx : Below W3.heap.size W3 wx) => specRankOf_c hta3.tree hwt key wx hx hx.size
  have C3 := fun (k : Int) (wx : World) (hx : Below W3.heap.size W3 wx) => impl_next hta3.tree hwt k wx hx hx.size
  have C4 := fun (k : Int) (wx : World) (hx : Below W3.heap.size W3 wx) => impl_prev hta3.tree hwt k wx hx hx.size
  have C5 := fun (wx : World) (hx : Below W3.heap.size W3 wx) => impl_keys_a (hta3.later hx (Nat.le_refl _)) hwt
  rw [← hrk] at C1 C2
  have HRK := Lib.hid hrk
  have HC1 := Lib.hid C1
  have HC2 := Lib.hid C2
  have HC3 := Lib.hid C3
  have HC4 := Lib.hid C4
  have HC5 := Lib.hid C5
  have BOX : Hid (∀ wx : World, Below W3.heap.size W3 wx → wx.heap[w2.heap.size]? = some (.cells #[.slice b1 b2 b3, .slice b4 b5 b6] 25 (0, 0))) := Lib.hid (fun wx hx => (hx.block _ (by omega)).trans hx3)
  have HF := Lib.hid (hb2.trans (hb3.mono (by omega)))
  have hx3x := hx3
  rw [hW3] at hx3x
  obtain ⟨x1, x2, x3, x4⟩ := box2 hx3x
  have HW3 := Lib.hid hW3
  have hneb : (rk != rk) = false := by simp
  have hnek : (key != key) = false := by simp
  clear ht2 hb2 hW3 hb3 hx3 hx3x hta3 hkey C1 C2 C3 C4 C5 hrk
  go_wp2_with fail
  rw [← HW3.out]
  clear x1 x2 x3 x4
  obtain ⟨x1, x2, x3, x4⟩ := box2 (BOX.out W3 (Below.refl _ _))
  go_region_held3 (fun x => x.cell? ⟨w2.heap.size, 0, none⟩ = some (.slice b1 b2 b3) ∧ x.cell? ⟨w2.heap.size, 1, none⟩ = some (.slice b4 b5 b6))
    (first | exact ⟨x1, x2⟩ | exact ⟨z1, z2⟩ | exact ⟨q1, q2⟩ | go_keep)
    (first
      | (go_at_call 42; refine (HC1.out _ (Below.refl _ _).drew).mono ?_; rintro e w4 ⟨rfl, hb4⟩; have hB4 : Below W3.heap.size W3 w4 := ((Below.refl _ _).drew).trans hb4; obtain ⟨z1, z2, -⟩ := box2 (BOX.out w4 hB4); have HB4 := Lib.hid hB4; clear hb4 hB4)
      | (go_at_call 44; refine (HC2.out _ HB4.out).mono ?_; rintro e w5 ⟨rfl, hb5⟩; have hB5 : Below W3.heap.size W3 w5 := HB4.out.trans (hb5.mono (by have := HB4.out.size; omega)); obtain ⟨q1, q2, -⟩ := box2 (BOX.out w5 hB5); have HB5 := Lib.hid hB5; clear hb5 hB5))
  clear x1 x2 x3 x4 z1 z2 q1 q2
  obtain ⟨x1, x2, x3, x4⟩ := box2 (BOX.out w5 HB5.out)
  have hz5 := HB5.out.size
  go_wp2_with fail
  refine (HC1.out w5 HB5.out).mono ?_
  rintro e w6 ⟨rfl, hb6⟩
  have HB6 := Lib.hid (HB5.out.trans (hb6.mono hz5))
  have hz6 := HB6.out.size
  clear hb6 x1 x2 x3 x4
  have HF6 := Lib.hid (HF.out.trans (HB6.out.mono (by have := HF.out.size; omega)))
  by_cases hneg : rk < 0
  · go_wp2_with fail
    go_ret
    exact ⟨rfl, HF6.out⟩
  have hsome := Tr.rank_some (t := t) (key := key) (by rw [← HRK.out]; omega)
  have hfew := Tr.some_few hsome
  obtain ⟨K, hK⟩ : ∃ K, K = t.keys := ⟨_, rfl⟩
  have hn1 := fun (j : Nat) (h : j < t.keys.length) => Tr.next_cur hsome h
  have hn2 := Tr.next_end hsome
  have hp1 := fun (j : Nat) (h : j < t.keys.length) => Tr.prev_back hsome h
  have C5 := HC5.out
  rw [← hK] at hn1 hn2 hp1 C5 hfew
  have HN1 := Lib.hid hn1
  have HN2 := Lib.hid hn2
  have HP1 := Lib.hid hp1
  have HC5' := Lib.hid C5
  have hal : Below w6.heap.size w6 (w6.alloc (.cells #[] 3)) := (Below.refl _ _).alloc (Nat.le_refl _) _
  have HL0 := Lib.hid (And.intro (World.ownsRow_made w6 #[] 0 (Nat.le_refl _) (by unfold maxLen; omega) rfl : IntsOwn (w6.alloc (.cells #[] 3)) w6.heap.size (.slice (some ⟨w6.heap.size, 0, none⟩) 0 0) []) hal)
  clear hsome hK hn1 hn2 hp1 C5 hal HC5
  go_upto_region 10 with (fail)
  go_loopw [5, 6, 7, 8] (fun s5 s6 s7 s8 wr => ∃ (j : Nat) (c : Int), j ≤ K.length ∧ s6 = .int .i64 c ∧ Hid (c = curAt K j) ∧ IntsOwn wr w6.heap.size s5 (K.take j) ∧ Below w6.heap.size w6 wr) (fun s5 _ _ _ _ => K.length - lenOf s5)
  case atStart => exact ⟨0, -1, Nat.zero_le _, rfl, Lib.hid rfl, HL0.out.1, HL0.out.2⟩
  case round =>
    obtain ⟨j, c, hj, rfl, HC, hown, hbel⟩ := hrel
    obtain ⟨oa, oc, rfl⟩ := IntsOwn.shown hown
    have hsz := hbel.size
    have hb3 : Below W3.heap.size W3 wr := HB6.out.trans (hbel.mono hz6)
    have htl : (K.take j).length = j := by rw [List.length_take]; omega
    obtain ⟨L, hL⟩ : ∃ L, L = K.take j := ⟨_, rfl⟩
    rw [← hL] at hown htl ⊢
    have HTL := Lib.hid (And.intro htl hL)
    clear hL htl
    have HR := Lib.hid (And.intro hown (And.intro hbel hb3))
    obtain ⟨x1, x2, x3, x4⟩ := box2 (BOX.out wr hb3)
    clear hown hbel hb3
    have N1 := HC3.out c wr HR.out.2.2
    by_cases hlt : j < K.length
    · rw [HC.out, HN1.out j hlt] at N1
      rw [← HC.out] at N1
      obtain ⟨k, hk⟩ : ∃ k, k = K.getD j 0 := ⟨_, rfl⟩
      rw [← hk] at N1
      have HNX := Lib.hid N1
      have HK := Lib.hid hk
      clear N1 hk
      go_wp2_with fail
      refine HNX.out.mono ?_
      rintro e w7 ⟨rfl, hb7⟩
      have hz7 := hb7.size
      have hown7 := IntsOwn.later HR.out.1 hb7 (Nat.le_refl _)
      have HO1 := Lib.hid (IntsOwn.alloc' hown7 (.cells #[.int .i64 k] 3))
      have HS := Lib.hid (IntsAt.one w7 k)
      have hlo : w6.heap.size ≤ (w7.alloc (.cells #[.int .i64 k] 3)).heap.size := by simp; omega
      have HLN : Hid (L.length + [k].length ≤ 17592186044416) := Lib.hid (by have := HTL.out.1; simp; omega)
      have HE : Hid (L ++ [k] = K.take (j + 1)) := Lib.hid (by rw [HTL.out.2, HK.out]; exact cur_snoc hlt)
      have H7 := Lib.hid hb7
      clear hown7 hb7 x1 x2 x3 x4
      go_wp2_with (at_builtin; refine wpList_append_ints rfl _ _ rfl w6.heap.size _ _ L [k] rfl HO1.out rfl HS.out HLN.out hlo ?_; intro v4 w9 hown9 hbel9 _ hsh9; obtain ⟨a9, c9, rfl⟩ := hsh9; generalize hL9 : L ++ [k] = L9 at hown9 ⊢; have HL9 := Lib.hid hL9; have hll : (L9.length : Int) ≤ 100 := (by rw [← hL9]; have := HTL.out.1; simp; omega); have hlg : ¬ (L9.length : Int) > 100 := (by omega); have HN := Lib.hid (And.intro hown9 hbel9); clear hown9 hbel9 hL9)
      have hlm : L9.length = j + 1 := by rw [← HL9.out]; have := HTL.out.1; simp; omega
      go_roundw
      case rel =>
        refine ⟨j + 1, k, by omega, rfl, Lib.hid (by rw [HK.out, cur_succ]), ?_, HR.out.2.1.trans ((H7.out.mono hsz).trans (((Below.refl _ _).alloc (by omega) _).trans HN.out.2))⟩
        rw [← HE.out, HL9.out]
        exact HN.out.1
      case measure =>
        have := HTL.out.1
        simp [lenOf]
        omega
    · have hje : j = K.length := by omega
      rw [HC.out, hje, HN2.out, ← hje] at N1
      rw [← HC.out] at N1
      have HNX := Lib.hid N1
      clear N1
      go_wp2_with fail
      refine HNX.out.mono ?_
      rintro e w7 ⟨rfl, hb7⟩
      have hz7 := hb7.size
      have H7 := Lib.hid hb7
      clear hb7 x1 x2 x3 x4
      have hLK : L = K := by rw [HTL.out.2, hje, List.take_length]
      have howk := HR.out.1
      rw [hLK] at howk ⊢
      have HOK := Lib.hid (IntsOwn.later howk H7.out (Nat.le_refl _))
      have hb37 : Below W3.heap.size W3 w7 := HR.out.2.2.trans (H7.out.mono (by omega))
      have H37 := Lib.hid hb37
      have hz37 := hb37.size
      have hal : Below w7.heap.size w7 (w7.alloc (.cells #[] 3)) := (Below.refl _ _).alloc (Nat.le_refl _) _
      have HL1 := Lib.hid (And.intro (World.ownsRow_made w7 #[] 0 (Nat.le_refl _) (by unfold maxLen; omega) rfl : IntsOwn (w7.alloc (.cells #[] 3)) w7.heap.size (.slice (some ⟨w7.heap.size, 0, none⟩) 0 0) []) hal)
      clear howk hLK hb37 hal hje hlt hj
      go_wp2_with fail
      go_loopw [6, 9, 10, 11, 51] (fun s6 s9 s10 s11 i wr => ∃ (j : Nat) (c : Int), j ≤ K.length ∧ i = .int .i64 j ∧ s6 = .int .i64 c ∧ Hid (c = backAt K j) ∧ IntsOwn wr w7.heap.size s9 (K.drop (K.length - j)) ∧ Below w7.heap.size w7 wr) (fun _ _ _ _ i _ => K.length - (intOf i).toNat)
      case atStart => exact ⟨0, 100, Nat.zero_le _, rfl, rfl, Lib.hid rfl, by rw [show K.drop (K.length - 0) = [] by simp]; exact HL1.out.1, HL1.out.2⟩
      case round =>
        obtain ⟨j, c, hj, rfl, rfl, HC2', hown, hbel⟩ := hrel
        obtain ⟨oa2, oc2, rfl⟩ := IntsOwn.shown hown
        have hsz2 := hbel.size
        have hb3 : Below W3.heap.size W3 wr := H37.out.trans (hbel.mono hz37)
        have htl : (K.drop (K.length - j)).length = j := by rw [List.length_drop]; omega
        obtain ⟨M, hM⟩ : ∃ M, M = K.drop (K.length - j) := ⟨_, rfl⟩
        rw [← hM] at hown htl ⊢
        have HML := Lib.hid (And.intro htl hM)
        have HR2 := Lib.hid (And.intro hown (And.intro hbel hb3))
        obtain ⟨x1, x2, x3, x4⟩ := box2 (BOX.out wr hb3)
        clear hown hbel hb3 htl hM
        by_cases hlt : j < K.length
        · have N1 := HC4.out c wr HR2.out.2.2
          rw [HC2'.out, HP1.out j hlt] at N1
          obtain ⟨k, hk⟩ : ∃ k, k = K.getD (K.length - j - 1) 0 := ⟨_, rfl⟩
          rw [← hk, ← HC2'.out] at N1
          have HPV := Lib.hid N1
          have HK := Lib.hid hk
          have hjl : (j : Int) < (K.length : Int) := by omega
          clear N1 hk
          go_wp2_with fail
          refine HPV.out.mono ?_
          rintro e w8 ⟨rfl, hb8⟩
          have hz8 := hb8.size
          have hown8 := IntsOwn.later HR2.out.1 hb8 (Nat.le_refl _)
          have HO1 := Lib.hid (IntsOwn.one w8 k w7.heap.size (by omega))
          have HS := Lib.hid (IntsOwn.inB (IntsOwn.alloc' hown8 (.cells #[.int .i64 k] 3)) (Nat.le_refl _)).at
          have hlo : w7.heap.size ≤ (w8.alloc (.cells #[.int .i64 k] 3)).heap.size := by simp; omega
          have HLN : Hid ([k].length + M.length ≤ 17592186044416) := Lib.hid (by have := HML.out.1; simp; omega)
          have HE : Hid ([k] ++ M = K.drop (K.length - (j + 1))) := Lib.hid (by rw [HML.out.2, HK.out]; exact back_cons hlt)
          have H8 := Lib.hid hb8
          clear hown8 hb8 x1 x2 x3 x4
          go_wp2_with (at_builtin; refine wpList_append_ints rfl _ _ rfl w7.heap.size _ _ [k] M rfl HO1.out rfl HS.out HLN.out hlo ?_; intro v4 w9 hown9 hbel9 _ hsh9; obtain ⟨a9, c9, rfl⟩ := hsh9; generalize hL9 : [k] ++ M = L9 at hown9 ⊢; have HL9 := Lib.hid hL9; have HN := Lib.hid (And.intro hown9 hbel9); clear hown9 hbel9 hL9)
          go_roundw
          case rel =>
            refine ⟨j + 1, k, by omega, by go_num, rfl, Lib.hid (by rw [HK.out, back_succ]), ?_, HR2.out.2.1.trans ((H8.out.mono hsz2).trans (((Below.refl _ _).alloc (by omega) _).trans HN.out.2))⟩
            rw [← HE.out, HL9.out]
            exact HN.out.1
          case measure =>
            simp [intOf]
            omega
        · have hje : j = K.length := by omega
          have hjl : ¬ (j : Int) < (K.length : Int) := by omega
          have hMK : M = K := by rw [HML.out.2, hje]; simp
          have howm := HR2.out.1
          rw [hMK] at howm ⊢
          have HOO := Lib.hid (And.intro (IntsOwn.later HOK.out HR2.out.2.1 (Nat.le_refl _)) howm)
          clear howm hMK hje
          go_wp2_with fail
          refine (HC5'.out wr HR2.out.2.2).mono ?_
          rintro e w8 ⟨v8, rfl, ho8, hb8⟩
          obtain ⟨va8, vc8, rfl⟩ := IntsOwn.shown ho8
          have hz8 := hb8.size
          have H8 := Lib.hid (And.intro ho8 (And.intro (IntsOwn.later HOO.out.1 hb8 (Nat.le_refl _)) (And.intro (IntsOwn.later HOO.out.2 hb8 (Nat.le_refl _)) hb8)))
          clear ho8 hb8 x1 x2 x3 x4
          go_wp2_with fail
          refine (ftSame_c K _ _ w8 w8.heap.size (Nat.le_refl _) (IntsOwn.inB H8.out.2.1 (Nat.le_refl _)) (IntsOwn.inB H8.out.1 (Nat.le_refl _))).mono ?_
          rintro e w9 ⟨rfl, hb9⟩
          have hz9 := hb9.size
          have H9 := Lib.hid hb9
          clear hb9
          go_wp2_with fail
          refine (ftSame_c K _ _ w9 w9.heap.size (Nat.le_refl _) (IntsOwn.inB (IntsOwn.later H8.out.2.2.1 H9.out (Nat.le_refl _)) (Nat.le_refl _)) (IntsOwn.inB (IntsOwn.later H8.out.2.1 H9.out (Nat.le_refl _)) (Nat.le_refl _))).mono ?_
          rintro e w10 ⟨rfl, hb10⟩
          have H10 := Lib.hid hb10
          clear hb10
          have hzw := HR2.out.2.2.size
          have hz3 := HF.out.size
          go_wp2_with fail
          go_ret
          exact ⟨rfl, HF.out.trans ((HR2.out.2.2.trans ((H8.out.2.2.2.trans ((H9.out.trans (H10.out.mono (by omega))).mono (by omega))).mono (by omega))).mono (by omega))⟩
end Go.Proofs.Ythiohdbcclbgkaa

/- The statement on keys one behind the other, from the walk of its law. -/
namespace Go.Proofs.Ythiohdbcclbgkaa.fnNextAllRowP
open Go.ChangeShapes Go.WideShapes Go.ChangeAt Go.RowKit
set_option linter.unusedVariables false

theorem own : ownKnob Try.prog.godebug = none := by kernel_rfl
theorem laidOut : laidOutB Try.prog = true := by kernel_rfl

set_option maxRecDepth 100000 in
set_option maxHeartbeats 1000000 in
theorem lifted (os : Os) (started : os.Started) (H : Type) (enc : TypeId × Value → H) :
    ReturnsInHanded {} Try.checked os 11 .any (Rows.fnNextAllSpec.pre6 enc Try.prog Try.f11 Rows.fnNextAllRow.domain false) (Rows.fnNextAllSpec.post enc Try.prog Try.f11 false true false false) := by
  refine returnsInHanded_of_change (C := Try.checked) own started (by kernel_rfl) Try.func11
    (ChangeSpec.witness6 (enc := enc) (C := Try.checked) false ⟨#[], #[.slice none 0 0], []⟩ 8 (by kernel_rfl) (by kernel_rfl) (by kernel_rfl) (by kernel_rfl)) ?_
  intro W base args ds gs before hval0 hW hcnd _
  have hval : ∀ (j : Nat) t v, Try.f11.params[j]? = some t → args[j]? = some v → Value.okWide Try.prog W .any base t v := hval0
  have hW' := hW
  obtain ⟨p, q, hA0, hV, rfl, hfz, hnd⟩ := hW
  have hA : DataW.TrodAll enc Try.prog W 0 (fun _ => true) true Try.f11.params.toList args.toList ds p := hA0
  rw [Try.params11] at hA hval
  obtain ⟨v0, vs0, d0, ds0, p0, q0, hargs, rfl, rfl, h0, r0⟩ := trodAll_cons hA
  obtain ⟨rfl, rfl, rfl⟩ := trodAll_nil r0
  obtain rfl : args = #[v0] := by cases args; simp_all
  obtain ⟨rfl, rfl⟩ := trodVars_none hV
  obtain ⟨a0, len0, cap0, rfl⟩ := okWide_slice Try.underlying35 (hval 0 35 v0 rfl rfl)
  have k0 := h0
  have lt0 : ∀ x ∈ p0, x.block < W.heap.size := by obtain ⟨m, hm⟩ := k0; exact DataW.trod_lt m _ _ _ hm
  obtain ⟨bs0, hb0⟩ : ∃ bs, BytesIn W W.heap.size (.slice a0 len0 cap0) bs := by
    obtain ⟨fuel, hf⟩ := h0
    exact bytes_of_trod fuel (fun _ => rfl) hf
  clear hA0 hval0
  refine (fnNextAll_c hb0).mono fun e W' ⟨he, bel⟩ => ?_
  subst he
  exact ⟨_, rfl, _, _, _, [], _, [], hW', trodAll_mk1 (shut_bool Try.underlying4 _), (trodAll_cons_mk (Below.trod laidOut (by kernel_rfl) (of_decide_eq_true (by kernel_rfl)) k0 bel lt0) trodAll_mk0), rfl, bel.frame _, fun h => by cases h⟩

theorem closed : joinedFacts Try.prog 11 Try.f11 Rows.fnNextAllSpec Rows.fnNextAllRow = true := by
  unfold joinedFacts
  exact band (band (band (band (band (band (band (by kernel_rfl) fact_enter) fact_lifts) fact_make) (by kernel_rfl)) (by kernel_rfl)) (by kernel_rfl)) (by kernel_rfl)

theorem over : Rows.fnNextAllRow.holds Try.pinned (OpenSpec.ofChange Rows.fnNextAllSpec) :=
  OpenClaim.holds_of_wide 11 Try.f11 rfl rfl rfl rfl rfl rfl rfl ⟨rfl, rfl, rfl, rfl, rfl⟩ rfl rfl rfl rfl rfl (by kernel_rfl) Try.func11 closed
    (of_decide_eq_true (by kernel_rfl)) (by unfold Func.isWrapper; first | (rw [if_pos (by decide +kernel)]; kernel_rfl) | (rw [if_neg (by decide +kernel)]; exact ⟨rfl, rfl⟩))
    (fun os started H enc _ => lifted os started H enc)
end Go.Proofs.Ythiohdbcclbgkaa.fnNextAllRowP

/- For every slice of bytes, the law on keys one behind the other returns true and leaves its arguments as they were; no conditions. -/
namespace Go.Proofs.Ythiohdbcclbgkaa

theorem nextAllLaw_said : Rows.FnNextAllSaid := fnNextAllRowP.over
end Go.Proofs.Ythiohdbcclbgkaa
