/- The contract of grownBy. -/
import Derived.Test.YthiohdbcclbgkaaProg
import Derived.Test.YthiohdbcclbgkaaBase
import Derived.Test.YthiohdbcclbgkaaImValid
import Derived.Test.YthiohdbcclbgkaaAscI
import Derived.Test.YthiohdbcclbgkaaHasSpec
import Derived.Test.YthiohdbcclbgkaaPlantNd
import Derived.Test.YthiohdbcclbgkaaSmallTree
import Derived.Test.YthiohdbcclbgkaaInsert
import Derived.Deep.Cut
namespace Go.Proofs.Ythiohdbcclbgkaa
open Go.RowKit

/-- Whether a key can be put into a tree. -/
def Tr.askedB (wide key : Int) (t : Tr) : Bool := Tr.validB wide t && (inB key 0 99 && !(t.pathB key).2)

theorem Tr.valid_some {wide : Int} {t : Tr} (h : Tr.validB wide t = true) : t.someB = true := by
  have hw := Tr.valid_wide h
  obtain ⟨q, hq⟩ : ∃ q : Nat, wide = (q : Int) := ⟨wide.toNat, by omega⟩
  subst hq
  exact (someB_of t).1 q (by omega) (by omega) h

theorem Tr.asked_path {wide key : Int} {t : Tr} (h : Tr.askedB wide key t = true) : Tr.validB wide t = true ∧ (t.path key).2 = false := by
  simp only [Tr.askedB, Bool.and_eq_true, Bool.not_eq_true'] at h
  refine ⟨h.1, ?_⟩
  have := (someB_path key t).1 (Tr.valid_some h.1)
  rw [← this]; exact h.2.2

/-- What grownBy leaves. -/
def GrownOf (w : World) (wide key : Int) (t : Tr) (e : Ending) (w' : World) : Prop :=
  (Tr.askedB wide key t = false ∧ e = .returned (.tuple #[.pointer none, .bool false]) ∧ Below w.heap.size w w') ∨
  (Tr.askedB wide key t = true ∧ ∃ (gb b : Nat) (F : Cells), e = .returned (.tuple #[.pointer (some ⟨gb, 0, none⟩), .bool true]) ∧ Grow w' gb wide (Tr.insN wide key t) (Tr.insG wide key t) F b (Tr.insT wide key t) ∧
    (∀ x o, F x o → w.heap.size ≤ x) ∧ Below w.heap.size w w')

set_option maxRecDepth 100000 in
set_option maxHeartbeats 4000000 in
theorem grownBy_c {w : World} {B : Nat} {kv cv : Value} {t : Tr} (ht : TreeIn w B kv cv t) (hw : t.weight ≤ 1048576) (wide key : Int) (hn1 : -9223372036854775808 ≤ wide) (hn2 : wide ≤ 9223372036854775807) (w' : World) (hbw : Below B w w') (hB : B ≤ w'.heap.size) :
    Calls Try.prog 104 #[.agg #[kv, cv], .int .i64 wide, .int .i64 key] w' (GrownOf w' wide key t) := by
  obtain ⟨a5, n5, m5, a6, n6, m6, rfl, rfl⟩ := ht.slices
  obtain ⟨W1, hW1⟩ : ∃ W1, W1 = w'.alloc (.cells #[.slice a5 n5 m5, .slice a6 n6 m6] 25) := ⟨_, rfl⟩
  have hs1 : W1.heap.size = w'.heap.size + 1 := by rw [hW1]; simp
  have hb1 : Below w'.heap.size w' W1 := by rw [hW1]; exact (Below.refl _ _).alloc (Nat.le_refl _) _
  have k0 : W1.heap[w'.heap.size]? = some (.cells #[.slice a5 n5 m5, .slice a6 n6 m6] 25 (0, 0)) := by rw [hW1, new_blk]
  obtain ⟨x1, x2, x3, x4⟩ := box2 k0
  have HT := Lib.hid ht
  have HBW := Lib.hid hbw
  have HW1 := Lib.hid hW1
  have H1 := Lib.hid (And.intro hb1 k0)
  clear ht hbw hW1 hb1 k0
  go_enter Try.func104, Try.ntmps104
  go_wp2_with fail
  rw [← HW1.out]
  refine (impl_valid _ _ _ _ _ wide HT.out hw hn1 hn2 W1 (HBW.out.trans (H1.out.1.mono hB)) (by omega)).mono ?_
  rintro e w2 ⟨rfl, hb2⟩
  have hs2 := hb2.size
  clear x1 x2 x3 x4
  have j0 := (hb2.block _ (by omega)).trans H1.out.2
  obtain ⟨x1, x2, x3, x4⟩ := box2 j0
  have hb2' := H1.out.1.trans (hb2.mono (by omega))
  have H2 := Lib.hid (And.intro hb2' j0)
  have HB2 := Lib.hid (HBW.out.trans (hb2'.mono hB))
  clear hb2 hb2' j0
  cases hv : Tr.validB wide t with
  | false =>
    have HA := Lib.hid (show Tr.askedB wide key t = false by simp [Tr.askedB, hv])
    clear hv
    go_wp2_with fail
    refine bodyPost_ret (v := .tuple #[.pointer none, .bool false]) (by simp [results, Try.results104, go_sem]) rfl (.inl ⟨HA.out, rfl, H2.out.1⟩)
  | true =>
  have HV := Lib.hid hv
  clear hv
  go_wp2_with fail
  refine (isKey_c key w2).mono ?_
  rintro e w3 ⟨rfl, rfl⟩
  cases hk : inB key 0 99 with
  | false =>
    have HA := Lib.hid (show Tr.askedB wide key t = false by simp [Tr.askedB, hk])
    clear hk
    go_wp2_with fail
    refine bodyPost_ret (v := .tuple #[.pointer none, .bool false]) (by simp [results, Try.results104, go_sem]) rfl (.inl ⟨HA.out, rfl, H2.out.1⟩)
  | true =>
  have HK := Lib.hid hk
  clear hk
  go_wp2_with fail
  refine (impl_has HT.out hw key _ HB2.out (by omega)).mono ?_
  rintro e w4 ⟨rfl, hb4⟩
  have hs4 := hb4.size
  clear x1 x2 x3 x4
  have j0 := (hb4.block _ (by omega)).trans H2.out.2
  obtain ⟨x1, x2, x3, x4⟩ := box2 j0
  have hb4' := H2.out.1.trans (hb4.mono (by omega))
  have H4 := Lib.hid (And.intro hb4' j0)
  have HB4 := Lib.hid (HBW.out.trans (hb4'.mono hB))
  clear hb4 hb4' j0
  cases hp : (t.pathB key).2 with
  | true =>
    have HA := Lib.hid (show Tr.askedB wide key t = false by simp [Tr.askedB, hp])
    clear hp
    go_wp2_with fail
    refine bodyPost_ret (v := .tuple #[.pointer none, .bool false]) (by simp [results, Try.results104, go_sem]) rfl (.inl ⟨HA.out, rfl, H4.out.1⟩)
  | false =>
  have hask : Tr.askedB wide key t = true := by simp [Tr.askedB, HV.out, HK.out, hp]
  have hpath := (Tr.asked_path hask).2
  have hsmall := Tr.valid_small HV.out
  have HASK := Lib.hid (And.intro hask hpath)
  clear hp hask hpath
  go_wp2_with fail
  refine (plant_nd HT.out hw w4 HB4.out (by omega)).mono ?_
  rintro e w5 ⟨b, rfl, hnd, hb5⟩
  have hs5 := hb5.size
  obtain ⟨W6, hW6⟩ : ∃ W6, W6 = w5.alloc (.cells #[.pointer (some ⟨b, 0, none⟩), .int .i64 wide, .int .i64 0, .bool false] 69) := ⟨_, rfl⟩
  have hs6 : W6.heap.size = w5.heap.size + 1 := by rw [hW6]; simp
  have hb6 : Below w5.heap.size w5 W6 := by rw [hW6]; exact (Below.refl _ _).alloc (Nat.le_refl _) _
  have hk6 : KeptF (fun _ _ => False) w5 W6 := KeptF.of_below hb6 (Nat.le_refl _)
  have hg6 : GBox W6 w5.heap.size (.pointer (some ⟨b, 0, none⟩)) wide 0 (.bool false) := by unfold GBox; rw [hW6, new_blk]; rfl
  have hgrow : Grow W6 w5.heap.size wide 0 false (span w4.heap.size w5.heap.size) b t := ⟨hg6, hnd.keep hk6 (fun _ _ _ h => h), fun o h => by have := h.2; omega⟩
  have hcall := insert_c wide key (Tr.valid_wide HV.out) W6 w5.heap.size 0 false _ b t hgrow (Tr.valid_well HV.out) (by omega) (by omega)
  have HC := Lib.hid hcall
  have HW6 := Lib.hid hW6
  have H6 := Lib.hid (H4.out.1.trans ((hb5.mono (by omega)).trans (hb6.mono (by omega))))
  clear hcall hgrow hg6 hk6 hb6 hW6 hnd hb5 x1 x2 x3 x4
  go_wp2_with fail
  rw [← HW6.out]
  refine HC.out.mono ?_
  rintro e w7 ⟨F', b', rfl, hgr, hF', hk7⟩
  rw [HASK.out.2] at hgr
  simp only [Bool.false_eq_true, if_false, Bool.false_or, Nat.zero_add] at hgr
  have H7 := Lib.hid (And.intro hgr (And.intro hF' hk7))
  clear hgr hF' hk7
  go_wp2_with fail
  refine bodyPost_ret (v := .tuple #[.pointer (some ⟨w5.heap.size, 0, none⟩), .bool true]) (by simp [results, Try.results104, go_sem]) rfl (.inr ⟨HASK.out.1, _, b', F', rfl, H7.out.1, fun x o h => ?_, ?_⟩)
  · rcases H7.out.2.1 x o h with h | h
    · have := h.1; omega
    · omega
  · exact H6.out.trans (H7.out.2.2.below (by omega) (fun x o h => by
      rcases h with h | h
      · have := h.1; omega
      · omega))
end Go.Proofs.Ythiohdbcclbgkaa
