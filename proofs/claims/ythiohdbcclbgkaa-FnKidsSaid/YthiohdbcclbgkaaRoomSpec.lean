/- How many keys the fullest leaf has; the model's RoomOf. -/
import Derived.Test.YthiohdbcclbgkaaProg
import Derived.Test.YthiohdbcclbgkaaBase
import Derived.Test.YthiohdbcclbgkaaSp
import Derived.Test.YthiohdbcclbgkaaSorted
namespace Go.Proofs.Ythiohdbcclbgkaa
open Go.RowKit

namespace Tr
mutual
/-- How many keys the leaf has that has most. -/
def leafMax : Tr → Nat
  | .mk k c => max (if c.length = 0 then k.length else 0) (leafMaxs c)
def leafMaxs : List Tr → Nat
  | [] => 0
  | t :: r => max (leafMax t) (leafMaxs r)
end
theorem leafMaxs_append (a b : List Tr) : leafMaxs (a ++ b) = max (leafMaxs a) (leafMaxs b) := by
  induction a with
  | nil => simp [leafMaxs]
  | cons t r ih => simp only [leafMaxs, ih, List.cons_append]; omega
theorem leafMaxs_take_succ (cs : List Tr) (j : Nat) (h : j < cs.length) : leafMaxs (cs.take (j + 1)) = max (leafMaxs (cs.take j)) cs[j].leafMax := by
  rw [List.take_succ_eq_append_getElem h, leafMaxs_append]; simp [leafMaxs]
theorem leafMax_get (cs : List Tr) (j : Nat) (h : j < cs.length) : cs[j].leafMax ≤ leafMaxs cs := by
  induction cs generalizing j with
  | nil => simp at h
  | cons t r ih =>
    cases j with
    | zero => simp only [leafMaxs, List.getElem_cons_zero]; omega
    | succ j => have := ih j (by simpa using h); simp only [leafMaxs, List.getElem_cons_succ]; omega
mutual
theorem leafMax_le {wide : Int} (h0 : 0 ≤ wide) : ∀ (t : Tr) (least depth : Int), nodesB wide least depth t = true → (t.leafMax : Int) ≤ wide
  | .mk k c, least, depth, h => by
    simp only [nodesB, Bool.and_eq_true, Bool.or_eq_true] at h
    have h1 : (k.length : Int) ≤ wide := by have := h.1.1; simp [inB] at this; omega
    rcases h.2 with h2 | h2
    · have hc : c = [] := by simpa using h2
      subst hc
      simp [leafMax, leafMaxs]; omega
    · have := leafMaxs_le h0 c _ h2.2
      simp only [leafMax]
      split <;> omega
theorem leafMaxs_le {wide : Int} (h0 : 0 ≤ wide) : ∀ (c : List Tr) (depth : Int), nodesAllB wide depth c = true → (leafMaxs c : Int) ≤ wide
  | [], depth, _ => by simpa [leafMaxs] using h0
  | t :: r, depth, h => by
    simp only [nodesAllB, Bool.and_eq_true] at h
    have h1 := leafMax_le h0 t _ _ h.1
    have h2 := leafMaxs_le h0 r _ h.2
    simp only [leafMaxs]; omega
end
/-- What RoomOf tells. -/
def roomB (wide : Int) (t : Tr) : Int := if validB wide t then wide - t.leafMax else -1
theorem valid_wide {wide : Int} {t : Tr} (h : validB wide t = true) : 2 ≤ wide ∧ wide ≤ 6 := by
  simp only [validB, Bool.and_eq_true, inB, decide_eq_true_eq] at h
  exact h.1
theorem valid_leafMax {wide : Int} {t : Tr} (h : validB wide t = true) : (t.leafMax : Int) ≤ wide := by
  have := valid_wide h
  simp only [validB, Bool.and_eq_true] at h
  exact leafMax_le (by omega) t _ _ h.2.1
end Tr

set_option maxHeartbeats 1000000 in
theorem specRoom_c {w : World} {B : Nat} {kv cv : Value} {t : Tr} (ht : TreeIn w B kv cv t) (wide : Int) (hwd : 2 ≤ wide ∧ wide ≤ 6) (hw : t.weight ≤ 1048576) (hle : (t.leafMax : Int) ≤ wide) :
    ∀ w', Below B w w' → B ≤ w'.heap.size →
    Calls Try.prog 113 #[.agg #[kv, cv], .int .i64 wide] w' fun e w'' => e = .returned (.int .i64 (wide - t.leafMax)) ∧ Below w'.heap.size w' w'' := by
  induction ht with
  | mk ks cs kv a cap kvs cvs hk hlen hcap hat hkids ih =>
    intro w' hbw hB
    simp only [Tr.weight] at hw
    unfold maxLen at hcap
    obtain ⟨ka, kcap, rfl, k1, k2, _, k3⟩ := hk
    unfold maxLen at k2
    have hl0 := Tr.length_le_weights cs
    have hcl : (Tr.leafMaxs cs : Int) ≤ wide := by simp only [Tr.leafMax] at hle; omega
    have HAT := Lib.hid (hat.later hbw (Nat.le_refl _))
    have IH := Lib.hid ih
    have HKI := Lib.hid hkids
    clear k3 hat ih hkids
    by_cases hc : cs.length = 0
    · have hv : ((Tr.mk ks cs).leafMax : Int) = ks.length := by
        have : cs = [] := List.length_eq_zero_iff.1 hc
        subst this; simp [Tr.leafMax, Tr.leafMaxs]
      have HV := Lib.hid hv
      clear hv hle
      go_enter Try.func113, Try.ntmps113
      go_wp2_with fail
      all_goals (
        go_ret
        exact ⟨ret_int (by rw [HV.out]), (Below.refl _ _).alloc (Nat.le_refl _) _⟩)
    · have hv : ((Tr.mk ks cs).leafMax : Int) = (Tr.leafMaxs cs : Int) := by simp [Tr.leafMax, hc]
      have HV := Lib.hid hv
      have hc0 : ((cs.length : Int) == 0) = false := by simpa using hc
      clear hv hle
      go_enter Try.func113, Try.ntmps113
      go_wp2_with fail
      go_loopw [5, 21] (fun l i wr => ∃ (j : Nat) (L : Int), j ≤ cs.length ∧ i = .int .i64 j ∧ l = .int .i64 L ∧ Hid ((j = 0 ∧ L = -1) ∨ (0 < j ∧ L = wide - (Tr.leafMaxs (cs.take j) : Int))) ∧ Below w'.heap.size w' wr) (fun _ i _ => cs.length - (intOf i).toNat)
      case atStart => exact ⟨0, -1, Nat.zero_le _, rfl, rfl, Lib.hid (.inl ⟨rfl, rfl⟩), (Below.refl _ _).alloc (Nat.le_refl _) _⟩
      case round =>
        obtain ⟨j, L, hj, rfl, rfl, HL, hbel⟩ := hrel
        by_cases hlt : j < cs.length
        · rcases HAT.out with h | ⟨b, off, rfl, hb, hat⟩
          · omega
          obtain ⟨ha, hc⟩ := hat j hlt
          obtain ⟨a1, n1, c1, a2, n2, c2, e1, e2⟩ := (HKI.out j hlt).slices
          rw [← below_cell hbel (by omega)] at ha hc
          rw [e1] at ha
          rw [e2] at hc
          have hz := hbel.size
          have hlm := Tr.leafMax_get cs j hlt
          have hC := fun w1 h1 h2 => IH.out j hlt (by have := Tr.weight_get_le cs j hlt; omega) (by omega) w1 h1 h2
          rw [e1, e2] at hC
          obtain ⟨N, hN⟩ : ∃ N : Int, N = wide - (cs[j].leafMax : Int) := ⟨_, rfl⟩
          rw [← hN] at hC
          have hN0 : 0 ≤ N := by omega
          have hN6 : N ≤ 6 := by omega
          have HN := Lib.hid (And.intro hN (Tr.leafMaxs_take_succ cs j hlt))
          have HC := Lib.hid hC
          clear hat hC e1 e2 hN hlm
          have hcase : (j = 0 ∧ L = -1) ∨ (0 < j ∧ 0 ≤ L ∧ L ≤ 6) := by
            rcases HL.out with h | ⟨h1, h2⟩
            · exact .inl h
            · have : Tr.leafMaxs (cs.take j) ≤ Tr.leafMaxs cs := by
                conv => rhs; rw [← List.take_append_drop j cs, Tr.leafMaxs_append]
                omega
              exact .inr ⟨h1, by omega, by omega⟩
          have hL0 : -1 ≤ L := by omega
          have hL6 : L ≤ 6 := by omega
          have hfN : (L < 0 ∨ N < L) → (j + 1 = 0 ∧ N = -1) ∨ (0 < j + 1 ∧ N = wide - (Tr.leafMaxs (cs.take (j + 1)) : Int)) := fun hx => by
            refine .inr ⟨by omega, ?_⟩
            rw [HN.out.2]
            rcases HL.out with ⟨h5, h6⟩ | ⟨h5, h6⟩
            · subst h5
              simp only [List.take_zero, Tr.leafMaxs]
              have := HN.out.1
              omega
            · have := HN.out.1
              omega
          have hfL : (0 ≤ L ∧ L ≤ N) → (j + 1 = 0 ∧ L = -1) ∨ (0 < j + 1 ∧ L = wide - (Tr.leafMaxs (cs.take (j + 1)) : Int)) := fun hx => by
            refine .inr ⟨by omega, ?_⟩
            rw [HN.out.2]
            rcases HL.out with ⟨h5, h6⟩ | ⟨h5, h6⟩
            · omega
            · have := HN.out.1
              omega
          have FN := Lib.hid hfN
          have FL := Lib.hid hfL
          clear hcase hfN hfL
          go_wp2_with fail
          refine (HC.out _ (hbw.trans ((hbel.alloc hz _).mono hB)) (by simp; omega)).mono ?_
          rintro e w1 ⟨rfl, hb1⟩
          have hb1' : Below w'.heap.size w' w1 := (hbel.alloc hz _).trans (hb1.mono (by simp; omega))
          clear hb1
          go_wp2_with fail
          all_goals (
            go_roundw
            case rel =>
              first
                | exact ⟨j + 1, N, by omega, by go_num, rfl, Lib.hid (FN.out (by omega)), hb1'⟩
                | exact ⟨j + 1, L, by omega, by go_num, rfl, Lib.hid (FL.out (by omega)), hb1'⟩
                | ((repeat apply Exists.intro); exact ⟨⟨j + 1, N, by omega, by go_num, rfl, Lib.hid (FN.out (by omega)), hb1'⟩, rfl⟩)
                | exact ⟨.int .i64 N, _, .int .i64 N, .int .i64 ((j : Int) + 1), ⟨j + 1, by omega, by go_num, N, rfl, Lib.hid (FN.out (by omega))⟩, rfl, rfl, rfl, rfl⟩
                | ((repeat apply Exists.intro); exact ⟨⟨j + 1, L, by omega, by go_num, rfl, Lib.hid (FL.out (by omega)), hb1'⟩, rfl⟩)
            case measure => simp [intOf]; omega)
        · obtain rfl : j = cs.length := by omega
          have hL : L = wide - (Tr.leafMaxs cs : Int) := by
            rcases HL.out with h | ⟨h1, h2⟩
            · omega
            · rw [List.take_length] at h2; exact h2
          have HLE := Lib.hid hL
          clear hL
          go_wp2_with fail
          go_ret
          exact ⟨ret_int (by rw [HV.out]; exact HLE.out), hbel⟩

theorem specRoomOf_c {w : World} {B : Nat} {kv cv : Value} {t : Tr} (ht : TreeIn w B kv cv t) (hw : t.weight ≤ 1048576) (wide : Int) (w' : World) (hbw : Below B w w') (hB : B ≤ w'.heap.size) :
    Calls Try.prog 61 #[.agg #[kv, cv], .int .i64 wide] w' fun e w'' => e = .returned (.int .i64 (Tr.roomB wide t)) ∧ Below w'.heap.size w' w'' := by
  obtain ⟨a5, n5, m5, a6, n6, m6, rfl, rfl⟩ := ht.slices
  have HT := Lib.hid ht
  have HB := Lib.hid hbw
  obtain ⟨W1, hW1⟩ : ∃ W1, W1 = w'.alloc (.cells #[.slice a5 n5 m5, .slice a6 n6 m6] 25) := ⟨_, rfl⟩
  have hs1 : W1.heap.size = w'.heap.size + 1 := by rw [hW1]; simp
  have hb1 : Below w'.heap.size w' W1 := by rw [hW1]; exact (Below.refl _ _).alloc (Nat.le_refl _) _
  have kb : W1.heap[w'.heap.size]? = some (.cells #[.slice a5 n5 m5, .slice a6 n6 m6] 25 (0, 0)) := by rw [hW1, new_blk]
  obtain ⟨x1, x2, x3, x4⟩ := box2 kb
  have HW1 := Lib.hid hW1
  have HB1 := Lib.hid (And.intro hb1 kb)
  clear ht hbw hW1 hb1 kb
  go_enter Try.func61, Try.ntmps61
  go_wp2_with fail
  rw [← HW1.out]
  refine (specTreeValid_c HT.out hw wide W1 (HB.out.trans (HB1.out.1.mono hB)) (by omega)).mono ?_
  rintro e w2 ⟨rfl, hb2⟩
  have hs2 := hb2.size
  clear x1 x2 x3 x4
  obtain ⟨x1, x2, x3, x4⟩ := box2 ((hb2.block _ (by omega)).trans HB1.out.2)
  have hb2' := HB1.out.1.trans (hb2.mono (by omega))
  have HB2 := Lib.hid hb2'
  clear hb2 hb2'
  cases hv : Tr.validB wide t with
  | false =>
    have HV := Lib.hid (show Tr.roomB wide t = -1 by simp [Tr.roomB, hv])
    clear hv
    go_wp2_with fail
    go_ret
    exact ⟨ret_int HV.out.symm, HB2.out⟩
  | true =>
    have hwd := Tr.valid_wide hv
    have hlm := Tr.valid_leafMax hv
    have HV := Lib.hid (show Tr.roomB wide t = wide - t.leafMax by simp [Tr.roomB, hv])
    have HW := Lib.hid hwd
    have HL := Lib.hid hlm
    clear hv hwd hlm
    go_wp2_with fail
    refine (specRoom_c HT.out wide HW.out hw HL.out w2 (HB.out.trans (HB2.out.mono hB)) (by omega)).mono ?_
    rintro e w3 ⟨rfl, hb3⟩
    have HB3 := Lib.hid (HB2.out.trans (hb3.mono (by omega)))
    clear hb3
    go_wp2_with fail
    go_ret
    exact ⟨ret_int HV.out.symm, HB3.out⟩

end Go.Proofs.Ythiohdbcclbgkaa
