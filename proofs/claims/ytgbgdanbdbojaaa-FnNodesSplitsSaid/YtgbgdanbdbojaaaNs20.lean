/- A tree that is valid for some width has few keys. -/
import Derived.Test.YtgbgdanbdbojaaaNs0
import Derived.Test.YtgbgdanbdbojaaaKeys
import Derived.Test.YtgbgdanbdbojaaaNs14
import Derived.Test.YtgbgdanbdbojaaaNs18
import Derived.Test.YtgbgdanbdbojaaaNs17
import Derived.Test.YtgbgdanbdbojaaaNs11
import Derived.Test.YtgbgdanbdbojaaaNs12
import Derived.Test.YtgbgdanbdbojaaaInsBelow
import Derived.Test.YtgbgdanbdbojaaaProg
import Derived.Test.YtgbgdanbdbojaaaValid

/- Inserting: a key comes to its place among the keys of a tree. -/
namespace Go.Proofs.Ytgbgdanbdbojaaa
open Go.RowKit

theorem putAt_within {α : Type} (P K S : List α) (q : Nat) (x : α) (h : q ≤ K.length) : putAt (P ++ (K ++ S)) (P.length + q) x = P ++ (putAt K q x ++ S) := by
  unfold putAt
  rw [List.take_length_add_append, List.drop_length_add_append, List.take_append_of_le_length h, List.drop_append_of_le_length h]
  simp

namespace Tr
theorem Well.of_valid {t : Tr} {wide : Int} (h : validB wide t = true) : Well t := by
  unfold validB at h
  simp only [Bool.and_eq_true] at h
  exact ⟨⟨wide, 0, _, h.2.1⟩, pairwise_of_sorted h.2.2⟩
theorem keys_ahead {k : List Int} {c : List Tr} {j : Nat} (hj : j < k.length) (hc : c.length = k.length + 1) :
    weave (c.take (j + 1)) (k.take (j + 1)) = weave (c.take j) (k.take j) ++ (c[j].keys ++ [k[j]]) := by
  rw [List.take_succ_eq_append_getElem (by omega : j < c.length), List.take_succ_eq_append_getElem hj, weave_append _ _ _ _ (by simp; omega)]
  rfl
theorem grow_keys {wide : Int} (hw : 0 ≤ wide) (key : Int) : ∀ (n : Nat) (t : Tr), t.weight ≤ n → Well t → (grow wide key t).1.keys = putAt t.keys (place key t.keys) key := by
  intro n
  induction n with
  | zero =>
    rintro ⟨k, c⟩ hn _
    simp only [weight] at hn
    have hc : c.length = 0 := by have := length_le_weights c; omega
    rw [grow_leaf hc, List.length_eq_zero_iff.1 hc, keys_weave, keys_weave]; rfl
  | succ n ih =>
    rintro ⟨k, c⟩ hn hwell
    by_cases hc : c.length = 0
    · rw [grow_leaf hc, List.length_eq_zero_iff.1 hc, keys_weave, keys_weave]; rfl
    · have hcl := Well.inner hwell hc
      have hp := place_le key k
      have hi : place key k < c.length := by omega
      have hlt := fun j => place_lt (c := key) (k := k) (i := j)
      have hge := place_ge (c := key) (k := k)
      rw [grow_inner hi]
      have hwt := weight_get_le c _ hi
      simp only [weight] at hn
      have hkid := Well.kid hwell _ hi
      have hu := ih c[place key k] (by omega) hkid
      have hsh := grow_shaped wide key c[place key k] hkid.fits
      have hso := hwell.2
      generalize (grow wide key c[place key k]) = r at hu hsh ⊢
      generalize place key k = i at *
      rw [keys_around hi hcl] at hso ⊢
      have hP : ∀ x ∈ weave (c.take i) (k.take i), x < key := by
        cases i with
        | zero => intro x hx; simp [weave] at hx
        | succ j =>
          have hj : j < k.length := by omega
          have h1 := hlt j (by omega)
          rw [List.getD_eq_getElem?_getD, List.getElem?_eq_getElem hj, Option.getD_some] at h1
          rw [keys_ahead hj hcl] at hso ⊢
          have h2 := (List.pairwise_append.1 hso).1
          intro x hx
          rw [← List.append_assoc] at h2 hx
          rcases List.mem_append.1 hx with hx | hx
          · have := (List.pairwise_append.1 h2).2.2 x hx k[j] (by simp)
            omega
          · simp at hx; omega
      have hS : ∀ x r, tailW (c.drop (i + 1)) (k.drop i) = x :: r → key ≤ x := by
        intro x r hx
        by_cases h : i < k.length
        · have h1 := hge h
          rw [List.getD_eq_getElem?_getD, List.getElem?_eq_getElem h, Option.getD_some] at h1
          rw [List.drop_eq_getElem_cons h] at hx
          simp only [tailW, List.cons.injEq] at hx
          omega
        · rw [List.drop_of_length_le (by omega), List.drop_of_length_le (by omega)] at hx
          simp [tailW, weave] at hx
      rw [place_append_lt hP, place_append_ge hS, putAt_within _ _ _ _ _ (place_le key _), ← hu]
      unfold growStep
      by_cases hs : wide < (r.1.ks.length : Int)
      · rw [if_pos hs]
        dsimp only
        rw [keys_splitKid _ hi hcl, keys_halves (u := r.1) (by omega) hsh]
        simp
      · rw [if_neg hs]
        exact keys_setKid _ hi hcl
/-- The keys of the tree that a key makes. -/
theorem insT_keys {wide : Int} (hw : 0 ≤ wide) (key : Int) {t : Tr} (h : Well t) : (insT wide key t).keys = putAt t.keys (place key t.keys) key := by
  have hu := grow_keys hw key t.weight t (Nat.le_refl _) h
  have hsh := grow_shaped wide key t h.fits
  unfold insT
  dsimp only
  by_cases hs : wide < ((grow wide key t).1.ks.length : Int)
  · rw [if_pos hs, ← hu, keys_halves (by omega) hsh, keys_weave]
    simp [weave, keys_weave]
  · rw [if_neg hs, hu]
theorem sorted_of {ks : List Int} (h : ks.Pairwise (· < ·)) (hr : ∀ x ∈ ks, 0 ≤ x ∧ x ≤ 99) : sortedB ks = true := by
  refine sortedB_of fun i hi => ?_
  have e1 : ks.getD i 0 = ks[i] := by rw [List.getD_eq_getElem?_getD, List.getElem?_eq_getElem hi, Option.getD_some]
  have h1 := hr ks[i] (List.getElem_mem hi)
  unfold okAt inB
  rw [e1]
  cases i with
  | zero => simp; omega
  | succ j =>
    have hj : j < ks.length := by omega
    have e2 : ks.getD j 0 = ks[j] := by rw [List.getD_eq_getElem?_getD, List.getElem?_eq_getElem hj, Option.getD_some]
    have h2 := List.pairwise_iff_getElem.1 h j (j + 1) hj hi (by omega)
    rw [Nat.add_sub_cancel, e2]
    simp [h2]; omega
theorem put_sorted {ks : List Int} (h : ks.Pairwise (· < ·)) {key : Int} (hk : key ∉ ks) : (putAt ks (place key ks) key).Pairwise (· < ·) := by
  have h0 := h
  rw [← List.take_append_drop (place key ks) ks] at h0
  obtain ⟨h1, h2, h3⟩ := List.pairwise_append.1 h0
  have ha : ∀ x ∈ ks.take (place key ks), x < key := fun x hx => by
    obtain ⟨i, hi, rfl⟩ := List.getElem_of_mem hx
    have hi' : i < place key ks := by simp at hi; omega
    have hl : i < ks.length := by simp at hi; omega
    have := place_lt hi'
    rw [List.getD_eq_getElem?_getD, List.getElem?_eq_getElem hl, Option.getD_some] at this
    simpa using this
  have hb : ∀ x ∈ ks.drop (place key ks), key < x := fun x hx => by
    by_cases hp : place key ks < ks.length
    · have h4 := place_ge hp
      rw [List.getD_eq_getElem?_getD, List.getElem?_eq_getElem hp, Option.getD_some] at h4
      have h5 : ks[place key ks] ≤ x := by
        rw [List.drop_eq_getElem_cons hp] at hx h2
        rcases List.mem_cons.1 hx with rfl | hx
        · exact Int.le_refl _
        · exact Int.le_of_lt ((List.pairwise_cons.1 h2).1 x hx)
      have h6 : x ≠ key := fun e => hk (e ▸ List.mem_of_mem_drop hx)
      omega
    · rw [List.drop_of_length_le (by omega)] at hx
      simp at hx
  unfold putAt
  refine List.pairwise_append.2 ⟨h1, List.pairwise_cons.2 ⟨hb, h2⟩, fun x hx y hy => ?_⟩
  rcases List.mem_cons.1 hy with rfl | hy
  · exact ha x hx
  · have := ha x hx
    have := hb y hy
    omega
/-- A key that a valid tree does not have makes a valid tree of it. -/
theorem insT_valid {wide key : Int} {t : Tr} (h : validB wide t = true) (h0 : 0 ≤ key) (h9 : key ≤ 99) (hk : key ∉ t.keys) : validB wide (insT wide key t) = true := by
  have hw := Well.of_valid h
  unfold validB at h ⊢
  simp only [Bool.and_eq_true] at h ⊢
  have hwide : 2 ≤ wide ∧ wide ≤ 6 := by simpa [inB] using h.1
  refine ⟨h.1, insT_depth hwide.1 key h.2.1, ?_⟩
  rw [insT_keys (by omega) key hw]
  refine sorted_of (put_sorted hw.2 hk) fun x hx => ?_
  unfold putAt at hx
  have hin : ∀ y ∈ t.keys, 0 ≤ y ∧ y ≤ 99 := fun y hy => by
    obtain ⟨i, hi, rfl⟩ := List.getElem_of_mem hy
    have := sorted_ge h.2.2 i hi
    rw [List.getD_eq_getElem?_getD, List.getElem?_eq_getElem hi, Option.getD_some] at this
    omega
  rcases List.mem_append.1 hx with hx | hx
  · exact hin x (List.mem_of_mem_take hx)
  · rcases List.mem_cons.1 hx with rfl | hx
    · exact ⟨h0, h9⟩
    · exact hin x (List.mem_of_mem_drop hx)
end Tr
end Go.Proofs.Ytgbgdanbdbojaaa

/- How many keys the fullest leaf has; the model's RoomOf. -/
namespace Go.Proofs.Ytgbgdanbdbojaaa
open Go.RowKit

namespace Tr
mutual
/-- How many keys the leaf has that has most. -/
def leafMax : Tr → Nat
  | .mk k c => max (if c.length = 0 then k.length else 0) (leafMaxs c)
def leafMaxs : List Tr → Nat
  | [] => 0
  | t :: r => max (leafMax t) (leafMaxs r)
end
theorem leafMaxs_append (a b : List Tr) : leafMaxs (a ++ b) = max (leafMaxs a) (leafMaxs b) := by
  induction a with
  | nil => simp [leafMaxs]
  | cons t r ih => simp only [leafMaxs, ih, List.cons_append]; omega
theorem leafMaxs_take_succ (cs : List Tr) (j : Nat) (h : j < cs.length) : leafMaxs (cs.take (j + 1)) = max (leafMaxs (cs.take j)) cs[j].leafMax := by
  rw [List.take_succ_eq_append_getElem h, leafMaxs_append]; simp [leafMaxs]
theorem leafMax_get (cs : List Tr) (j : Nat) (h : j < cs.length) : cs[j].leafMax ≤ leafMaxs cs := by
  induction cs generalizing j with
  | nil => simp at h
  | cons t r ih =>
    cases j with
    | zero => simp only [leafMaxs, List.getElem_cons_zero]; omega
    | succ j => have := ih j (by simpa using h); simp only [leafMaxs, List.getElem_cons_succ]; omega
mutual
theorem leafMax_le {wide : Int} (h0 : 0 ≤ wide) : ∀ (t : Tr) (least depth : Int), nodesB wide least depth t = true → (t.leafMax : Int) ≤ wide
  | .mk k c, least, depth, h => by
    simp only [nodesB, Bool.and_eq_true, Bool.or_eq_true] at h
    have h1 : (k.length : Int) ≤ wide := by have := h.1.1; simp [inB] at this; omega
    rcases h.2 with h2 | h2
    · have hc : c = [] := by simpa using h2
      subst hc
      simp [leafMax, leafMaxs]; omega
    · have := leafMaxs_le h0 c _ h2.2
      simp only [leafMax]
      split <;> omega
theorem leafMaxs_le {wide : Int} (h0 : 0 ≤ wide) : ∀ (c : List Tr) (depth : Int), nodesAllB wide depth c = true → (leafMaxs c : Int) ≤ wide
  | [], depth, _ => by simpa [leafMaxs] using h0
  | t :: r, depth, h => by
    simp only [nodesAllB, Bool.and_eq_true] at h
    have h1 := leafMax_le h0 t _ _ h.1
    have h2 := leafMaxs_le h0 r _ h.2
    simp only [leafMaxs]; omega
end
/-- What RoomOf tells. -/
def roomB (wide : Int) (t : Tr) : Int := if validB wide t then wide - t.leafMax else -1
theorem valid_wide {wide : Int} {t : Tr} (h : validB wide t = true) : 2 ≤ wide ∧ wide ≤ 6 := by
  simp only [validB, Bool.and_eq_true, inB, decide_eq_true_eq] at h
  exact h.1
theorem valid_leafMax {wide : Int} {t : Tr} (h : validB wide t = true) : (t.leafMax : Int) ≤ wide := by
  have := valid_wide h
  simp only [validB, Bool.and_eq_true] at h
  exact leafMax_le (by omega) t _ _ h.2.1
end Tr

set_option maxHeartbeats 1000000 in
theorem specRoom_c {w : World} {B : Nat} {kv cv : Value} {t : Tr} (ht : TreeIn w B kv cv t) (wide : Int) (hwd : 2 ≤ wide ∧ wide ≤ 6) (hw : t.weight ≤ 1048576) (hle : (t.leafMax : Int) ≤ wide) :
    ∀ w', Below B w w' → B ≤ w'.heap.size →
    Calls Try.prog 73 #[.agg #[kv, cv], .int .i64 wide] w' fun e w'' => e = .returned (.int .i64 (wide - t.leafMax)) ∧ Below w'.heap.size w' w'' := by
  induction ht with
  | mk ks cs kv a cap kvs cvs hk hlen hcap hat hkids ih =>
    intro w' hbw hB
    simp only [Tr.weight] at hw
    unfold maxLen at hcap
    obtain ⟨ka, kcap, rfl, k1, k2, _, k3⟩ := hk
    unfold maxLen at k2
    have hl0 := Tr.length_le_weights cs
    have hcl : (Tr.leafMaxs cs : Int) ≤ wide := by simp only [Tr.leafMax] at hle; omega
    have HAT := Lib.hid (hat.later hbw (Nat.le_refl _))
    have IH := Lib.hid ih
    have HKI := Lib.hid hkids
    clear k3 hat ih hkids
    by_cases hc : cs.length = 0
    · have hv : ((Tr.mk ks cs).leafMax : Int) = ks.length := by
        have : cs = [] := List.length_eq_zero_iff.1 hc
        subst this; simp [Tr.leafMax, Tr.leafMaxs]
      have HV := Lib.hid hv
      clear hv hle
      go_enter Try.func73, Try.ntmps73
      go_wp2_with fail
      all_goals (
        go_ret
        exact ⟨ret_int (by rw [HV.out]), (Below.refl _ _).alloc (Nat.le_refl _) _⟩)
    · have hv : ((Tr.mk ks cs).leafMax : Int) = (Tr.leafMaxs cs : Int) := by simp [Tr.leafMax, hc]
      have HV := Lib.hid hv
      have hc0 : ((cs.length : Int) == 0) = false := by simpa using hc
      clear hv hle
      go_enter Try.func73, Try.ntmps73
      go_wp2_with fail
      go_loopw [5, 21] (fun l i wr => ∃ (j : Nat) (L : Int), j ≤ cs.length ∧ i = .int .i64 j ∧ l = .int .i64 L ∧ Hid ((j = 0 ∧ L = -1) ∨ (0 < j ∧ L = wide - (Tr.leafMaxs (cs.take j) : Int))) ∧ Below w'.heap.size w' wr) (fun _ i _ => cs.length - (intOf i).toNat)
      case atStart => exact ⟨0, -1, Nat.zero_le _, rfl, rfl, Lib.hid (.inl ⟨rfl, rfl⟩), (Below.refl _ _).alloc (Nat.le_refl _) _⟩
      case round =>
        obtain ⟨j, L, hj, rfl, rfl, HL, hbel⟩ := hrel
        by_cases hlt : j < cs.length
        · rcases HAT.out with h | ⟨b, off, rfl, hb, hat⟩
          · omega
          obtain ⟨ha, hc⟩ := hat j hlt
          obtain ⟨a1, n1, c1, a2, n2, c2, e1, e2⟩ := (HKI.out j hlt).slices
          rw [← below_cell hbel (by omega)] at ha hc
          rw [e1] at ha
          rw [e2] at hc
          have hz := hbel.size
          have hlm := Tr.leafMax_get cs j hlt
          have hC := fun w1 h1 h2 => IH.out j hlt (by have := Tr.weight_get_le cs j hlt; omega) (by omega) w1 h1 h2
          rw [e1, e2] at hC
          obtain ⟨N, hN⟩ : ∃ N : Int, N = wide - (cs[j].leafMax : Int) := ⟨_, rfl⟩
          rw [← hN] at hC
          have hN0 : 0 ≤ N := by omega
          have hN6 : N ≤ 6 := by omega
          have HN := Lib.hid (And.intro hN (Tr.leafMaxs_take_succ cs j hlt))
          have HC := Lib.hid hC
          clear hat hC e1 e2 hN hlm
          have hcase : (j = 0 ∧ L = -1) ∨ (0 < j ∧ 0 ≤ L ∧ L ≤ 6) := by
            rcases HL.out with h | ⟨h1, h2⟩
            · exact .inl h
            · have : Tr.leafMaxs (cs.take j) ≤ Tr.leafMaxs cs := by
                conv => rhs; rw [← List.take_append_drop j cs, Tr.leafMaxs_append]
                omega
              exact .inr ⟨h1, by omega, by omega⟩
          have hL0 : -1 ≤ L := by omega
          have hL6 : L ≤ 6 := by omega
          have hfN : (L < 0 ∨ N < L) → (j + 1 = 0 ∧ N = -1) ∨ (0 < j + 1 ∧ N = wide - (Tr.leafMaxs (cs.take (j + 1)) : Int)) := fun hx => by
            refine .inr ⟨by omega, ?_⟩
            rw [HN.out.2]
            rcases HL.out with ⟨h5, h6⟩ | ⟨h5, h6⟩
            · subst h5
              simp only [List.take_zero, Tr.leafMaxs]
              have := HN.out.1
              omega
            · have := HN.out.1
              omega
          have hfL : (0 ≤ L ∧ L ≤ N) → (j + 1 = 0 ∧ L = -1) ∨ (0 < j + 1 ∧ L = wide - (Tr.leafMaxs (cs.take (j + 1)) : Int)) := fun hx => by
            refine .inr ⟨by omega, ?_⟩
            rw [HN.out.2]
            rcases HL.out with ⟨h5, h6⟩ | ⟨h5, h6⟩
            · omega
            · have := HN.out.1
              omega
          have FN := Lib.hid hfN
          have FL := Lib.hid hfL
          clear hcase hfN hfL
          go_wp2_with fail
          refine (HC.out _ (hbw.trans ((hbel.alloc hz _).mono hB)) (by simp; omega)).mono ?_
          rintro e w1 ⟨rfl, hb1⟩
          have hb1' : Below w'.heap.size w' w1 := (hbel.alloc hz _).trans (hb1.mono (by simp; omega))
          clear hb1
          go_wp2_with fail
          all_goals (
            go_roundw
            case rel =>
              first
                | exact ⟨j + 1, N, by omega, by go_num, rfl, Lib.hid (FN.out (by omega)), hb1'⟩
                | exact ⟨j + 1, L, by omega, by go_num, rfl, Lib.hid (FL.out (by omega)), hb1'⟩
                | ((repeat apply Exists.intro); exact ⟨⟨j + 1, N, by omega, by go_num, rfl, Lib.hid (FN.out (by omega)), hb1'⟩, rfl⟩)
                | exact ⟨.int .i64 N, _, .int .i64 N, .int .i64 ((j : Int) + 1), ⟨j + 1, by omega, by go_num, N, rfl, Lib.hid (FN.out (by omega))⟩, rfl, rfl, rfl, rfl⟩
                | ((repeat apply Exists.intro); exact ⟨⟨j + 1, L, by omega, by go_num, rfl, Lib.hid (FL.out (by omega)), hb1'⟩, rfl⟩)
            case measure => simp [intOf]; omega)
        · obtain rfl : j = cs.length := by omega
          have hL : L = wide - (Tr.leafMaxs cs : Int) := by
            rcases HL.out with h | ⟨h1, h2⟩
            · omega
            · rw [List.take_length] at h2; exact h2
          have HLE := Lib.hid hL
          clear hL
          go_wp2_with fail
          go_ret
          exact ⟨ret_int (by rw [HV.out]; exact HLE.out), hbel⟩

theorem specRoomOf_c {w : World} {B : Nat} {kv cv : Value} {t : Tr} (ht : TreeIn w B kv cv t) (hw : t.weight ≤ 1048576) (wide : Int) (w' : World) (hbw : Below B w w') (hB : B ≤ w'.heap.size) :
    Calls Try.prog 39 #[.agg #[kv, cv], .int .i64 wide] w' fun e w'' => e = .returned (.int .i64 (Tr.roomB wide t)) ∧ Below w'.heap.size w' w'' := by
  obtain ⟨a5, n5, m5, a6, n6, m6, rfl, rfl⟩ := ht.slices
  have HT := Lib.hid ht
  have HB := Lib.hid hbw
  obtain ⟨W1, hW1⟩ : ∃ W1, W1 = w'.alloc (.cells #[.slice a5 n5 m5, .slice a6 n6 m6] 26) := ⟨_, rfl⟩
  have hs1 : W1.heap.size = w'.heap.size + 1 := by rw [hW1]; simp
  have hb1 : Below w'.heap.size w' W1 := by rw [hW1]; exact (Below.refl _ _).alloc (Nat.le_refl _) _
  have kb : W1.heap[w'.heap.size]? = some (.cells #[.slice a5 n5 m5, .slice a6 n6 m6] 26 (0, 0)) := by rw [hW1, new_blk]
  obtain ⟨x1, x2, x3, x4⟩ := box2 kb
  have HW1 := Lib.hid hW1
  have HB1 := Lib.hid (And.intro hb1 kb)
  clear ht hbw hW1 hb1 kb
  go_enter Try.func39, Try.ntmps39
  go_wp2_with fail
  rw [← HW1.out]
  refine (specTreeValid_c HT.out hw wide W1 (HB.out.trans (HB1.out.1.mono hB)) (by omega)).mono ?_
  rintro e w2 ⟨rfl, hb2⟩
  have hs2 := hb2.size
  clear x1 x2 x3 x4
  obtain ⟨x1, x2, x3, x4⟩ := box2 ((hb2.block _ (by omega)).trans HB1.out.2)
  have hb2' := HB1.out.1.trans (hb2.mono (by omega))
  have HB2 := Lib.hid hb2'
  clear hb2 hb2'
  cases hv : Tr.validB wide t with
  | false =>
    have HV := Lib.hid (show Tr.roomB wide t = -1 by simp [Tr.roomB, hv])
    clear hv
    go_wp2_with fail
    go_ret
    exact ⟨ret_int HV.out.symm, HB2.out⟩
  | true =>
    have hwd := Tr.valid_wide hv
    have hlm := Tr.valid_leafMax hv
    have HV := Lib.hid (show Tr.roomB wide t = wide - t.leafMax by simp [Tr.roomB, hv])
    have HW := Lib.hid hwd
    have HL := Lib.hid hlm
    clear hv hwd hlm
    go_wp2_with fail
    refine (specRoom_c HT.out wide HW.out hw HL.out w2 (HB.out.trans (HB2.out.mono hB)) (by omega)).mono ?_
    rintro e w3 ⟨rfl, hb3⟩
    have HB3 := Lib.hid (HB2.out.trans (hb3.mono (by omega)))
    clear hb3
    go_wp2_with fail
    go_ret
    exact ⟨ret_int HV.out.symm, HB3.out⟩

end Go.Proofs.Ytgbgdanbdbojaaa

/- A tree that is valid for some width has few keys. -/
namespace Go.Proofs.Ytgbgdanbdbojaaa
open Go.RowKit

namespace Tr
theorem keys_length (k : List Int) (c : List Tr) : (Tr.mk k c).keys.length = lens (keyss c) + k.length := by
  have hk := length_keyss c
  simp only [keys, upto_length]
  rw [List.take_of_length_le (by omega), List.take_of_length_le (by omega)]
mutual
theorem small {wide : Int} (h2 : 2 ≤ wide) : ∀ (t : Tr) (d : Int), nodesB wide (wide / 2) d t = true → t.weight + 1 ≤ 2 * t.keys.length
  | .mk k c, d, h => by
    simp only [nodesB, Bool.and_eq_true, Bool.or_eq_true] at h
    have h1 : wide / 2 ≤ (k.length : Int) := by have := h.1.1; simp [inB] at this; omega
    rw [keys_length]
    simp only [weight]
    rcases h.2 with h3 | h3
    · have hc : c = [] := by simpa using h3
      subst hc
      simp [weights, keyss, lens]; omega
    · have := smalls h2 c _ h3.2
      omega
theorem smalls {wide : Int} (h2 : 2 ≤ wide) : ∀ (c : List Tr) (d : Int), nodesAllB wide d c = true → weights c ≤ 2 * lens (keyss c)
  | [], d, _ => by simp [weights]
  | t :: r, d, h => by
    simp only [nodesAllB, Bool.and_eq_true] at h
    have h3 := small h2 t _ h.1
    have h4 := smalls h2 r _ h.2
    simp only [weights, keyss, lens]; omega
end
theorem few : ∀ (l : List Int) (lo : Int), l.Pairwise (· < ·) → (∀ x, x ∈ l → lo ≤ x ∧ x ≤ 99) → (l.length : Int) ≤ max 0 (100 - lo)
  | [], lo, _, _ => by simp; omega
  | a :: r, lo, hp, hm => by
    rw [List.pairwise_cons] at hp
    have h1 := hm a (by simp)
    have h2 := few r (a + 1) hp.2 (fun x hx => ⟨by have := hp.1 x hx; omega, (hm x (by simp [hx])).2⟩)
    simp only [List.length_cons]
    omega
theorem sorted_mem {ks : List Int} (h : sortedB ks = true) : ∀ x, x ∈ ks → 0 ≤ x ∧ x ≤ 99 := fun x hx => by
  obtain ⟨i, hi, rfl⟩ := List.mem_iff_getElem.1 hx
  simp only [sortedB, List.all_eq_true, List.mem_range] at h
  have h1 := h i hi
  simp only [okAt, Bool.and_eq_true, inB, decide_eq_true_eq] at h1
  have h2 := h1.1
  simpa [List.getD_eq_getElem?_getD, hi] using h2
theorem valid_keys {wide : Int} {t : Tr} (h : validB wide t = true) : sortedB t.keys = true := by
  simp only [validB, Bool.and_eq_true] at h; exact h.2.2
theorem valid_well {wide : Int} {t : Tr} (h : validB wide t = true) : Well t := by
  have h' := h
  simp only [validB, Bool.and_eq_true] at h'
  exact ⟨⟨wide, 0, _, h'.2.1⟩, pairwise_of_sorted h'.2.2⟩
theorem valid_small {wide : Int} {t : Tr} (h : validB wide t = true) : t.weight ≤ 200 := by
  have hk := valid_keys h
  have hf := few t.keys 0 (pairwise_of_sorted hk) (sorted_mem hk)
  have hw := valid_wide h
  simp only [validB, Bool.and_eq_true] at h
  cases t with
  | mk k c =>
    rw [keys_length] at hf
    have h' := h.2.1
    simp only [nodesB, Bool.and_eq_true, Bool.or_eq_true] at h'
    simp only [weight]
    rcases h'.2 with h3 | h3
    · have hc : c = [] := by simpa using h3
      subst hc
      simp [weights] at hf ⊢; omega
    · have := smalls hw.1 c _ h3.2
      omega
end Tr
end Go.Proofs.Ytgbgdanbdbojaaa
