/- Keys in order: plain data, and the contract of the model's l1Keys. -/
import Derived.Test.YtodcapgmhginoaaProg
import Derived.Test.YtodcapgmhginoaaBvS0
import Derived.Test.YtodcapgmhginoaaBvS1
import Derived.Maps.AppendAt
namespace Go.Proofs.Ytodcapgmhginoaa
open Go.RowKit

namespace Tr
/-- The keys of kid i, and key i, as far as there are some. -/
def part (kss : List (List Int)) (ks : List Int) (i : Nat) : List Int := (kss[i]?).getD [] ++ (ks[i]?).toList
def upto (kss : List (List Int)) (ks : List Int) (n : Nat) : List Int := (List.range n).flatMap (part kss ks)
mutual
/-- All keys, in order. -/
def keys : Tr → List Int
  | .mk k c => upto (keyss c) k (max k.length c.length)
def keyss : List Tr → List (List Int)
  | [] => []
  | t :: r => keys t :: keyss r
end
theorem upto_succ (kss : List (List Int)) (ks : List Int) (n : Nat) : upto kss ks (n + 1) = upto kss ks n ++ part kss ks n := by
  simp [upto, List.range_succ]
theorem upto_mono (kss : List (List Int)) (ks : List Int) (j n : Nat) (h : j ≤ n) : (upto kss ks j).length ≤ (upto kss ks n).length := by
  induction h with
  | refl => exact Nat.le_refl _
  | step _ ih => rw [upto_succ, List.length_append]; omega
theorem length_keyss (c : List Tr) : (keyss c).length = c.length := by
  induction c with
  | nil => rfl
  | cons t r ih => simp [keyss, ih]
theorem keyss_get (c : List Tr) (i : Nat) (h : i < c.length) : (keyss c)[i]? = some c[i].keys := by
  induction c generalizing i with
  | nil => simp at h
  | cons t r ih =>
    cases i with
    | zero => simp [keyss]
    | succ i => simpa [keyss] using ih i (by simpa using h)
/-- How many keys there are, all in all. -/
def lens : List (List Int) → Nat
  | [] => 0
  | a :: r => a.length + lens r
theorem lens_append (a b : List (List Int)) : lens (a ++ b) = lens a + lens b := by
  induction a with
  | nil => simp [lens]
  | cons t r ih => simp [lens, ih]; omega
theorem upto_length (kss : List (List Int)) (ks : List Int) (n : Nat) : (upto kss ks n).length = lens (kss.take n) + (ks.take n).length := by
  induction n with
  | zero => simp [upto, lens]
  | succ n ih =>
    rw [upto_succ, List.length_append, ih]
    have e1 : lens (kss.take (n + 1)) = lens (kss.take n) + ((kss[n]?).getD []).length := by
      by_cases h : n < kss.length
      · rw [List.take_succ_eq_append_getElem h, lens_append]; simp [lens, h]
      · rw [List.take_of_length_le (by omega), List.take_of_length_le (by omega)]; simp [List.getElem?_eq_none (Nat.le_of_not_lt h)]
    have e2 : (ks.take (n + 1)).length = (ks.take n).length + ((ks[n]?).toList).length := by
      by_cases h : n < ks.length
      · rw [List.take_succ_eq_append_getElem h, List.length_append]; simp [h]
      · rw [List.take_of_length_le (by omega), List.take_of_length_le (by omega)]; simp [List.getElem?_eq_none (Nat.le_of_not_lt h)]
    rw [e1, e2]
    simp only [part, List.length_append]
    omega
mutual
theorem keys_length_le : ∀ t : Tr, t.keys.length ≤ t.weight
  | .mk k c => by
    have h := keyss_lens_le c
    have hk := length_keyss c
    simp only [keys, weight, upto_length]
    rw [List.take_of_length_le (by omega), List.take_of_length_le (by omega)]
    omega
theorem keyss_lens_le : ∀ c : List Tr, lens (keyss c) ≤ weights c
  | [] => by simp [keyss, lens]
  | t :: r => by
    have h1 := keys_length_le t
    have h2 := keyss_lens_le r
    simp only [keyss, lens, weights]
    omega
end
end Tr

set_option maxHeartbeats 1000000 in
theorem specKeys_c {w : World} {B : Nat} {kv cv : Value} {t : Tr} (ht : TreeIn w B kv cv t) (hw : t.weight ≤ 1048576) :
    ∀ w', Below B w w' → B ≤ w'.heap.size →
    Calls Try.prog 61 #[.agg #[kv, cv]] w' fun e w'' => ∃ v, e = .returned v ∧ IntsOwn w'' w'.heap.size v t.keys ∧ Below w'.heap.size w' w'' := by
  induction ht with
  | mk ks cs kv a cap kvs cvs hk hlen hcap hat hkids ih =>
    intro w' hbw hB
    have hkl := Tr.keys_length_le (.mk ks cs)
    simp only [Tr.weight] at hw hkl
    unfold maxLen at hcap
    obtain ⟨ka, kcap, rfl, k1, k2, knl, k3⟩ := hk.later hbw (Nat.le_refl _)
    unfold maxLen at k2
    have HK := Lib.hid k3
    have HAT := Lib.hid (hat.later hbw (Nat.le_refl _))
    have IH := Lib.hid ih
    have HKI := Lib.hid hkids
    clear hk k3 hat ih hkids
    rcases Nat.lt_or_ge ks.length cs.length with hmx | hmx
    · have hmax : max ks.length cs.length = cs.length := by omega
      go_enter Try.func61, Try.ntmps61
      go_wp2_with fail
      obtain ⟨W1, hW1⟩ : ∃ W1, W1 = w'.alloc (.cells #[.slice ka ks.length kcap, .slice a cs.length cap] 30) := ⟨_, rfl⟩
      rw [← hW1]
      have hs1 : W1.heap.size = w'.heap.size + 1 := by rw [hW1]; simp
      have hb1 : Below w'.heap.size w' W1 := by rw [hW1]; exact (Below.refl _ _).alloc (Nat.le_refl _) _
      have kb : W1.heap[w'.heap.size]? = some (.cells #[.slice ka ks.length kcap, .slice a cs.length cap] 30 (0, 0)) := by rw [hW1, new_blk]
      clear hW1
      have h00 : IntsOwn (W1.alloc (.cells #[] 3)) (w'.heap.size + 1) (.slice (some ⟨w'.heap.size + 1, 0, none⟩) 0 0) [] := by
        rw [← hs1]; exact World.ownsRow_made W1 #[] 0 (Nat.le_refl _) (by unfold maxLen; omega) rfl
      have H00 := Lib.hid h00
      have HB1 := Lib.hid hb1
      have HKB := Lib.hid kb
      clear h00 hb1 kb
      go_loopw [3, 13] (fun l i wr => ∃ (j : Nat), j ≤ cs.length ∧ i = .int .i64 j ∧ IntsOwn wr (w'.heap.size + 1) l (Tr.upto (Tr.keyss cs) ks j) ∧ Below (w'.heap.size + 1) W1 wr) (fun _ i _ => cs.length - (intOf i).toNat)
      case atStart => exact ⟨0, Nat.zero_le _, rfl, H00.out, (Below.refl _ _).alloc (by omega) _⟩
      case round =>
        obtain ⟨j, hj, rfl, hown, hbel⟩ := hrel
        have hsz := hbel.size
        have hbx := (hbel.block w'.heap.size (by omega)).trans HKB.out
        obtain ⟨x1, x2, x3, x4⟩ := box2 hbx
        have hbw' : Below w'.heap.size w' wr := HB1.out.trans (hbel.mono (by omega))
        clear hbx
        by_cases hlt : j < cs.length
        · have hm := Tr.upto_mono (Tr.keyss cs) ks (j + 1) cs.length hlt
          have hsu := Tr.upto_succ (Tr.keyss cs) ks j
          have hfin : (Tr.upto (Tr.keyss cs) ks cs.length).length ≤ 1048576 := by simp only [Tr.keys, hmax] at hkl; omega
          have hfin2 : (Tr.upto (Tr.keyss cs) ks (j + 1)).length ≤ 1048576 := by omega
          have HSU := Lib.hid hsu
          have HM := Lib.hid hfin2
          clear hm hsu hfin hfin2
          by_cases hkey : j < ks.length
          · have hkid : j < cs.length := by omega
            rcases HAT.out with h | ⟨b, off, rfl, hb, hat⟩
            · omega
            obtain ⟨ha, hc⟩ := hat j hkid
            rw [← below_cell hbw' (by omega)] at ha hc
            have hC := fun w1 h1 h2 => IH.out j hkid (by have := Tr.weight_get_le cs j hkid; omega) w1 h1 h2
            have HC := Lib.hid hC
            have HKF := Lib.hid (Tr.keyss_get cs j hkid)
            obtain ⟨oa, oc, rfl⟩ := IntsOwn.shown hown
            have HO := Lib.hid hown
            clear hat hC hown
            rcases HK.out with h | ⟨b2, off2, rfl, hb2, hat2⟩
            · simp [h] at hkey
            have hk2 := hat2 j hkey
            have hk3 : ks[j]? = some (ks.getD j 0) := by simp [hkey]
            have HK3 := Lib.hid hk3
            have HAT2 := Lib.hid hk2
            clear hat2 hk3 hk2
            generalize ks.getD j 0 = x at HK3 HAT2
            have hp : Tr.part (Tr.keyss cs) ks j = cs[j].keys ++ [x] := by simp only [Tr.part, HKF.out, HK3.out]; simp
            have HP := Lib.hid hp
            clear hp
            go_wp2_with fail
            refine (HC.out _ (hbw.trans (hbw'.mono hB)) (by omega)).mono ?_
            rintro e w1 ⟨v1, rfl, hv1, hb1⟩
            obtain ⟨va, vc, rfl⟩ := IntsOwn.shown hv1
            have hz1 := hb1.size
            have HV := Lib.hid (IntsIn.at (IntsOwn.in hv1))
            have HO1 := Lib.hid (IntsOwn.later HO.out hb1 (Nat.le_refl _))
            have hbel1 : Below (w'.heap.size + 1) W1 w1 := hbel.trans (hb1.mono (by omega))
            have HB2 := Lib.hid hbel1
            clear hv1 hb1 hbel1
            have hlen : (Tr.upto (Tr.keyss cs) ks j).length + cs[j].keys.length ≤ 17592186044416 := by
              have h := HM.out; rw [HSU.out] at h; simp only [Tr.part, HKF.out, List.length_append, Option.getD_some] at h; omega
            have hloo : w'.heap.size + 1 ≤ w1.heap.size := by omega
            have HLEN := Lib.hid hlen
            clear hlen
            go_wp2_with (first | (at_builtin; refine wpList_append_ints rfl _ _ rfl (w'.heap.size + 1) _ _ _ cs[j].keys rfl HO1.out rfl HV.out HLEN.out hloo ?_; intro v2 w2 hown2 hbel2 _ hsh2; obtain ⟨a2, c2, rfl⟩ := hsh2; have hcur := HB2.out.trans hbel2; have hsz2 := hcur.size; have hbw2 : Below w'.heap.size w' w2 := HB1.out.trans (hcur.mono (by omega)); have hbx2 := (hcur.block w'.heap.size (by omega)).trans HKB.out; clear x1 x2 x3 x4; obtain ⟨x1, x2, x3, x4⟩ := box2 hbx2; generalize hL2 : Tr.upto (Tr.keyss cs) ks j ++ cs[j].keys = L2 at hown2 ⊢; have HL2 := Lib.hid hL2; have HOX := Lib.hid hown2; clear hbx2 hbel2 hown2 hL2 HO1 HV; have hk2 := HAT2.out; rw [← below_cell hbw2 (by omega)] at hk2; have HOXX := Lib.hid (IntsOwn.alloc' HOX.out (.cells #[.int .i64 x] 3)); have HSX := Lib.hid (IntsAt.one w2 x); have hlo9 : w'.heap.size + 1 ≤ (w2.alloc (.cells #[.int .i64 x] 3)).heap.size := (by rw [World.size_alloc]; omega); have HLEN9 : Hid (L2.length + [x].length ≤ 17592186044416) := Lib.hid (by have h := HM.out; rw [HSU.out, HP.out, ← List.append_assoc, HL2.out, List.length_append] at h; omega)) | (at_builtin; refine wpList_append_ints rfl _ _ rfl (w'.heap.size + 1) _ _ _ [x] rfl HOXX.out rfl HSX.out HLEN9.out hlo9 ?_; intro v9 w9 hown9 hbel9 _ hsh9; obtain ⟨a9, c9, rfl⟩ := hsh9; have hbn : Below (w'.heap.size + 1) W1 w9 := (hcur.alloc (by omega) _).trans hbel9; generalize hL3 : L2 ++ [x] = L3 at hown9 ⊢; have HL3 := Lib.hid hL3; have HN := Lib.hid (And.intro hown9 hbn); clear hown9 hbel9 hbn hL3))
            go_roundw
            case rel => exact ⟨j + 1, by omega, by go_num, by rw [HSU.out, HP.out, ← List.append_assoc, HL2.out, HL3.out]; exact HN.out.1, HN.out.2⟩
            case measure => simp [intOf]; omega
          · have hkid : j < cs.length := by omega
            rcases HAT.out with h | ⟨b, off, rfl, hb, hat⟩
            · omega
            obtain ⟨ha, hc⟩ := hat j hkid
            rw [← below_cell hbw' (by omega)] at ha hc
            have hC := fun w1 h1 h2 => IH.out j hkid (by have := Tr.weight_get_le cs j hkid; omega) w1 h1 h2
            have HC := Lib.hid hC
            have HKF := Lib.hid (Tr.keyss_get cs j hkid)
            obtain ⟨oa, oc, rfl⟩ := IntsOwn.shown hown
            have HO := Lib.hid hown
            clear hat hC hown
            have hk3 : ks[j]? = none := List.getElem?_eq_none (by omega)
            have hp : Tr.part (Tr.keyss cs) ks j = cs[j].keys := by simp only [Tr.part, HKF.out, hk3]; simp
            have HP := Lib.hid hp
            clear hp
            clear hk3
            go_wp2_with fail
            refine (HC.out _ (hbw.trans (hbw'.mono hB)) (by omega)).mono ?_
            rintro e w1 ⟨v1, rfl, hv1, hb1⟩
            obtain ⟨va, vc, rfl⟩ := IntsOwn.shown hv1
            have hz1 := hb1.size
            have HV := Lib.hid (IntsIn.at (IntsOwn.in hv1))
            have HO1 := Lib.hid (IntsOwn.later HO.out hb1 (Nat.le_refl _))
            have hbel1 : Below (w'.heap.size + 1) W1 w1 := hbel.trans (hb1.mono (by omega))
            have HB2 := Lib.hid hbel1
            clear hv1 hb1 hbel1
            have hlen : (Tr.upto (Tr.keyss cs) ks j).length + cs[j].keys.length ≤ 17592186044416 := by
              have h := HM.out; rw [HSU.out] at h; simp only [Tr.part, HKF.out, List.length_append, Option.getD_some] at h; omega
            have hloo : w'.heap.size + 1 ≤ w1.heap.size := by omega
            have HLEN := Lib.hid hlen
            clear hlen
            go_wp2_with (at_builtin; refine wpList_append_ints rfl _ _ rfl (w'.heap.size + 1) _ _ _ cs[j].keys rfl HO1.out rfl HV.out HLEN.out hloo ?_; intro v2 w2 hown2 hbel2 _ hsh2; obtain ⟨a2, c2, rfl⟩ := hsh2; have hcur := HB2.out.trans hbel2; have hsz2 := hcur.size; have hbw2 : Below w'.heap.size w' w2 := HB1.out.trans (hcur.mono (by omega)); have hbx2 := (hcur.block w'.heap.size (by omega)).trans HKB.out; clear x1 x2 x3 x4; obtain ⟨x1, x2, x3, x4⟩ := box2 hbx2; generalize hL2 : Tr.upto (Tr.keyss cs) ks j ++ cs[j].keys = L2 at hown2 ⊢; have HL2 := Lib.hid hL2; have HOX := Lib.hid hown2; clear hbx2 hbel2 hown2 hL2 HO1 HV)
            go_roundw
            case rel => exact ⟨j + 1, by omega, by go_num, by rw [HSU.out, HP.out, HL2.out]; exact HOX.out, hcur⟩
            case measure => simp [intOf]; omega
        · obtain rfl : j = cs.length := by omega
          have HO := Lib.hid hown
          clear hown
          go_wp2_with fail
          go_ret
          exact ⟨_, rfl, by simp only [Tr.keys, hmax]; exact IntsOwn.lower HO.out (by omega), hbw'⟩
    · have hmax : max ks.length cs.length = ks.length := by omega
      go_enter Try.func61, Try.ntmps61
      go_wp2_with fail
      obtain ⟨W1, hW1⟩ : ∃ W1, W1 = w'.alloc (.cells #[.slice ka ks.length kcap, .slice a cs.length cap] 30) := ⟨_, rfl⟩
      rw [← hW1]
      have hs1 : W1.heap.size = w'.heap.size + 1 := by rw [hW1]; simp
      have hb1 : Below w'.heap.size w' W1 := by rw [hW1]; exact (Below.refl _ _).alloc (Nat.le_refl _) _
      have kb : W1.heap[w'.heap.size]? = some (.cells #[.slice ka ks.length kcap, .slice a cs.length cap] 30 (0, 0)) := by rw [hW1, new_blk]
      clear hW1
      have h00 : IntsOwn (W1.alloc (.cells #[] 3)) (w'.heap.size + 1) (.slice (some ⟨w'.heap.size + 1, 0, none⟩) 0 0) [] := by
        rw [← hs1]; exact World.ownsRow_made W1 #[] 0 (Nat.le_refl _) (by unfold maxLen; omega) rfl
      have H00 := Lib.hid h00
      have HB1 := Lib.hid hb1
      have HKB := Lib.hid kb
      clear h00 hb1 kb
      go_loopw [3, 13] (fun l i wr => ∃ (j : Nat), j ≤ ks.length ∧ i = .int .i64 j ∧ IntsOwn wr (w'.heap.size + 1) l (Tr.upto (Tr.keyss cs) ks j) ∧ Below (w'.heap.size + 1) W1 wr) (fun _ i _ => ks.length - (intOf i).toNat)
      case atStart => exact ⟨0, Nat.zero_le _, rfl, H00.out, (Below.refl _ _).alloc (by omega) _⟩
      case round =>
        obtain ⟨j, hj, rfl, hown, hbel⟩ := hrel
        have hsz := hbel.size
        have hbx := (hbel.block w'.heap.size (by omega)).trans HKB.out
        obtain ⟨x1, x2, x3, x4⟩ := box2 hbx
        have hbw' : Below w'.heap.size w' wr := HB1.out.trans (hbel.mono (by omega))
        clear hbx
        by_cases hlt : j < ks.length
        · have hm := Tr.upto_mono (Tr.keyss cs) ks (j + 1) ks.length hlt
          have hsu := Tr.upto_succ (Tr.keyss cs) ks j
          have hfin : (Tr.upto (Tr.keyss cs) ks ks.length).length ≤ 1048576 := by simp only [Tr.keys, hmax] at hkl; omega
          have hfin2 : (Tr.upto (Tr.keyss cs) ks (j + 1)).length ≤ 1048576 := by omega
          have HSU := Lib.hid hsu
          have HM := Lib.hid hfin2
          clear hm hsu hfin hfin2
          by_cases hkid : j < cs.length
          · have hkey : j < ks.length := by omega
            rcases HAT.out with h | ⟨b, off, rfl, hb, hat⟩
            · omega
            obtain ⟨ha, hc⟩ := hat j hkid
            rw [← below_cell hbw' (by omega)] at ha hc
            have hC := fun w1 h1 h2 => IH.out j hkid (by have := Tr.weight_get_le cs j hkid; omega) w1 h1 h2
            have HC := Lib.hid hC
            have HKF := Lib.hid (Tr.keyss_get cs j hkid)
            obtain ⟨oa, oc, rfl⟩ := IntsOwn.shown hown
            have HO := Lib.hid hown
            clear hat hC hown
            rcases HK.out with h | ⟨b2, off2, rfl, hb2, hat2⟩
            · simp [h] at hkey
            have hk2 := hat2 j hkey
            have hk3 : ks[j]? = some (ks.getD j 0) := by simp [hkey]
            have HK3 := Lib.hid hk3
            have HAT2 := Lib.hid hk2
            clear hat2 hk3 hk2
            generalize ks.getD j 0 = x at HK3 HAT2
            have hp : Tr.part (Tr.keyss cs) ks j = cs[j].keys ++ [x] := by simp only [Tr.part, HKF.out, HK3.out]; simp
            have HP := Lib.hid hp
            clear hp
            go_wp2_with fail
            refine (HC.out _ (hbw.trans (hbw'.mono hB)) (by omega)).mono ?_
            rintro e w1 ⟨v1, rfl, hv1, hb1⟩
            obtain ⟨va, vc, rfl⟩ := IntsOwn.shown hv1
            have hz1 := hb1.size
            have HV := Lib.hid (IntsIn.at (IntsOwn.in hv1))
            have HO1 := Lib.hid (IntsOwn.later HO.out hb1 (Nat.le_refl _))
            have hbel1 : Below (w'.heap.size + 1) W1 w1 := hbel.trans (hb1.mono (by omega))
            have HB2 := Lib.hid hbel1
            clear hv1 hb1 hbel1
            have hlen : (Tr.upto (Tr.keyss cs) ks j).length + cs[j].keys.length ≤ 17592186044416 := by
              have h := HM.out; rw [HSU.out] at h; simp only [Tr.part, HKF.out, List.length_append, Option.getD_some] at h; omega
            have hloo : w'.heap.size + 1 ≤ w1.heap.size := by omega
            have HLEN := Lib.hid hlen
            clear hlen
            go_wp2_with (first | (at_builtin; refine wpList_append_ints rfl _ _ rfl (w'.heap.size + 1) _ _ _ cs[j].keys rfl HO1.out rfl HV.out HLEN.out hloo ?_; intro v2 w2 hown2 hbel2 _ hsh2; obtain ⟨a2, c2, rfl⟩ := hsh2; have hcur := HB2.out.trans hbel2; have hsz2 := hcur.size; have hbw2 : Below w'.heap.size w' w2 := HB1.out.trans (hcur.mono (by omega)); have hbx2 := (hcur.block w'.heap.size (by omega)).trans HKB.out; clear x1 x2 x3 x4; obtain ⟨x1, x2, x3, x4⟩ := box2 hbx2; generalize hL2 : Tr.upto (Tr.keyss cs) ks j ++ cs[j].keys = L2 at hown2 ⊢; have HL2 := Lib.hid hL2; have HOX := Lib.hid hown2; clear hbx2 hbel2 hown2 hL2 HO1 HV; have hk2 := HAT2.out; rw [← below_cell hbw2 (by omega)] at hk2; have HOXX := Lib.hid (IntsOwn.alloc' HOX.out (.cells #[.int .i64 x] 3)); have HSX := Lib.hid (IntsAt.one w2 x); have hlo9 : w'.heap.size + 1 ≤ (w2.alloc (.cells #[.int .i64 x] 3)).heap.size := (by rw [World.size_alloc]; omega); have HLEN9 : Hid (L2.length + [x].length ≤ 17592186044416) := Lib.hid (by have h := HM.out; rw [HSU.out, HP.out, ← List.append_assoc, HL2.out, List.length_append] at h; omega)) | (at_builtin; refine wpList_append_ints rfl _ _ rfl (w'.heap.size + 1) _ _ _ [x] rfl HOXX.out rfl HSX.out HLEN9.out hlo9 ?_; intro v9 w9 hown9 hbel9 _ hsh9; obtain ⟨a9, c9, rfl⟩ := hsh9; have hbn : Below (w'.heap.size + 1) W1 w9 := (hcur.alloc (by omega) _).trans hbel9; generalize hL3 : L2 ++ [x] = L3 at hown9 ⊢; have HL3 := Lib.hid hL3; have HN := Lib.hid (And.intro hown9 hbn); clear hown9 hbel9 hbn hL3))
            go_roundw
            case rel => exact ⟨j + 1, by omega, by go_num, by rw [HSU.out, HP.out, ← List.append_assoc, HL2.out, HL3.out]; exact HN.out.1, HN.out.2⟩
            case measure => simp [intOf]; omega
          · have hkey : j < ks.length := by omega
            have hkf : (Tr.keyss cs)[j]? = none := List.getElem?_eq_none (by rw [Tr.length_keyss]; omega)
            obtain ⟨oa, oc, rfl⟩ := IntsOwn.shown hown
            have HOX := Lib.hid hown
            have hcur := hbel
            rcases HK.out with h | ⟨b2, off2, rfl, hb2, hat2⟩
            · simp [h] at hkey
            have hk2 := hat2 j hkey
            have hk3 : ks[j]? = some (ks.getD j 0) := by simp [hkey]
            have HK3 := Lib.hid hk3
            have HAT2 := Lib.hid hk2
            clear hat2 hk3 hk2
            generalize ks.getD j 0 = x at HK3 HAT2
            have hp : Tr.part (Tr.keyss cs) ks j = [x] := by simp only [Tr.part, hkf, HK3.out]; simp
            have HP := Lib.hid hp
            clear hp
            clear hkf hown
            have hk2 := HAT2.out
            rw [← below_cell hbw' (by omega)] at hk2
            have HOXX := Lib.hid (IntsOwn.alloc' HOX.out (.cells #[.int .i64 x] 3))
            have HSX := Lib.hid (IntsAt.one wr x)
            have hlo9 : w'.heap.size + 1 ≤ (wr.alloc (.cells #[.int .i64 x] 3)).heap.size := by rw [World.size_alloc]; omega
            have HLEN9 : Hid ((Tr.upto (Tr.keyss cs) ks j).length + [x].length ≤ 17592186044416) := Lib.hid (by have h := HM.out; rw [HSU.out, HP.out, List.length_append] at h; omega)
            go_wp2_with (at_builtin; refine wpList_append_ints rfl _ _ rfl (w'.heap.size + 1) _ _ _ [x] rfl HOXX.out rfl HSX.out HLEN9.out hlo9 ?_; intro v9 w9 hown9 hbel9 _ hsh9; obtain ⟨a9, c9, rfl⟩ := hsh9; have hbn : Below (w'.heap.size + 1) W1 w9 := (hcur.alloc (by omega) _).trans hbel9; generalize hL3 : Tr.upto (Tr.keyss cs) ks j ++ [x] = L3 at hown9 ⊢; have HL3 := Lib.hid hL3; have HN := Lib.hid (And.intro hown9 hbn); clear hown9 hbel9 hbn hL3)
            go_roundw
            case rel => exact ⟨j + 1, by omega, by go_num, by rw [HSU.out, HP.out, HL3.out]; exact HN.out.1, HN.out.2⟩
            case measure => simp [intOf]; omega
        · obtain rfl : j = ks.length := by omega
          have HO := Lib.hid hown
          clear hown
          go_wp2_with fail
          go_ret
          exact ⟨_, rfl, by simp only [Tr.keys, hmax]; exact IntsOwn.lower HO.out (by omega), hbw'⟩

end Go.Proofs.Ytodcapgmhginoaa
