/- The model's NextKey, PrevKey, RankOf. -/
import Derived.Test.YtdcifdpkfcgmhaaDoorCk0
import Derived.Test.YtdcifdpkfcgmhaaDoorCkS2
import Derived.Test.YtdcifdpkfcgmhaaDoorCk13
import Derived.Test.YtdcifdpkfcgmhaaDoorCk19
import Derived.Test.YtdcifdpkfcgmhaaDoorCkS11
import Derived.Test.YtdcifdpkfcgmhaaDoorCk20
import Derived.Test.YtdcifdpkfcgmhaaDoorCk16
import Derived.Test.YtdcifdpkfcgmhaaDoorCk18
import Derived.Test.YtdcifdpkfcgmhaaDoorCkS15
import Derived.Test.YtdcifdpkfcgmhaaDoorCk23
import Derived.Test.YtdcifdpkfcgmhaaDoorProg
import Derived.Test.YtdcifdpkfcgmhaaDoorCkS17

/- The cursors of a tree in the order of its keys: plain data. -/
namespace Go.Proofs.YtdcifdpkfcgmhaaDoor
open Go.RowKit
namespace Tr

/-- The cursor at a key, by its number in order. -/
def curAt (t : Tr) (i : Nat) : List Int × Int × Bool := goF (t.keys.getD i 0) t []

theorem keys_place {ks : List Int} (h : ks.Pairwise (· < ·)) {i : Nat} (hi : i < ks.length) : place (ks.getD i 0) ks = i ∧ place (ks.getD i 0 + 1) ks = i + 1 := place_of h hi

/-- What is sought is the cursor at the first key that isn't less. -/
theorem goF_curAt {t : Tr} (hs : someB t = true) (c : Int) : (place c t.keys < t.keys.length → goF c t [] = curAt t (place c t.keys)) ∧ (¬ place c t.keys < t.keys.length → goF c t [] = ([], 0, false)) := by
  obtain ⟨h1, h2⟩ := seek_key c t.weight t (Nat.le_refl _) (Well.of_some hs)
  have e : goF c t [] = upF t (sink c t) := goF_at rfl
  constructor
  · intro h
    obtain ⟨P, A, k, cs, g1, g2, g3, g4⟩ := h1 h
    have := goF_self hs g2 g3
    rw [g4] at this
    rw [e, g1, curAt, this]
  · intro h
    rw [e, h2 h]

/-- A cursor in order: it stands at its key. -/
theorem curAt_at {t : Tr} (hs : someB t = true) {i : Nat} (hi : i < t.keys.length) : ∃ P A k cs, curAt t i = (P, ((A : Nat) : Int), true) ∧ nodeTo P t = some (.mk k cs) ∧ A < k.length ∧ k.getD A 0 = t.keys.getD i 0 := by
  have hw := Well.of_some hs
  obtain ⟨h1, -⟩ := seek_key (t.keys.getD i 0) t.weight t (Nat.le_refl _) hw
  have hp := (keys_place hw.2 hi).1
  rw [hp] at h1
  obtain ⟨P, A, k, cs, g1, g2, g3, g4⟩ := h1 hi
  exact ⟨P, A, k, cs, by rw [curAt, goF_at rfl]; exact g1, g2, g3, g4⟩
theorem curB_at {t : Tr} (hs : someB t = true) {P : List Int} {A : Nat} {k : List Int} {cs : List Tr} (hn : nodeTo P t = some (.mk k cs)) (hA : A < k.length) : curB t P A = true ∧ curK t P A = k.getD A 0 := by
  have h : curB t P A = true := by unfold curB; rw [hn]; simp [hs, inB]; omega
  exact ⟨h, by rw [(curK_at h hn).1]; simp⟩

/-- What holds of the cursor at number i. -/
theorem curAt_facts {t : Tr} (hs : someB t = true) {i : Nat} (hi : i < t.keys.length) :
    curB t (curAt t i).1 (curAt t i).2.1 = true ∧ curK t (curAt t i).1 (curAt t i).2.1 = t.keys.getD i 0 ∧ (curAt t i).2.2 = true ∧ (curAt t i).1.length ≤ 5 ∧
    walkB t (curAt t i).1 (curAt t i).2.1 (fun K => goF (K + 1) t (curAt t i).1) = (if i + 1 < t.keys.length then curAt t (i + 1) else ([], 0, false)) := by
  obtain ⟨P, A, k, cs, g1, g2, g3, g4⟩ := curAt_at hs hi
  obtain ⟨b1, b2⟩ := curB_at hs g2 g3
  rw [g1]
  refine ⟨b1, by rw [b2, g4], rfl, nodeTo_few hs g2, ?_⟩
  rw [walkB_at b1 g2, Int.toNat_natCast, goF_pass hs g2 g3 (.inr rfl), g4]
  have hp := (keys_place (Well.of_some hs).2 hi).2
  obtain ⟨h1, h2⟩ := goF_curAt hs (t.keys.getD i 0 + 1)
  rw [hp] at h1 h2
  split
  · rename_i h; exact h1 h
  · rename_i h; exact h2 h

/-- The first one. -/
theorem first_curAt {t : Tr} (hs : someB t = true) (h0 : 0 < t.keys.length) : goF 0 t [] = curAt t 0 := by
  obtain ⟨h1, -⟩ := goF_curAt hs 0
  have hp : place 0 t.keys = 0 := place_zero (fun x hx => (some_key hs hx).1)
  rw [hp] at h1
  exact h1 h0

/-- The last key below a node. -/
theorem downL_key : ∀ (n : Nat) (t : Tr), t.weight ≤ n → Well t → Full t → ∃ k cs A, nodeTo (downL n t).1 t = some (.mk k cs) ∧ (downL n t).2 = k.length ∧ k.length ≠ 0 ∧ t.keys = A ++ [k.getD (k.length - 1) 0]
  | n, .mk k cs, hn, hw, hf => by
    have hk0 := Full.keys hf
    by_cases h0 : cs.length = 0
    · have e : downL n (.mk k cs) = ([], k.length) := by
        cases n with
        | zero => rfl
        | succ n => rw [downL, dif_neg (by omega)]
      have hne : k ≠ [] := fun e => hk0 (by rw [e]; rfl)
      refine ⟨k, cs, k.dropLast, by rw [e]; rfl, by rw [e], hk0, ?_⟩
      rw [keys_leaf h0]
      have : k.getD (k.length - 1) 0 = k.getLast hne := by
        rw [List.getLast_eq_getElem, List.getD_eq_getElem?_getD, List.getElem?_eq_getElem (by omega)]; rfl
      rw [this]
      exact (List.dropLast_concat_getLast hne).symm
    · have hlt : cs.length - 1 < cs.length := by omega
      have hcl := Well.inner hw h0
      have hwt := weight_get_le cs _ hlt
      simp only [weight] at hn
      cases n with
      | zero => have := length_le_weights cs; omega
      | succ n =>
        obtain ⟨k', cs', A, h1, h2, h3, h4⟩ := downL_key n cs[cs.length - 1] (by omega) (hw.kid _ hlt) (hf.tops.kid _ hlt)
        refine ⟨k', cs', upto (keyss cs) k (cs.length - 1) ++ A, ?_, ?_, h3, ?_⟩
        · rw [downL, dif_pos hlt, nodeTo, if_pos ⟨by omega, by omega⟩, Int.toNat_natCast, List.getD_eq_getElem?_getD, List.getElem?_eq_getElem hlt]; exact h1
        · rw [downL, dif_pos hlt]; exact h2
        · have hm : max k.length cs.length = cs.length - 1 + 1 := by omega
          have hkn : k[cs.length - 1]? = none := List.getElem?_eq_none (by omega)
          rw [Tr.keys, hm, upto_succ, part, keyss_get cs _ hlt, hkn]
          simp [h4]

theorem keys_own {k : List Int} {cs : List Tr} (hs : someB (.mk k cs) = true) : k.length ≠ 0 ↔ 0 < (Tr.mk k cs).keys.length := by
  constructor
  · intro h
    have := (own_sub k cs).length_le
    omega
  · intro h hk
    have hw := Well.of_some hs
    have hc : cs.length = 0 := by
      refine Classical.byContradiction fun h => ?_
      obtain ⟨⟨w, l, d, hn⟩, _⟩ := hw
      rcases (nodesB_parts hn).2 with ⟨h1, _⟩ | ⟨_, _, _, h4, _⟩
      · exact h h1
      · exact h4 hk
    rw [keys_leaf hc] at h
    omega

/-- The last one. -/
theorem last_curAt {t : Tr} (hs : someB t = true) (h0 : 0 < t.keys.length) : goB 100 t [] = curAt t (t.keys.length - 1) := by
  obtain ⟨k, cs⟩ := t
  have hk := (keys_own hs).2 h0
  rw [goB_last hs hk]
  obtain ⟨k', cs', A, h1, h2, h3, h4⟩ := downL_key (Tr.mk k cs).weight (.mk k cs) (Nat.le_refl _) (Well.of_some hs) (Full.of_some hs hk)
  have hself := goF_self hs h1 (show k'.length - 1 < k'.length by omega)
  have hl : (Tr.mk k cs).keys.getD ((Tr.mk k cs).keys.length - 1) 0 = k'.getD (k'.length - 1) 0 := by
    rw [h4, List.length_append, List.length_singleton, getD_right (by omega), show A.length + 1 - 1 - A.length = 0 by omega]; rfl
  rw [curAt, hl, hself, h2]
  congr 2
  omega

/-- FirstCursor and LastCursor, in these words. -/
theorem whole_first (t : Tr) : walkB t [] 0 (fun _ => goF 0 t []) = if t.someB = true ∧ 0 < t.keys.length then curAt t 0 else ([], 0, false) := by
  unfold walkB
  obtain ⟨k, cs⟩ := t
  by_cases hs : (Tr.mk k cs).someB = true
  · have hk := keys_own hs
    by_cases h0 : 0 < (Tr.mk k cs).keys.length
    · have hb : curB (.mk k cs) [] 0 = true := by unfold curB; simp only [nodeTo]; rw [hs]; have := hk.2 h0; simp [inB]; omega
      rw [if_pos hb, if_pos ⟨hs, h0⟩]
      exact first_curAt hs h0
    · have hb : ¬ curB (.mk k cs) [] 0 = true := by unfold curB; simp only [nodeTo]; rw [hs]; have := fun h => h0 (hk.1 h); simp [inB]; omega
      rw [if_neg hb, if_neg (fun h => h0 h.2)]
  · have hb : ¬ curB (.mk k cs) [] 0 = true := by unfold curB; simp only [nodeTo]; simp [hs]
    rw [if_neg hb, if_neg (fun h => hs h.1)]
theorem whole_last (t : Tr) : walkB t [] 0 (fun _ => goB 100 t []) = if t.someB = true ∧ 0 < t.keys.length then curAt t (t.keys.length - 1) else ([], 0, false) := by
  unfold walkB
  obtain ⟨k, cs⟩ := t
  by_cases hs : (Tr.mk k cs).someB = true
  · have hk := keys_own hs
    by_cases h0 : 0 < (Tr.mk k cs).keys.length
    · have hb : curB (.mk k cs) [] 0 = true := by unfold curB; simp only [nodeTo]; rw [hs]; have := hk.2 h0; simp [inB]; omega
      rw [if_pos hb, if_pos ⟨hs, h0⟩]
      exact last_curAt hs h0
    · have hb : ¬ curB (.mk k cs) [] 0 = true := by unfold curB; simp only [nodeTo]; rw [hs]; have := fun h => h0 (hk.1 h); simp [inB]; omega
      rw [if_neg hb, if_neg (fun h => h0 h.2)]
  · have hb : ¬ curB (.mk k cs) [] 0 = true := by unfold curB; simp only [nodeTo]; simp [hs]
    rw [if_neg hb, if_neg (fun h => hs h.1)]
end Tr
end Go.Proofs.YtdcifdpkfcgmhaaDoor

/- The model's NextKey, PrevKey, RankOf. -/
namespace Go.Proofs.YtdcifdpkfcgmhaaDoor
open Go.RowKit

theorem next_at {key : Int} {ks : List Int} {j : Nat} (h : place (key + 1) ks = j) : Tr.optOr (ks.find? (fun x => decide (key + 1 ≤ x))) (0, false) = if j < ks.length then (ks.getD j 0, true) else (0, false) := by
  rw [find_place, h]
  by_cases hj : j < ks.length
  · rw [if_pos hj]; simp [Tr.optOr, hj, List.getD_eq_getElem?_getD]
  · rw [if_neg hj, List.getElem?_eq_none (by omega)]; rfl

theorem ret_ib {a a' : Int} {b b' : Bool} (h : a = a') (h2 : b = b') : Ending.returned (.tuple #[.int .i64 a, .bool b]) = .returned (.tuple #[.int .i64 a', .bool b']) := by rw [h, h2]


-- END


-- END

/-- How many keys are less than a number, in a tree that is valid. -/
def Tr.rankB (key : Int) (t : Tr) : Int := if t.someB then (place key t.keys : Int) else -1
theorem rankB_is (key : Int) (t : Tr) : (t.someB = true → t.rankB key = (place key t.keys : Int)) ∧ (t.someB = false → t.rankB key = -1) := by
  unfold Tr.rankB; constructor <;> intro h <;> simp [h]

set_option maxRecDepth 100000 in
set_option maxHeartbeats 1000000 in
theorem specRankOf_c {w : World} {B : Nat} {kv cv : Value} {t : Tr} (ht : TreeIn w B kv cv t) (hw : t.weight ≤ 1048576) (key : Int) (w' : World) (hbw : Below B w w') (hB : B ≤ w'.heap.size) :
    Calls Tryd.prog 52 #[.agg #[kv, cv], .int .i64 key] w' fun e w'' => e = .returned (.int .i64 (t.rankB key)) ∧ Below w'.heap.size w' w'' := by
  obtain ⟨a5, n5, m5, a6, n6, m6, rfl, rfl⟩ := ht.slices
  obtain ⟨W1, hW1⟩ : ∃ W1, W1 = w'.alloc (.cells #[.slice a5 n5 m5, .slice a6 n6 m6] 33) := ⟨_, rfl⟩
  have hs1 : W1.heap.size = w'.heap.size + 1 := by rw [hW1]; simp
  have hb1 : Below w'.heap.size w' W1 := by rw [hW1]; exact (Below.refl _ _).alloc (Nat.le_refl _) _
  have kb : W1.heap[w'.heap.size]? = some (.cells #[.slice a5 n5 m5, .slice a6 n6 m6] 33 (0, 0)) := by rw [hW1, new_blk]
  obtain ⟨x1, x2, x3, x4⟩ := box2 kb
  have hv := rankB_is key t
  have HB := Lib.hid hbw
  have HT := Lib.hid ht
  have HW1 := Lib.hid hW1
  have H1 := Lib.hid (And.intro hb1 kb)
  have HV := Lib.hid hv
  clear hbw ht hW1 hb1 kb hv
  go_enter Tryd.func52, Tryd.ntmps52
  go_wp2_with fail
  rw [← HW1.out]
  refine (l2Valid_c HT.out hw W1 (HB.out.trans (H1.out.1.mono hB)) (by omega)).mono ?_
  rintro e w2 ⟨rfl, hb2⟩
  have hs2 := hb2.size
  have kb2 := (hb2.block w'.heap.size (by omega)).trans H1.out.2
  clear x1 x2 x3 x4
  obtain ⟨x1, x2, x3, x4⟩ := box2 kb2
  have H2 := Lib.hid (H1.out.1.trans (hb2.mono (by omega)))
  clear hb2 kb2
  cases hsb : t.someB with
  | false =>
    have h := HV.out.2 hsb
    have HZ := Lib.hid h
    have HSB := Lib.hid hsb
    clear h hsb
    go_wp2_with fail
    go_ret
    exact ⟨ret_int HZ.out.symm, H2.out⟩
  | true =>
    have h := HV.out.1 hsb
    have HZ := Lib.hid h
    have HSB := Lib.hid hsb
    clear h hsb
    go_wp2_with fail
    refine (specKeys_c HT.out hw _ (HB.out.trans (H2.out.mono hB)) (by omega)).mono ?_
    rintro e w3 ⟨v, rfl, hv, hb3⟩
    obtain ⟨va, vc, rfl⟩ := IntsOwn.shown hv
    have hki := IntsOwn.in hv
    have H3 := Lib.hid (H2.out.trans (hb3.mono (by omega)))
    have hs3 := hb3.size
    have HKI := Lib.hid hki
    clear hb3 hv hki x1 x2 x3 x4
    go_wp2_with fail
    refine (l2Place_c w3 w3.heap.size HKI.out key).mono ?_
    rintro e w4 ⟨rfl, hb4⟩
    have H4 := Lib.hid (H3.out.trans (hb4.mono (by omega)))
    clear hb4
    go_wp2_with fail
    go_ret
    exact ⟨ret_int HZ.out.symm, H4.out⟩

end Go.Proofs.YtdcifdpkfcgmhaaDoor
