/- Finding: the closures lessThan and notMoreThan, the place that a binary search finds by them. -/
import Derived.Test.YticfkfjijnfcbaaDoorSh0
import Derived.Test.YticfkfjijnfcbaaDoorKeys
import Derived.Test.YticfkfjijnfcbaaDoorSh3
import Derived.Test.YticfkfjijnfcbaaDoorSh7
import Derived.Test.YticfkfjijnfcbaaDoorSh11
import Derived.Test.YticfkfjijnfcbaaDoorSh4
import Derived.Test.YticfkfjijnfcbaaDoorSh8
import Derived.Test.YticfkfjijnfcbaaDoorCurWalk
import Derived.Test.YticfkfjijnfcbaaDoorProg

/- Cursors that go on: what they come to is what the model comes to: plain data. -/
namespace Go.Proofs.YticfkfjijnfcbaaDoor
open Go.RowKit
namespace Tr

theorem some_key {t : Tr} (h : t.someB = true) {x : Int} (hx : x ∈ t.keys) : 0 ≤ x ∧ x ≤ 99 := by
  obtain ⟨w, hv⟩ : ∃ w : Int, validB w t = true := by
    unfold someB at h
    simp only [Bool.or_eq_true] at h
    rcases h with (((h | h) | h) | h) | h
    all_goals exact ⟨_, h⟩
  unfold validB at hv
  simp only [Bool.and_eq_true] at hv
  obtain ⟨i, hi, rfl⟩ := List.getElem_of_mem hx
  have := sorted_ge hv.2.2 i hi
  rw [List.getD_eq_getElem?_getD, List.getElem?_eq_getElem hi] at this
  simp only [Option.getD_some] at this
  omega

theorem goF_at {c : Int} {t u : Tr} {ks : List Int} (h : nodeTo ks t = some u) : goF c t ks = upF t (ks ++ sink c u) := by unfold goF; rw [h]
theorem goB_at {c : Int} {t u : Tr} {ks : List Int} (h : nodeTo ks t = some u) : goB c t ks = upB (ks ++ sink c u) := by unfold goB; rw [h]

theorem goF_first {k : List Int} {cs : List Tr} (hs : someB (.mk k cs) = true) (hk : k.length ≠ 0) : goF 0 (.mk k cs) [] = (downF (Tr.mk k cs).weight (.mk k cs), 0, true) := by
  rw [goF_at rfl, upF_zero rfl (Well.of_some hs) (Full.of_some hs hk) (fun x hx => (some_key hs hx).1) _ (Nat.le_refl _)]
  rfl
theorem goB_last {k : List Int} {cs : List Tr} (hs : someB (.mk k cs) = true) (hk : k.length ≠ 0) : goB 100 (.mk k cs) [] = ((downL (Tr.mk k cs).weight (.mk k cs)).1, ((downL (Tr.mk k cs).weight (.mk k cs)).2 : Int) - 1, true) := by
  rw [goB_at rfl, upB_full (Well.of_some hs) (Full.of_some hs hk) (fun x hx => by have := (some_key hs hx).2; omega) _ (Nat.le_refl _)]
  rfl

theorem stopF_last {t : Tr} {L : List Int} {x : Int} (h : ¬ x < (lenAt t L : Int)) : stopF t (L ++ [x]) (L.length + 0) = false := by
  show stopF t (L ++ [x]) L.length = false
  unfold stopF
  rw [getD_right (Nat.le_refl _), List.take_left' rfl]
  exact decide_eq_false (by simpa using h)

/-- What the model's Forward comes to. -/
def nextCur (t : Tr) (ks : List Int) (N : Nat) : List Int × Int × Bool :=
  match nodeTo ks t with
  | some (.mk k cs) => if h : N + 1 < cs.length then (ks ++ ((N + 1 : Nat) : Int) :: downF cs[N + 1].weight cs[N + 1], 0, true) else if N + 1 < k.length then (ks, ((N + 1 : Nat) : Int), true) else upF t ks
  | none => ([], 0, false)
theorem goF_next {t : Tr} {ks : List Int} (hs : someB t = true) {k : List Int} {cs : List Tr} (hn : nodeTo ks t = some (.mk k cs)) {N : Nat} (hN : N < k.length) :
    goF (k.getD N 0 + 1) t ks = nextCur t ks N := by
  have hw := nodeTo_well ks (Well.of_some hs) hn
  have ht := nodeTo_tops ks (Tops.of_some hs) hn
  obtain ⟨-, hp⟩ := place_of hw.keys hN
  unfold nextCur
  rw [goF_at hn, hn]
  by_cases h0 : cs.length = 0
  · rw [sink_leaf h0, hp]
    simp only
    rw [dif_neg (by omega)]
    split
    · rename_i h
      exact upF_stop (by rw [lenAt_of hn]; simp only [Tr.ks]; omega)
    · rename_i h
      refine upF_skip (fun i hi => ?_)
      have : i = 0 := by simpa using hi
      subst this
      refine stopF_last ?_
      rw [lenAt_of hn]; simp only [Tr.ks]; omega
  · have hcl := Well.inner hw h0
    have hi : N + 1 < cs.length := by omega
    have hi' : place (k.getD N 0 + 1) k < cs.length := by omega
    rw [sink_inner hi']
    simp only [hp]
    rw [dif_pos hi, List.append_cons, upF_zero (nodeTo_snoc hn hi) (hw.kid _ hi) (ht.kid _ hi) (fun x hx => by have := (kid_sides hw (N + 1) hi hx).1 N (by omega); omega) _ (Nat.le_refl _)]
    simp

/-- What the model's Backward comes to. -/
def prevCur (t : Tr) (ks : List Int) (N : Nat) : List Int × Int × Bool :=
  match nodeTo ks t with
  | some (.mk _ cs) => if h : N < cs.length then (ks ++ (N : Int) :: (downL cs[N].weight cs[N]).1, ((downL cs[N].weight cs[N]).2 : Int) - 1, true) else if 0 < N then (ks, (N : Int) - 1, true) else upB ks
  | none => ([], 0, false)
theorem goB_prev {t : Tr} {ks : List Int} (hs : someB t = true) {k : List Int} {cs : List Tr} (hn : nodeTo ks t = some (.mk k cs)) {N : Nat} (hN : N < k.length) :
    goB (k.getD N 0) t ks = prevCur t ks N := by
  have hw := nodeTo_well ks (Well.of_some hs) hn
  have ht := nodeTo_tops ks (Tops.of_some hs) hn
  obtain ⟨hp, -⟩ := place_of hw.keys hN
  unfold prevCur
  rw [goB_at hn, hn]
  by_cases h0 : cs.length = 0
  · rw [sink_leaf h0, hp]
    simp only
    rw [dif_neg (by omega)]
    split
    · rename_i h
      exact upB_stop (by omega)
    · rename_i h
      refine upB_skip (fun i hi => ?_)
      have : i = 0 := by simpa using hi
      subst this
      simp; omega
  · have hcl := Well.inner hw h0
    have hi : N < cs.length := by omega
    have hi' : place (k.getD N 0) k < cs.length := by omega
    rw [sink_inner hi']
    simp only [hp]
    rw [dif_pos hi, List.append_cons, upB_full (hw.kid _ hi) (ht.kid _ hi) (fun x hx => (kid_sides hw N hi hx).2 hN) _ (Nat.le_refl _)]
    simp

/-- What the model's SeekCursor comes to. -/
def seekCur (t : Tr) (key : Int) : List Int × Int × Bool :=
  match nodeTo (t.path key).1 t with
  | some (.mk k _) => if place key k < k.length then ((t.path key).1, (place key k : Int), true) else upF t (t.path key).1
  | none => ([], 0, false)

/-- The path to a key leads to a node; from there on one only goes to what is ahead of it. -/
theorem path_sink (key : Int) : ∀ (n : Nat) (t : Tr), t.weight ≤ n → Well t → ∃ uk uc M, nodeTo (t.path key).1 t = some (.mk uk uc) ∧ Well (.mk uk uc) ∧ sink key t = (t.path key).1 ++ (place key uk : Int) :: M ∧
    (M = [] ∨ ∃ (h : place key uk < uc.length), place key uk < uk.length ∧ M = sink key uc[place key uk] ∧ ∀ x ∈ uc[place key uk].keys, x < key)
  | n, .mk k cs, hn, hw => by
    by_cases hf : place key k < k.length ∧ k.getD (place key k) 0 = key
    · rw [path_found hf]
      by_cases h0 : cs.length = 0
      · exact ⟨_, _, [], rfl, hw, by rw [sink_leaf h0]; rfl, .inl rfl⟩
      · have hcl := Well.inner hw h0
        have hi : place key k < cs.length := by omega
        exact ⟨_, _, _, rfl, hw, by rw [sink_inner hi]; rfl, .inr ⟨hi, hf.1, rfl, fun x hx => by
          have := (kid_sides hw (place key k) hi hx).2 hf.1; rw [hf.2] at this; exact this⟩⟩
    · by_cases h0 : cs.length = 0
      · rw [path_leaf hf h0]
        exact ⟨_, _, [], rfl, hw, by rw [sink_leaf h0]; rfl, .inl rfl⟩
      · have hcl := Well.inner hw h0
        have hp := place_le key k
        have hi : place key k < cs.length := by omega
        have hwt := weight_get_le cs _ hi
        simp only [weight] at hn
        cases n with
        | zero => have := length_le_weights cs; omega
        | succ n =>
          obtain ⟨uk, uc, M, h1, h2, h3, h4⟩ := path_sink key n cs[place key k] (by omega) (hw.kid _ hi)
          rw [path_inner hf hi]
          refine ⟨uk, uc, M, ?_, h2, ?_, h4⟩
          · rw [nodeTo, if_pos ⟨by omega, by omega⟩, Int.toNat_natCast, List.getD_eq_getElem?_getD, List.getElem?_eq_getElem hi]
            exact h1
          · rw [sink_inner hi, h3]; rfl

theorem goF_seek {t : Tr} (hs : someB t = true) (key : Int) : goF key t [] = seekCur t key := by
  obtain ⟨k, cs, M, h1, h2, h3, h4⟩ := path_sink key t.weight t (Nat.le_refl _) (Well.of_some hs)
  unfold seekCur
  rw [goF_at rfl, List.nil_append, h3, h1]
  simp only
  rcases h4 with rfl | ⟨hi, h5, rfl, h6⟩
  · split
    · rename_i h
      exact upF_stop (by rw [lenAt_of h1]; simp only [Tr.ks]; omega)
    · rename_i h
      refine upF_skip (fun i hi => ?_)
      have : i = 0 := by simpa using hi
      subst this
      refine stopF_last ?_
      rw [lenAt_of h1]; simp only [Tr.ks]; omega
  · rw [if_pos h5, List.append_cons, upF_full (nodeTo_snoc h1 hi) (h2.kid _ hi) h6]
    exact upF_stop (by rw [lenAt_of h1]; simp only [Tr.ks]; omega)

theorem sink_pos (c : Int) (u : Tr) : 1 ≤ (sink c u).length := by obtain ⟨k, cs⟩ := u; unfold sink; rw [way]; simp
theorem six {t u : Tr} {ks : List Int} (hs : someB t = true) (hn : nodeTo ks t = some u) (c : Int) : (ks ++ sink c u).length ≤ 6 := by
  have hw := nodeTo_well ks (Well.of_some hs) hn
  have hl : (sink c u).length = (u.way c).length := by unfold sink; simp
  have hp := sink_pos c u
  have h := way_node (c := c) u.weight u (Nat.le_refl _) hw ((u.way c).length - 1) (by omega)
  have h2 : nodeTo (ks ++ (sink c u).take ((u.way c).length - 1)) t = some (u.way c)[(u.way c).length - 1] := by rw [nodeTo_append, hn]; exact h
  have := nodeTo_few hs h2
  rw [List.length_append, List.length_take] at this
  rw [List.length_append]
  omega
theorem nodeTo_small : ∀ (p : List Int) {t u : Tr}, nodeTo p t = some u → u.weight ≤ t.weight ∧ ∀ i, i < p.length → p.getD i 0 ≤ (t.weight : Int)
  | [], t, u, hn => by simp only [nodeTo, Option.some.injEq] at hn; exact ⟨by rw [hn]; exact Nat.le_refl _, fun i h => absurd h (Nat.not_lt_zero i)⟩
  | x :: p, .mk k c, u, hn => by
    simp only [nodeTo] at hn
    split at hn
    · rename_i hx
      have hN : x.toNat < c.length := by omega
      rw [List.getD_eq_getElem?_getD, List.getElem?_eq_getElem hN] at hn
      obtain ⟨h1, h2⟩ := nodeTo_small p hn
      have hwt := weight_get_le c _ hN
      simp only [Option.getD_some] at h1 h2
      simp only [weight]
      refine ⟨by omega, fun i hi => ?_⟩
      cases i with
      | zero => simp; omega
      | succ i => have := h2 i (by simpa using hi); simp only [List.getD_cons_succ]; omega
    · cases hn
theorem smallAt {t u : Tr} {ks : List Int} (hs : someB t = true) (hw : t.weight ≤ 1048576) (hn : nodeTo ks t = some u) (c : Int) : ∀ i, i < (ks ++ sink c u).length → (ks ++ sink c u).getD i 0 ≤ 2000000 := by
  obtain ⟨h1, h2⟩ := nodeTo_small ks hn
  have hwu := nodeTo_well ks (Well.of_some hs) hn
  intro i hi
  by_cases h : i < ks.length
  · rw [getD_left h]; have := h2 i h; omega
  · rw [getD_right (by omega)]
    have hl : (sink c u).length = (u.way c).length := by unfold sink; simp
    rw [List.length_append] at hi
    have hj : i - ks.length < (u.way c).length := by omega
    have hmem := (way_all c u hwu).2 _ (List.getElem_mem hj)
    have e : (sink c u).getD (i - ks.length) 0 = (place c (u.way c)[i - ks.length].ks : Int) := by
      unfold sink
      rw [List.getD_eq_getElem?_getD, List.getElem?_map, List.getElem?_eq_getElem hj]; rfl
    rw [e]
    have h3 := place_le c (u.way c)[i - ks.length].ks
    have h4 : (u.way c)[i - ks.length].ks.length ≤ (u.way c)[i - ks.length].weight := by
      obtain ⟨k, cs⟩ := (u.way c)[i - ks.length]
      simp only [Tr.ks, weight]; omega
    omega
end Tr
end Go.Proofs.YticfkfjijnfcbaaDoor

/- Finding: the closures lessThan and notMoreThan, the place that a binary search finds by them. -/
namespace Go.Proofs.YticfkfjijnfcbaaDoor
open Go.RowKit

theorem place_pair {c : Int} {ks : List Int} (hs : ks.Pairwise (· < ·)) {i j : Nat} (hij : i ≤ j) (hj : j < ks.length) (h : ks.getD j 0 < c) : ks.getD i 0 < c := by
  by_cases e : i = j
  · subst e; exact h
  · have h1 := List.pairwise_iff_getElem.1 hs i j (by omega) hj (by omega)
    have e1 : ks.getD i 0 = ks[i] := by simp [List.getD_eq_getElem?_getD, show i < ks.length by omega]
    have e2 : ks.getD j 0 = ks[j] := by simp [List.getD_eq_getElem?_getD, hj]
    rw [e1]; rw [e2] at h; omega

theorem mid_le {l h : Nat} (hl : l < h) : l ≤ (l + h) / 2 ∧ (l + h) / 2 < h := by omega

theorem less1_c (k n : Int) (q : Nat) (w : World) (hq : w.cell? ⟨q, 0, none⟩ = some (.int .i64 n)) :
    Calls Tryd.prog 109 #[.int .i64 k, .pointer (some ⟨q, 0, none⟩)] w fun e w' => e = .returned (.bool (decide (k < n))) ∧ w' = w := by
  go_enter Tryd.func109, Tryd.ntmps109
  go_wp2_with fail
  go_ret
  exact ⟨rfl, rfl⟩

theorem less_c (n : Int) (w : World) :
    Calls Tryd.prog 74 #[.int .i64 n] w fun e w' => e = .returned (.func (.func 109) #[] #[.pointer (some ⟨w.heap.size, 0, none⟩)]) ∧ w' = w.alloc (.cells #[.int .i64 n] 3) := by
  go_enter Tryd.func74, Tryd.ntmps74
  go_wp2_with fail
  go_ret
  exact ⟨rfl, rfl⟩

set_option maxRecDepth 100000 in
set_option maxHeartbeats 1000000 in
theorem place_less_c {v : Value} {ks : List Int} (w : World) (B : Nat) (hk : IntsIn w B v ks) (hs : ks.Pairwise (· < ·)) (hn : ks.length ≤ 1048576) (n c : Int) (hc : Hid (c = n)) (q : Nat) (hq : w.cell? ⟨q, 0, none⟩ = some (.int .i64 n)) :
    Calls Tryd.prog 102 #[v, .func (.func 109) #[] #[.pointer (some ⟨q, 0, none⟩)]] w fun e w' => e = .returned (.int .i64 (place c ks)) ∧ w' = w := by
  obtain ⟨a, cap, rfl, h1, h2, _, h3⟩ := hk
  unfold maxLen at h2
  have HK := Lib.hid h3
  have HS := Lib.hid hs
  clear h3 hs
  go_enter Tryd.func102, Tryd.ntmps102
  go_wp2_with fail
  go_loop [5, 6] (fun u v => ∃ (l h : Nat), l ≤ h ∧ h ≤ ks.length ∧ u = .int .i64 l ∧ v = .int .i64 h ∧ (∀ i, i < l → ks.getD i 0 < c) ∧ (∀ i, h ≤ i → i < ks.length → c ≤ ks.getD i 0)) (fun u v => (intOf v).toNat - (intOf u).toNat)
  case atStart => exact ⟨0, ks.length, Nat.zero_le _, Nat.le_refl _, rfl, rfl, fun i h => by omega, fun i h h' => by omega⟩
  case round =>
    obtain ⟨l, h, hlh, hhl, rfl, rfl, hlo, hhi⟩ := hrel
    have HLO := Lib.hid hlo
    have HHI := Lib.hid hhi
    clear hlo hhi
    by_cases hlt : l < h
    · obtain ⟨m, hm⟩ : ∃ m, m = (l + h) / 2 := ⟨_, rfl⟩
      have hmm := mid_le hlt
      rw [← hm] at hmm
      have hmi : ((l : Int) + (h : Int)) / 2 = (m : Int) := by omega
      have HM := Lib.hid hm
      clear hm
      obtain ⟨m1, m2⟩ := hmm
      rcases HK.out with h0 | ⟨b, off, rfl, hb, hat⟩
      · rw [h0] at hhl; simp at hhl; omega
      have ha' : w.cell? ⟨b, off + m, none⟩ = some (.int .i64 (ks.getD m 0)) := hat m (by omega)
      obtain ⟨x, hx⟩ : ∃ x, x = ks.getD m 0 := ⟨_, rfl⟩
      rw [← hx] at ha'
      have HX := Lib.hid hx
      clear hat hx
      have m3 : (m : Int) < (ks.length : Int) := by omega
      by_cases hT : x < n
      · go_wp2_with fail
        refine (less1_c x n q w hq).mono ?_
        rintro e w' ⟨rfl, rfl⟩
        go_wp2_with fail
        go_round
        case rel =>
          refine ⟨m + 1, h, by omega, hhl, by go_num, rfl, fun i hi => place_pair HS.out (show i ≤ m by omega) (by omega) (by rw [← HX.out]; have := hc.out; omega), HHI.out⟩
        case measure => simp [intOf]; omega
      · go_wp2_with fail
        refine (less1_c x n q w hq).mono ?_
        rintro e w' ⟨rfl, rfl⟩
        go_wp2_with fail
        go_round
        case rel =>
          refine ⟨l, m, m1, by omega, rfl, rfl, HLO.out, fun i hi hi2 => Int.not_lt.1 (fun hlt2 => ?_)⟩
          have h1 := place_pair HS.out hi hi2 hlt2
          have h2 := hc.out
          rw [← HX.out] at h1; omega
        case measure => simp [intOf]; omega
    · obtain rfl : l = h := by omega
      have hp : place c ks = l := place_eq hhl HLO.out (fun h => Int.not_lt.2 (HHI.out l (Nat.le_refl _) h))
      have HP := Lib.hid hp
      clear hp
      go_wp2_with fail
      go_ret
      exact ⟨ret_int (by rw [HP.out]), rfl⟩

theorem place_less_d {v : Value} {ks : List Int} (w : World) (B : Nat) (hk : IntsIn w B v ks) (hs : ks.Pairwise (· < ·)) (hn : ks.length ≤ 1048576) (n c : Int) (hc : Hid (c = n)) (q : Nat) (hq : w.cell? ⟨q, 0, none⟩ = some (.int .i64 n)) (m : Nat) :
    Calls Tryd.prog 102 #[v, .func (.func 109) #[] #[.pointer (some ⟨q, 0, none⟩)]] (w.drewN m) fun e w' => e = .returned (.int .i64 (place c ks)) ∧ w' = w.drewN m :=
  place_less_c (w.drewN m) B hk hs hn n c hc q hq

theorem upTo1_c (k n : Int) (q : Nat) (w : World) (hq : w.cell? ⟨q, 0, none⟩ = some (.int .i64 n)) :
    Calls Tryd.prog 121 #[.int .i64 k, .pointer (some ⟨q, 0, none⟩)] w fun e w' => e = .returned (.bool (decide (k ≤ n))) ∧ w' = w := by
  go_enter Tryd.func121, Tryd.ntmps121
  go_wp2_with fail
  go_ret
  exact ⟨rfl, rfl⟩

theorem upTo_c (n : Int) (w : World) :
    Calls Tryd.prog 92 #[.int .i64 n] w fun e w' => e = .returned (.func (.func 121) #[] #[.pointer (some ⟨w.heap.size, 0, none⟩)]) ∧ w' = w.alloc (.cells #[.int .i64 n] 3) := by
  go_enter Tryd.func92, Tryd.ntmps92
  go_wp2_with fail
  go_ret
  exact ⟨rfl, rfl⟩

set_option maxRecDepth 100000 in
set_option maxHeartbeats 1000000 in
theorem place_upTo_c {v : Value} {ks : List Int} (w : World) (B : Nat) (hk : IntsIn w B v ks) (hs : ks.Pairwise (· < ·)) (hn : ks.length ≤ 1048576) (n c : Int) (hc : Hid (c = n + 1)) (q : Nat) (hq : w.cell? ⟨q, 0, none⟩ = some (.int .i64 n)) :
    Calls Tryd.prog 102 #[v, .func (.func 121) #[] #[.pointer (some ⟨q, 0, none⟩)]] w fun e w' => e = .returned (.int .i64 (place c ks)) ∧ w' = w := by
  obtain ⟨a, cap, rfl, h1, h2, _, h3⟩ := hk
  unfold maxLen at h2
  have HK := Lib.hid h3
  have HS := Lib.hid hs
  clear h3 hs
  go_enter Tryd.func102, Tryd.ntmps102
  go_wp2_with fail
  go_loop [5, 6] (fun u v => ∃ (l h : Nat), l ≤ h ∧ h ≤ ks.length ∧ u = .int .i64 l ∧ v = .int .i64 h ∧ (∀ i, i < l → ks.getD i 0 < c) ∧ (∀ i, h ≤ i → i < ks.length → c ≤ ks.getD i 0)) (fun u v => (intOf v).toNat - (intOf u).toNat)
  case atStart => exact ⟨0, ks.length, Nat.zero_le _, Nat.le_refl _, rfl, rfl, fun i h => by omega, fun i h h' => by omega⟩
  case round =>
    obtain ⟨l, h, hlh, hhl, rfl, rfl, hlo, hhi⟩ := hrel
    have HLO := Lib.hid hlo
    have HHI := Lib.hid hhi
    clear hlo hhi
    by_cases hlt : l < h
    · obtain ⟨m, hm⟩ : ∃ m, m = (l + h) / 2 := ⟨_, rfl⟩
      have hmm := mid_le hlt
      rw [← hm] at hmm
      have hmi : ((l : Int) + (h : Int)) / 2 = (m : Int) := by omega
      have HM := Lib.hid hm
      clear hm
      obtain ⟨m1, m2⟩ := hmm
      rcases HK.out with h0 | ⟨b, off, rfl, hb, hat⟩
      · rw [h0] at hhl; simp at hhl; omega
      have ha' : w.cell? ⟨b, off + m, none⟩ = some (.int .i64 (ks.getD m 0)) := hat m (by omega)
      obtain ⟨x, hx⟩ : ∃ x, x = ks.getD m 0 := ⟨_, rfl⟩
      rw [← hx] at ha'
      have HX := Lib.hid hx
      clear hat hx
      have m3 : (m : Int) < (ks.length : Int) := by omega
      by_cases hT : x ≤ n
      · go_wp2_with fail
        refine (upTo1_c x n q w hq).mono ?_
        rintro e w' ⟨rfl, rfl⟩
        go_wp2_with fail
        go_round
        case rel =>
          refine ⟨m + 1, h, by omega, hhl, by go_num, rfl, fun i hi => place_pair HS.out (show i ≤ m by omega) (by omega) (by rw [← HX.out]; have := hc.out; omega), HHI.out⟩
        case measure => simp [intOf]; omega
      · go_wp2_with fail
        refine (upTo1_c x n q w hq).mono ?_
        rintro e w' ⟨rfl, rfl⟩
        go_wp2_with fail
        go_round
        case rel =>
          refine ⟨l, m, m1, by omega, rfl, rfl, HLO.out, fun i hi hi2 => Int.not_lt.1 (fun hlt2 => ?_)⟩
          have h1 := place_pair HS.out hi hi2 hlt2
          have h2 := hc.out
          rw [← HX.out] at h1; omega
        case measure => simp [intOf]; omega
    · obtain rfl : l = h := by omega
      have hp : place c ks = l := place_eq hhl HLO.out (fun h => Int.not_lt.2 (HHI.out l (Nat.le_refl _) h))
      have HP := Lib.hid hp
      clear hp
      go_wp2_with fail
      go_ret
      exact ⟨ret_int (by rw [HP.out]), rfl⟩

theorem place_upTo_d {v : Value} {ks : List Int} (w : World) (B : Nat) (hk : IntsIn w B v ks) (hs : ks.Pairwise (· < ·)) (hn : ks.length ≤ 1048576) (n c : Int) (hc : Hid (c = n + 1)) (q : Nat) (hq : w.cell? ⟨q, 0, none⟩ = some (.int .i64 n)) (m : Nat) :
    Calls Tryd.prog 102 #[v, .func (.func 121) #[] #[.pointer (some ⟨q, 0, none⟩)]] (w.drewN m) fun e w' => e = .returned (.int .i64 (place c ks)) ∧ w' = w.drewN m :=
  place_upTo_c (w.drewN m) B hk hs hn n c hc q hq

end Go.Proofs.YticfkfjijnfcbaaDoor
