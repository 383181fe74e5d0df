/- Cursors that go on: plain data: the places down to a leaf, climbing up again, and what comes of it. -/
import Derived.Test.YticfkfjijnfcbaaDoorSh0
import Derived.Test.YticfkfjijnfcbaaDoorKeys
import Derived.Test.YticfkfjijnfcbaaDoorSh7
import Derived.Test.YticfkfjijnfcbaaDoorSh11
import Derived.Test.YticfkfjijnfcbaaDoorSh8
import Derived.Test.YticfkfjijnfcbaaDoorSh9
namespace Go.Proofs.YticfkfjijnfcbaaDoor
open Go.RowKit
namespace Tr

/-- The places one goes by from a node down to a leaf. -/
def sink (c : Int) (t : Tr) : List Int := (t.way c).map (fun u => (place c u.ks : Int))
theorem sink_leaf {c : Int} {k : List Int} {cs : List Tr} (h : cs.length = 0) : sink c (.mk k cs) = [(place c k : Int)] := by
  unfold sink; rw [way_leaf h]; rfl
theorem sink_inner {c : Int} {k : List Int} {cs : List Tr} (h : place c k < cs.length) : sink c (.mk k cs) = (place c k : Int) :: sink c cs[place c k] := by
  unfold sink; rw [way_inner h]; rfl

/-- The nodes on the way are those to which the places lead. -/
theorem way_node {c : Int} : ∀ (n : Nat) (u : Tr), u.weight ≤ n → Well u → ∀ i (h : i < (u.way c).length), nodeTo ((sink c u).take i) u = some (u.way c)[i]
  | n, .mk k cs, hn, hw => by
    by_cases h0 : cs.length = 0
    · intro i h
      have e := way_leaf (c := c) (k := k) h0
      have : i = 0 := by rw [e] at h; simpa using h
      subst this
      simp only [e, List.take_zero, nodeTo, List.getElem_cons_zero]
    · have hcl := Well.inner hw h0
      have hp := place_le c k
      have hi : place c k < cs.length := by omega
      have hwt := weight_get_le cs _ hi
      simp only [weight] at hn
      cases n with
      | zero => have := length_le_weights cs; omega
      | succ n =>
        intro i h
        have e := way_inner (c := c) (k := k) hi
        cases i with
        | zero => simp only [e, List.take_zero, nodeTo, List.getElem_cons_zero]
        | succ i =>
          have h' : i < (cs[place c k].way c).length := by rw [e] at h; simpa using h
          have ih := way_node n cs[place c k] (by omega) (hw.kid _ hi) i h'
          simp only [e, List.getElem_cons_succ]
          rw [sink_inner hi, List.take_succ_cons, nodeTo, if_pos ⟨by omega, by omega⟩, Int.toNat_natCast, List.getD_eq_getElem?_getD, List.getElem?_eq_getElem hi]
          exact ih

/-- How many keys the node has to which a path leads. -/
def lenAt (t : Tr) (p : List Int) : Nat := match nodeTo p t with | some u => u.ks.length | none => 0

/-- The lowest place up to a depth where one stops, or 0. -/
def climb (P : Nat → Bool) : Nat → Nat
  | 0 => 0
  | n + 1 => if P n then n + 1 else climb P n
theorem climb_le (P : Nat → Bool) : ∀ n, climb P n ≤ n
  | 0 => Nat.le_refl _
  | n + 1 => by unfold climb; split; exact Nat.le_refl _; exact Nat.le_succ_of_le (climb_le P n)
theorem climb_congr {P Q : Nat → Bool} : ∀ n, (∀ i, i < n → P i = Q i) → climb P n = climb Q n
  | 0, _ => rfl
  | n + 1, h => by unfold climb; rw [h n (Nat.lt_succ_self n), climb_congr n (fun i hi => h i (Nat.lt_succ_of_lt hi))]
/-- Where one doesn't stop one goes up. -/
theorem climb_skip {P : Nat → Bool} (m : Nat) : ∀ n, m ≤ n → (∀ i, m ≤ i → i < n → P i = false) → climb P n = climb P m
  | 0, h, _ => by have : m = 0 := by omega
                  rw [this]
  | n + 1, h, hP => by
    by_cases e : m = n + 1
    · rw [e]
    · rw [show climb P (n + 1) = if P n then n + 1 else climb P n from rfl, hP n (by omega) (Nat.lt_succ_self n), if_neg (by simp)]
      exact climb_skip m n (by omega) (fun i h1 h2 => hP i h1 (by omega))

def stopF (t : Tr) (L : List Int) (i : Nat) : Bool := decide (L.getD i 0 < (lenAt t (L.take i) : Int))
def stopB (L : List Int) (i : Nat) : Bool := decide (0 < L.getD i 0)

/-- What one comes to, going up. -/
def upTo (L : List Int) (less : Int) (D : Nat) : List Int × Int × Bool := if D = 0 then ([], 0, false) else (L.take (D - 1), L.getD (D - 1) 0 - less, true)
def upF (t : Tr) (L : List Int) : List Int × Int × Bool := upTo L 0 (climb (stopF t L) L.length)
def upB (L : List Int) : List Int × Int × Bool := upTo L 1 (climb (stopB L) L.length)
def goF (c : Int) (t : Tr) (ks : List Int) : List Int × Int × Bool := match nodeTo ks t with | some u => upF t (ks ++ sink c u) | none => ([], 0, false)
def goB (c : Int) (t : Tr) (ks : List Int) : List Int × Int × Bool := match nodeTo ks t with | some u => upB (ks ++ sink c u) | none => ([], 0, false)

theorem upTo_app {L M : List Int} {less : Int} {D : Nat} (h : D ≤ L.length) : upTo (L ++ M) less D = upTo L less D := by
  unfold upTo
  split
  · rfl
  · rw [List.take_append_of_le_length (by omega), getD_left (by omega)]
theorem stopF_app {t : Tr} {L M : List Int} {i : Nat} (h : i < L.length) : stopF t (L ++ M) i = stopF t L i := by
  unfold stopF
  rw [List.take_append_of_le_length (by omega), getD_left h]
theorem stopB_app {L M : List Int} {i : Nat} (h : i < L.length) : stopB (L ++ M) i = stopB L i := by
  unfold stopB
  rw [getD_left h]

/-- Where one doesn't stop at what is added, one comes to what one would have come to. -/
theorem upF_skip {t : Tr} {L M : List Int} (h : ∀ i, i < M.length → stopF t (L ++ M) (L.length + i) = false) : upF t (L ++ M) = upF t L := by
  unfold upF
  rw [climb_skip L.length _ (by simp) (fun i h1 h2 => by
    have := h (i - L.length) (by simp at h2; omega)
    rwa [show L.length + (i - L.length) = i by omega] at this)]
  rw [climb_congr (Q := stopF t L) L.length (fun i hi => stopF_app hi)]
  exact upTo_app (climb_le _ _)
theorem upB_skip {L M : List Int} (h : ∀ i, i < M.length → ¬ 0 < M.getD i 0) : upB (L ++ M) = upB L := by
  unfold upB
  rw [climb_skip L.length _ (by simp) (fun i h1 h2 => by
    have := h (i - L.length) (by simp at h2; omega)
    unfold stopB
    rw [getD_right h1]
    exact decide_eq_false this)]
  rw [climb_congr (Q := stopB L) L.length (fun i hi => stopB_app hi)]
  exact upTo_app (climb_le _ _)
/-- One who stops at the last place. -/
theorem upF_stop {t : Tr} {L : List Int} {x : Int} (h : x < (lenAt t L : Int)) : upF t (L ++ [x]) = (L, x, true) := by
  unfold upF
  have hs : stopF t (L ++ [x]) L.length = true := by
    unfold stopF
    rw [List.take_left', getD_right (Nat.le_refl _)]
    · simpa using h
    · rfl
  rw [List.length_append, List.length_singleton, climb, if_pos hs, upTo, if_neg (by omega), Nat.add_sub_cancel, getD_right (Nat.le_refl _)]
  simp
theorem upB_stop {L : List Int} {x : Int} (h : 0 < x) : upB (L ++ [x]) = (L, x - 1, true) := by
  unfold upB
  have hs : stopB (L ++ [x]) L.length = true := by
    unfold stopB
    rw [getD_right (Nat.le_refl _)]
    simpa using h
  rw [List.length_append, List.length_singleton, climb, if_pos hs, upTo, if_neg (by omega), Nat.add_sub_cancel, getD_right (Nat.le_refl _)]
  simp

theorem nodeTo_snoc {p : List Int} {t : Tr} {k : List Int} {cs : List Tr} (h : nodeTo p t = some (.mk k cs)) {i : Nat} (hi : i < cs.length) : nodeTo (p ++ [(i : Int)]) t = some cs[i] := by
  rw [nodeTo_append, h]
  show nodeTo [(i : Int)] (.mk k cs) = _
  simp only [nodeTo, Int.toNat_natCast]
  rw [if_pos ⟨by omega, by omega⟩, List.getD_eq_getElem?_getD, List.getElem?_eq_getElem hi]; rfl
theorem lenAt_of {p : List Int} {t u : Tr} (h : nodeTo p t = some u) : lenAt t p = u.ks.length := by unfold lenAt; rw [h]

/-- How one gets to the first or to the last key below a node. -/
def downF : Nat → Tr → List Int
  | 0, _ => []
  | _, .mk _ [] => []
  | n + 1, .mk _ (x :: _) => 0 :: downF n x
def downL : Nat → Tr → List Int × Nat
  | 0, t => ([], t.ks.length)
  | n + 1, .mk k cs => if h : cs.length - 1 < cs.length then (((cs.length - 1 : Nat) : Int) :: (downL n cs[cs.length - 1]).1, (downL n cs[cs.length - 1]).2) else ([], k.length)

theorem place_zero {c : Int} {k : List Int} (h : ∀ x ∈ k, c ≤ x) : place c k = 0 := by
  cases k with
  | nil => rfl
  | cons x r => have := h x (by simp); simp only [place]; rw [if_neg (by omega)]
theorem place_full {c : Int} {k : List Int} (h : ∀ x ∈ k, x < c) : place c k = k.length := by
  have := place_append_lt (c := c) (a := k) (b := []) h
  simpa [place] using this

/-- Below a node all of whose keys are behind the place one goes to the first kids. -/
theorem sink_zero {c : Int} : ∀ (n : Nat) (u : Tr), u.weight ≤ n → Well u → (∀ x ∈ u.keys, c ≤ x) → sink c u = downF n u ++ [0]
  | n, .mk k cs, hn, hw, hx => by
    have hp : place c k = 0 := place_zero (fun x h => hx x ((own_sub k cs).subset h))
    cases cs with
    | nil =>
      rw [sink_leaf rfl, hp]
      cases n <;> rfl
    | cons y r =>
      have hwt := weight_get_le (y :: r) 0 (by simp)
      have hg : (y :: r)[0] = y := rfl
      rw [hg] at hwt; simp only [List.length_cons] at hwt
      have hl := length_le_weights (y :: r)
      simp only [weight] at hn
      simp only [List.length_cons] at hl
      cases n with
      | zero => omega
      | succ n =>
        rw [sink_inner (by rw [hp]; simp)]
        simp only [hp, List.getElem_cons_zero]
        have hk := hw.kid 0 (by simp)
        simp only [List.getElem_cons_zero] at hk
        rw [sink_zero n y (by omega) hk (fun x h => hx x ((kid_sub (k := k) (c := y :: r) 0 (by simp)).subset h))]
        rfl

/-- Below a node all of whose keys are ahead of the place one goes to the last kids. -/
theorem sink_full {c : Int} : ∀ (n : Nat) (u : Tr), u.weight ≤ n → Well u → (∀ x ∈ u.keys, x < c) → sink c u = (downL n u).1 ++ [((downL n u).2 : Int)]
  | n, .mk k cs, hn, hw, hx => by
    have hp : place c k = k.length := place_full (fun x h => hx x ((own_sub k cs).subset h))
    by_cases h0 : cs.length = 0
    · rw [sink_leaf h0, hp]
      cases n with
      | zero => rfl
      | succ n => rw [downL, dif_neg (by omega)]; rfl
    · have hcl := Well.inner hw h0
      have hlt : cs.length - 1 < cs.length := by omega
      have hwt := weight_get_le cs _ hlt
      simp only [weight] at hn
      cases n with
      | zero => have := length_le_weights cs; omega
      | succ n =>
        have e : place c k = cs.length - 1 := by omega
        have hi : place c k < cs.length := by omega
        rw [sink_inner hi, downL, dif_pos hlt]
        have ih := sink_full n cs[cs.length - 1] (by omega) (hw.kid _ hlt) (fun x h => hx x ((kid_sub _ hlt).subset h))
        have e2 : cs[place c k] = cs[cs.length - 1] := by congr 1
        rw [e2, ih, e]; rfl

theorem downF_leaf : ∀ (n : Nat) (u : Tr), u.weight ≤ n → ∃ k, nodeTo (downF n u) u = some (.mk k []) ∧ (Full u → k.length ≠ 0)
  | n, .mk k cs, hn => by
    cases cs with
    | nil => exact ⟨k, by cases n <;> rfl, fun h => h.keys⟩
    | cons y r =>
      have hwt := weight_get_le (y :: r) 0 (by simp)
      have hg : (y :: r)[0] = y := rfl
      rw [hg] at hwt; simp only [List.length_cons] at hwt
      have hl := length_le_weights (y :: r)
      simp only [weight] at hn
      simp only [List.length_cons] at hl
      cases n with
      | zero => omega
      | succ n =>
        obtain ⟨k', h1, h2⟩ := downF_leaf n y (by omega)
        refine ⟨k', ?_, fun h => h2 (by have := h.tops.kid 0 (by simp); simpa using this)⟩
        rw [downF, nodeTo, if_pos ⟨by omega, by simp⟩]
        exact h1
theorem downL_leaf : ∀ (n : Nat) (u : Tr), u.weight ≤ n → ∃ k cs, cs.length = 0 ∧ nodeTo (downL n u).1 u = some (.mk k cs) ∧ (downL n u).2 = k.length ∧ (Full u → k.length ≠ 0)
  | n, .mk k cs, hn => by
    by_cases h0 : cs.length = 0
    · refine ⟨k, cs, h0, ?_, ?_, fun h => h.keys⟩
      · cases n with
        | zero => rfl
        | succ n => rw [downL, dif_neg (by omega)]; rfl
      · cases n with
        | zero => rfl
        | succ n => rw [downL, dif_neg (by omega)]
    · have hlt : cs.length - 1 < cs.length := by omega
      have hwt := weight_get_le cs _ hlt
      simp only [weight] at hn
      cases n with
      | zero => have := length_le_weights cs; omega
      | succ n =>
        obtain ⟨k', cs', g0, h1, h2, h3⟩ := downL_leaf n cs[cs.length - 1] (by omega)
        refine ⟨k', cs', g0, ?_, ?_, fun h => h3 (h.tops.kid _ hlt)⟩
        · rw [downL, dif_pos hlt, nodeTo, if_pos ⟨by omega, by omega⟩, Int.toNat_natCast, List.getD_eq_getElem?_getD, List.getElem?_eq_getElem hlt]
          exact h1
        · rw [downL, dif_pos hlt]; exact h2

/-- A valid tree that has a key of its own. -/
theorem Full.of_some {k : List Int} {c : List Tr} (hs : someB (.mk k c) = true) (hk : k.length ≠ 0) : Full (.mk k c) := by
  obtain ⟨wide, hw, hv⟩ : ∃ w : Int, 2 ≤ w ∧ validB w (.mk k c) = true := by
    unfold someB at hs
    simp only [Bool.or_eq_true] at hs
    rcases hs with (((h | h) | h) | h) | h
    all_goals exact ⟨_, by omega, h⟩
  unfold validB at hv
  simp only [Bool.and_eq_true] at hv
  have hn := hv.2.1
  obtain ⟨h1, h2⟩ := nodesB_parts hn
  rcases h2 with ⟨h3, h4⟩ | ⟨h3, h4, h5, h6, h7⟩
  · exact ⟨wide, 1, 1, hw, Int.le_refl 1, nodesB_leaf (by omega) h1.2 h3⟩
  · exact ⟨wide, 1, _, hw, Int.le_refl 1, nodesB_inner (by omega) h1.2 h4 h5 h6 h7⟩

/-- Going forward to a place ahead of all keys of a node. -/
theorem upF_zero {c : Int} {t u : Tr} {p : List Int} (hn : nodeTo p t = some u) (hw : Well u) (hf : Full u) (hx : ∀ x ∈ u.keys, c ≤ x) (n : Nat) (hwn : u.weight ≤ n) :
    upF t (p ++ sink c u) = (p ++ downF n u, 0, true) := by
  obtain ⟨k, h1, h2⟩ := downF_leaf n u hwn
  rw [sink_zero n u hwn hw hx, ← List.append_assoc]
  refine upF_stop ?_
  rw [lenAt_of (u := .mk k []) (by rw [nodeTo_append, hn]; exact h1)]
  show (0 : Int) < (k.length : Int)
  have := h2 hf
  omega
/-- Going back to a place behind all keys of a node. -/
theorem upB_full {c : Int} {u : Tr} {p : List Int} (hw : Well u) (hf : Full u) (hx : ∀ x ∈ u.keys, x < c) (n : Nat) (hwn : u.weight ≤ n) :
    upB (p ++ sink c u) = (p ++ (downL n u).1, ((downL n u).2 : Int) - 1, true) := by
  obtain ⟨k, cs, -, -, h1, h2⟩ := downL_leaf n u hwn
  rw [sink_full n u hwn hw hx, ← List.append_assoc]
  have := h2 hf
  exact upB_stop (by omega)

/-- Going forward to a place behind all keys of a node. -/
theorem sink_len {c : Int} : ∀ (n : Nat) (u : Tr), u.weight ≤ n → Well u → (∀ x ∈ u.keys, x < c) → ∀ i, i < (sink c u).length → ∃ v, nodeTo ((sink c u).take i) u = some v ∧ (sink c u).getD i 0 = (v.ks.length : Int)
  | n, .mk k cs, hn, hw, hx => by
    have hp : place c k = k.length := place_full (fun x h => hx x ((own_sub k cs).subset h))
    by_cases h0 : cs.length = 0
    · rw [sink_leaf h0, hp]
      intro i hi
      have : i = 0 := by simpa using hi
      subst this
      exact ⟨_, rfl, rfl⟩
    · have hcl := Well.inner hw h0
      have hi : place c k < cs.length := by omega
      have hwt := weight_get_le cs _ hi
      simp only [weight] at hn
      cases n with
      | zero => have := length_le_weights cs; omega
      | succ n =>
        rw [sink_inner hi]
        intro i hi2
        cases i with
        | zero => exact ⟨_, rfl, by simp [hp, Tr.ks]⟩
        | succ i =>
          obtain ⟨v, h1, h2⟩ := sink_len n cs[place c k] (by omega) (hw.kid _ hi) (fun x h => hx x ((kid_sub _ hi).subset h)) i (by simpa using hi2)
          refine ⟨v, ?_, by simpa using h2⟩
          rw [List.take_succ_cons, nodeTo, if_pos ⟨by omega, by omega⟩, Int.toNat_natCast, List.getD_eq_getElem?_getD, List.getElem?_eq_getElem hi]
          exact h1
theorem upF_full {c : Int} {t u : Tr} {p : List Int} (hn : nodeTo p t = some u) (hw : Well u) (hx : ∀ x ∈ u.keys, x < c) : upF t (p ++ sink c u) = upF t p := by
  refine upF_skip (fun i hi => ?_)
  obtain ⟨v, h1, h2⟩ := sink_len u.weight u (Nat.le_refl _) hw hx i hi
  unfold stopF
  rw [getD_right (by omega), show p.length + i - p.length = i by omega, h2, List.take_append, List.take_of_length_le (by omega), show p.length + i - p.length = i by omega, lenAt_of (u := v) (by rw [nodeTo_append, hn]; exact h1)]
  simp
/-- Going back to a place ahead of all keys of a node. -/
theorem sink_least {c : Int} : ∀ (n : Nat) (u : Tr), u.weight ≤ n → Well u → (∀ x ∈ u.keys, c ≤ x) → ∀ i, i < (sink c u).length → (sink c u).getD i 0 = 0
  | n, .mk k cs, hn, hw, hx => by
    have hp : place c k = 0 := place_zero (fun x h => hx x ((own_sub k cs).subset h))
    by_cases h0 : cs.length = 0
    · rw [sink_leaf h0, hp]
      intro i hi
      have : i = 0 := by simpa using hi
      subst this
      rfl
    · have hi : place c k < cs.length := by omega
      have hwt := weight_get_le cs _ hi
      simp only [weight] at hn
      cases n with
      | zero => have := length_le_weights cs; omega
      | succ n =>
        rw [sink_inner hi]
        intro i hi2
        cases i with
        | zero => simp [hp]
        | succ i => simpa using sink_least n cs[place c k] (by omega) (hw.kid _ hi) (fun x h => hx x ((kid_sub _ hi).subset h)) i (by simpa using hi2)
theorem upB_zero {c : Int} {u : Tr} {p : List Int} (hw : Well u) (hx : ∀ x ∈ u.keys, c ≤ x) : upB (p ++ sink c u) = upB p :=
  upB_skip (fun i hi => by rw [sink_least u.weight u (Nat.le_refl _) hw hx i hi]; omega)

/-- The keys of two kids lie on both sides of the key between them. -/
theorem kid_sides {k : List Int} {cs : List Tr} (h : Well (.mk k cs)) (i : Nat) (hi : i < cs.length) {x : Int} (hx : x ∈ cs[i].keys) : (∀ j, j < i → k.getD j 0 < x) ∧ (i < k.length → x < k.getD i 0) := by
  have hcl := Well.inner h (by omega)
  obtain ⟨R, h1, -⟩ := upto_pre (keyss cs) k (i + 1) (max k.length cs.length) (by omega)
  have hk : (Tr.mk k cs).keys = upto (keyss cs) k i ++ (cs[i].keys ++ ((k[i]?).toList ++ R)) := by
    rw [Tr.keys, h1, upto_succ, part, keyss_get cs _ hi]; simp
  have hs := h.2
  rw [hk] at hs
  obtain ⟨-, s2, s3⟩ := List.pairwise_append.1 hs
  obtain ⟨-, -, s4⟩ := List.pairwise_append.1 s2
  have own : ∀ (j : Nat), j < k.length → ∀ i, j < i → k.getD j 0 ∈ upto (keyss cs) k i := by
    intro j hj i
    induction i with
    | zero => intro h; omega
    | succ i ih =>
      intro h
      rw [upto_succ]
      by_cases hji : j < i
      · exact List.mem_append_left _ (ih hji)
      · obtain rfl : j = i := by omega
        refine List.mem_append_right _ ?_
        unfold part
        refine List.mem_append_right _ ?_
        simp [hj, List.getD_eq_getElem?_getD]
  exact ⟨fun j hj => s3 _ (own j (by omega) i hj) x (List.mem_append_left _ hx), fun hik => s4 x hx _ (List.mem_append_left _ (by simp [hik, List.getD_eq_getElem?_getD]))⟩

theorem place_of {k : List Int} (h : k.Pairwise (· < ·)) {i : Nat} (hi : i < k.length) : place (k.getD i 0) k = i ∧ place (k.getD i 0 + 1) k = i + 1 := by
  have hp : ∀ a b, a < b → b < k.length → k.getD a 0 < k.getD b 0 := fun a b hab hb => by
    have := List.pairwise_iff_getElem.1 h a b (by omega) hb hab
    simpa [List.getD_eq_getElem?_getD, hb, show a < k.length by omega] using this
  constructor
  · exact place_eq (by omega) (fun j hj => hp j i hj hi) (fun _ => by omega)
  · refine place_eq (by omega) (fun j hj => ?_) (fun hj => by have := hp i (i + 1) (by omega) hj; omega)
    by_cases e : j = i
    · rw [e]; omega
    · have := hp j i (by omega) hi; omega

/-- Well and Full where a path leads. -/
theorem nodeTo_well : ∀ (p : List Int) {t u : Tr}, Well t → nodeTo p t = some u → Well u
  | [], t, u, h, hn => by simp only [nodeTo, Option.some.injEq] at hn; exact hn ▸ h
  | i :: p, .mk k c, u, h, hn => by
    simp only [nodeTo] at hn
    split at hn
    · rename_i hi
      have hN : i.toNat < c.length := by omega
      rw [List.getD_eq_getElem?_getD, List.getElem?_eq_getElem hN] at hn
      exact nodeTo_well p (h.kid _ hN) hn
    · cases hn
theorem nodeTo_tops : ∀ (p : List Int) {t u : Tr}, Tops t → nodeTo p t = some u → Tops u
  | [], t, u, h, hn => by simp only [nodeTo, Option.some.injEq] at hn; exact hn ▸ h
  | i :: p, .mk k c, u, h, hn => by
    simp only [nodeTo] at hn
    split at hn
    · rename_i hi
      have hN : i.toNat < c.length := by omega
      rw [List.getD_eq_getElem?_getD, List.getElem?_eq_getElem hN] at hn
      exact nodeTo_tops p (h.kid _ hN).tops hn
    · cases hn
theorem Tops.of_some {t : Tr} (h : t.someB = true) : Tops t := by
  obtain ⟨w, hw, hv⟩ : ∃ w : Int, 2 ≤ w ∧ validB w t = true := by
    unfold someB at h
    simp only [Bool.or_eq_true] at h
    rcases h with (((h | h) | h) | h) | h
    all_goals exact ⟨_, by omega, h⟩
  exact Tops.of_valid hv hw
end Tr
end Go.Proofs.YticfkfjijnfcbaaDoor
