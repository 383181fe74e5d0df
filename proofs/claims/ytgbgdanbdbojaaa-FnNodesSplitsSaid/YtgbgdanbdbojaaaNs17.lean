/- Inserting a key, as plain data. -/
import Derived.Test.YtgbgdanbdbojaaaProg
import Derived.Test.YtgbgdanbdbojaaaNs0
import Derived.Test.YtgbgdanbdbojaaaNs4
import Derived.Test.YtgbgdanbdbojaaaPlant
import Derived.Test.YtgbgdanbdbojaaaNs14
import Derived.Test.YtgbgdanbdbojaaaNs15
import Derived.Test.YtgbgdanbdbojaaaPathTo
import Derived.Test.YtgbgdanbdbojaaaNs11
import Derived.Test.YtgbgdanbdbojaaaPathSpec

/- The contract of the program's PathOf. -/
namespace Go.Proofs.Ytgbgdanbdbojaaa
open Go.RowKit

set_option maxRecDepth 100000 in
set_option maxHeartbeats 2000000 in
theorem impl_path {w : World} {B : Nat} {kv cv : Value} {t : Tr} (ht : TreeIn w B kv cv t) (hw : t.weight ≤ 1048576) (key : Int) (w' : World) (hbw : Below B w w') (hB : B ≤ w'.heap.size) :
    Calls Try.prog 69 #[.agg #[kv, cv], .int .i64 key] w' fun e w'' => ∃ v, e = .returned (.tuple #[v, .bool (t.pathB key).2]) ∧ IntsOwn w'' w'.heap.size v (t.pathB key).1 ∧ Below w'.heap.size w' w'' := by
  obtain ⟨a5, n5, m5, a6, n6, m6, rfl, rfl⟩ := ht.slices
  obtain ⟨W1, hW1⟩ : ∃ W1, W1 = w'.alloc (.cells #[.slice a5 n5 m5, .slice a6 n6 m6] 26) := ⟨_, rfl⟩
  have hs1 : W1.heap.size = w'.heap.size + 1 := by rw [hW1]; simp
  have hb1 : Below w'.heap.size w' W1 := by rw [hW1]; exact (Below.refl _ _).alloc (Nat.le_refl _) _
  have k0 : W1.heap[w'.heap.size]? = some (.cells #[.slice a5 n5 m5, .slice a6 n6 m6] 26 (0, 0)) := by rw [hW1, new_blk]
  obtain ⟨x1, x2, x3, x4⟩ := box2 k0
  have hsome := someB_path key t
  have HT := Lib.hid ht
  have HBW := Lib.hid hbw
  have HW1 := Lib.hid hW1
  have H1 := Lib.hid (And.intro hb1 k0)
  have HSOME := Lib.hid hsome
  clear ht hbw hW1 hb1 k0 hsome
  go_enter Try.func69, Try.ntmps69
  go_wp2_with fail
  rw [← HW1.out]
  refine (validForSome_c HT.out hw W1 (HBW.out.trans (H1.out.1.mono hB)) (by omega)).mono ?_
  rintro e w2 ⟨rfl, hb2⟩
  have hs2 := hb2.size
  clear x1 x2 x3 x4
  have j0 := (hb2.block _ (by omega)).trans H1.out.2
  obtain ⟨x1, x2, x3, x4⟩ := box2 j0
  have hb2' := H1.out.1.trans (hb2.mono (by omega))
  have H2 := Lib.hid hb2'
  have HB2 := Lib.hid (HBW.out.trans (hb2'.mono hB))
  clear hb2 hb2' j0
  cases hv : t.someB with
  | false =>
    have hp := HSOME.out.2 hv
    have HP := Lib.hid hp
    clear hp hv
    go_wp2_with fail
    refine bodyPost_ret (v := .tuple #[.slice none 0 0, .bool false]) (by simp [results, Try.results69, go_sem]) rfl ⟨.slice none 0 0, by rw [HP.out], by rw [HP.out]; exact ⟨rfl, .inl ⟨rfl, rfl⟩⟩, H2.out⟩
  | true =>
    have hp := HSOME.out.1 hv
    have hwell := Tr.Well.of_some hv
    have HP := Lib.hid hp
    have HWELL := Lib.hid hwell
    clear hp hv hwell
    go_wp2_with fail
    refine (plant_c HT.out hw _ HB2.out (by omega)).mono ?_
    rintro e w3 ⟨nb, rfl, hnd, hb3⟩
    have hs3 := hb3.size
    have HND := Lib.hid (And.intro hnd hb3)
    clear hnd hb3 x1 x2 x3 x4
    go_wp2_with fail
    refine (pathTo_c HND.out.1.nodeAt HWELL.out hw key w3 (Below.refl _ _) (Nat.le_refl _)).mono ?_
    rintro e w4 ⟨v, rfl, hown, hb4⟩
    obtain ⟨va, vc, rfl⟩ := IntsOwn.shown hown
    have H4 := Lib.hid (And.intro hown (H2.out.trans ((HND.out.2.mono (by omega)).trans (hb4.mono (by omega)))))
    clear hown hb4
    go_wp2_with fail
    refine bodyPost_ret (v := .tuple #[.slice va (t.path key).1.length vc, .bool (t.path key).2]) (by simp [results, Try.results69, go_sem]) rfl ⟨_, by rw [HP.out], by rw [HP.out]; exact IntsOwn.lower H4.out.1 (by omega), H4.out.2⟩
end Go.Proofs.Ytgbgdanbdbojaaa

/- The model's HasKey and VisitsOf, and the program's, over PathOf. -/
namespace Go.Proofs.Ytgbgdanbdbojaaa
open Go.RowKit

theorem tuple_ret {a : Value} {c d : Bool} (h : c = d) : Ending.returned (.tuple #[a, .bool c]) = .returned (.tuple #[a, .bool d]) := by rw [h]

set_option maxHeartbeats 1000000 in
theorem specHasKey_c {w : World} {B : Nat} {kv cv : Value} {t : Tr} (ht : TreeIn w B kv cv t) (hw : t.weight ≤ 1048576) (key : Int) (w' : World) (hbw : Below B w w') (hB : B ≤ w'.heap.size) :
    Calls Try.prog 54 #[.agg #[kv, cv], .int .i64 key] w' fun e w'' => e = .returned (.bool (t.pathB key).2) ∧ Below w'.heap.size w' w'' := by
  have HB := Lib.hid hbw
  have hb1 : Below w'.heap.size w' (w'.alloc (.cells #[kv, cv] 26)) := (Below.refl _ _).alloc (Nat.le_refl _) _
  clear hbw
  go_enter Try.func54, Try.ntmps54
  go_wp2_with fail
  refine (specPathOf_c ht hw key _ (HB.out.trans (hb1.mono hB)) (by simp; omega)).mono ?_
  rintro e w1 ⟨v, rfl, hv, hb2⟩
  obtain ⟨va, vc, rfl⟩ := IntsOwn.shown hv
  have HX := Lib.hid (hb1.trans (hb2.mono (by simp)))
  clear hb1 hb2 hv
  go_wp2_with fail
  go_ret
  exact ⟨rfl, HX.out⟩

set_option maxHeartbeats 1000000 in
theorem impl_has {w : World} {B : Nat} {kv cv : Value} {t : Tr} (ht : TreeIn w B kv cv t) (hw : t.weight ≤ 1048576) (key : Int) (w' : World) (hbw : Below B w w') (hB : B ≤ w'.heap.size) :
    Calls Try.prog 32 #[.agg #[kv, cv], .int .i64 key] w' fun e w'' => e = .returned (.bool (t.pathB key).2) ∧ Below w'.heap.size w' w'' := by
  have HB := Lib.hid hbw
  have hb1 : Below w'.heap.size w' (w'.alloc (.cells #[kv, cv] 26)) := (Below.refl _ _).alloc (Nat.le_refl _) _
  clear hbw
  go_enter Try.func32, Try.ntmps32
  go_wp2_with fail
  refine (impl_path ht hw key _ (HB.out.trans (hb1.mono hB)) (by simp; omega)).mono ?_
  rintro e w1 ⟨v, rfl, hv, hb2⟩
  obtain ⟨va, vc, rfl⟩ := IntsOwn.shown hv
  have HX := Lib.hid (hb1.trans (hb2.mono (by simp)))
  clear hb1 hb2 hv
  go_wp2_with fail
  go_ret
  exact ⟨rfl, HX.out⟩

/-- How many nodes are visited. -/
def Tr.visitsB (key : Int) (t : Tr) : Int := if t.someB then ((t.pathB key).1.length : Int) + 1 else -1
theorem visitsB_is (key : Int) (t : Tr) : (t.someB = true → t.visitsB key = ((t.pathB key).1.length : Int) + 1) ∧ (t.someB = false → t.visitsB key = -1) := by
  unfold Tr.visitsB
  constructor <;> intro h <;> simp [h]
theorem pathB_len (key : Int) (t : Tr) : (t.pathB key).1.length ≤ t.weight := by
  unfold Tr.pathB
  split
  · exact Tr.path_len key t
  · simp


-- END

set_option maxHeartbeats 1000000 in
theorem impl_visits {w : World} {B : Nat} {kv cv : Value} {t : Tr} (ht : TreeIn w B kv cv t) (hw : t.weight ≤ 1048576) (key : Int) (w' : World) (hbw : Below B w w') (hB : B ≤ w'.heap.size) :
    Calls Try.prog 33 #[.agg #[kv, cv], .int .i64 key] w' fun e w'' => e = .returned (.int .i64 (t.visitsB key)) ∧ Below w'.heap.size w' w'' := by
  obtain ⟨a5, n5, m5, a6, n6, m6, rfl, rfl⟩ := ht.slices
  obtain ⟨W1, hW1⟩ : ∃ W1, W1 = w'.alloc (.cells #[.slice a5 n5 m5, .slice a6 n6 m6] 26) := ⟨_, rfl⟩
  have hs1 : W1.heap.size = w'.heap.size + 1 := by rw [hW1]; simp
  have hb1 : Below w'.heap.size w' W1 := by rw [hW1]; exact (Below.refl _ _).alloc (Nat.le_refl _) _
  have kb : W1.heap[w'.heap.size]? = some (.cells #[.slice a5 n5 m5, .slice a6 n6 m6] 26 (0, 0)) := by rw [hW1, new_blk]
  obtain ⟨x1, x2, x3, x4⟩ := box2 kb
  have hv := visitsB_is key t
  have hl := pathB_len key t
  have HB := Lib.hid hbw
  have HT := Lib.hid ht
  have HW1 := Lib.hid hW1
  have H1 := Lib.hid (And.intro hb1 kb)
  have HV := Lib.hid hv
  clear hbw ht hW1 hb1 kb hv
  go_enter Try.func33, Try.ntmps33
  go_wp2_with fail
  rw [← HW1.out]
  refine (validForSome_c HT.out hw W1 (HB.out.trans (H1.out.1.mono hB)) (by omega)).mono ?_
  rintro e w2 ⟨rfl, hb2⟩
  have hs2 := hb2.size
  have kb2 := (hb2.block w'.heap.size (by omega)).trans H1.out.2
  clear x1 x2 x3 x4
  obtain ⟨x1, x2, x3, x4⟩ := box2 kb2
  have H2 := Lib.hid (H1.out.1.trans (hb2.mono (by omega)))
  clear hb2 kb2
  cases hsb : t.someB with
  | false =>
    have h := HV.out.2 hsb
    have HZ := Lib.hid h
    have HSB := Lib.hid hsb
    clear h hsb
    go_wp2_with fail
    go_ret
    exact ⟨ret_int HZ.out.symm, H2.out⟩
  | true =>
    have h := HV.out.1 hsb
    have HZ := Lib.hid h
    have HSB := Lib.hid hsb
    clear h hsb
    go_wp2_with fail
    refine (impl_path HT.out hw key _ (HB.out.trans (H2.out.mono hB)) (by omega)).mono ?_
    rintro e w3 ⟨v, rfl, hv, hb3⟩
    obtain ⟨va, vc, rfl⟩ := IntsOwn.shown hv
    have H3 := Lib.hid (H2.out.trans (hb3.mono (by omega)))
    clear hb3 hv x1 x2 x3 x4
    go_wp2_with fail
    go_ret
    exact ⟨ret_int HZ.out.symm, H3.out⟩

end Go.Proofs.Ytgbgdanbdbojaaa

/- Inserting a key, as plain data. -/
namespace Go.Proofs.Ytgbgdanbdbojaaa
open Go.RowKit

/-- A list with one element more, at a place. -/
def putAt {α : Type} (k : List α) (i : Nat) (x : α) : List α := k.take i ++ x :: k.drop i
theorem putAt_length {α : Type} {k : List α} {i : Nat} {x : α} (h : i ≤ k.length) : (putAt k i x).length = k.length + 1 := by simp [putAt]; omega
theorem putAt_map {α β : Type} (f : α → β) (k : List α) (i : Nat) (x : α) : (putAt k i x).map f = putAt (k.map f) i (f x) := by simp [putAt, List.map_take, List.map_drop]

namespace Tr
def leftOf : Tr → Tr | .mk k c => .mk (k.take (k.length / 2)) (c.take (k.length / 2 + 1))
def rightOf : Tr → Tr | .mk k c => .mk (k.drop (k.length / 2 + 1)) (c.drop (k.length / 2 + 1))
def midOf : Tr → Int | .mk k _ => k.getD (k.length / 2) 0
/-- A node in which the kid at a place has been split. -/
def splitKid (k : List Int) (c : List Tr) (i : Nat) (u : Tr) : Tr := .mk (putAt k i u.midOf) (c.take i ++ u.leftOf :: u.rightOf :: c.drop (i + 1))
def setKid (c : List Tr) (i : Nat) (u : Tr) : List Tr := c.take i ++ u :: c.drop (i + 1)

/-- What a node becomes when the kid at a place has become another one, and how many have been split. -/
def growStep (wide : Int) (k : List Int) (c : List Tr) (i : Nat) (r : Tr × Nat) : Tr × Nat :=
  if wide < r.1.ks.length then (splitKid k c i r.1, r.2 + 1) else (.mk k (setKid c i r.1), r.2)
mutual
/-- What a node becomes by a key; it may have too many itself. -/
def grow (wide key : Int) : Tr → Tr × Nat
  | .mk k c => if c.length = 0 then (.mk (putAt k (place key k) key) [], 0) else growStep wide k c (place key k) ((grows wide key c).getD (place key k) (.mk [] [], 0))
def grows (wide key : Int) : List Tr → List (Tr × Nat)
  | [] => []
  | t :: r => grow wide key t :: grows wide key r
end
theorem grows_get (wide key : Int) (c : List Tr) (i : Nat) (h : i < c.length) : (grows wide key c).getD i (.mk [] [], 0) = grow wide key c[i] := by
  induction c generalizing i with
  | nil => simp at h
  | cons t r ih =>
    cases i with
    | zero => rfl
    | succ i => simpa [grows] using ih i (by simpa using h)
theorem grow_leaf {wide key : Int} {k : List Int} {c : List Tr} (h : c.length = 0) : grow wide key (.mk k c) = (.mk (putAt k (place key k) key) [], 0) := by rw [grow, if_pos h]
theorem grow_inner {wide key : Int} {k : List Int} {c : List Tr} (h : place key k < c.length) : grow wide key (.mk k c) = growStep wide k c (place key k) (grow wide key c[place key k]) := by
  rw [grow, if_neg (by omega), grows_get _ _ _ _ h]

theorem grow_keys_le (wide key : Int) (t : Tr) : (grow wide key t).1.ks.length ≤ t.ks.length + 1 := by
  cases t with
  | mk k c =>
    have hp := place_le key k
    by_cases h : c.length = 0
    · rw [grow_leaf h]; show (putAt k _ key).length ≤ k.length + 1; rw [putAt_length hp]; omega
    · rw [grow, if_neg h]
      unfold growStep
      split
      · show (putAt k _ _).length ≤ k.length + 1; rw [putAt_length hp]; omega
      · show k.length ≤ k.length + 1; omega

/-- The tree that is left when the top node has been split, too, if it has too many. -/
def insT (wide key : Int) (t : Tr) : Tr :=
  let u := (grow wide key t).1
  if wide < u.ks.length then .mk [u.midOf] [u.leftOf, u.rightOf] else u
def insN (wide key : Int) (t : Tr) : Nat :=
  let r := grow wide key t
  if wide < r.1.ks.length then r.2 + 1 else r.2
def insG (wide key : Int) (t : Tr) : Bool := decide (wide < ((grow wide key t).1.ks.length : Int))

theorem insT_step (wide key : Int) (t : Tr) : growStep wide [] [t] 0 (grow wide key t) = (if insG wide key t then (insT wide key t, insN wide key t) else (.mk [] [insT wide key t], insN wide key t)) := by
  unfold growStep insG insT insN
  by_cases h : wide < ((grow wide key t).1.ks.length : Int)
  · simp [h, splitKid, putAt]
  · simp [h, setKid]

theorem setKid_length {c : List Tr} {i : Nat} {u : Tr} (h : i < c.length) : (setKid c i u).length = c.length := by simp [setKid]; omega

mutual
/-- How many splits a key makes at most: as many as there are nodes. -/
theorem grow_count (wide key : Int) : ∀ t : Tr, (grow wide key t).2 ≤ t.weight
  | .mk k c => by
    rw [grow]
    split
    · simp
    · rename_i hc
      have h := grows_count wide key c (place key k) (by cases c <;> simp_all)
      unfold growStep
      simp only [weight]
      split <;> dsimp only <;> omega
theorem grows_count (wide key : Int) : ∀ (c : List Tr) (i : Nat), 0 < c.length → ((grows wide key c).getD i (.mk [] [], 0)).2 + 1 ≤ weights c
  | [], i, h => by simp at h
  | t :: r, i, _ => by
    have h1 := grow_count wide key t
    cases i with
    | zero => simp [grows, weights]; omega
    | succ i =>
      by_cases hr : 0 < r.length
      · have h2 := grows_count wide key r i hr
        simp only [grows, List.getD_cons_succ, weights]
        omega
      · have : r = [] := by cases r <;> simp_all
        subst this
        simp [grows, weights]
end
end Tr
end Go.Proofs.Ytgbgdanbdbojaaa
