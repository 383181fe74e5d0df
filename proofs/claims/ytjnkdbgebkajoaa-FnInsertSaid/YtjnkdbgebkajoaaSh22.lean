/- The contracts of the functions that mark a result and look whether the marks held. -/
import Derived.Test.YtjnkdbgebkajoaaProg
import Derived.Test.YtjnkdbgebkajoaaSh0
import Derived.Deep.AppendLies
import Derived.Test.YtjnkdbgebkajoaaSh12
import Derived.Deep.Cut
import Derived.Test.YtjnkdbgebkajoaaTo

/- append of ints at a step of a region that draws its order. -/
namespace Go.Proofs.Ytjnkdbgebkajoaa
open Go.RowKit

theorem IntsAt.of_block {w : World} {m : Nat} {x : Int} {ty : TypeId} {fr : Nat × Nat} (h : w.heap[m]? = some (.cells #[.int .i64 x] ty fr)) : IntsAt w (.slice (some ⟨m, 0, none⟩) 1 1) [x] :=
  ⟨_, _, rfl, by simp, .inr ⟨_, 0, rfl, fun i hi => by
    obtain rfl : i = 0 := by simpa using hi
    rw [cell_of_row w m 0 _ ty fr h]; rfl⟩⟩

/-- 'append(out, more...)' at a step of a region that draws. -/
theorem step_append_ints {w : World} {ops : Array Oper} {o : Oper} {a : Act} {K : Act → World → Prop} {Q : Exit → Act → World → Prop} {E : Prop} (hgd : o.guard = none) (s x : Operand)
    (ho : o.op = .call { callee := .builtin .append, args := #[s, x], argTypes := #[23, 23] })
    (lo : Nat) (v y : Value) (xs ms : List Int) (hs : a.eval s = v) (hown : IntsOwn w lo v xs) (hx : a.eval x = y) (hsrc : IntsAt w y ms)
    (hlen : xs.length + ms.length ≤ 17592186044416) (hlo : lo ≤ w.heap.size)
    (h : ∀ v' w', IntsOwn w' lo v' (xs ++ ms) → Below lo w w' → w.grownBy w' v.ownBlock → (∃ a c, v' = .slice a (xs ++ ms).length c) → K (a.put o.dst v') w') :
    if Region.wanted o (yielded ops a.tmps) = true then Oper.wp Try.prog o a w K Q else E := by
  have hw : Region.wanted o (yielded ops a.tmps) = true := by simp [Region.wanted, hgd]
  rw [if_pos hw]
  obtain ⟨i0, hi, hz0, hz1, hz2⟩ := info_parts Try.appInfo
  obtain ⟨pa, cap, rfl, hnl, hat⟩ := hsrc
  rcases pa with _ | p
  · obtain rfl := hnl rfl
    obtain rfl : ms = [] := by
      rcases hat with h | ⟨b, o, h, _⟩
      · exact h
      · cases h
    have hk := h v w (by simpa using hown) (Below.refl _ _) (World.grownBy.refl _ _) (by simpa using IntsOwn.shown hown)
    have hrun := run_append_owned_none (P := Try.prog) (w := w) lo 23 o.type 3 i0 1 Try.underlying23 hi v _ _ hown
    unfold Oper.wp
    simp only [List.length_nil] at hx
    simp [execOp, ho, resolve, invoke, builtin, hs, hx, hrun, Result.andThen]
    exact hk
  · refine wp_append_own w s x 23 ho lo 3 i0 (.int .i64 0) 1 8 Try.underlying23 hi hz0 hz1 hz2 rfl (by decide) v _ _ hs hown p ms.length cap (ms.map (Value.int .i64)) hx (by simp) (fun j u hj => ?_) (ints_oneCell .i64 ms) (by unfold maxLen; omega) (by omega) hlo (fun v' w' hown' hgrow _ => ?_)
    · have hjl : j < ms.length := by
        have := (List.getElem?_eq_some_iff.1 hj).1
        simpa using this
      rcases hat with h | ⟨b, o, h, hc⟩
      · simp [h] at hjl
      · cases h
        have hu : u = .int .i64 (ms.getD j 0) := by
          rw [List.getElem?_map] at hj
          simp [hjl] at hj
          simp [← hj, hjl]
        rw [hu, Addr.add_lit]
        exact hc j hjl
    · have hown2 : IntsOwn w' lo v' (xs ++ ms) := by
        unfold IntsOwn
        rw [List.length_append, List.map_append]
        exact hown'
      exact h v' w' hown2 ((Below.refl lo w).grown hgrow hlo (fun k hk => (hown.lt k hk).1)) hgrow (IntsOwn.shown hown2)

/-- The empty row, and the row of one, in whatever order they are laid. -/
theorem made1 (w : World) : IntsOwn (w.alloc (.cells #[] 3)).drew w.heap.size (.slice (some ⟨w.heap.size, 0, none⟩) 0 0) [] := World.ownsRow_made w #[] 0 (Nat.le_refl _) (by unfold maxLen; omega) rfl
theorem made2 (w : World) (o : Obj) : IntsOwn ((w.alloc (.cells #[] 3)).alloc o).drew w.heap.size (.slice (some ⟨w.heap.size, 0, none⟩) 0 0) [] := IntsOwn.alloc' (made1 w) o
theorem made3 (w : World) (o : Obj) : IntsOwn ((w.alloc o).alloc (.cells #[] 3)).drew w.heap.size (.slice (some ⟨w.heap.size + 1, 0, none⟩) 0 0) [] := by
  have h := made1 (w.alloc o)
  rw [show (w.alloc o).heap.size = w.heap.size + 1 by simp] at h
  exact IntsOwn.lower h (by omega)
theorem key1 {w w' : World} {o : Obj} {x : Int} {r : Option Nat} (hg : ((w.alloc o).alloc (.cells #[.int .i64 x] 3)).drew.grownBy w' r) (hr : some (w.heap.size + 1) ≠ r) : IntsAt w' (.slice (some ⟨w.heap.size + 1, 0, none⟩) 1 1) [x] := by
  refine IntsAt.of_block (ty := 3) (fr := (0, 0)) ((hg.block (w.heap.size + 1) (by simp) hr).trans ?_)
  show ((w.alloc o).alloc (.cells #[.int .i64 x] 3)).heap[w.heap.size + 1]? = _
  rw [show w.heap.size + 1 = (w.alloc o).heap.size by simp, new_blk]
theorem key2 {w w' : World} {o : Obj} {x : Int} {r : Option Nat} (hg : ((w.alloc (.cells #[.int .i64 x] 3)).alloc o).drew.grownBy w' r) (hr : some w.heap.size ≠ r) : IntsAt w' (.slice (some ⟨w.heap.size, 0, none⟩) 1 1) [x] := by
  refine IntsAt.of_block (ty := 3) (fr := (0, 0)) ((hg.block w.heap.size (by simp; omega) hr).trans ?_)
  show ((w.alloc (.cells #[.int .i64 x] 3)).alloc o).heap[w.heap.size]? = _
  rw [old_blk _ _ _ (by simp), new_blk]
end Go.Proofs.Ytjnkdbgebkajoaa

/- Inserting a key, as plain data. -/
namespace Go.Proofs.Ytjnkdbgebkajoaa
open Go.RowKit

/-- A list with one element more, at a place. -/
def putAt {α : Type} (k : List α) (i : Nat) (x : α) : List α := k.take i ++ x :: k.drop i
theorem putAt_length {α : Type} {k : List α} {i : Nat} {x : α} (h : i ≤ k.length) : (putAt k i x).length = k.length + 1 := by simp [putAt]; omega
theorem putAt_map {α β : Type} (f : α → β) (k : List α) (i : Nat) (x : α) : (putAt k i x).map f = putAt (k.map f) i (f x) := by simp [putAt, List.map_take, List.map_drop]

namespace Tr
def leftOf : Tr → Tr | .mk k c => .mk (k.take (k.length / 2)) (c.take (k.length / 2 + 1))
def rightOf : Tr → Tr | .mk k c => .mk (k.drop (k.length / 2 + 1)) (c.drop (k.length / 2 + 1))
def midOf : Tr → Int | .mk k _ => k.getD (k.length / 2) 0
/-- A node in which the kid at a place has been split. -/
def splitKid (k : List Int) (c : List Tr) (i : Nat) (u : Tr) : Tr := .mk (putAt k i u.midOf) (c.take i ++ u.leftOf :: u.rightOf :: c.drop (i + 1))
def setKid (c : List Tr) (i : Nat) (u : Tr) : List Tr := c.take i ++ u :: c.drop (i + 1)

/-- What a node becomes when the kid at a place has become another one, and how many have been split. -/
def growStep (wide : Int) (k : List Int) (c : List Tr) (i : Nat) (r : Tr × Nat) : Tr × Nat :=
  if wide < r.1.ks.length then (splitKid k c i r.1, r.2 + 1) else (.mk k (setKid c i r.1), r.2)
mutual
/-- What a node becomes by a key; it may have too many itself. -/
def grow (wide key : Int) : Tr → Tr × Nat
  | .mk k c => if c.length = 0 then (.mk (putAt k (place key k) key) [], 0) else growStep wide k c (place key k) ((grows wide key c).getD (place key k) (.mk [] [], 0))
def grows (wide key : Int) : List Tr → List (Tr × Nat)
  | [] => []
  | t :: r => grow wide key t :: grows wide key r
end
theorem grows_get (wide key : Int) (c : List Tr) (i : Nat) (h : i < c.length) : (grows wide key c).getD i (.mk [] [], 0) = grow wide key c[i] := by
  induction c generalizing i with
  | nil => simp at h
  | cons t r ih =>
    cases i with
    | zero => rfl
    | succ i => simpa [grows] using ih i (by simpa using h)
theorem grow_leaf {wide key : Int} {k : List Int} {c : List Tr} (h : c.length = 0) : grow wide key (.mk k c) = (.mk (putAt k (place key k) key) [], 0) := by rw [grow, if_pos h]
theorem grow_inner {wide key : Int} {k : List Int} {c : List Tr} (h : place key k < c.length) : grow wide key (.mk k c) = growStep wide k c (place key k) (grow wide key c[place key k]) := by
  rw [grow, if_neg (by omega), grows_get _ _ _ _ h]

theorem grow_keys_le (wide key : Int) (t : Tr) : (grow wide key t).1.ks.length ≤ t.ks.length + 1 := by
  cases t with
  | mk k c =>
    have hp := place_le key k
    by_cases h : c.length = 0
    · rw [grow_leaf h]; show (putAt k _ key).length ≤ k.length + 1; rw [putAt_length hp]; omega
    · rw [grow, if_neg h]
      unfold growStep
      split
      · show (putAt k _ _).length ≤ k.length + 1; rw [putAt_length hp]; omega
      · show k.length ≤ k.length + 1; omega

/-- The tree that is left when the top node has been split, too, if it has too many. -/
def insT (wide key : Int) (t : Tr) : Tr :=
  let u := (grow wide key t).1
  if wide < u.ks.length then .mk [u.midOf] [u.leftOf, u.rightOf] else u
def insN (wide key : Int) (t : Tr) : Nat :=
  let r := grow wide key t
  if wide < r.1.ks.length then r.2 + 1 else r.2
def insG (wide key : Int) (t : Tr) : Bool := decide (wide < ((grow wide key t).1.ks.length : Int))

theorem insT_step (wide key : Int) (t : Tr) : growStep wide [] [t] 0 (grow wide key t) = (if insG wide key t then (insT wide key t, insN wide key t) else (.mk [] [insT wide key t], insN wide key t)) := by
  unfold growStep insG insT insN
  by_cases h : wide < ((grow wide key t).1.ks.length : Int)
  · simp [h, splitKid, putAt]
  · simp [h, setKid]

theorem setKid_length {c : List Tr} {i : Nat} {u : Tr} (h : i < c.length) : (setKid c i u).length = c.length := by simp [setKid]; omega

mutual
/-- How many splits a key makes at most: as many as there are nodes. -/
theorem grow_count (wide key : Int) : ∀ t : Tr, (grow wide key t).2 ≤ t.weight
  | .mk k c => by
    rw [grow]
    split
    · simp
    · rename_i hc
      have h := grows_count wide key c (place key k) (by cases c <;> simp_all)
      unfold growStep
      simp only [weight]
      split <;> dsimp only <;> omega
theorem grows_count (wide key : Int) : ∀ (c : List Tr) (i : Nat), 0 < c.length → ((grows wide key c).getD i (.mk [] [], 0)).2 + 1 ≤ weights c
  | [], i, h => by simp at h
  | t :: r, i, _ => by
    have h1 := grow_count wide key t
    cases i with
    | zero => simp [grows, weights]; omega
    | succ i =>
      by_cases hr : 0 < r.length
      · have h2 := grows_count wide key r i hr
        simp only [grows, List.getD_cons_succ, weights]
        omega
      · have : r = [] := by cases r <;> simp_all
        subst this
        simp [grows, weights]
end
end Tr
end Go.Proofs.Ytjnkdbgebkajoaa

/- The model's l3Put. -/
namespace Go.Proofs.Ytjnkdbgebkajoaa
open Go.RowKit

/-- A part of a slice of ints. -/
theorem IntsAt.part {w : World} {b o n : Nat} {ks : List Int} (h : ∀ i, i < ks.length → w.cell? ⟨b, o + i, none⟩ = some (.int .i64 (ks.getD i 0))) (lo hi cap : Nat) (h1 : lo ≤ hi) (h2 : hi ≤ ks.length) (hn : n = hi - lo) :
    IntsAt w (.slice (some ⟨b, o + lo, none⟩) n cap) ((ks.drop lo).take (hi - lo)) := by
  have hl : ((ks.drop lo).take (hi - lo)).length = hi - lo := by simp; omega
  refine ⟨some ⟨b, o + lo, none⟩, cap, by rw [hl, hn], by simp, .inr ⟨b, o + lo, rfl, fun i hi' => ?_⟩⟩
  rw [hl] at hi'
  rw [show o + lo + i = o + (lo + i) by omega, h (lo + i) (by omega)]
  simp [List.getD_eq_getElem?_getD, hi']
theorem IntsAt.none' {w : World} (a : Option Addr) (cap : Nat) (h : a = none → cap = 0) : IntsAt w (.slice a 0 cap) [] := ⟨a, cap, rfl, h, .inl rfl⟩

set_option maxRecDepth 100000 in
set_option maxHeartbeats 2000000 in
theorem l3Put_c (w : World) (B : Nat) (v : Value) (k : List Int) (i : Nat) (key : Int) (hk : IntsIn w B v k) (hB : B ≤ w.heap.size) (hi : i ≤ k.length) (hn : k.length ≤ 1048576) :
    Calls Try.prog 118 #[v, .int .i64 i, .int .i64 key] w fun e w' => ∃ v', e = .returned v' ∧ IntsOwn w' w.heap.size v' (putAt k i key) ∧ Below w.heap.size w w' := by
  obtain ⟨a, cap, rfl, h1, h2, h3, h4⟩ := hk
  unfold maxLen at h2
  obtain ⟨W1, hW1⟩ : ∃ W1, W1 = w.alloc (.cells #[] 3) := ⟨_, rfl⟩
  have hs1 : W1.heap.size = w.heap.size + 1 := by rw [hW1]; simp
  have hb1 : Below w.heap.size w W1 := by rw [hW1]; exact (Below.refl _ _).alloc (Nat.le_refl _) _
  have h00 : IntsOwn W1 w.heap.size (.slice (some ⟨w.heap.size, 0, none⟩) 0 0) [] := by rw [hW1]; exact World.ownsRow_made w #[] 0 (Nat.le_refl _) (by unfold maxLen; omega) rfl
  have hfront : ∀ W, Below w.heap.size w W → IntsAt W (.slice a i cap) (k.take i) := fun W hb => by
    rcases h4 with h4 | ⟨b, o, rfl, h5, h6⟩
    · have e : i = 0 := by rw [h4] at hi; simpa using hi
      rw [e, List.take_zero]
      exact IntsAt.none' a cap h3
    · have h := IntsAt.part (w := W) (b := b) (o := o) (n := i) (ks := k) (fun j hj => by rw [below_cell hb (by omega)]; exact h6 j hj) 0 i cap (by omega) hi (by omega)
      simpa using h
  have hback : ∀ W, Below w.heap.size w W → ∀ a' c', (i < k.length → (∃ b o, a = some ⟨b, o, none⟩ ∧ a' = some ⟨b, o + i, none⟩)) → (a' = none → c' = 0) → IntsAt W (.slice a' (k.length - i) c') (k.drop i) := fun W hb a' c' ha hc => by
    by_cases hik : i < k.length
    · obtain ⟨b, o, rfl, rfl⟩ := ha hik
      rcases h4 with h4 | ⟨b', o', e, h5, h6⟩
      · rw [h4] at hik; simp at hik
      · simp only [Option.some.injEq, Addr.mk.injEq, and_true] at e
        obtain ⟨rfl, rfl⟩ := e
        have h := IntsAt.part (w := W) (b := b) (o := o) (n := k.length - i) (ks := k) (fun j hj => by rw [below_cell hb (by omega)]; exact h6 j hj) i k.length c' (by omega) (Nat.le_refl _) rfl
        rwa [List.take_of_length_le (by simp)] at h
    · rw [show k.length - i = 0 by omega, List.drop_eq_nil_of_le (by omega)]
      exact IntsAt.none' a' c' hc
  have hsome : i < k.length → ∃ b o, a = some ⟨b, o, none⟩ := fun h => by
    rcases h4 with h4 | ⟨b, o, e, _⟩
    · rw [h4] at h; simp at h
    · exact ⟨b, o, e⟩
  have HW1 := Lib.hid hW1
  have H1 := Lib.hid (And.intro hb1 (And.intro h00 hs1))
  have HF := Lib.hid hfront
  have HBK := Lib.hid hback
  have HS := Lib.hid (And.intro hsome h3)
  have hlen1 : (([] : List Int).length + (k.take i).length) ≤ 17592186044416 := by simp; omega
  have HLEN := Lib.hid hlen1
  clear hW1 hs1 hb1 h00 hfront hback h4 hsome hlen1 h3
  go_enter Try.func118, Try.ntmps118
  go_upto_region 1 with (fail)
  go_upto_region 2 with (at_builtin; rw [← HW1.out]; refine wpList_append_ints rfl _ _ rfl w.heap.size _ _ [] (k.take i) rfl H1.out.2.1 rfl (HF.out _ H1.out.1) HLEN.out (by have := H1.out.2.2; omega) ?_; intro v2 w2 hown2 hbel2 _ hsh2; obtain ⟨a2, c2, rfl⟩ := hsh2; generalize hL2 : ([] : List Int) ++ k.take i = L2 at hown2 ⊢; have H2 := Lib.hid (And.intro hown2 (And.intro (H1.out.1.trans hbel2) hL2)); clear hown2 hbel2 hL2)
  have hs2 := H2.out.2.1.size
  have hl2 : L2.length ≤ 1048576 := by rw [← H2.out.2.2]; simp; omega
  have HL2 := Lib.hid hl2
  clear hl2
  go_upto_region 3 with (at_builtin; refine wpList_append_ints rfl _ _ rfl w.heap.size _ _ L2 [key] rfl (IntsOwn.alloc' H2.out.1 _) rfl (IntsAt.one w2 key) (by have := HL2.out; simp; omega) (by simp; omega) ?_; intro v3 w3 hown3 hbel3 _ hsh3; obtain ⟨a3, c3, rfl⟩ := hsh3; generalize hL3 : L2 ++ [key] = L3 at hown3 ⊢; have H3 := Lib.hid (And.intro hown3 (And.intro ((H2.out.2.1.alloc hs2 _).trans hbel3) hL3)); clear hown3 hbel3 hL3)
  have hs3 := H3.out.2.1.size
  have hl3 : L3.length ≤ 1048577 := by rw [← H3.out.2.2]; have := HL2.out; simp; omega
  have HL3 := Lib.hid hl3
  clear hl3
  have hii : (i : Int) ≤ (k.length : Int) := by omega
  have hfin : ∀ v' w', IntsOwn w' w.heap.size v' (L3 ++ k.drop i) → IntsOwn w' w.heap.size v' (putAt k i key) := fun v' w' h => by
    rw [← H3.out.2.2, ← H2.out.2.2] at h
    simpa [putAt] using h
  have HFIN := Lib.hid hfin
  clear hfin
  by_cases hik : i < k.length
  · obtain ⟨b, o, rfl⟩ := HS.out.1 hik
    have hci : ¬ cap = i := by omega
    go_wp2_with (at_builtin; refine wpList_append_ints rfl _ _ rfl w.heap.size _ _ L3 (k.drop i) rfl H3.out.1 rfl (HBK.out _ H3.out.2.1 _ _ (fun h => ⟨b, o, rfl, rfl⟩) (fun h => by simp at h)) (by have := HL3.out; simp; omega) (by omega) ?_; intro v4 w4 hown4 hbel4 _ hsh4; obtain ⟨a4, c4, rfl⟩ := hsh4; generalize hL4 : L3 ++ k.drop i = L4 at hown4 ⊢; have H4 := Lib.hid (And.intro hown4 (And.intro (H3.out.2.1.trans hbel4) hL4)); clear hown4 hbel4 hL4)
    go_ret
    exact ⟨_, rfl, HFIN.out _ _ (by rw [H4.out.2.2]; exact H4.out.1), H4.out.2.1⟩
  · have hd : k.drop i = [] := List.drop_eq_nil_of_le (by omega)
    have HD := Lib.hid hd
    clear hd
    obtain rfl : i = k.length := by omega
    by_cases hci : cap = k.length
    · subst hci
      go_wp2_with (at_builtin; refine wpList_append_ints rfl _ _ rfl w.heap.size _ _ L3 [] rfl H3.out.1 rfl (IntsAt.none' _ _ (fun _ => rfl)) (by have := HL3.out; simp; omega) (by omega) ?_; intro v4 w4 hown4 hbel4 _ hsh4; obtain ⟨a4, c4, rfl⟩ := hsh4; generalize hL4 : L3 ++ ([] : List Int) = L4 at hown4 ⊢; have H4 := Lib.hid (And.intro hown4 (And.intro (H3.out.2.1.trans hbel4) hL4)); clear hown4 hbel4 hL4)
      go_ret
      exact ⟨_, rfl, HFIN.out _ _ (by rw [HD.out, H4.out.2.2]; exact H4.out.1), H4.out.2.1⟩
    · rcases a with _ | ⟨b, o, sp⟩
      · have := HS.out.2 rfl; omega
      · go_wp2_with (at_builtin; refine wpList_append_ints rfl _ _ rfl w.heap.size _ _ L3 [] rfl H3.out.1 rfl (IntsAt.none' _ _ (fun h => by simp at h)) (by have := HL3.out; simp; omega) (by omega) ?_; intro v4 w4 hown4 hbel4 _ hsh4; obtain ⟨a4, c4, rfl⟩ := hsh4; generalize hL4 : L3 ++ ([] : List Int) = L4 at hown4 ⊢; have H4 := Lib.hid (And.intro hown4 (And.intro (H3.out.2.1.trans hbel4) hL4)); clear hown4 hbel4 hL4)
        go_ret
        exact ⟨_, rfl, HFIN.out _ _ (by rw [HD.out, H4.out.2.2]; exact H4.out.1), H4.out.2.1⟩
end Go.Proofs.Ytjnkdbgebkajoaa

/- The contracts of the functions that mark a result and look whether the marks held. -/
namespace Go.Proofs.Ytjnkdbgebkajoaa
open Go.RowKit

/-- n numbers from k on. -/
def marks (k : Int) (n : Nat) : List Int := (List.range n).map (fun (i : Nat) => k + (i : Int))
theorem marks_length (k : Int) (n : Nat) : (marks k n).length = n := by simp [marks]
theorem marks_get (k : Int) (n i : Nat) (h : i < n) : (marks k n).getD i 0 = k + i := by simp [marks, h]

/-- Marking a row of ints: block g. -/
theorem markRow_c (g n cap : Nat) (k : Int) (c : Array Value) (w : World) (hc : w.heap[g]? = some (.cells c 3 (0, 0))) (hn : n ≤ c.size) (hcap : n ≤ 1048576) (hi : ∀ i, i < n → ∃ x : Int, c[i]? = some (.int .i64 x)) (h0 : 0 ≤ k) (h1 : k ≤ 1099511627776) :
    Calls Try.prog 52 #[.slice (some ⟨g, 0, none⟩) n cap, .int .i64 k] w fun e w' => e = .returned (.int .i64 (k + n)) ∧
      ∃ c' : Array Value, w'.heap[g]? = some (.cells c' 3 (0, 0)) ∧ c'.size = c.size ∧ (∀ i, i < n → c'[i]? = some (.int .i64 (k + (i : Int)))) ∧ w.grownBy w' (some g) := by
  have HC := Lib.hid hc
  have HI := Lib.hid hi
  clear hc hi
  go_enter Try.func52, Try.ntmps52
  go_wp2_with fail
  go_loopw [1, 5] (fun l i wr => ∃ (j : Nat) (c' : Array Value), j ≤ n ∧ i = .int .i64 j ∧ l = .int .i64 (k + j) ∧ wr.heap[g]? = some (.cells c' 3 (0, 0)) ∧ c'.size = c.size ∧ (∀ i, i < j → c'[i]? = some (.int .i64 (k + (i : Int)))) ∧ (∀ i, i < n → ∃ x : Int, c'[i]? = some (.int .i64 x)) ∧ w.grownBy wr (some g)) (fun _ i _ => n - (intOf i).toNat)
  case atStart => exact ⟨0, c, Nat.zero_le _, rfl, by simp, HC.out, rfl, fun i h => by omega, HI.out, World.grownBy.refl _ _⟩
  case round =>
    obtain ⟨j, c', hj, rfl, rfl, hblk, hsz, hdone, hints, hgr⟩ := hrel
    by_cases hlt : j < n
    · obtain ⟨x, hx⟩ := hints j hlt
      have ha : wr.cell? ⟨g, j, none⟩ = some (.int .i64 x) := by simp [World.cell?, hblk, hx]
      have hf : wr.frozen? ⟨g, j, none⟩ = false := by simp [World.frozen?, hblk]
      have hgl : g < wr.heap.size := (Array.getElem?_eq_some_iff.1 hblk).1
      have HD := Lib.hid (And.intro hblk (And.intro hsz (And.intro hdone (And.intro hints hgr))))
      clear hblk hsz hdone hints hgr hx
      go_wp2_with fail
      go_roundw
      case rel =>
        obtain ⟨hblk, hsz, hdone, hints, hgr⟩ := HD.out
        refine ⟨j + 1, c'.setIfInBounds j (.int .i64 (k + j)), by omega, by go_num, by go_num, set_blk _ hblk, by simpa using hsz, fun i hi => ?_, fun i hi => ?_, ?_⟩
        · rw [Array.getElem?_setIfInBounds]
          by_cases e : j = i
          · subst e; rw [if_pos rfl, if_pos (by omega)]
          · rw [if_neg e]; exact hdone i (by omega)
        · rw [Array.getElem?_setIfInBounds]
          by_cases e : j = i
          · subst e; exact ⟨_, by rw [if_pos rfl, if_pos (by omega)]⟩
          · rw [if_neg e]; exact hints i hi
        · refine ⟨hgr.os, hgr.tape, hgr.output, by simpa using hgr.size, fun b hb hne => ?_⟩
          rw [set_other _ _ _ _ _ (fun e => hne (by rw [e]))]
          exact hgr.block b hb hne
      case measure => simp [intOf]; omega
    · obtain rfl : j = n := by omega
      have HD := Lib.hid (And.intro hblk (And.intro hsz (And.intro hdone hgr)))
      clear hblk hsz hdone hints hgr
      go_wp2_with fail
      go_ret
      obtain ⟨hblk, hsz, hdone, hgr⟩ := HD.out
      exact ⟨rfl, c', hblk, hsz, hdone, hgr⟩

theorem markNone_c (a : Option Addr) (cap : Nat) (k : Int) (w : World) :
    Calls Try.prog 52 #[.slice a 0 cap, .int .i64 k] w fun e w' => e = .returned (.int .i64 k) ∧ w = w' := by
  go_enter Try.func52, Try.ntmps52
  go_wp2_with fail
  refine wp_loop_rounds 1 ?_
  rw [rounds_succ]
  go_wp2_with fail
  go_ret
  exact ⟨rfl, rfl⟩

/-- Marking a slice of ints of the call's own. -/
theorem markOwn_c {w : World} {lo : Nat} {v : Value} {ks : List Int} (h : IntsOwn w lo v ks) (hl : lo ≤ w.heap.size) (hn : ks.length ≤ 1048576) (k : Int) (h0 : 0 ≤ k) (h1 : k ≤ 1099511627776) :
    Calls Try.prog 52 #[v, .int .i64 k] w fun e w' => e = .returned (.int .i64 (k + ks.length)) ∧ IntsOwn w' lo v (marks k ks.length) ∧ Below lo w w' := by
  obtain ⟨hlen, ⟨hv, hz⟩ | ⟨g, cap, cur, hv, hb, hg, hnc, hm, hs, ht⟩⟩ := h
  · subst hv
    rw [hz]
    refine (markNone_c none 0 k w).mono ?_
    rintro e w' ⟨rfl, rfl⟩
    exact ⟨by simp, World.ownsRow_nil w lo _ _, Below.refl _ _⟩
  · subst hv
    rw [Nat.mul_one] at hs ht
    refine (markRow_c g ks.length cap k cur w hg (by omega) hn (fun i hi => ⟨ks[i], ?_⟩) h0 h1).mono ?_
    · have : (cur.toList.take ks.length)[i]? = some (.int .i64 ks[i]) := by rw [ht]; simp [hi]
      rw [List.getElem?_take_of_lt hi] at this
      simpa using this
    · rintro e w' ⟨rfl, c', hg', hsz, hd, hgr⟩
      refine ⟨rfl, ⟨by simp [marks], .inr ⟨g, cap, c', by rw [marks_length], hb, hg', by rw [marks_length]; exact hnc, hm, by omega, ?_⟩⟩, (Below.refl lo w).grown hgr hl (fun b e => by cases e; exact hb)⟩
      apply List.ext_getElem?
      intro i
      rw [marks_length, Nat.mul_one]
      by_cases hi : i < ks.length
      · rw [List.getElem?_take_of_lt hi]
        have := hd i hi
        simp [marks, hi, this]
      · rw [List.getElem?_eq_none (by simp; omega), List.getElem?_eq_none (by simp [marks]; omega)]

/-- Looking whether the marks held. -/
theorem held_c (n : Nat) (v : Value) (k : Int) (w : World) (h : IntsAt w v (marks k n)) (hn : n ≤ 1048576) (h0 : 0 ≤ k) (h1 : k ≤ 1099511627776) :
    Calls Try.prog 53 #[v, .int .i64 k] w fun e w' => e = .returned (.int .i64 (k + n)) ∧ w = w' := by
  obtain ⟨a, cap, rfl, _, hat⟩ := h
  rw [marks_length] at hat ⊢
  have HAT := Lib.hid hat
  clear hat
  go_enter Try.func53, Try.ntmps53
  go_wp2_with fail
  go_loop [1, 5] (fun l i => ∃ (j : Nat), j ≤ n ∧ i = .int .i64 j ∧ l = .int .i64 (k + j)) (fun _ i => n - (intOf i).toNat)
  case atStart => exact ⟨0, Nat.zero_le _, rfl, by simp⟩
  case round =>
    obtain ⟨j, hj, rfl, rfl⟩ := hrel
    by_cases hlt : j < n
    · rcases HAT.out with h | ⟨b, o, rfl, hat⟩
      · have := congrArg List.length h; rw [marks_length] at this; simp at this; omega
      have ha := hat j hlt
      rw [marks_get k n j hlt] at ha
      have hne : ((k + (j : Int)) != k + (j : Int)) = false := by simp
      clear hat
      go_wp2_with fail
      go_round
      case rel => exact ⟨j + 1, by omega, by go_num, by go_num⟩
      case measure => simp [intOf]; omega
    · obtain rfl : j = n := by omega
      go_wp2_with fail
      go_ret
      exact ⟨rfl, rfl⟩

end Go.Proofs.Ytjnkdbgebkajoaa
