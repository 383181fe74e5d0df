/- The contract, over plain blocks, of the program's DepthOf. -/
import Derived.Test.YtdcifdpkfcgmhaaDoorProg
import Derived.Test.YtdcifdpkfcgmhaaDoorCb0
import Derived.Test.YtdcifdpkfcgmhaaDoorCbS3
import Derived.Test.YtdcifdpkfcgmhaaDoorCbS4
import Derived.Test.YtdcifdpkfcgmhaaDoorCb12
import Derived.Test.YtdcifdpkfcgmhaaDoorCb13
import Derived.Test.YtdcifdpkfcgmhaaDoorCb14
import Derived.Test.YtdcifdpkfcgmhaaDoorCbS2
import Derived.Test.YtdcifdpkfcgmhaaDoorCb10
import Derived.Test.YtdcifdpkfcgmhaaDoorCb11
import Derived.Test.YtdcifdpkfcgmhaaDoorCbS1
import Derived.Test.YtdcifdpkfcgmhaaDoorCb8
import Derived.Test.YtdcifdpkfcgmhaaDoorCbS8
import Derived.Test.YtdcifdpkfcgmhaaDoorCbS9
import Derived.RangeFuncNested
import Derived.Shelf.RegionOpen
import Derived.WalkKit
import Derived.OwnWalkIn
import Derived.TacticsInMore

/- A tree that is valid for some width has few keys. -/
namespace Go.Proofs.YtdcifdpkfcgmhaaDoor
open Go.RowKit

namespace Tr
theorem keys_length (k : List Int) (c : List Tr) : (Tr.mk k c).keys.length = lens (keyss c) + k.length := by
  have hk := length_keyss c
  simp only [keys, upto_length]
  rw [List.take_of_length_le (by omega), List.take_of_length_le (by omega)]
mutual
theorem small {wide : Int} (h2 : 2 ≤ wide) : ∀ (t : Tr) (d : Int), nodesB wide (wide / 2) d t = true → t.weight + 1 ≤ 2 * t.keys.length
  | .mk k c, d, h => by
    simp only [nodesB, Bool.and_eq_true, Bool.or_eq_true] at h
    have h1 : wide / 2 ≤ (k.length : Int) := by have := h.1.1; simp [inB] at this; omega
    rw [keys_length]
    simp only [weight]
    rcases h.2 with h3 | h3
    · have hc : c = [] := by simpa using h3
      subst hc
      simp [weights, keyss, lens]; omega
    · have := smalls h2 c _ h3.2
      omega
theorem smalls {wide : Int} (h2 : 2 ≤ wide) : ∀ (c : List Tr) (d : Int), nodesAllB wide d c = true → weights c ≤ 2 * lens (keyss c)
  | [], d, _ => by simp [weights]
  | t :: r, d, h => by
    simp only [nodesAllB, Bool.and_eq_true] at h
    have h3 := small h2 t _ h.1
    have h4 := smalls h2 r _ h.2
    simp only [weights, keyss, lens]; omega
end
theorem few : ∀ (l : List Int) (lo : Int), l.Pairwise (· < ·) → (∀ x, x ∈ l → lo ≤ x ∧ x ≤ 99) → (l.length : Int) ≤ max 0 (100 - lo)
  | [], lo, _, _ => by simp; omega
  | a :: r, lo, hp, hm => by
    rw [List.pairwise_cons] at hp
    have h1 := hm a (by simp)
    have h2 := few r (a + 1) hp.2 (fun x hx => ⟨by have := hp.1 x hx; omega, (hm x (by simp [hx])).2⟩)
    simp only [List.length_cons]
    omega
theorem sorted_mem {ks : List Int} (h : sortedB ks = true) : ∀ x, x ∈ ks → 0 ≤ x ∧ x ≤ 99 := fun x hx => by
  obtain ⟨i, hi, rfl⟩ := List.mem_iff_getElem.1 hx
  simp only [sortedB, List.all_eq_true, List.mem_range] at h
  have h1 := h i hi
  simp only [okAt, Bool.and_eq_true, inB, decide_eq_true_eq] at h1
  have h2 := h1.1
  simpa [List.getD_eq_getElem?_getD, hi] using h2
theorem valid_keys {wide : Int} {t : Tr} (h : validB wide t = true) : sortedB t.keys = true := by
  simp only [validB, Bool.and_eq_true] at h; exact h.2.2
theorem valid_well {wide : Int} {t : Tr} (h : validB wide t = true) : Well t := by
  have h' := h
  simp only [validB, Bool.and_eq_true] at h'
  exact ⟨⟨wide, 0, _, h'.2.1⟩, pairwise_of_sorted h'.2.2⟩
theorem valid_small {wide : Int} {t : Tr} (h : validB wide t = true) : t.weight ≤ 200 := by
  have hk := valid_keys h
  have hf := few t.keys 0 (pairwise_of_sorted hk) (sorted_mem hk)
  have hw := valid_wide h
  simp only [validB, Bool.and_eq_true] at h
  cases t with
  | mk k c =>
    rw [keys_length] at hf
    have h' := h.2.1
    simp only [nodesB, Bool.and_eq_true, Bool.or_eq_true] at h'
    simp only [weight]
    rcases h'.2 with h3 | h3
    · have hc : c = [] := by simpa using h3
      subst hc
      simp [weights] at hf ⊢; omega
    · have := smalls hw.1 c _ h3.2
      omega
end Tr
end Go.Proofs.YtdcifdpkfcgmhaaDoor

/- More on the steps of a tree: the nodes that one comes by; how deep one is. -/
namespace Go.Proofs.YtdcifdpkfcgmhaaDoor
open Go.RowKit

theorem mem_rem {a : ATr} {p : Nat} {x : Step} (h : x ∈ remS (a, p)) : x.node = a ∨ ∃ i, ∃ hi : i < a.cs.length, x ∈ a.cs[i].evs := by
  unfold remS remOf at h
  rcases List.mem_append.1 h with h | h
  · obtain ⟨q, _, hq⟩ := List.mem_flatMap.1 h
    have hq : x ∈ hev a (ATr.evss a.cs) q := hq
    obtain ⟨i, hi | hi⟩ : ∃ i, q = 2 * i ∨ q = 2 * i + 1 := ⟨q / 2, by omega⟩
    · subst hi
      by_cases hk : i < a.cs.length
      · rw [hev_kid hk] at hq; exact .inr ⟨i, hk, hq⟩
      · rw [hev_nokid hk] at hq; simp at hq
    · subst hi
      by_cases hk : i < a.ks.length
      · rw [hev_key hk] at hq
        left
        rw [List.mem_singleton.1 hq]; rfl
      · rw [hev_nokey hk] at hq; simp at hq
  · left; rw [List.mem_singleton.1 h]; rfl

/-- What holds of a tree and goes down to the kids holds of all nodes that one comes by. -/
theorem evs_all (P : ATr → Prop) (hkid : ∀ a, P a → ∀ i (h : i < a.cs.length), P a.cs[i]) : ∀ n (a : ATr), a.weight ≤ n → P a → ∀ x ∈ a.evs, P x.node := by
  intro n
  induction n with
  | zero =>
    intro a ha hP x hx
    rw [evs_eq] at hx
    rcases List.mem_cons.1 hx with rfl | hx
    · exact hP
    · rcases mem_rem hx with h | ⟨i, hi, _⟩
      · rw [h]; exact hP
      · have := ATr.ks_le a; omega
  | succ n ih =>
    intro a ha hP x hx
    rw [evs_eq] at hx
    rcases List.mem_cons.1 hx with rfl | hx
    · exact hP
    · rcases mem_rem hx with h | ⟨i, hi, h⟩
      · rw [h]; exact hP
      · exact ih a.cs[i] (by have := ATr.weight_kid hi; omega) (hkid a hP i hi) x h

theorem evs_at {w : World} {a : ATr} (h : AT w a) {x : Step} (hx : x ∈ a.evs) : AT w x.node :=
  evs_all (AT w) (fun a h i hi => by obtain ⟨_, _, _, _, _, _, _, _, _, _, _, _, _, h, _⟩ := h.parts; exact h i hi) a.weight a (Nat.le_refl _) h x hx

/-- How many nodes end. -/
def fins : List Step → Nat
  | [] => 0
  | .fin _ :: r => fins r + 1
  | .key _ _ :: r => fins r
  | .beg _ :: r => fins r
theorem fins_append (a b : List Step) : fins (a ++ b) = fins a + fins b := by
  induction a with
  | nil => simp [fins]
  | cons x r ih => cases x <;> simp [fins, ih] <;> omega

/-- How deep one is, and how deep one has been. -/
def dep : Int × Int → List Step → Int × Int
  | s, [] => s
  | s, .beg _ :: r => dep (s.1 + 1, max s.2 (s.1 + 1)) r
  | s, .key _ _ :: r => dep s r
  | s, .fin _ :: r => dep (s.1 - 1, s.2) r
theorem dep_append (a b : List Step) : ∀ s, dep s (a ++ b) = dep (dep s a) b := by
  induction a with
  | nil => intro s; rfl
  | cons x r ih => intro s; cases x <;> exact ih _

theorem dep_bounds (l : List Step) : ∀ s : Int × Int, s.1 - fins l ≤ (dep s l).1 ∧ (dep s l).1 ≤ s.1 + begs l ∧ s.2 ≤ (dep s l).2 ∧ (dep s l).2 ≤ max s.2 (s.1 + begs l) := by
  induction l with
  | nil => intro s; simp [dep, fins, begs]; omega
  | cons x r ih =>
    intro s
    cases x with
    | beg a => have h := ih (s.1 + 1, max s.2 (s.1 + 1)); simp only [dep, fins, begs]; simp only at h; omega
    | key a k => have h := ih s; simp only [dep, fins, begs]; omega
    | fin a => have h := ih (s.1 - 1, s.2); simp only [dep, fins, begs]; simp only at h; omega

theorem dep_evs : ∀ n (a : ATr), a.weight ≤ n → ∀ (c d : Int), dep (c, d) a.evs = (c, max d (c + a.tr.depth)) := by
  intro n
  induction n with
  | zero =>
    intro a ha c d
    have hc : a.cs.length = 0 := by have := ATr.ks_le a; omega
    have hk0 : a.ks.length = 0 := by have := ATr.ks_le a; omega
    rw [evs_eq, remS_end (by omega)]
    have hd : a.tr.depth = 1 := by
      cases a with
      | mk nb no k cs =>
        have : cs = [] := List.length_eq_zero_iff.1 hc
        subst this; simp [ATr.tr, ATr.trs, Tr.depth, Tr.depths]
    rw [hd]
    simp only [dep, Prod.mk.injEq]
    omega
  | succ n ih =>
    intro a ha c d
    have hrem : ∀ m p (d : Int), 2 * max a.cs.length a.ks.length - p = m → c + 1 ≤ d → dep (c + 1, d) (remS (a, p)) = (c, max d (c + 1 + Tr.depths (ATr.trs (a.cs.drop ((p + 1) / 2))))) := by
      intro m
      induction m with
      | zero =>
        intro p d hp hd
        rw [remS_end (by omega), List.drop_eq_nil_of_le (by omega)]
        simp only [dep, ATr.trs, Tr.depths, Prod.mk.injEq]
        omega
      | succ m ihm =>
        intro p d hp hd
        rw [remS_step (by omega), dep_append]
        obtain ⟨i, hi | hi⟩ : ∃ i, p = 2 * i ∨ p = 2 * i + 1 := ⟨p / 2, by omega⟩
        · subst hi
          by_cases hk1 : i < a.cs.length
          · rw [hev_kid hk1, ih a.cs[i] (by have := ATr.weight_kid hk1; omega), ihm _ _ (by omega) (by omega), show (2 * i + 1 + 1) / 2 = i + 1 by omega, show (2 * i + 1) / 2 = i by omega, List.drop_eq_getElem_cons hk1]
            have hm : ((max (a.cs[i].tr.depth) (Tr.depths (ATr.trs (a.cs.drop (i + 1)))) : Nat) : Int) = max (a.cs[i].tr.depth : Int) (Tr.depths (ATr.trs (a.cs.drop (i + 1))) : Int) := by omega
            simp only [ATr.trs, Tr.depths, Prod.mk.injEq, true_and, hm]
            generalize (a.cs[i].tr.depth : Int) = x
            generalize (Tr.depths (ATr.trs (a.cs.drop (i + 1))) : Int) = y
            omega
          · rw [hev_nokid hk1]
            show dep (c + 1, d) (remS (a, 2 * i + 1)) = _
            rw [ihm _ _ (by omega) hd, List.drop_eq_nil_of_le (by omega), List.drop_eq_nil_of_le (by omega)]
        · subst hi
          have hh : dep (c + 1, d) (hev a (ATr.evss a.cs) (2 * i + 1)) = (c + 1, d) := by
            by_cases hk1 : i < a.ks.length
            · rw [hev_key hk1]; rfl
            · rw [hev_nokey hk1]; rfl
          rw [hh, ihm _ _ (by omega) hd, show (2 * i + 1 + 1 + 1) / 2 = i + 1 by omega, show (2 * i + 1 + 1) / 2 = i + 1 by omega]
    rw [evs_eq]
    show dep (c + 1, max d (c + 1)) (remS (a, 0)) = _
    rw [hrem _ 0 _ rfl (by omega)]
    have hd : (a.tr.depth : Int) = (Tr.depths (ATr.trs a.cs) : Int) + 1 := by cases a; simp [ATr.tr, Tr.depth, ATr.cs]
    simp only [List.drop_zero, Nat.zero_add, show (1 : Nat) / 2 = 0 by omega, Prod.mk.injEq, true_and]
    omega

theorem fins_evs (a : ATr) : (fins a.evs : Int) = begs a.evs := by
  -- from the depth: one ends where one began
  have h1 : ∀ (l : List Step) (s : Int × Int), (dep s l).1 = s.1 + begs l - fins l := by
    intro l
    induction l with
    | nil => intro s; simp [dep, begs, fins]
    | cons x r ih => intro s; cases x <;> simp only [dep, begs, fins, ih] <;> omega
  have h2 := h1 a.evs (0, 0)
  rw [dep_evs a.weight a (Nat.le_refl _)] at h2
  simp only at h2
  omega
end Go.Proofs.YtdcifdpkfcgmhaaDoor

/- The contract, over plain blocks, of the program's DepthOf. -/
namespace Go.Proofs.YtdcifdpkfcgmhaaDoor
open Go.RowKit
attribute [local go_sem] Oper.semAt_some

set_option maxRecDepth 100000 in
set_option maxHeartbeats 4000000 in
theorem impl_depth_a {w' : World} {kv cv : Value} {t : Tr} (ht' : TreeA w' kv cv t) (hwt : t.weight ≤ 1048576) :
    Calls Tryd.prog 50 #[.agg #[kv, cv]] w' fun e w'' => e = .returned (.int .i64 t.depth) ∧ Below w'.heap.size w' w'' := by
  obtain ⟨sA1, sA2, sA3, sA4, sA5, sA6, rfl, rfl⟩ := ht'.slices
  obtain ⟨W1, hW1⟩ : ∃ W1, W1 = w'.alloc (.cells #[.slice sA1 sA2 sA3, .slice sA4 sA5 sA6] 33) := ⟨_, rfl⟩
  have hs1 : W1.heap.size = w'.heap.size + 1 := by rw [hW1]; simp
  have hb1 : Below w'.heap.size w' W1 := by rw [hW1]; exact (Below.refl _ _).alloc (Nat.le_refl _) _
  have kb : W1.heap[w'.heap.size]? = some (.cells #[.slice sA1 sA2 sA3, .slice sA4 sA5 sA6] 33 (0, 0)) := by rw [hW1, new_blk]
  obtain ⟨a, ha1, ha2, ha3, ha4⟩ := (ht'.later hb1 (Nat.le_refl _)).at w'.heap.size 0 ⟨_, _, kb⟩ (box2 kb).1 (box2 kb).2.1
  have haw : a.weight ≤ 1048576 := by unfold ATr.weight; rw [ha3]; exact hwt
  have hit := steps_iter ha4 haw
  have had : a.addr = ⟨w'.heap.size, 0, none⟩ := by unfold ATr.addr; rw [ha1, ha2]
  rw [had] at hit
  have hcnt := begs_evs a
  rw [ha3] at hcnt
  have hcl : t.count ≤ 1048577 := by have := Tr.count_le t; omega
  have hfn := fins_evs a
  rw [hcnt] at hfn
  have hdp := dep_evs a.weight a (Nat.le_refl _) 0 0
  rw [ha3] at hdp
  have HFN := Lib.hid hfn
  have HDP := Lib.hid hdp
  clear hfn hdp
  have HIT := Lib.hid hit
  have HCNT := Lib.hid hcnt
  have HW1 := Lib.hid hW1
  have HB1 := Lib.hid hb1
  clear hit hcnt hW1 hb1 kb ht' ha1 ha2 ha3 ha4 haw had
  refine (callsIn_wide (n := 9)).1 (callsIn_of_wp_marks Tryd.func50 rfl trivial ?_ rfl)
  simp only [Tryd.ntmps50, List.size_toArray, List.length_cons, List.length_nil, Nat.reduceAdd, Nat.reduceSub, Array.replicate_succ, Array.replicate_zero, List.push_toArray, List.append_toArray, List.nil_append, List.cons_append]
  gi_wp2
  rw [← HW1.out]
  obtain ⟨W2, hW2⟩ : ∃ W2, W2 = (W1.alloc (.cells #[.int .i64 0] 3)).alloc (.cells #[.int .i64 0] 3) := ⟨_, rfl⟩
  rw [← hW2]
  have hs2 : W2.heap.size = w'.heap.size + 3 := by rw [hW2]; simp; omega
  have hk2 : ∀ K, Keep K W1 W2 := fun K => by rw [hW2]; exact (Keep.alloc K _ _).trans (Keep.alloc K _ _)
  have b2 : W2.heap[w'.heap.size + 1]? = some (.cells #[.int .i64 0] 3 (0, 0)) := by rw [hW2, old_blk _ _ _ (by simp; omega), ← hs1]; exact new_blk _ _
  have b3 : W2.heap[w'.heap.size + 2]? = some (.cells #[.int .i64 0] 3 (0, 0)) := by
    have h := new_blk (W1.alloc (.cells #[.int .i64 0] 3)) (.cells #[.int .i64 0] 3)
    rw [World.size_alloc, hs1] at h
    rw [hW2]; exact h
  have B3 := Lib.hid (And.intro b2 b3)
  clear hW2 b3 b2
  refine wp_loopA (fb := #[.pointer (some ⟨w'.heap.size, 0, none⟩)]) (lb := #[]) rfl (enters_of Tryd.func79 (by kernel_rfl) rfl) HIT.out (hk2 _) (fun x => by cases x <;> rfl)
    (fun k => k < W1.heap.size) (fun k h => h) (fun k h => by omega)
    (fun pre Pv W => ¬ Pv (w'.heap.size + 1) ∧ ¬ Pv (w'.heap.size + 2) ∧ W.heap[w'.heap.size + 1]? = some (.cells #[.int .i64 (dep (0, 0) pre).1] 3 (0, 0)) ∧ W.heap[w'.heap.size + 2]? = some (.cells #[.int .i64 (dep (0, 0) pre).2] 3 (0, 0)))
    (fun c pre Pv W => False)
    (fun pre Pv A Pv' B h hk hp => by
      obtain ⟨h1, h1', h2, h3⟩ := h
      have l2 := (Array.getElem?_eq_some_iff.1 h2).1
      have l3 := (Array.getElem?_eq_some_iff.1 h3).1
      refine ⟨fun h => ?_, fun h => ?_, (hk.block _ l2 h1).trans h2, (hk.block _ l3 h1').trans h3⟩
      · rcases hp _ h with h | h
        · exact h1 h
        · omega
      · rcases hp _ h with h | h
        · exact h1' h
        · omega)
    (fun c pre Pv A Pv' B h hk hp => h)
    ⟨by omega, by omega, B3.out.1, B3.out.2⟩
    (fun x a' Pv W => ∃ bx, ¬ Pv bx ∧ bx ≠ w'.heap.size + 1 ∧ bx ≠ w'.heap.size + 2 ∧ W.heap[bx]? = some (.cells #[.pointer (some x.node.addr), .int .i64 x.what, .int .i64 x.kk] 91 (0, 0)) ∧
      a' = { tmps := #[.agg #[.slice sA1 sA2 sA3, .slice sA4 sA5 sA6], .pointer (some ⟨w'.heap.size, 0, none⟩), .int .i64 0, .pointer (some ⟨w'.heap.size + 1, 0, none⟩), .pointer (some ⟨w'.heap.size + 2, 0, none⟩), .pointer (some ⟨bx, 0, none⟩), .func (.func 79) #[.pointer (some ⟨w'.heap.size, 0, none⟩)] #[], .agg #[.pointer (some x.node.addr), .int .i64 x.what, .int .i64 x.kk], undef, undef, undef, undef, undef, undef, undef, undef, undef, undef, undef, undef, undef, undef], defers := [] })
    (fun x a' Pv A B h hk => by
      obtain ⟨bx, h1, h2, h2', h3, h4⟩ := h
      exact ⟨bx, h1, h2, h2', (hk.block _ (Array.getElem?_eq_some_iff.1 h3).1 h1).trans h3, h4⟩)
    ?assign ?body ?done ?stop
  case assign =>
    intro l m pre x Pv W hI hbnd
    rw [Step.enc_eq]
    have hI' := Lib.hid hI
    have HB := Lib.hid hbnd
    clear hI hbnd
    gi_wp2
    have hlt := (Array.getElem?_eq_some_iff.1 hI'.out.2.2.1).1
    have hlt' := (Array.getElem?_eq_some_iff.1 hI'.out.2.2.2).1
    refine ⟨Keep.alloc _ _ _, ⟨hI'.out.1, hI'.out.2.1, (old_blk _ _ _ hlt).trans hI'.out.2.2.1, (old_blk _ _ _ hlt').trans hI'.out.2.2.2⟩, W.heap.size, fun h => ?_, by omega, by omega, new_blk _ _, rfl⟩
    have := HB.out _ h
    omega
  case body =>
    rintro l m pre x a' Pv W ⟨h1, h1', h2, h3⟩ ⟨bx, h4, h5', h6, h7, rfl⟩ hkW hsub hbnd hp
    have c2 : W.cell? ⟨bx, 1, none⟩ = some (.int .i64 x.what) := by simp [World.cell?, h7]
    have hnx : dep (0, 0) (pre ++ [x]) = dep (dep (0, 0) pre) [x] := dep_append _ _ _
    have hbd := dep_bounds pre (0, 0)
    have hle : begs pre ≤ 1048577 ∧ fins pre ≤ 1048577 := by
      obtain ⟨r, hr⟩ := hp
      have e1 := HCNT.out
      have e2 := HFN.out
      rw [← hr, begs_append, begs_append] at e1
      rw [← hr, fins_append, fins_append] at e2
      omega
    obtain ⟨⟨c, e⟩, hce⟩ : ∃ s, s = dep (0, 0) pre := ⟨_, rfl⟩
    rw [← hce] at h2 h3 hnx hbd
    simp only at h2 h3 hbd
    have hc1 : -1048577 ≤ c := by omega
    have hc2 : c ≤ 1048577 := by omega
    have he1 : 0 ≤ e := by omega
    have he2 : e ≤ 1048577 := by omega
    obtain ⟨d1, f1⟩ := box1 h2
    obtain ⟨d2, f2⟩ := box1 h3
    have HNX := Lib.hid hnx
    have H23 := Lib.hid (And.intro h2 h3)
    clear hnx h2 h3 h7 hp hsub hbnd hkW hce hbd hle
    cases x with
    | beg b =>
      have hb : dep (0, 0) (pre ++ [Step.beg b]) = (c + 1, max e (c + 1)) := by rw [HNX.out]; rfl
      have HBB := Lib.hid hb
      have d2' : (W.setCell ⟨w'.heap.size + 1, 0, none⟩ (.int .i64 (c + 1))).cell? ⟨w'.heap.size + 2, 0, none⟩ = some (.int .i64 e) := (cell_of_blk (set_other _ _ _ _ _ (by omega))).trans d2
      clear hb
      dsimp only [Step.what] at c2
      have fin : ∀ q : Int, q = max e (c + 1) → bodyEnds (fun pre Pv W => ¬ Pv (w'.heap.size + 1) ∧ ¬ Pv (w'.heap.size + 2) ∧ W.heap[w'.heap.size + 1]? = some (.cells #[.int .i64 (dep (0, 0) pre).1] 3 (0, 0)) ∧ W.heap[w'.heap.size + 2]? = some (.cells #[.int .i64 (dep (0, 0) pre).2] 3 (0, 0))) (fun c pre Pv W => False) (pre ++ [Step.beg b]) Pv W .normal { tmps := #[], defers := [] }
          ((W.setCell ⟨w'.heap.size + 1, 0, none⟩ (.int .i64 (c + 1))).setCell ⟨w'.heap.size + 2, 0, none⟩ (.int .i64 q)) := fun q hq => by
        refine ⟨(Keep.setCell _ _ _ _ h1).trans (Keep.setCell _ _ _ _ h1'), h1, h1', ?_, ?_⟩
        · rw [HBB.out, set_other _ _ _ _ _ (by omega)]; exact set_blk _ H23.out.1
        · rw [HBB.out, hq]; exact set_blk _ ((set_other _ _ _ _ _ (by omega)).trans H23.out.2)
      have FIN := Lib.hid fin
      clear fin
      rcases Int.lt_or_le e (c + 1) with hlt | hge
      · gi_wp2
        exact FIN.out (c + 1) (by omega)
      · gi_wp2
        exact FIN.out e (by omega)
    | key b k =>
      have hb : dep (0, 0) (pre ++ [Step.key b k]) = (c, e) := by rw [HNX.out]; rfl
      have HBB := Lib.hid hb
      clear hb
      dsimp only [Step.what] at c2
      gi_wp2
      refine ⟨Keep.refl _ _, h1, h1', ?_, ?_⟩
      · rw [HBB.out]; exact H23.out.1
      · rw [HBB.out]; exact H23.out.2
    | fin b =>
      have hb : dep (0, 0) (pre ++ [Step.fin b]) = (c - 1, e) := by rw [HNX.out]; rfl
      have HBB := Lib.hid hb
      clear hb
      dsimp only [Step.what] at c2
      gi_wp2
      refine ⟨Keep.setCell _ _ _ _ h1, h1, h1', ?_, ?_⟩
      · rw [HBB.out]; exact set_blk _ H23.out.1
      · rw [HBB.out, set_other _ _ _ _ _ (by omega)]; exact H23.out.2
  case done =>
    intro W3 hk3 hI hlt hD
    obtain ⟨h1, h1', h2, h3⟩ := hI
    rw [HDP.out] at h3
    have hmx : max (0 : Int) (0 + (t.depth : Int)) = t.depth := by omega
    simp only [hmx] at h3
    obtain ⟨c1, f1⟩ := box1 h3
    rw [hs2] at hD
    have HD := Lib.hid hD
    clear h2 h3 hD hmx
    gi_wp2
    refine ⟨by simp, .inl ⟨_, _, rfl, run_takeDeferred HD.out, ?_⟩⟩
    refine ⟨_, results_tmp rfl _ _ _, rfl, ?_⟩
    have hk5 : Keep (fun k => k < W1.heap.size) W3 (W3.putObj (w'.heap.size + 3) (.deferred none)) := Keep.putObj _ _ _ _ (by omega)
    exact HB1.out.trans ((((hk2 _).trans hk3).trans hk5).below (B := w'.heap.size) (by omega) (fun k h => by omega))
  case stop =>
    rintro c pre' W3 hk3 hp h hlt hD
    exact h.elim
end Go.Proofs.YtdcifdpkfcgmhaaDoor
