/- The model's l4Kids: kids without the one at a place. -/
import Derived.Test.YtepkigcbjepbpaaProg
import Derived.Test.YtepkigcbjepbpaaDk0
import Derived.Test.YtepkigcbjepbpaaDk8
import Derived.Deep.Cut
import Derived.Test.YtepkigcbjepbpaaDk22
import Derived.Test.YtepkigcbjepbpaaDk15
import Derived.Deep.AppendLies
import Derived.Deep.RegionLaw

/- The model's l3Put. -/
namespace Go.Proofs.Ytepkigcbjepbpaa
open Go.RowKit

/-- A part of a slice of ints. -/
theorem IntsAt.part {w : World} {b o n : Nat} {ks : List Int} (h : ∀ i, i < ks.length → w.cell? ⟨b, o + i, none⟩ = some (.int .i64 (ks.getD i 0))) (lo hi cap : Nat) (h1 : lo ≤ hi) (h2 : hi ≤ ks.length) (hn : n = hi - lo) :
    IntsAt w (.slice (some ⟨b, o + lo, none⟩) n cap) ((ks.drop lo).take (hi - lo)) := by
  have hl : ((ks.drop lo).take (hi - lo)).length = hi - lo := by simp; omega
  refine ⟨some ⟨b, o + lo, none⟩, cap, by rw [hl, hn], by simp, .inr ⟨b, o + lo, rfl, fun i hi' => ?_⟩⟩
  rw [hl] at hi'
  rw [show o + lo + i = o + (lo + i) by omega, h (lo + i) (by omega)]
  simp [List.getD_eq_getElem?_getD, hi']
theorem IntsAt.none' {w : World} (a : Option Addr) (cap : Nat) (h : a = none → cap = 0) : IntsAt w (.slice a 0 cap) [] := ⟨a, cap, rfl, h, .inl rfl⟩

set_option maxRecDepth 100000 in
set_option maxHeartbeats 2000000 in
theorem l3Put_c (w : World) (B : Nat) (v : Value) (k : List Int) (i : Nat) (key : Int) (hk : IntsIn w B v k) (hB : B ≤ w.heap.size) (hi : i ≤ k.length) (hn : k.length ≤ 1048576) :
    Calls Try.prog 123 #[v, .int .i64 i, .int .i64 key] w fun e w' => ∃ v', e = .returned v' ∧ IntsOwn w' w.heap.size v' (putAt k i key) ∧ Below w.heap.size w w' := by
  obtain ⟨a, cap, rfl, h1, h2, h3, h4⟩ := hk
  unfold maxLen at h2
  obtain ⟨W1, hW1⟩ : ∃ W1, W1 = w.alloc (.cells #[] 3) := ⟨_, rfl⟩
  have hs1 : W1.heap.size = w.heap.size + 1 := by rw [hW1]; simp
  have hb1 : Below w.heap.size w W1 := by rw [hW1]; exact (Below.refl _ _).alloc (Nat.le_refl _) _
  have h00 : IntsOwn W1 w.heap.size (.slice (some ⟨w.heap.size, 0, none⟩) 0 0) [] := by rw [hW1]; exact World.ownsRow_made w #[] 0 (Nat.le_refl _) (by unfold maxLen; omega) rfl
  have hfront : ∀ W, Below w.heap.size w W → IntsAt W (.slice a i cap) (k.take i) := fun W hb => by
    rcases h4 with h4 | ⟨b, o, rfl, h5, h6⟩
    · have e : i = 0 := by rw [h4] at hi; simpa using hi
      rw [e, List.take_zero]
      exact IntsAt.none' a cap h3
    · have h := IntsAt.part (w := W) (b := b) (o := o) (n := i) (ks := k) (fun j hj => by rw [below_cell hb (by omega)]; exact h6 j hj) 0 i cap (by omega) hi (by omega)
      simpa using h
  have hback : ∀ W, Below w.heap.size w W → ∀ a' c', (i < k.length → (∃ b o, a = some ⟨b, o, none⟩ ∧ a' = some ⟨b, o + i, none⟩)) → (a' = none → c' = 0) → IntsAt W (.slice a' (k.length - i) c') (k.drop i) := fun W hb a' c' ha hc => by
    by_cases hik : i < k.length
    · obtain ⟨b, o, rfl, rfl⟩ := ha hik
      rcases h4 with h4 | ⟨b', o', e, h5, h6⟩
      · rw [h4] at hik; simp at hik
      · simp only [Option.some.injEq, Addr.mk.injEq, and_true] at e
        obtain ⟨rfl, rfl⟩ := e
        have h := IntsAt.part (w := W) (b := b) (o := o) (n := k.length - i) (ks := k) (fun j hj => by rw [below_cell hb (by omega)]; exact h6 j hj) i k.length c' (by omega) (Nat.le_refl _) rfl
        rwa [List.take_of_length_le (by simp)] at h
    · rw [show k.length - i = 0 by omega, List.drop_eq_nil_of_le (by omega)]
      exact IntsAt.none' a' c' hc
  have hsome : i < k.length → ∃ b o, a = some ⟨b, o, none⟩ := fun h => by
    rcases h4 with h4 | ⟨b, o, e, _⟩
    · rw [h4] at h; simp at h
    · exact ⟨b, o, e⟩
  have HW1 := Lib.hid hW1
  have H1 := Lib.hid (And.intro hb1 (And.intro h00 hs1))
  have HF := Lib.hid hfront
  have HBK := Lib.hid hback
  have HS := Lib.hid (And.intro hsome h3)
  have hlen1 : (([] : List Int).length + (k.take i).length) ≤ 17592186044416 := by simp; omega
  have HLEN := Lib.hid hlen1
  clear hW1 hs1 hb1 h00 hfront hback h4 hsome hlen1 h3
  go_enter Try.func123, Try.ntmps123
  go_upto_region 1 with (fail)
  go_upto_region 2 with (at_builtin; rw [← HW1.out]; refine wpList_append_ints rfl _ _ rfl w.heap.size _ _ [] (k.take i) rfl H1.out.2.1 rfl (HF.out _ H1.out.1) HLEN.out (by have := H1.out.2.2; omega) ?_; intro v2 w2 hown2 hbel2 _ hsh2; obtain ⟨a2, c2, rfl⟩ := hsh2; generalize hL2 : ([] : List Int) ++ k.take i = L2 at hown2 ⊢; have H2 := Lib.hid (And.intro hown2 (And.intro (H1.out.1.trans hbel2) hL2)); clear hown2 hbel2 hL2)
  have hs2 := H2.out.2.1.size
  have hl2 : L2.length ≤ 1048576 := by rw [← H2.out.2.2]; simp; omega
  have HL2 := Lib.hid hl2
  clear hl2
  go_upto_region 3 with (at_builtin; refine wpList_append_ints rfl _ _ rfl w.heap.size _ _ L2 [key] rfl (IntsOwn.alloc' H2.out.1 _) rfl (IntsAt.one w2 key) (by have := HL2.out; simp; omega) (by simp; omega) ?_; intro v3 w3 hown3 hbel3 _ hsh3; obtain ⟨a3, c3, rfl⟩ := hsh3; generalize hL3 : L2 ++ [key] = L3 at hown3 ⊢; have H3 := Lib.hid (And.intro hown3 (And.intro ((H2.out.2.1.alloc hs2 _).trans hbel3) hL3)); clear hown3 hbel3 hL3)
  have hs3 := H3.out.2.1.size
  have hl3 : L3.length ≤ 1048577 := by rw [← H3.out.2.2]; have := HL2.out; simp; omega
  have HL3 := Lib.hid hl3
  clear hl3
  have hii : (i : Int) ≤ (k.length : Int) := by omega
  have hfin : ∀ v' w', IntsOwn w' w.heap.size v' (L3 ++ k.drop i) → IntsOwn w' w.heap.size v' (putAt k i key) := fun v' w' h => by
    rw [← H3.out.2.2, ← H2.out.2.2] at h
    simpa [putAt] using h
  have HFIN := Lib.hid hfin
  clear hfin
  by_cases hik : i < k.length
  · obtain ⟨b, o, rfl⟩ := HS.out.1 hik
    have hci : ¬ cap = i := by omega
    go_wp2_with (at_builtin; refine wpList_append_ints rfl _ _ rfl w.heap.size _ _ L3 (k.drop i) rfl H3.out.1 rfl (HBK.out _ H3.out.2.1 _ _ (fun h => ⟨b, o, rfl, rfl⟩) (fun h => by simp at h)) (by have := HL3.out; simp; omega) (by omega) ?_; intro v4 w4 hown4 hbel4 _ hsh4; obtain ⟨a4, c4, rfl⟩ := hsh4; generalize hL4 : L3 ++ k.drop i = L4 at hown4 ⊢; have H4 := Lib.hid (And.intro hown4 (And.intro (H3.out.2.1.trans hbel4) hL4)); clear hown4 hbel4 hL4)
    go_ret
    exact ⟨_, rfl, HFIN.out _ _ (by rw [H4.out.2.2]; exact H4.out.1), H4.out.2.1⟩
  · have hd : k.drop i = [] := List.drop_eq_nil_of_le (by omega)
    have HD := Lib.hid hd
    clear hd
    obtain rfl : i = k.length := by omega
    by_cases hci : cap = k.length
    · subst hci
      go_wp2_with (at_builtin; refine wpList_append_ints rfl _ _ rfl w.heap.size _ _ L3 [] rfl H3.out.1 rfl (IntsAt.none' _ _ (fun _ => rfl)) (by have := HL3.out; simp; omega) (by omega) ?_; intro v4 w4 hown4 hbel4 _ hsh4; obtain ⟨a4, c4, rfl⟩ := hsh4; generalize hL4 : L3 ++ ([] : List Int) = L4 at hown4 ⊢; have H4 := Lib.hid (And.intro hown4 (And.intro (H3.out.2.1.trans hbel4) hL4)); clear hown4 hbel4 hL4)
      go_ret
      exact ⟨_, rfl, HFIN.out _ _ (by rw [HD.out, H4.out.2.2]; exact H4.out.1), H4.out.2.1⟩
    · rcases a with _ | ⟨b, o, sp⟩
      · have := HS.out.2 rfl; omega
      · go_wp2_with (at_builtin; refine wpList_append_ints rfl _ _ rfl w.heap.size _ _ L3 [] rfl H3.out.1 rfl (IntsAt.none' _ _ (fun h => by simp at h)) (by have := HL3.out; simp; omega) (by omega) ?_; intro v4 w4 hown4 hbel4 _ hsh4; obtain ⟨a4, c4, rfl⟩ := hsh4; generalize hL4 : L3 ++ ([] : List Int) = L4 at hown4 ⊢; have H4 := Lib.hid (And.intro hown4 (And.intro (H3.out.2.1.trans hbel4) hL4)); clear hown4 hbel4 hL4)
        go_ret
        exact ⟨_, rfl, HFIN.out _ _ (by rw [HD.out, H4.out.2.2]; exact H4.out.1), H4.out.2.1⟩
end Go.Proofs.Ytepkigcbjepbpaa

/- The model's l4Kids: kids without the one at a place. -/
namespace Go.Proofs.Ytepkigcbjepbpaa
open Go.RowKit

/-- 'append(out, more...)' of trees at a step of a region that draws. -/
theorem step_append_trees {w : World} {ops : Array Oper} {o : Oper} {a : Act} {K : Act → World → Prop} {Q : Exit → Act → World → Prop} {E : Prop} (hgd : o.guard = none) (s x : Operand)
    (ho : o.op = .call { callee := .builtin .append, args := #[s, x], argTypes := #[27, 27] })
    (lo : Nat) (v y : Value) (L M : List (Value × Value)) (hs : a.eval s = v) (hown : TreesOwn w lo v L) (hx : a.eval x = y) (hsrc : KidsAt w y M) (h1 : ∀ u, u ∈ flatT M → u.oneCell' = true)
    (hlen : L.length + M.length ≤ 100000000) (hlo : lo ≤ w.heap.size)
    (h : ∀ v' w', TreesOwn w' lo v' (L ++ M) → Below lo w w' → w.grownBy w' v.ownBlock → (∃ a c, v' = .slice a (L ++ M).length c) → K (a.put o.dst v') w') :
    if Region.wanted o (yielded ops a.tmps) = true then Oper.wp Try.prog o a w K Q else E := by
  have hw : Region.wanted o (yielded ops a.tmps) = true := by simp [Region.wanted, hgd]
  rw [if_pos hw]
  obtain ⟨i0, hi, hz0, hz1, hz2⟩ := info_parts Try.infoTree
  obtain ⟨pa, cap, rfl, hnl, hat⟩ := hsrc
  rcases pa with _ | p
  · obtain rfl := hnl rfl
    obtain rfl : M = [] := by
      rcases hat with h | ⟨b, o, h, _⟩
      · exact h
      · cases h
    have hk := h v w (by simpa using hown) (Below.refl _ _) (World.grownBy.refl _ _) (by simpa using TreesOwn.shown hown)
    have hrun := run_append_owned_none (P := Try.prog) (w := w) lo 27 o.type 29 i0 2 Try.underlying27 hi v _ _ hown
    unfold Oper.wp
    simp only [List.length_nil] at hx
    simp [execOp, ho, resolve, invoke, builtin, hs, hx, hrun, Result.andThen]
    exact hk
  · refine wp_append_own w s x 27 ho lo 29 i0 _ 2 48 Try.underlying27 hi hz0 hz1 hz2 rfl (by decide) v _ _ hs hown p M.length cap (flatT M) hx (flatT_length M) (fun j u hj => ?_) h1 (by unfold maxLen; omega) (by omega) hlo (fun v' w' hown' hgrow _ => ?_)
    · rcases hat with h | ⟨b, o, h, hc⟩
      · rw [h] at hj; simp [flatT] at hj
      · cases h
        rw [Addr.add_lit]
        exact hc j u hj
    · have hown2 : TreesOwn w' lo v' (L ++ M) := by
        unfold TreesOwn
        rw [List.length_append, flatT_append]
        exact hown'
      exact h v' w' hown2 ((Below.refl lo w).grown hgrow hlo (fun k hk => (hown.lt k hk).1)) hgrow (TreesOwn.shown hown2)

theorem made1T (w : World) : TreesOwn (w.alloc (.cells #[] 29)).drew w.heap.size (.slice (some ⟨w.heap.size, 0, none⟩) 0 0) [] := World.ownsRow_made w #[] 0 (Nat.le_refl _) (by unfold maxLen; omega) rfl

set_option maxRecDepth 100000 in
set_option maxHeartbeats 4000000 in
theorem l4Kids_c (w : World) (b o cap : Nat) (k : List (Value × Value)) (i : Nat) (h6 : ∀ W, Below w.heap.size w W → ∀ j u, (flatT k)[j]? = some u → W.cell? ⟨b, o + j, none⟩ = some u) (hone : ∀ u, u ∈ flatT k → u.oneCell' = true)
    (h1 : k.length ≤ cap) (h2 : cap ≤ maxLen) (hi : i < k.length) (hn : k.length ≤ 1048576) :
    Calls Try.prog 124 #[.slice (some ⟨b, o, none⟩) k.length cap, .int .i64 i] w fun e w' => ∃ v', e = .returned v' ∧ TreesOwn w' w.heap.size v' (takeAt k i) ∧ Below w.heap.size w w' := by
  unfold maxLen at h2
  have hfront : ∀ W, Below w.heap.size w W → KidsAt W (.slice (some ⟨b, o, none⟩) i cap) (k.take i) := fun W hb => by
    have h := KidsAt.part (w := W) (b := b) (o := o) (n := i) (K := k) (h6 W hb) 0 i cap (by omega) (by omega) (by omega)
    simpa using h
  obtain ⟨J, hJ⟩ : ∃ J, J = i + 1 := ⟨_, rfl⟩
  have hback : ∀ W, Below w.heap.size w W → ∀ c', KidsAt W (.slice (some ⟨b, o + J * 2, none⟩) (k.length - J) c') (k.drop J) := fun W hb c' => by
    have h := KidsAt.part (w := W) (b := b) (o := o) (n := k.length - J) (K := k) (h6 W hb) J k.length c' (by omega) (Nat.le_refl _) rfl
    rwa [List.take_of_length_le (by simp)] at h
  have h1f : ∀ u, u ∈ flatT (k.take i) → u.oneCell' = true := fun u hu => hone u (by rw [flatT_take] at hu; exact List.mem_of_mem_take hu)
  have h1b : ∀ u, u ∈ flatT (k.drop J) → u.oneCell' = true := fun u hu => hone u (by rw [flatT_drop] at hu; exact List.mem_of_mem_drop hu)
  have HF := Lib.hid hfront
  have HBK := Lib.hid hback
  have H1C := Lib.hid (And.intro h1f h1b)
  have HL0 := Lib.hid (show (([] : List (Value × Value)).length + (k.take i).length) ≤ 100000000 by simp; omega)
  have HBW := Lib.hid (show Below w.heap.size w (w.alloc (.cells #[] 29)).drew from ((Below.refl w.heap.size w).alloc (Nat.le_refl _) _).drew)
  clear hfront hback h6 h1f h1b hone
  have hii : (i : Int) ≤ (k.length : Int) := by omega
  have hi1 : (J : Int) ≤ (k.length : Int) := by omega
  have hwm : IntKind.i64.wrap ((i : Int) + 1) = (J : Int) := by rw [IntKind.wrap_i64]; omega
  have hj0 : (0 : Int) ≤ (J : Int) := by omega
  have hij : (i : Int) ≤ (J : Int) := by omega
  have HJ := Lib.hid hJ
  have hic : (i : Int) ≤ (cap : Int) := by omega
  have hkc : (k.length : Int) ≤ (cap : Int) := by omega
  clear hJ
  go_enter Try.func124, Try.ntmps124
  go_upto_region 1 with (fail)
  by_cases hik : J < k.length
  · have hci : ¬ cap = J := by omega
    go_region_law
      (first
        | ((refine step_append_trees (by rfl) (.tmp 9) (.tmp 13) (by rfl) w.heap.size (.slice a3 L3.length c3) (.slice _ _ _) L3 (k.drop J) (by rfl) H3.out.1 (by rfl) (HBK.out _ H3.out.2.2 _) H1C.out.2 (by have h1 := H3.out.2.1; rw [← h1]; simp; omega) H3.out.2.2.size ?_; intro v5 w5 hown5 hbel5 hgrow5 hsh5; obtain ⟨a5, c5, rfl⟩ := hsh5; generalize hL5 : L3 ++ k.drop J = L5 at hown5 ⊢; have H5 := Lib.hid (And.intro hown5 (And.intro hL5 (H3.out.2.2.trans hbel5))); clear hown5 hbel5 hgrow5 hL5))
        | ((refine step_append_trees (by rfl) (.tmp 5) (.tmp 8) (by rfl) w.heap.size (.slice (some ⟨_, 0, none⟩) 0 0) (.slice _ i _) [] (k.take i) (by rfl) (made1T w) (by rfl) (HF.out _ HBW.out) H1C.out.1 HL0.out (by simp <;> omega) ?_; intro v3 w3 hown3 hbel3 hgrow3 hsh3; obtain ⟨a3, c3, rfl⟩ := hsh3; generalize hL3 : ([] : List (Value × Value)) ++ k.take i = L3 at hown3 ⊢; have H3 := Lib.hid (And.intro hown3 (And.intro hL3 (HBW.out.trans hbel3))); clear hown3 hbel3 hgrow3 hL3))
        | fail)
    all_goals (
      go_wp2_with fail
      go_ret
      have hfin : ∀ v' w', TreesOwn w' w.heap.size v' L5 → TreesOwn w' w.heap.size v' (takeAt k i) := fun v' w' h => by rw [← H5.out.2.1, ← H3.out.2.1] at h; unfold takeAt; rw [← HJ.out]; simpa using h
      exact ⟨_, rfl, hfin _ _ H5.out.1, H5.out.2.2⟩)
  · have hd : k.drop J = [] := List.drop_eq_nil_of_le (by omega)
    have HD := Lib.hid hd
    clear hd
    have hkl : k.length = J := by omega
    have HKL := Lib.hid hkl
    by_cases hci : cap = J
    · have hci' := hci.symm
      clear hci
      subst hci'
      go_region_law
        (first
          | ((refine step_append_trees (by rfl) (.tmp 9) (.tmp 13) (by rfl) w.heap.size (.slice a3 L3.length c3) (.slice _ _ _) L3 (k.drop J) (by rfl) H3.out.1 (by rfl) (by rw [HD.out]; first | exact KidsAt.none' _ _ (fun h => by first | rfl | simp | simp at h) | (rw [show k.length - J = 0 by (have := HKL.out; omega)]; exact KidsAt.none' _ _ (fun h => by first | rfl | simp | simp at h))) H1C.out.2 (by have h1 := H3.out.2.1; rw [← h1]; simp; omega) H3.out.2.2.size ?_; intro v5 w5 hown5 hbel5 hgrow5 hsh5; obtain ⟨a5, c5, rfl⟩ := hsh5; generalize hL5 : L3 ++ k.drop J = L5 at hown5 ⊢; have H5 := Lib.hid (And.intro hown5 (And.intro hL5 (H3.out.2.2.trans hbel5))); clear hown5 hbel5 hgrow5 hL5))
          | ((refine step_append_trees (by rfl) (.tmp 5) (.tmp 8) (by rfl) w.heap.size (.slice (some ⟨_, 0, none⟩) 0 0) (.slice _ i _) [] (k.take i) (by rfl) (made1T w) (by rfl) (HF.out _ HBW.out) H1C.out.1 HL0.out (by simp <;> omega) ?_; intro v3 w3 hown3 hbel3 hgrow3 hsh3; obtain ⟨a3, c3, rfl⟩ := hsh3; generalize hL3 : ([] : List (Value × Value)) ++ k.take i = L3 at hown3 ⊢; have H3 := Lib.hid (And.intro hown3 (And.intro hL3 (HBW.out.trans hbel3))); clear hown3 hbel3 hgrow3 hL3))
          | fail)
      all_goals (
        go_wp2_with fail
        go_ret
        have hfin : ∀ v' w', TreesOwn w' w.heap.size v' L5 → TreesOwn w' w.heap.size v' (takeAt k i) := fun v' w' h => by rw [← H5.out.2.1, ← H3.out.2.1] at h; unfold takeAt; rw [← HJ.out]; simpa using h
        exact ⟨_, rfl, hfin _ _ H5.out.1, H5.out.2.2⟩)
    · go_region_law
        (first
          | ((refine step_append_trees (by rfl) (.tmp 9) (.tmp 13) (by rfl) w.heap.size (.slice a3 L3.length c3) (.slice _ _ _) L3 (k.drop J) (by rfl) H3.out.1 (by rfl) (by rw [HD.out]; first | exact KidsAt.none' _ _ (fun h => by first | rfl | simp | simp at h) | (rw [show k.length - J = 0 by (have := HKL.out; omega)]; exact KidsAt.none' _ _ (fun h => by first | rfl | simp | simp at h))) H1C.out.2 (by have h1 := H3.out.2.1; rw [← h1]; simp; omega) H3.out.2.2.size ?_; intro v5 w5 hown5 hbel5 hgrow5 hsh5; obtain ⟨a5, c5, rfl⟩ := hsh5; generalize hL5 : L3 ++ k.drop J = L5 at hown5 ⊢; have H5 := Lib.hid (And.intro hown5 (And.intro hL5 (H3.out.2.2.trans hbel5))); clear hown5 hbel5 hgrow5 hL5))
          | ((refine step_append_trees (by rfl) (.tmp 5) (.tmp 8) (by rfl) w.heap.size (.slice (some ⟨_, 0, none⟩) 0 0) (.slice _ i _) [] (k.take i) (by rfl) (made1T w) (by rfl) (HF.out _ HBW.out) H1C.out.1 HL0.out (by simp <;> omega) ?_; intro v3 w3 hown3 hbel3 hgrow3 hsh3; obtain ⟨a3, c3, rfl⟩ := hsh3; generalize hL3 : ([] : List (Value × Value)) ++ k.take i = L3 at hown3 ⊢; have H3 := Lib.hid (And.intro hown3 (And.intro hL3 (HBW.out.trans hbel3))); clear hown3 hbel3 hgrow3 hL3))
          | fail)
      all_goals (
        go_wp2_with fail
        go_ret
        have hfin : ∀ v' w', TreesOwn w' w.heap.size v' L5 → TreesOwn w' w.heap.size v' (takeAt k i) := fun v' w' h => by rw [← H5.out.2.1, ← H3.out.2.1] at h; unfold takeAt; rw [← HJ.out]; simpa using h
        exact ⟨_, rfl, hfin _ _ H5.out.1, H5.out.2.2⟩)
end Go.Proofs.Ytepkigcbjepbpaa
