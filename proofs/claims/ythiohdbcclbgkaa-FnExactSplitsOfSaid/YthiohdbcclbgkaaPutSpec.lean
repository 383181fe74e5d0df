/- The model's l3Put. -/
import Derived.Test.YthiohdbcclbgkaaProg
import Derived.Test.YthiohdbcclbgkaaBase
import Derived.Test.YthiohdbcclbgkaaApp
import Derived.Test.YthiohdbcclbgkaaGrowData
import Derived.Deep.Cut
namespace Go.Proofs.Ythiohdbcclbgkaa
open Go.RowKit

/-- A part of a slice of ints. -/
theorem IntsAt.part {w : World} {b o n : Nat} {ks : List Int} (h : ∀ i, i < ks.length → w.cell? ⟨b, o + i, none⟩ = some (.int .i64 (ks.getD i 0))) (lo hi cap : Nat) (h1 : lo ≤ hi) (h2 : hi ≤ ks.length) (hn : n = hi - lo) :
    IntsAt w (.slice (some ⟨b, o + lo, none⟩) n cap) ((ks.drop lo).take (hi - lo)) := by
  have hl : ((ks.drop lo).take (hi - lo)).length = hi - lo := by simp; omega
  refine ⟨some ⟨b, o + lo, none⟩, cap, by rw [hl, hn], by simp, .inr ⟨b, o + lo, rfl, fun i hi' => ?_⟩⟩
  rw [hl] at hi'
  rw [show o + lo + i = o + (lo + i) by omega, h (lo + i) (by omega)]
  simp [List.getD_eq_getElem?_getD, hi']
theorem IntsAt.none' {w : World} (a : Option Addr) (cap : Nat) (h : a = none → cap = 0) : IntsAt w (.slice a 0 cap) [] := ⟨a, cap, rfl, h, .inl rfl⟩

set_option maxRecDepth 100000 in
set_option maxHeartbeats 2000000 in
theorem l3Put_c (w : World) (B : Nat) (v : Value) (k : List Int) (i : Nat) (key : Int) (hk : IntsIn w B v k) (hB : B ≤ w.heap.size) (hi : i ≤ k.length) (hn : k.length ≤ 1048576) :
    Calls Try.prog 121 #[v, .int .i64 i, .int .i64 key] w fun e w' => ∃ v', e = .returned v' ∧ IntsOwn w' w.heap.size v' (putAt k i key) ∧ Below w.heap.size w w' := by
  obtain ⟨a, cap, rfl, h1, h2, h3, h4⟩ := hk
  unfold maxLen at h2
  obtain ⟨W1, hW1⟩ : ∃ W1, W1 = w.alloc (.cells #[] 3) := ⟨_, rfl⟩
  have hs1 : W1.heap.size = w.heap.size + 1 := by rw [hW1]; simp
  have hb1 : Below w.heap.size w W1 := by rw [hW1]; exact (Below.refl _ _).alloc (Nat.le_refl _) _
  have h00 : IntsOwn W1 w.heap.size (.slice (some ⟨w.heap.size, 0, none⟩) 0 0) [] := by rw [hW1]; exact World.ownsRow_made w #[] 0 (Nat.le_refl _) (by unfold maxLen; omega) rfl
  have hfront : ∀ W, Below w.heap.size w W → IntsAt W (.slice a i cap) (k.take i) := fun W hb => by
    rcases h4 with h4 | ⟨b, o, rfl, h5, h6⟩
    · have e : i = 0 := by rw [h4] at hi; simpa using hi
      rw [e, List.take_zero]
      exact IntsAt.none' a cap h3
    · have h := IntsAt.part (w := W) (b := b) (o := o) (n := i) (ks := k) (fun j hj => by rw [below_cell hb (by omega)]; exact h6 j hj) 0 i cap (by omega) hi (by omega)
      simpa using h
  have hback : ∀ W, Below w.heap.size w W → ∀ a' c', (i < k.length → (∃ b o, a = some ⟨b, o, none⟩ ∧ a' = some ⟨b, o + i, none⟩)) → (a' = none → c' = 0) → IntsAt W (.slice a' (k.length - i) c') (k.drop i) := fun W hb a' c' ha hc => by
    by_cases hik : i < k.length
    · obtain ⟨b, o, rfl, rfl⟩ := ha hik
      rcases h4 with h4 | ⟨b', o', e, h5, h6⟩
      · rw [h4] at hik; simp at hik
      · simp only [Option.some.injEq, Addr.mk.injEq, and_true] at e
        obtain ⟨rfl, rfl⟩ := e
        have h := IntsAt.part (w := W) (b := b) (o := o) (n := k.length - i) (ks := k) (fun j hj => by rw [below_cell hb (by omega)]; exact h6 j hj) i k.length c' (by omega) (Nat.le_refl _) rfl
        rwa [List.take_of_length_le (by simp)] at h
    · rw [show k.length - i = 0 by omega, List.drop_eq_nil_of_le (by omega)]
      exact IntsAt.none' a' c' hc
  have hsome : i < k.length → ∃ b o, a = some ⟨b, o, none⟩ := fun h => by
    rcases h4 with h4 | ⟨b, o, e, _⟩
    · rw [h4] at h; simp at h
    · exact ⟨b, o, e⟩
  have HW1 := Lib.hid hW1
  have H1 := Lib.hid (And.intro hb1 (And.intro h00 hs1))
  have HF := Lib.hid hfront
  have HBK := Lib.hid hback
  have HS := Lib.hid (And.intro hsome h3)
  have hlen1 : (([] : List Int).length + (k.take i).length) ≤ 17592186044416 := by simp; omega
  have HLEN := Lib.hid hlen1
  clear hW1 hs1 hb1 h00 hfront hback h4 hsome hlen1 h3
  go_enter Try.func121, Try.ntmps121
  go_upto_region 1 with (fail)
  go_upto_region 2 with (at_builtin; rw [← HW1.out]; refine wpList_append_ints rfl _ _ rfl w.heap.size _ _ [] (k.take i) rfl H1.out.2.1 rfl (HF.out _ H1.out.1) HLEN.out (by have := H1.out.2.2; omega) ?_; intro v2 w2 hown2 hbel2 _ hsh2; obtain ⟨a2, c2, rfl⟩ := hsh2; generalize hL2 : ([] : List Int) ++ k.take i = L2 at hown2 ⊢; have H2 := Lib.hid (And.intro hown2 (And.intro (H1.out.1.trans hbel2) hL2)); clear hown2 hbel2 hL2)
  have hs2 := H2.out.2.1.size
  have hl2 : L2.length ≤ 1048576 := by rw [← H2.out.2.2]; simp; omega
  have HL2 := Lib.hid hl2
  clear hl2
  go_upto_region 3 with (at_builtin; refine wpList_append_ints rfl _ _ rfl w.heap.size _ _ L2 [key] rfl (IntsOwn.alloc' H2.out.1 _) rfl (IntsAt.one w2 key) (by have := HL2.out; simp; omega) (by simp; omega) ?_; intro v3 w3 hown3 hbel3 _ hsh3; obtain ⟨a3, c3, rfl⟩ := hsh3; generalize hL3 : L2 ++ [key] = L3 at hown3 ⊢; have H3 := Lib.hid (And.intro hown3 (And.intro ((H2.out.2.1.alloc hs2 _).trans hbel3) hL3)); clear hown3 hbel3 hL3)
  have hs3 := H3.out.2.1.size
  have hl3 : L3.length ≤ 1048577 := by rw [← H3.out.2.2]; have := HL2.out; simp; omega
  have HL3 := Lib.hid hl3
  clear hl3
  have hii : (i : Int) ≤ (k.length : Int) := by omega
  have hfin : ∀ v' w', IntsOwn w' w.heap.size v' (L3 ++ k.drop i) → IntsOwn w' w.heap.size v' (putAt k i key) := fun v' w' h => by
    rw [← H3.out.2.2, ← H2.out.2.2] at h
    simpa [putAt] using h
  have HFIN := Lib.hid hfin
  clear hfin
  by_cases hik : i < k.length
  · obtain ⟨b, o, rfl⟩ := HS.out.1 hik
    have hci : ¬ cap = i := by omega
    go_wp2_with (at_builtin; refine wpList_append_ints rfl _ _ rfl w.heap.size _ _ L3 (k.drop i) rfl H3.out.1 rfl (HBK.out _ H3.out.2.1 _ _ (fun h => ⟨b, o, rfl, rfl⟩) (fun h => by simp at h)) (by have := HL3.out; simp; omega) (by omega) ?_; intro v4 w4 hown4 hbel4 _ hsh4; obtain ⟨a4, c4, rfl⟩ := hsh4; generalize hL4 : L3 ++ k.drop i = L4 at hown4 ⊢; have H4 := Lib.hid (And.intro hown4 (And.intro (H3.out.2.1.trans hbel4) hL4)); clear hown4 hbel4 hL4)
    go_ret
    exact ⟨_, rfl, HFIN.out _ _ (by rw [H4.out.2.2]; exact H4.out.1), H4.out.2.1⟩
  · have hd : k.drop i = [] := List.drop_eq_nil_of_le (by omega)
    have HD := Lib.hid hd
    clear hd
    obtain rfl : i = k.length := by omega
    by_cases hci : cap = k.length
    · subst hci
      go_wp2_with (at_builtin; refine wpList_append_ints rfl _ _ rfl w.heap.size _ _ L3 [] rfl H3.out.1 rfl (IntsAt.none' _ _ (fun _ => rfl)) (by have := HL3.out; simp; omega) (by omega) ?_; intro v4 w4 hown4 hbel4 _ hsh4; obtain ⟨a4, c4, rfl⟩ := hsh4; generalize hL4 : L3 ++ ([] : List Int) = L4 at hown4 ⊢; have H4 := Lib.hid (And.intro hown4 (And.intro (H3.out.2.1.trans hbel4) hL4)); clear hown4 hbel4 hL4)
      go_ret
      exact ⟨_, rfl, HFIN.out _ _ (by rw [HD.out, H4.out.2.2]; exact H4.out.1), H4.out.2.1⟩
    · rcases a with _ | ⟨b, o, sp⟩
      · have := HS.out.2 rfl; omega
      · go_wp2_with (at_builtin; refine wpList_append_ints rfl _ _ rfl w.heap.size _ _ L3 [] rfl H3.out.1 rfl (IntsAt.none' _ _ (fun h => by simp at h)) (by have := HL3.out; simp; omega) (by omega) ?_; intro v4 w4 hown4 hbel4 _ hsh4; obtain ⟨a4, c4, rfl⟩ := hsh4; generalize hL4 : L3 ++ ([] : List Int) = L4 at hown4 ⊢; have H4 := Lib.hid (And.intro hown4 (And.intro (H3.out.2.1.trans hbel4) hL4)); clear hown4 hbel4 hL4)
        go_ret
        exact ⟨_, rfl, HFIN.out _ _ (by rw [HD.out, H4.out.2.2]; exact H4.out.1), H4.out.2.1⟩
end Go.Proofs.Ythiohdbcclbgkaa
