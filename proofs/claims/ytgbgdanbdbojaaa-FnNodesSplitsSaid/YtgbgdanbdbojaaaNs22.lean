/- The model's l3Put. -/
import Derived.Test.YtgbgdanbdbojaaaProg
import Derived.Test.YtgbgdanbdbojaaaNs0
import Derived.Test.YtgbgdanbdbojaaaNs14
import Derived.Test.YtgbgdanbdbojaaaNs13
import Derived.Test.YtgbgdanbdbojaaaNs17
import Derived.Test.YtgbgdanbdbojaaaPlantNd
import Derived.Test.YtgbgdanbdbojaaaNs20
import Derived.Test.YtgbgdanbdbojaaaInsert
import Derived.Deep.Cut
import Derived.Test.YtgbgdanbdbojaaaNs21

/- The contract of grownBy. -/
namespace Go.Proofs.Ytgbgdanbdbojaaa
open Go.RowKit

/-- Whether a key can be put into a tree. -/
def Tr.askedB (wide key : Int) (t : Tr) : Bool := Tr.validB wide t && (inB key 0 99 && !(t.pathB key).2)

theorem Tr.valid_some {wide : Int} {t : Tr} (h : Tr.validB wide t = true) : t.someB = true := by
  have hw := Tr.valid_wide h
  obtain ⟨q, hq⟩ : ∃ q : Nat, wide = (q : Int) := ⟨wide.toNat, by omega⟩
  subst hq
  exact (someB_of t).1 q (by omega) (by omega) h

theorem Tr.asked_path {wide key : Int} {t : Tr} (h : Tr.askedB wide key t = true) : Tr.validB wide t = true ∧ (t.path key).2 = false := by
  simp only [Tr.askedB, Bool.and_eq_true, Bool.not_eq_true'] at h
  refine ⟨h.1, ?_⟩
  have := (someB_path key t).1 (Tr.valid_some h.1)
  rw [← this]; exact h.2.2

/-- What grownBy leaves. -/
def GrownOf (w : World) (wide key : Int) (t : Tr) (e : Ending) (w' : World) : Prop :=
  (Tr.askedB wide key t = false ∧ e = .returned (.tuple #[.pointer none, .bool false]) ∧ Below w.heap.size w w') ∨
  (Tr.askedB wide key t = true ∧ ∃ (gb b : Nat) (F : Cells), e = .returned (.tuple #[.pointer (some ⟨gb, 0, none⟩), .bool true]) ∧ Grow w' gb wide (Tr.insN wide key t) (Tr.insG wide key t) F b (Tr.insT wide key t) ∧
    (∀ x o, F x o → w.heap.size ≤ x) ∧ Below w.heap.size w w')

set_option maxRecDepth 100000 in
set_option maxHeartbeats 4000000 in
theorem grownBy_c {w : World} {B : Nat} {kv cv : Value} {t : Tr} (ht : TreeIn w B kv cv t) (hw : t.weight ≤ 1048576) (wide key : Int) (hn1 : -9223372036854775808 ≤ wide) (hn2 : wide ≤ 9223372036854775807) (w' : World) (hbw : Below B w w') (hB : B ≤ w'.heap.size) :
    Calls Try.prog 40 #[.agg #[kv, cv], .int .i64 wide, .int .i64 key] w' (GrownOf w' wide key t) := by
  obtain ⟨a5, n5, m5, a6, n6, m6, rfl, rfl⟩ := ht.slices
  obtain ⟨W1, hW1⟩ : ∃ W1, W1 = w'.alloc (.cells #[.slice a5 n5 m5, .slice a6 n6 m6] 26) := ⟨_, rfl⟩
  have hs1 : W1.heap.size = w'.heap.size + 1 := by rw [hW1]; simp
  have hb1 : Below w'.heap.size w' W1 := by rw [hW1]; exact (Below.refl _ _).alloc (Nat.le_refl _) _
  have k0 : W1.heap[w'.heap.size]? = some (.cells #[.slice a5 n5 m5, .slice a6 n6 m6] 26 (0, 0)) := by rw [hW1, new_blk]
  obtain ⟨x1, x2, x3, x4⟩ := box2 k0
  have HT := Lib.hid ht
  have HBW := Lib.hid hbw
  have HW1 := Lib.hid hW1
  have H1 := Lib.hid (And.intro hb1 k0)
  clear ht hbw hW1 hb1 k0
  go_enter Try.func40, Try.ntmps40
  go_wp2_with fail
  rw [← HW1.out]
  refine (impl_valid _ _ _ _ _ wide HT.out hw hn1 hn2 W1 (HBW.out.trans (H1.out.1.mono hB)) (by omega)).mono ?_
  rintro e w2 ⟨rfl, hb2⟩
  have hs2 := hb2.size
  clear x1 x2 x3 x4
  have j0 := (hb2.block _ (by omega)).trans H1.out.2
  obtain ⟨x1, x2, x3, x4⟩ := box2 j0
  have hb2' := H1.out.1.trans (hb2.mono (by omega))
  have H2 := Lib.hid (And.intro hb2' j0)
  have HB2 := Lib.hid (HBW.out.trans (hb2'.mono hB))
  clear hb2 hb2' j0
  cases hv : Tr.validB wide t with
  | false =>
    have HA := Lib.hid (show Tr.askedB wide key t = false by simp [Tr.askedB, hv])
    clear hv
    go_wp2_with fail
    refine bodyPost_ret (v := .tuple #[.pointer none, .bool false]) (by simp [results, Try.results40, go_sem]) rfl (.inl ⟨HA.out, rfl, H2.out.1⟩)
  | true =>
  have HV := Lib.hid hv
  clear hv
  go_wp2_with fail
  refine (isKey_c key w2).mono ?_
  rintro e w3 ⟨rfl, rfl⟩
  cases hk : inB key 0 99 with
  | false =>
    have HA := Lib.hid (show Tr.askedB wide key t = false by simp [Tr.askedB, hk])
    clear hk
    go_wp2_with fail
    refine bodyPost_ret (v := .tuple #[.pointer none, .bool false]) (by simp [results, Try.results40, go_sem]) rfl (.inl ⟨HA.out, rfl, H2.out.1⟩)
  | true =>
  have HK := Lib.hid hk
  clear hk
  go_wp2_with fail
  refine (impl_has HT.out hw key _ HB2.out (by omega)).mono ?_
  rintro e w4 ⟨rfl, hb4⟩
  have hs4 := hb4.size
  clear x1 x2 x3 x4
  have j0 := (hb4.block _ (by omega)).trans H2.out.2
  obtain ⟨x1, x2, x3, x4⟩ := box2 j0
  have hb4' := H2.out.1.trans (hb4.mono (by omega))
  have H4 := Lib.hid (And.intro hb4' j0)
  have HB4 := Lib.hid (HBW.out.trans (hb4'.mono hB))
  clear hb4 hb4' j0
  cases hp : (t.pathB key).2 with
  | true =>
    have HA := Lib.hid (show Tr.askedB wide key t = false by simp [Tr.askedB, hp])
    clear hp
    go_wp2_with fail
    refine bodyPost_ret (v := .tuple #[.pointer none, .bool false]) (by simp [results, Try.results40, go_sem]) rfl (.inl ⟨HA.out, rfl, H4.out.1⟩)
  | false =>
  have hask : Tr.askedB wide key t = true := by simp [Tr.askedB, HV.out, HK.out, hp]
  have hpath := (Tr.asked_path hask).2
  have hsmall := Tr.valid_small HV.out
  have HASK := Lib.hid (And.intro hask hpath)
  clear hp hask hpath
  go_wp2_with fail
  refine (plant_nd HT.out hw w4 HB4.out (by omega)).mono ?_
  rintro e w5 ⟨b, rfl, hnd, hb5⟩
  have hs5 := hb5.size
  obtain ⟨W6, hW6⟩ : ∃ W6, W6 = w5.alloc (.cells #[.pointer (some ⟨b, 0, none⟩), .int .i64 wide, .int .i64 0, .bool false] 55) := ⟨_, rfl⟩
  have hs6 : W6.heap.size = w5.heap.size + 1 := by rw [hW6]; simp
  have hb6 : Below w5.heap.size w5 W6 := by rw [hW6]; exact (Below.refl _ _).alloc (Nat.le_refl _) _
  have hk6 : KeptF (fun _ _ => False) w5 W6 := KeptF.of_below hb6 (Nat.le_refl _)
  have hg6 : GBox W6 w5.heap.size (.pointer (some ⟨b, 0, none⟩)) wide 0 (.bool false) := by unfold GBox; rw [hW6, new_blk]; rfl
  have hgrow : Grow W6 w5.heap.size wide 0 false (span w4.heap.size w5.heap.size) b t := ⟨hg6, hnd.keep hk6 (fun _ _ _ h => h), fun o h => by have := h.2; omega⟩
  have hcall := insert_c wide key (Tr.valid_wide HV.out) W6 w5.heap.size 0 false _ b t hgrow (Tr.valid_well HV.out) (by omega) (by omega)
  have HC := Lib.hid hcall
  have HW6 := Lib.hid hW6
  have H6 := Lib.hid (H4.out.1.trans ((hb5.mono (by omega)).trans (hb6.mono (by omega))))
  clear hcall hgrow hg6 hk6 hb6 hW6 hnd hb5 x1 x2 x3 x4
  go_wp2_with fail
  rw [← HW6.out]
  refine HC.out.mono ?_
  rintro e w7 ⟨F', b', rfl, hgr, hF', hk7⟩
  rw [HASK.out.2] at hgr
  simp only [Bool.false_eq_true, if_false, Bool.false_or, Nat.zero_add] at hgr
  have H7 := Lib.hid (And.intro hgr (And.intro hF' hk7))
  clear hgr hF' hk7
  go_wp2_with fail
  refine bodyPost_ret (v := .tuple #[.pointer (some ⟨w5.heap.size, 0, none⟩), .bool true]) (by simp [results, Try.results40, go_sem]) rfl (.inr ⟨HASK.out.1, _, b', F', rfl, H7.out.1, fun x o h => ?_, ?_⟩)
  · rcases H7.out.2.1 x o h with h | h
    · have := h.1; omega
    · omega
  · exact H6.out.trans (H7.out.2.2.below (by omega) (fun x o h => by
      rcases h with h | h
      · have := h.1; omega
      · omega))
end Go.Proofs.Ytgbgdanbdbojaaa

/- A list of keys inserted one behind the other: plain data. -/
namespace Go.Proofs.Ytgbgdanbdbojaaa
open Go.RowKit
namespace Tr

/-- One key more: the tree, and how many nodes have been split. -/
def putKey (wide : Int) (s : Tr × Nat) (k : Int) : Tr × Nat := if (s.1.path k).2 then s else (insT wide k s.1, s.2 + insN wide k s.1)
def allIn (wide : Int) (ks : List Int) : Tr × Nat := ks.foldl (putKey wide) (.mk [] [], 0)

theorem allIn_snoc (wide : Int) {ks : List Int} {j : Nat} (h : j < ks.length) : allIn wide (ks.take (j + 1)) = putKey wide (allIn wide (ks.take j)) (ks.getD j 0) := by
  have e : ks.take (j + 1) = ks.take j ++ [ks.getD j 0] := by
    rw [List.take_add_one, List.getElem?_eq_getElem h, List.getD_eq_getElem?_getD, List.getElem?_eq_getElem h]
    rfl
  rw [e]
  unfold allIn
  rw [List.foldl_append]
  rfl

theorem leaf_valid {wide : Int} (h2 : 2 ≤ wide) (h6 : wide ≤ 6) : validB wide (.mk [] []) = true := by
  obtain ⟨n, rfl⟩ := Int.eq_ofNat_of_zero_le (show 0 ≤ wide by omega)
  have : n = 2 ∨ n = 3 ∨ n = 4 ∨ n = 5 ∨ n = 6 := by omega
  rcases this with rfl | rfl | rfl | rfl | rfl <;> decide

theorem path_has {wide k : Int} {t : Tr} (h : validB wide t = true) : (t.path k).2 = true ↔ k ∈ t.keys := by
  rw [← (someB_path k t).1 (valid_some h)]
  exact hasB_iff k t (valid_some h)

theorem insN_le (wide k : Int) (t : Tr) : insN wide k t ≤ t.weight + 1 := by
  have := grow_count wide k t
  unfold insN
  dsimp only
  split <;> omega

theorem putKey_valid {wide k : Int} {s : Tr × Nat} (h : validB wide s.1 = true) (h0 : 0 ≤ k) (h9 : k ≤ 99) : validB wide (putKey wide s k).1 = true ∧ (putKey wide s k).2 ≤ s.2 + 201 := by
  unfold putKey
  by_cases hp : (s.1.path k).2 = true
  · rw [if_pos hp]; exact ⟨h, by omega⟩
  · rw [if_neg hp]
    refine ⟨insT_valid h h0 h9 (fun hm => hp ((path_has h).2 hm)), ?_⟩
    have h1 := insN_le wide k s.1
    have h2 := valid_small h
    show s.2 + insN wide k s.1 ≤ s.2 + 201
    omega

theorem allIn_valid {wide : Int} (h2 : 2 ≤ wide) (h6 : wide ≤ 6) {ks : List Int} (hk : ∀ i, i < ks.length → inB (ks.getD i 0) 0 99 = true) :
    ∀ j, j ≤ ks.length → validB wide (allIn wide (ks.take j)).1 = true ∧ (allIn wide (ks.take j)).2 ≤ 201 * j := by
  intro j
  induction j with
  | zero => intro _; exact ⟨leaf_valid h2 h6, Nat.le_refl _⟩
  | succ j ih =>
    intro hj
    obtain ⟨hv, hn⟩ := ih (by omega)
    have hb := hk j (by omega)
    have hb' : 0 ≤ ks.getD j 0 ∧ ks.getD j 0 ≤ 99 := by simpa [inB] using hb
    obtain ⟨h3, h4⟩ := putKey_valid hv hb'.1 hb'.2
    rw [allIn_snoc wide (by omega)]
    exact ⟨h3, by omega⟩

/-- What InsertAll and SplitsOf tell. -/
def allOk (wide : Int) (ks : List Int) : Bool := inB wide 2 6 && keysOk ks
def insAllT (wide : Int) (ks : List Int) : Tr := if allOk wide ks then (allIn wide ks).1 else .mk [] []
def splitsOfB (wide : Int) (ks : List Int) : Int := if allOk wide ks then ((allIn wide ks).2 : Int) else -1
end Tr

theorem keysOk_at {ks : List Int} (h : keysOk ks = true) : (∀ i, i < ks.length → inB (ks.getD i 0) 0 99 = true) ∧ ks.length ≤ 200 := by
  unfold keysOk at h
  rw [Bool.and_eq_true, List.all_eq_true] at h
  exact ⟨fun i hi => h.1 i (by simpa using hi), of_decide_eq_true h.2⟩

theorem Tr.insAll_weight (wide : Int) (ks : List Int) : (Tr.insAllT wide ks).weight ≤ 1048576 := by
  unfold insAllT
  split
  · rename_i h
    simp only [allOk, Bool.and_eq_true] at h
    have hw : 2 ≤ wide ∧ wide ≤ 6 := by simpa [inB] using h.1
    have h1 := (allIn_valid hw.1 hw.2 (keysOk_at h.2).1 ks.length (Nat.le_refl _)).1
    rw [List.take_length] at h1
    have := valid_small h1
    omega
  · simp [weight, weights]
end Go.Proofs.Ytgbgdanbdbojaaa

/- The model's l3Put. -/
namespace Go.Proofs.Ytgbgdanbdbojaaa
open Go.RowKit

/-- A part of a slice of ints. -/
theorem IntsAt.part {w : World} {b o n : Nat} {ks : List Int} (h : ∀ i, i < ks.length → w.cell? ⟨b, o + i, none⟩ = some (.int .i64 (ks.getD i 0))) (lo hi cap : Nat) (h1 : lo ≤ hi) (h2 : hi ≤ ks.length) (hn : n = hi - lo) :
    IntsAt w (.slice (some ⟨b, o + lo, none⟩) n cap) ((ks.drop lo).take (hi - lo)) := by
  have hl : ((ks.drop lo).take (hi - lo)).length = hi - lo := by simp; omega
  refine ⟨some ⟨b, o + lo, none⟩, cap, by rw [hl, hn], by simp, .inr ⟨b, o + lo, rfl, fun i hi' => ?_⟩⟩
  rw [hl] at hi'
  rw [show o + lo + i = o + (lo + i) by omega, h (lo + i) (by omega)]
  simp [List.getD_eq_getElem?_getD, hi']
theorem IntsAt.none' {w : World} (a : Option Addr) (cap : Nat) (h : a = none → cap = 0) : IntsAt w (.slice a 0 cap) [] := ⟨a, cap, rfl, h, .inl rfl⟩

set_option maxRecDepth 100000 in
set_option maxHeartbeats 2000000 in
theorem l3Put_c (w : World) (B : Nat) (v : Value) (k : List Int) (i : Nat) (key : Int) (hk : IntsIn w B v k) (hB : B ≤ w.heap.size) (hi : i ≤ k.length) (hn : k.length ≤ 1048576) :
    Calls Try.prog 79 #[v, .int .i64 i, .int .i64 key] w fun e w' => ∃ v', e = .returned v' ∧ IntsOwn w' w.heap.size v' (putAt k i key) ∧ Below w.heap.size w w' := by
  obtain ⟨a, cap, rfl, h1, h2, h3, h4⟩ := hk
  unfold maxLen at h2
  obtain ⟨W1, hW1⟩ : ∃ W1, W1 = w.alloc (.cells #[] 3) := ⟨_, rfl⟩
  have hs1 : W1.heap.size = w.heap.size + 1 := by rw [hW1]; simp
  have hb1 : Below w.heap.size w W1 := by rw [hW1]; exact (Below.refl _ _).alloc (Nat.le_refl _) _
  have h00 : IntsOwn W1 w.heap.size (.slice (some ⟨w.heap.size, 0, none⟩) 0 0) [] := by rw [hW1]; exact World.ownsRow_made w #[] 0 (Nat.le_refl _) (by unfold maxLen; omega) rfl
  have hfront : ∀ W, Below w.heap.size w W → IntsAt W (.slice a i cap) (k.take i) := fun W hb => by
    rcases h4 with h4 | ⟨b, o, rfl, h5, h6⟩
    · have e : i = 0 := by rw [h4] at hi; simpa using hi
      rw [e, List.take_zero]
      exact IntsAt.none' a cap h3
    · have h := IntsAt.part (w := W) (b := b) (o := o) (n := i) (ks := k) (fun j hj => by rw [below_cell hb (by omega)]; exact h6 j hj) 0 i cap (by omega) hi (by omega)
      simpa using h
  have hback : ∀ W, Below w.heap.size w W → ∀ a' c', (i < k.length → (∃ b o, a = some ⟨b, o, none⟩ ∧ a' = some ⟨b, o + i, none⟩)) → (a' = none → c' = 0) → IntsAt W (.slice a' (k.length - i) c') (k.drop i) := fun W hb a' c' ha hc => by
    by_cases hik : i < k.length
    · obtain ⟨b, o, rfl, rfl⟩ := ha hik
      rcases h4 with h4 | ⟨b', o', e, h5, h6⟩
      · rw [h4] at hik; simp at hik
      · simp only [Option.some.injEq, Addr.mk.injEq, and_true] at e
        obtain ⟨rfl, rfl⟩ := e
        have h := IntsAt.part (w := W) (b := b) (o := o) (n := k.length - i) (ks := k) (fun j hj => by rw [below_cell hb (by omega)]; exact h6 j hj) i k.length c' (by omega) (Nat.le_refl _) rfl
        rwa [List.take_of_length_le (by simp)] at h
    · rw [show k.length - i = 0 by omega, List.drop_eq_nil_of_le (by omega)]
      exact IntsAt.none' a' c' hc
  have hsome : i < k.length → ∃ b o, a = some ⟨b, o, none⟩ := fun h => by
    rcases h4 with h4 | ⟨b, o, e, _⟩
    · rw [h4] at h; simp at h
    · exact ⟨b, o, e⟩
  have HW1 := Lib.hid hW1
  have H1 := Lib.hid (And.intro hb1 (And.intro h00 hs1))
  have HF := Lib.hid hfront
  have HBK := Lib.hid hback
  have HS := Lib.hid (And.intro hsome h3)
  have hlen1 : (([] : List Int).length + (k.take i).length) ≤ 17592186044416 := by simp; omega
  have HLEN := Lib.hid hlen1
  clear hW1 hs1 hb1 h00 hfront hback h4 hsome hlen1 h3
  go_enter Try.func79, Try.ntmps79
  go_upto_region 1 with (fail)
  go_upto_region 2 with (at_builtin; rw [← HW1.out]; refine wpList_append_ints rfl _ _ rfl w.heap.size _ _ [] (k.take i) rfl H1.out.2.1 rfl (HF.out _ H1.out.1) HLEN.out (by have := H1.out.2.2; omega) ?_; intro v2 w2 hown2 hbel2 _ hsh2; obtain ⟨a2, c2, rfl⟩ := hsh2; generalize hL2 : ([] : List Int) ++ k.take i = L2 at hown2 ⊢; have H2 := Lib.hid (And.intro hown2 (And.intro (H1.out.1.trans hbel2) hL2)); clear hown2 hbel2 hL2)
  have hs2 := H2.out.2.1.size
  have hl2 : L2.length ≤ 1048576 := by rw [← H2.out.2.2]; simp; omega
  have HL2 := Lib.hid hl2
  clear hl2
  go_upto_region 3 with (at_builtin; refine wpList_append_ints rfl _ _ rfl w.heap.size _ _ L2 [key] rfl (IntsOwn.alloc' H2.out.1 _) rfl (IntsAt.one w2 key) (by have := HL2.out; simp; omega) (by simp; omega) ?_; intro v3 w3 hown3 hbel3 _ hsh3; obtain ⟨a3, c3, rfl⟩ := hsh3; generalize hL3 : L2 ++ [key] = L3 at hown3 ⊢; have H3 := Lib.hid (And.intro hown3 (And.intro ((H2.out.2.1.alloc hs2 _).trans hbel3) hL3)); clear hown3 hbel3 hL3)
  have hs3 := H3.out.2.1.size
  have hl3 : L3.length ≤ 1048577 := by rw [← H3.out.2.2]; have := HL2.out; simp; omega
  have HL3 := Lib.hid hl3
  clear hl3
  have hii : (i : Int) ≤ (k.length : Int) := by omega
  have hfin : ∀ v' w', IntsOwn w' w.heap.size v' (L3 ++ k.drop i) → IntsOwn w' w.heap.size v' (putAt k i key) := fun v' w' h => by
    rw [← H3.out.2.2, ← H2.out.2.2] at h
    simpa [putAt] using h
  have HFIN := Lib.hid hfin
  clear hfin
  by_cases hik : i < k.length
  · obtain ⟨b, o, rfl⟩ := HS.out.1 hik
    have hci : ¬ cap = i := by omega
    go_wp2_with (at_builtin; refine wpList_append_ints rfl _ _ rfl w.heap.size _ _ L3 (k.drop i) rfl H3.out.1 rfl (HBK.out _ H3.out.2.1 _ _ (fun h => ⟨b, o, rfl, rfl⟩) (fun h => by simp at h)) (by have := HL3.out; simp; omega) (by omega) ?_; intro v4 w4 hown4 hbel4 _ hsh4; obtain ⟨a4, c4, rfl⟩ := hsh4; generalize hL4 : L3 ++ k.drop i = L4 at hown4 ⊢; have H4 := Lib.hid (And.intro hown4 (And.intro (H3.out.2.1.trans hbel4) hL4)); clear hown4 hbel4 hL4)
    go_ret
    exact ⟨_, rfl, HFIN.out _ _ (by rw [H4.out.2.2]; exact H4.out.1), H4.out.2.1⟩
  · have hd : k.drop i = [] := List.drop_eq_nil_of_le (by omega)
    have HD := Lib.hid hd
    clear hd
    obtain rfl : i = k.length := by omega
    by_cases hci : cap = k.length
    · subst hci
      go_wp2_with (at_builtin; refine wpList_append_ints rfl _ _ rfl w.heap.size _ _ L3 [] rfl H3.out.1 rfl (IntsAt.none' _ _ (fun _ => rfl)) (by have := HL3.out; simp; omega) (by omega) ?_; intro v4 w4 hown4 hbel4 _ hsh4; obtain ⟨a4, c4, rfl⟩ := hsh4; generalize hL4 : L3 ++ ([] : List Int) = L4 at hown4 ⊢; have H4 := Lib.hid (And.intro hown4 (And.intro (H3.out.2.1.trans hbel4) hL4)); clear hown4 hbel4 hL4)
      go_ret
      exact ⟨_, rfl, HFIN.out _ _ (by rw [HD.out, H4.out.2.2]; exact H4.out.1), H4.out.2.1⟩
    · rcases a with _ | ⟨b, o, sp⟩
      · have := HS.out.2 rfl; omega
      · go_wp2_with (at_builtin; refine wpList_append_ints rfl _ _ rfl w.heap.size _ _ L3 [] rfl H3.out.1 rfl (IntsAt.none' _ _ (fun h => by simp at h)) (by have := HL3.out; simp; omega) (by omega) ?_; intro v4 w4 hown4 hbel4 _ hsh4; obtain ⟨a4, c4, rfl⟩ := hsh4; generalize hL4 : L3 ++ ([] : List Int) = L4 at hown4 ⊢; have H4 := Lib.hid (And.intro hown4 (And.intro (H3.out.2.1.trans hbel4) hL4)); clear hown4 hbel4 hL4)
        go_ret
        exact ⟨_, rfl, HFIN.out _ _ (by rw [HD.out, H4.out.2.2]; exact H4.out.1), H4.out.2.1⟩
end Go.Proofs.Ytgbgdanbdbojaaa
