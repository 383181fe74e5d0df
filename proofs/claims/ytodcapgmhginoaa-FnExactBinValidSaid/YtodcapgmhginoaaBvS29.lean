/- The iterator that recurs: all keys in order. -/
import Derived.Test.YtodcapgmhginoaaProg
import Derived.Test.YtodcapgmhginoaaBvS0
import Derived.Test.YtodcapgmhginoaaBvS27
import Derived.Test.YtodcapgmhginoaaBvS19
import Derived.Test.YtodcapgmhginoaaBvS10
import Derived.Test.YtodcapgmhginoaaBvS28
import Derived.RangeFuncNested
import Derived.Shelf.RegionOpen
import Derived.WalkKit
import Derived.OwnWalkIn
import Derived.TacticsInMore
import Derived.LoopNIn
import Derived.LoopIn
import Derived.Sort.QuietIn
namespace Go.Proofs.Ytodcapgmhginoaa
open Go.RowKit
attribute [local go_sem] Oper.semAt_some

/-- The keys that some parts hold, those of kids as told. -/
def flat (kss : List (List Int)) : List Part → List Int
  | [] => []
  | .kid i _ :: r => kss.getD i [] ++ flat kss r
  | .key k :: r => k :: flat kss r
theorem flat_append (kss : List (List Int)) (a b : List Part) : flat kss (a ++ b) = flat kss a ++ flat kss b := by
  induction a with
  | nil => rfl
  | cons x r ih => cases x <;> simp [flat, ih]
theorem flat_mono (kss : List (List Int)) {a b : List Part} (h : a <+: b) : flat kss a <+: flat kss b := by
  obtain ⟨r, rfl⟩ := h
  rw [flat_append]; exact List.prefix_append _ _
theorem flat_partAt (kss : List (List Int)) (ps : Nat → Nat) (ks : List Int) (i : Nat) : flat kss (partAt kss.length ps ks i) = Tr.part kss ks i := by
  unfold partAt Tr.part
  by_cases h1 : i < kss.length
  · by_cases h2 : i < ks.length
    · simp [flat, h1, h2, List.getD_eq_getElem?_getD]
    · simp [flat, h1, h2, List.getD_eq_getElem?_getD]
  · by_cases h2 : i < ks.length
    · simp [flat, h1, h2, List.getD_eq_getElem?_getD]
    · simp [flat, h1, h2]
theorem flat_partsTo (kss : List (List Int)) (ps : Nat → Nat) (ks : List Int) (j : Nat) : flat kss (partsTo kss.length ps ks j) = Tr.upto kss ks j := by
  induction j with
  | zero => rfl
  | succ j ih => rw [partsTo_succ, flat_append, ih, Tr.upto_succ, flat_partAt]
theorem flat_all (cs : List Tr) (ps : Nat → Nat) (ks : List Int) : flat (Tr.keyss cs) (partsTo cs.length ps ks (max cs.length ks.length)) = (Tr.mk ks cs).keys := by
  have h := flat_partsTo (Tr.keyss cs) ps ks (max cs.length ks.length)
  rw [Tr.length_keyss] at h
  rw [h, Tr.keys, Nat.max_comm]

def intEnc (k : Int) : Array Value := #[.int .i64 k]

/-- A kid among the parts is a kid. -/
theorem kid_mem {n : Nat} {ps : Nat → Nat} {ks : List Int} {j i b : Nat} (h : Part.kid i b ∈ partsTo n ps ks j) : i < n ∧ b = ps i := by
  simp only [partsTo, List.mem_flatMap, partAt, List.mem_append] at h
  obtain ⟨i', _, h | h⟩ := h
  · split at h
    · simp at h; obtain ⟨rfl, rfl⟩ := h; exact ⟨by assumption, rfl⟩
    · simp at h
  · split at h <;> simp at h

/-- What the owner of an inner loop says: the outer state X over a greater set of private blocks, and its own two boxes. -/
def Under (X : (Nat → Prop) → World → Prop) (Pv₀ : Nat → Prop) (B3 B4 : Nat) (o3 o4 : Obj) (Pv : Nat → Prop) (W : World) : Prop :=
  ∃ Pv2, X Pv2 W ∧ (∀ k, Pv k → k < W.heap.size → Pv2 k) ∧ (∀ k, Pv₀ k → Pv2 k) ∧ Pv2 B3 ∧ Pv2 B4 ∧ ¬ Pv B3 ∧ ¬ Pv B4 ∧ (∀ k, Pv2 k → k < W.heap.size) ∧ W.heap[B3]? = some o3 ∧ W.heap[B4]? = some o4

theorem Under.abide {X : (Nat → Prop) → World → Prop} (hX : ∀ Pv A Pv' B, X Pv A → Keep (fun k => ¬ Pv k) A B → (∀ k, Pv' k → Pv k ∨ A.heap.size ≤ k) → X Pv' B) {Pv₀ : Nat → Prop} {B3 B4 : Nat} {o3 o4 : Obj} :
    ∀ Pv A Pv' B, Under X Pv₀ B3 B4 o3 o4 Pv A → Keep (fun k => ¬ Pv k) A B → (∀ k, Pv' k → Pv k ∨ A.heap.size ≤ k) → Under X Pv₀ B3 B4 o3 o4 Pv' B := by
  rintro Pv A Pv' B ⟨Pv2, hx, h1, h2, h3, h4, h5, h6, h7, h8, h9⟩ hk hp
  have l3 := h7 _ h3
  have l4 := h7 _ h4
  refine ⟨fun k => Pv2 k ∨ (A.heap.size ≤ k ∧ k < B.heap.size), hX _ A _ B hx (hk.mono (fun k hlt hn hP => hn (h1 k hP hlt))) (fun k h => h.imp id (·.1)), fun k hP hlt => ?_, fun k h => .inl (h2 k h), .inl h3, .inl h4, ?_, ?_, fun k h => ?_, (hk.block _ l3 h5).trans h8, (hk.block _ l4 h6).trans h9⟩
  · rcases hp k hP with h | h
    · by_cases hA : k < A.heap.size
      · exact .inl (h1 k h hA)
      · exact .inr ⟨by omega, hlt⟩
    · exact .inr ⟨h, hlt⟩
  · intro h
    rcases hp _ h with h | h
    · exact h5 h
    · omega
  · intro h
    rcases hp _ h with h | h
    · exact h6 h
    · omega
  · have := hk.size
    rcases h with h | h
    · have := h7 k h; omega
    · exact h.2

set_option maxRecDepth 100000 in
set_option maxHeartbeats 2000000 in
theorem yieldKeys_c {w₀ : World} {lo hi b : Nat} {t : Tr} (ht : NodeIn w₀ lo hi b t) : t.weight ≤ 1048576 → hi ≤ w₀.heap.size →
    ∀ (l : Nat) (J Jx : List Int → (Nat → Prop) → World → Prop) (xs pre : List Int) (Pv₀ Pv : Nat → Prop) (W₀ W : World), Keep (fun k => lo ≤ k ∧ k < hi) w₀ W → (∀ k, lo ≤ k → k < hi → Pv k) → (∀ k, Pv k → k < W.heap.size) → Abide J → Abide Jx →
      Rounds Try.prog l intEnc J Jx xs Pv₀ W₀ → Keep Pv₀ W₀ W → (∀ k, Pv₀ k → Pv k) → J pre Pv W → pre ++ t.keys <+: xs →
    Calls Try.prog 107 #[.pointer (some ⟨b, 0, none⟩), .func (.yield l) #[] #[]] W fun e W' => Keep Pv W W' ∧
      ((e = .returned (.bool true) ∧ J (pre ++ t.keys) Pv W') ∨ (e = .returned (.bool false) ∧ ∃ q, q <+: t.keys ∧ Jx (pre ++ q) Pv W')) := by
  induction ht with
  | mk ks cs lo hi b kv a cap ps s hlo hhi hs0 hsn hs hbox hk hlen hcap hat hkids ih =>
    intro hwt hhi' l J Jx xs pre Pv₀ Pv W₀ W hkeep hRd hPv hJ hJx hY hK0 hsub0 h0 hpre
    simp only [Tr.weight] at hwt
    have hl0 := Tr.length_le_weights cs
    have hit := parts_iter hhi' hlo hhi hbox hk hlen hcap hat (by omega) (by omega)
    have hfl := flat_all cs ps ks
    have HIT := Lib.hid hit
    have HFL := Lib.hid hfl
    have IH := Lib.hid ih
    have HS := Lib.hid hs
    have HY := Lib.hid hY
    have HPRE := Lib.hid hpre
    clear hit hfl ih hs hbox hk hat hY hpre
    refine (callsIn_wide (n := 9)).1 (callsIn_of_wp_marks Try.func107 rfl trivial ?_ rfl)
    simp only [Try.ntmps107, List.size_toArray, List.length_cons, List.length_nil, Nat.reduceAdd, Nat.reduceSub, Array.replicate_succ, Array.replicate_zero, List.push_toArray, List.append_toArray, List.nil_append, List.cons_append]
    gi_wp2
    obtain ⟨W2, hW2⟩ : ∃ W2, W2 = (W.alloc (.cells #[.func (.yield l) #[] #[]] 62)).alloc (.cells #[.bool false] 4) := ⟨_, rfl⟩
    rw [← hW2]
    have hs2 : W2.heap.size = W.heap.size + 2 := by rw [hW2]; simp
    have hk2 : ∀ K, Keep K W W2 := fun K => by rw [hW2]; exact (Keep.alloc K _ _).trans (Keep.alloc K _ _)
    have b3 : W2.heap[W.heap.size]? = some (.cells #[.func (.yield l) #[] #[]] 62 (0, 0)) := by rw [hW2, old_blk _ _ _ (by simp), new_blk]
    have b4 : W2.heap[W.heap.size + 1]? = some (.cells #[.bool false] 4 (0, 0)) := by
      rw [hW2]
      have h := new_blk (W.alloc (.cells #[.func (.yield l) #[] #[]] 62)) (.cells #[.bool false] 4)
      rw [World.size_alloc] at h; exact h
    have h02 : Under (J (pre ++ flat (Tr.keyss cs) [])) Pv (W.heap.size) (W.heap.size + 1) (.cells #[.func (.yield l) #[] #[]] 62 (0, 0)) (.cells #[.bool false] 4 (0, 0)) Pv W2 := by
      refine ⟨fun k => Pv k ∨ (W.heap.size ≤ k ∧ k < W2.heap.size), ?_, fun k h _ => .inl h, fun k h => .inl h, .inr ⟨Nat.le_refl _, by omega⟩, .inr ⟨by omega, by omega⟩, fun h => ?_, fun h => ?_, fun k h => ?_, b3, b4⟩
      · refine hJ _ _ W _ W2 (by simpa [flat] using h0) (hk2 _) (fun k h => h.imp id (·.1))
      · have := hPv _ h; omega
      · have := hPv _ h; omega
      · rcases h with h | h
        · have := hPv _ h; omega
        · exact h.2
    have H02 := Lib.hid h02
    clear h02 hW2 b3 b4
    refine wp_loop (fb := #[.pointer (some ⟨b, 0, none⟩)]) (lb := #[]) rfl (enters_of Try.func122 (by kernel_rfl) rfl) HIT.out (hkeep.trans (hk2 _)) (fun x => by cases x <;> rfl)
      Pv (fun k h => hRd k h.1 h.2) (fun k h => by have := hPv k h; omega)
      (fun pre' Pv' W' => Under (J (pre ++ flat (Tr.keyss cs) pre')) Pv (W.heap.size) (W.heap.size + 1) (.cells #[.func (.yield l) #[] #[]] 62 (0, 0)) (.cells #[.bool false] 4 (0, 0)) Pv' W')
      (fun c pre' Pv' W' => c = .ret ∧ Under (fun Pv W => ∃ q, q <+: (Tr.mk ks cs).keys ∧ Jx (pre ++ q) Pv W) Pv (W.heap.size) (W.heap.size + 1) (.cells #[.func (.yield l) #[] #[]] 62 (0, 0)) (.cells #[.bool false] 4 (0, 0)) Pv' W')
      (fun pre' Pv1 A Pv2 B h hk hp => Under.abide (fun Pv A Pv' B h hk hp => hJ _ _ _ _ _ h hk hp) _ _ _ _ h hk hp)
      (fun c pre' Pv1 A Pv2 B h hk hp => ⟨h.1, Under.abide (fun Pv A Pv' B h hk hp => by obtain ⟨q, hq, hx⟩ := h; exact ⟨q, hq, hJx _ _ _ _ _ hx hk hp⟩) _ _ _ _ h.2 hk hp⟩)
      H02.out
      (fun x => { tmps := #[.pointer (some ⟨b, 0, none⟩), .func (.yield l) #[] #[], undef, .pointer (some ⟨W.heap.size, 0, none⟩), .pointer (some ⟨W.heap.size + 1, 0, none⟩), x.enc.getD 0 undef, x.enc.getD 1 undef, .pointer (some ⟨b, 0, none⟩), .func (.func 122) #[.pointer (some ⟨b, 0, none⟩)] #[], x.enc.getD 0 undef, x.enc.getD 1 undef, undef, undef, undef, undef, undef, undef, undef, undef, undef, undef, undef, undef, undef, undef, undef, undef], defers := [] })
      ?assign ?body ?done ?stop
    case assign =>
      intro l' m x W' K hK
      cases x <;> (dsimp only [Part.enc] at hK ⊢; gi_wp2; exact hK)
    case body =>
      intro l' m pre' x Pv' W' hI hkW hsubW hbnd hp
      obtain ⟨Pv2, hj, e1, e2, e3, e4, e5, e6, e7, e8, e9⟩ := hI
      obtain ⟨c3, f3⟩ := box1 e8
      have hKW : Keep Pv₀ W₀ W' := hK0.trans (((hk2 _).trans hkW).mono (fun k _ h => hsub0 k h))
      have hfm := flat_mono (Tr.keyss cs) hp
      rw [HFL.out, flat_append] at hfm
      have HP := Lib.hid hp
      have hsz' : W2.heap.size ≤ W'.heap.size := hkW.size
      cases x with
      | kid i b' =>
        obtain ⟨hi', rfl⟩ := kid_mem (hp.subset (by simp : Part.kid i b' ∈ pre' ++ [Part.kid i b']))
        have hki : flat (Tr.keyss cs) [Part.kid i (ps i)] = cs[i].keys := by
          have h := Tr.keyss_get cs i hi'
          simp [flat, List.getD_eq_getElem?_getD, h]
        have hnx : flat (Tr.keyss cs) (pre' ++ [Part.kid i (ps i)]) = flat (Tr.keyss cs) pre' ++ cs[i].keys := by rw [flat_append, hki]
        rw [hki] at hfm
        have hpk : (pre ++ flat (Tr.keyss cs) pre') ++ cs[i].keys <+: xs := by
          rw [List.append_assoc]
          exact ((List.prefix_append_right_inj pre).2 hfm).trans HPRE.out
        have g1 := steps_le HS.out 0 i (by omega) (by omega)
        have g2 := steps_le HS.out (i + 1) cs.length (by omega) (by omega)
        have hC := IH.out i hi' (by have := Tr.weight_get_le cs i hi'; omega) (by omega) l J Jx xs (pre ++ flat (Tr.keyss cs) pre') Pv₀ Pv2 W₀ W'
          ((hkeep.mono (fun k _ h => ⟨by omega, by omega⟩)).trans (((hk2 _).trans hkW).mono (fun k _ h => hRd k (by omega) (by omega)))) (fun k h1 h2 => e2 k (hRd k (by omega) (by omega))) e7 hJ hJx HY.out hKW (fun k h => e2 k (hsub0 k h)) hj hpk
        have HC := Lib.hid hC
        have HNX := Lib.hid hnx
        have HFM := Lib.hid hfm
        have E1 := Lib.hid e1
        have E2 := Lib.hid e2
        have E7 := Lib.hid e7
        have E89 := Lib.hid (And.intro e8 e9)
        have HB := Lib.hid hbnd
        clear hC hki hnx hfm hpk hp hj e1 e2 e7 e8 e9 hbnd
        dsimp only [Part.enc]
        gi_wp2
        refine ⟨trivial, fun h => (by cases h), ?_⟩
        refine (CallsIn.inRound l' ((callsIn_wide (n := m - 1)).2 HC.out)).mono ?_
        rintro e W4 ⟨hk4, (⟨rfl, hj4⟩ | ⟨rfl, q, hq, hx4⟩)⟩
        · gi_wp2
          refine ⟨fun _ h => (by cases h), ?_⟩
          gi_wp2
          refine ⟨hk4.mono (fun k hlt h => E1.out k h hlt), Pv2, ?_, fun k h _ => E1.out k h (HB.out k h), E2.out, e3, e4, e5, e6, fun k h => Nat.lt_of_lt_of_le (E7.out k h) hk4.size, (hk4.block _ (E7.out _ e3) e3).trans E89.out.1, (hk4.block _ (E7.out _ e4) e4).trans E89.out.2⟩
          rw [HNX.out, ← List.append_assoc]; exact hj4
        · have q3 := (hk4.block _ (E7.out _ e3) e3).trans E89.out.1
          have q9 := (hk4.block _ (E7.out _ e4) e4).trans E89.out.2
          obtain ⟨c4, f4⟩ := box1 q9
          have HQ := Lib.hid (And.intro q3 q9)
          clear q3 q9
          gi_wp2
          have hk5 : Keep Pv' W4 (W4.setCell ⟨W.heap.size + 1, 0, none⟩ (.bool false)) := Keep.setCell _ _ _ _ e6
          refine ⟨(hk4.mono (fun k hlt h => E1.out k h hlt)).trans hk5, rfl, Pv2, ⟨flat (Tr.keyss cs) pre' ++ q, ?_, ?_⟩, fun k h _ => E1.out k h (HB.out k h), E2.out, e3, e4, e5, e6, fun k h => ?_, ?_, ?_⟩
          · exact ((List.prefix_append_right_inj _).2 hq).trans HFM.out
          · refine hJx _ Pv2 W4 Pv2 _ (by rw [← List.append_assoc]; exact hx4) (Keep.setCell _ _ _ _ (fun h => h e4)) (fun k h => .inl h)
          · have := E7.out k h; have := hk4.size; simp; omega
          · rw [set_other _ _ _ _ _ (by omega)]; exact HQ.out.1
          · exact set_blk (.bool false) HQ.out.2
      | key k =>
        have hki : flat (Tr.keyss cs) [Part.key k] = [k] := rfl
        have hnx : flat (Tr.keyss cs) (pre' ++ [Part.key k]) = flat (Tr.keyss cs) pre' ++ [k] := by rw [flat_append, hki]
        rw [hki] at hfm
        have hpk : (pre ++ flat (Tr.keyss cs) pre') ++ [k] <+: xs := by
          rw [List.append_assoc]
          exact ((List.prefix_append_right_inj pre).2 hfm).trans HPRE.out
        obtain ⟨fn, tmps, assign, body, hy, hR⟩ := HY.out (pre ++ flat (Tr.keyss cs) pre') k Pv2 W' hj hKW (fun k h => e2 k (hsub0 k h)) e7 hpk
        have HR := Lib.hid hR
        have HNX := Lib.hid hnx
        have HFM := Lib.hid hfm
        have E1 := Lib.hid e1
        have E2 := Lib.hid e2
        have E7 := Lib.hid e7
        have E89 := Lib.hid (And.intro e8 e9)
        have HB := Lib.hid hbnd
        clear hR hki hnx hfm hpk hp hj e1 e2 e7 e8 e9 hbnd
        dsimp only [Part.enc]
        dsimp only [intEnc] at hy
        gi_wp2
        refine ⟨trivial, ?_⟩
        gi_wp2
        (try refine ⟨fun h => (by cases h), ?_⟩)
        refine RoundIn.mono (F := Fence.wide.inRound l') (HR.out _) ?_
        rintro e W4 ⟨hk4, (⟨rfl, hj4⟩ | ⟨rfl, hx4⟩)⟩
        · gi_wp2
          refine ⟨hk4.mono (fun k hlt h => E1.out k h hlt), Pv2, ?_, fun k h _ => E1.out k h (HB.out k h), E2.out, e3, e4, e5, e6, fun k h => Nat.lt_of_lt_of_le (E7.out k h) hk4.size, (hk4.block _ (E7.out _ e3) e3).trans E89.out.1, (hk4.block _ (E7.out _ e4) e4).trans E89.out.2⟩
          rw [HNX.out, ← List.append_assoc]; exact hj4
        · have q3 := (hk4.block _ (E7.out _ e3) e3).trans E89.out.1
          have q9 := (hk4.block _ (E7.out _ e4) e4).trans E89.out.2
          obtain ⟨c4, f4⟩ := box1 q9
          have HQ := Lib.hid (And.intro q3 q9)
          clear q3 q9
          gi_wp2
          have hk5 : Keep Pv' W4 (W4.setCell ⟨W.heap.size + 1, 0, none⟩ (.bool false)) := Keep.setCell _ _ _ _ e6
          refine ⟨(hk4.mono (fun k hlt h => E1.out k h hlt)).trans hk5, rfl, Pv2, ⟨flat (Tr.keyss cs) pre' ++ [k], HFM.out, ?_⟩, fun k h _ => E1.out k h (HB.out k h), E2.out, e3, e4, e5, e6, fun k h => ?_, ?_, ?_⟩
          · refine hJx _ Pv2 W4 Pv2 _ (by rw [← List.append_assoc]; exact hx4) (Keep.setCell _ _ _ _ (fun h => h e4)) (fun k h => .inl h)
          · have := E7.out k h; have := hk4.size; simp; omega
          · rw [set_other _ _ _ _ _ (by omega)]; exact HQ.out.1
          · exact set_blk (.bool false) HQ.out.2
    case done =>
      intro W3 hk3 hI hlt hD
      obtain ⟨Pv2, hj, e1, e2, e3, e4, e5, e6, e7, e8, e9⟩ := hI
      obtain ⟨c4, f4⟩ := box1 e9
      have hsz3 := hk3.size
      rw [hs2] at hD
      have eD : Pv2 (W.heap.size + 2) := e1 _ (.inr (.inl hs2.symm)) (by omega)
      have E2 := Lib.hid e2
      have E9 := Lib.hid e9
      have HD := Lib.hid hD
      have HJ3 := Lib.hid hj
      clear e1 e2 e7 e8 e9 hD hj
      gi_wp2
      have hD2 : (W3.setCell ⟨W.heap.size + 1, 0, none⟩ (.bool true)).heap[W.heap.size + 2]? = some (.deferred (some [])) := by rw [set_other _ _ _ _ _ (by omega)]; exact HD.out
      have hc2 := (box1 (set_blk (o := 0) (.bool true) E9.out)).1
      refine ⟨by simp, .inl ⟨_, _, rfl, run_takeDeferred hD2, ?_⟩⟩
      obtain ⟨W5, hW5⟩ : ∃ W5, W5 = ((W3.setCell ⟨W.heap.size + 1, 0, none⟩ (.bool true)).putObj (W.heap.size + 2) (.deferred none)) := ⟨_, rfl⟩
      have hc5 : W5.cell? ⟨W.heap.size + 1, 0, none⟩ = some (.bool true) := by rw [hW5]; exact (cell_of_blk (World.putObj_heap_other (by omega))).trans hc2
      have hk5 : ∀ K : Nat → Prop, ¬ K (W.heap.size + 1) → ¬ K (W.heap.size + 2) → Keep K W3 W5 := fun K h1 h2 => by rw [hW5]; exact (Keep.setCell K _ _ _ h1).trans (Keep.putObj K _ _ _ h2)
      rw [← hW5]
      refine ⟨_, by simp [results, Try.results107, go_sem, hc5], (((hk2 _).trans hk3).trans (hk5 _ (fun h => by have := hPv _ h; omega) (fun h => by have := hPv _ h; omega))), .inl ⟨rfl, ?_⟩⟩
      refine hJ _ Pv2 W3 Pv W5 ?_ (hk5 _ (fun h => h e4) (fun h => h eD)) (fun k h => .inl (E2.out k h))
      rw [← HFL.out]; exact HJ3.out
    case stop =>
      rintro c pre' W3 hk3 hp ⟨rfl, Pv2, ⟨q, hq, hj⟩, e1, e2, e3, e4, e5, e6, e7, e8, e9⟩ hlt hD
      rw [hs2] at hD
      have eD : Pv2 (W.heap.size + 2) := e1 _ (.inr (.inl hs2.symm)) (by omega)
      have E2 := Lib.hid e2
      have E9 := Lib.hid e9
      have HJ3 := Lib.hid hj
      clear e1 e2 e7 e8 e9 hj
      gi_wp2
      refine ⟨by simp, .inl ⟨_, _, rfl, run_takeDeferred hD, ?_⟩⟩
      obtain ⟨W5, hW5⟩ : ∃ W5, W5 = W3.putObj (W.heap.size + 2) (.deferred none) := ⟨_, rfl⟩
      have hc5 : W5.cell? ⟨W.heap.size + 1, 0, none⟩ = some (.bool false) := by rw [hW5]; exact (cell_of_blk (World.putObj_heap_other (by omega))).trans (box1 E9.out).1
      have hk5 : ∀ K : Nat → Prop, ¬ K (W.heap.size + 2) → Keep K W3 W5 := fun K h2 => by rw [hW5]; exact Keep.putObj K _ _ _ h2
      rw [← hW5]
      refine ⟨_, by simp [results, Try.results107, go_sem, hc5], (((hk2 _).trans hk3).trans (hk5 _ (fun h => by have := hPv _ h; omega))), .inr ⟨rfl, q, hq, ?_⟩⟩
      exact hJx _ Pv2 W3 Pv W5 HJ3.out (hk5 _ (fun h => h eD)) (fun k h => .inl (E2.out k h))
end Go.Proofs.Ytodcapgmhginoaa
