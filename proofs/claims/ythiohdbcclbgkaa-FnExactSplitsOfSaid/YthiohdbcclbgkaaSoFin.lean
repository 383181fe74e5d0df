/- For every int and every slice of ints, the law on SplitsOf returns true and leaves its arguments as they were; no conditions. -/
import Derived.Test.YthiohdbcclbgkaaProg
import Derived.Test.YthiohdbcclbgkaaBase
import Derived.Test.YthiohdbcclbgkaaSzTo
import Derived.Test.YthiohdbcclbgkaaMk
import Derived.Test.YthiohdbcclbgkaaIkTree
import Derived.Test.YthiohdbcclbgkaaApp
import Derived.Test.YthiohdbcclbgkaaSp
import Derived.Test.YthiohdbcclbgkaaAscI
import Derived.Test.YthiohdbcclbgkaaGrowData
import Derived.Test.YthiohdbcclbgkaaGrD
import Derived.Test.YthiohdbcclbgkaaSmallTree
import Derived.Test.YthiohdbcclbgkaaFdX
import Derived.Test.YthiohdbcclbgkaaGrownBy
import Derived.Test.YthiohdbcclbgkaaSorted
import Derived.Test.YthiohdbcclbgkaaHasSpec
import Derived.Test.YthiohdbcclbgkaaInsSpec
import Derived.Deep.Cut
import Derived.Test.YthiohdbcclbgkaaTreeL
import Derived.Test.YthiohdbcclbgkaaRows
import Derived.Test.YthiohdbcclbgkaaFacts
import Derived.Test.YthiohdbcclbgkaaFrame
import Derived.WalkKit
import Derived.ProofKit
import Derived.OpenShut
import Derived.ChangeOld
import Derived.Below
import Derived.Test.YthiohdbcclbgkaaInsert

/- What a law on a function from a list of ints to a tree keeps from call to call. -/
namespace Go.Proofs.Ythiohdbcclbgkaa
open Go.RowKit

/-- The law's boxes, the model's answer, the program's argument and its answer. -/
structure ExI (w0 : World) (g b8 b11 B8 lo : Nat) (n : Nat) (k4 c4 k7 c7 : Value) (P : Blocks) (r u : Tr) (w : World) : Prop where
  bel : Below w0.heap.size w0 w
  x8 : w.heap[b8]? = some (.cells #[k4, c4] 25 (0, 0))
  x11 : w.heap[b11]? = some (.cells #[k7, c7] 25 (0, 0))
  tr4 : TreeIn w B8 k4 c4 r
  tr7 : TreeO w lo P k7 c7 u
  l8 : B8 ≤ b8 ∧ b8 < g ∧ g < lo
  l0 : w0.heap.size ≤ B8
  n11 : lo ≤ b11 ∧ ¬ P b11
  lw : B8 ≤ w.heap.size

variable {w0 w w' : World} {g b8 b11 B8 lo n : Nat} {k4 c4 k7 c7 : Value} {P : Blocks} {r u : Tr}

theorem cells_lt {w : World} {b : Nat} {c : Array Value} {t : TypeId} {f : Nat × Nat} (h : w.heap[b]? = some (.cells c t f)) : b < w.heap.size := (Array.getElem?_eq_some_iff.1 h).1

theorem ExI.below (h : ExI w0 g b8 b11 B8 lo n k4 c4 k7 c7 P r u w) (hb : Below w.heap.size w w') : ExI w0 g b8 b11 B8 lo n k4 c4 k7 c7 P r u w' :=
  ⟨h.bel.trans (hb.mono h.bel.size), (hb.block _ (cells_lt h.x8)).trans h.x8, (hb.block _ (cells_lt h.x11)).trans h.x11,
    h.tr4.later hb h.lw, h.tr7.later hb (Nat.le_refl _), h.l8, h.l0, h.n11, Nat.le_trans h.lw hb.size⟩

theorem ExI.drew (h : ExI w0 g b8 b11 B8 lo n k4 c4 k7 c7 P r u w) : ExI w0 g b8 b11 B8 lo n k4 c4 k7 c7 P r u w.drew := h.below (Below.refl _ _).drew

/-- The argument is marked. -/
theorem ExI.span (h : ExI w0 g b8 b11 B8 lo n k4 c4 k7 c7 P r u w) (hs : Span g (g + 1) w w') : ExI w0 g b8 b11 B8 lo n k4 c4 k7 c7 P r u w' := by
  have e8 := cells_lt h.x8
  have l8 := h.l8
  have hb : Below B8 w w' := ⟨hs.os, hs.tape, hs.output, hs.size, fun k hk => hs.block k (by have := h.lw; omega) (.inl (by omega))⟩
  refine ⟨h.bel.trans (hb.mono h.l0), (hs.block _ e8 (.inl (by omega))).trans h.x8,
    (hs.block _ (cells_lt h.x11) (.inr (by have := h.n11.1; omega))).trans h.x11, h.tr4.later hb (Nat.le_refl _), h.tr7.same hs.size (fun b e => hs.block b (h.tr7.lt b e).2 (.inr (by have := (h.tr7.lt b e).1; omega))), h.l8, h.l0, h.n11, Nat.le_trans h.lw hs.size⟩

/-- The answer is marked. -/
theorem ExI.mark {u' : Tr} (h : ExI w0 g b8 b11 B8 lo n k4 c4 k7 c7 P r u w) (ht : TreeO w' lo P k7 c7 u') (hk : KeptB P w w') : ExI w0 g b8 b11 B8 lo n k4 c4 k7 c7 P r u' w' := by
  have l8 := h.l8
  have hP : ∀ b, P b → lo ≤ b := fun b e => (h.tr7.lt b e).1
  have hb : Below lo w w' := ⟨hk.os, hk.tape, hk.output, hk.size, fun k h1 => by
    by_cases h2 : k < w.heap.size
    · exact hk.block k h2 (fun e => by have := hP k e; omega)
    · have := h.n11.1; have := cells_lt h.x11; omega⟩
  exact ⟨h.bel.trans (hb.mono (by have := h.l0; omega)), (hb.block _ (by omega)).trans h.x8,
    (hk.block _ (cells_lt h.x11) h.n11.2).trans h.x11, h.tr4.later hb (by omega), ht, h.l8, h.l0, h.n11, Nat.le_trans h.lw hk.size⟩

/-- A row of ints as a slice in memory. -/
theorem rowIn {w : World} {g : Nat} {ks : List Int} (h : w.rowIs g 3 ks.length (fun i => .int .i64 (ks.getD i 0))) (hl : ks.length ≤ 1048576) {B : Nat} (hB : g < B) : IntsIn w B (.slice (some ⟨g, 0, none⟩) ks.length ks.length) ks := by
  obtain ⟨c, hb, hn, hc⟩ := h
  exact ⟨some ⟨g, 0, none⟩, ks.length, rfl, Nat.le_refl _, by unfold maxLen; omega, (fun h => by cases h), .inr ⟨g, 0, rfl, hB, fun i hi => by simpa [World.cell?, hb] using hc i hi⟩⟩
end Go.Proofs.Ythiohdbcclbgkaa

/- Whether the numbers of a list are keys, and not too many: the contracts of the model's l3Keys and the program's areKeys. -/
namespace Go.Proofs.Ythiohdbcclbgkaa
open Go.RowKit

def keysOk (ks : List Int) : Bool := (List.range ks.length).all (fun i => inB (ks.getD i 0) 0 99) && decide (ks.length ≤ 200)
theorem keysOk_not {ks : List Int} (i : Nat) (hi : i < ks.length) (h : inB (ks.getD i 0) 0 99 = false) : keysOk ks = false := by
  have h1 : (List.range ks.length).all (fun i => inB (ks.getD i 0) 0 99) = false := by
    rw [List.all_eq_false]
    exact ⟨i, List.mem_range.2 hi, by rw [h]; simp⟩
  unfold keysOk
  rw [h1, Bool.false_and]
theorem keysOk_of {ks : List Int} (h : ∀ i, i < ks.length → inB (ks.getD i 0) 0 99 = true) : keysOk ks = decide (ks.length ≤ 200) := by
  have h1 : (List.range ks.length).all (fun i => inB (ks.getD i 0) 0 99) = true := by
    rw [List.all_eq_true]
    exact fun i hi => h i (List.mem_range.1 hi)
  unfold keysOk
  rw [h1, Bool.true_and]

set_option maxRecDepth 100000 in
set_option maxHeartbeats 1000000 in
theorem l3Keys_c {v : Value} {ks : List Int} (w : World) (B : Nat) (hk : IntsIn w B v ks) :
    Calls Try.prog 65 #[v] w fun e w' => e = .returned (.bool (keysOk ks)) ∧ w' = w := by
  obtain ⟨a, cap, rfl, h1, h2, _, h3⟩ := hk
  unfold maxLen at h2
  have HK := Lib.hid h3
  clear h3
  go_enter Try.func65, Try.ntmps65
  go_wp2_with fail
  go_loopw [4, 7] (fun s4 i wr => ∃ (j : Nat), j ≤ ks.length ∧ i = .int .i64 j ∧ (∀ q, q < j → inB (ks.getD q 0) 0 99 = true) ∧ wr = w) (fun _ i _ => ks.length - (intOf i).toNat)
  case atStart => exact ⟨0, Nat.zero_le _, rfl, fun q h => by omega, rfl⟩
  case round =>
    obtain ⟨j, hj, rfl, hall, rfl⟩ := hrel
    have HALL := Lib.hid hall
    clear hall
    by_cases hlt : j < ks.length
    · rcases HK.out with h | ⟨b, off, rfl, hb, hat⟩
      · simp [h] at hlt
      have ha' := hat j hlt
      obtain ⟨x, hx⟩ : ∃ x, x = ks.getD j 0 := ⟨_, rfl⟩
      rw [← hx] at ha'
      have hjl : (j : Int) < (ks.length : Int) := by omega
      have HX := Lib.hid hx
      clear hx hat
      go_wp2_with fail
      refine (l1In_c x 0 99 _).mono ?_
      rintro e w5 ⟨rfl, rfl⟩
      cases hin : inB x 0 99 with
      | false =>
        have HNO := Lib.hid (keysOk_not j hlt (by rw [← HX.out]; exact hin))
        clear hin
        go_wp2_with fail
        go_ret
        exact ⟨ret_bool (by rw [HNO.out]), rfl⟩
      | true =>
        have HIN := Lib.hid hin
        clear hin
        go_wp2_with fail
        go_roundw
        case rel =>
          refine ⟨j + 1, by omega, by go_num, fun q hq => ?_, trivial⟩
          by_cases hqj : q = j
          · rw [hqj, ← HX.out]; exact HIN.out
          · exact HALL.out q (by omega)
        case measure => simp [intOf]; omega
    · have hje : j = ks.length := by omega
      have HOK := Lib.hid (keysOk_of (ks := ks) (fun q h => HALL.out q (by omega)))
      have hjl : ¬ (j : Int) < (ks.length : Int) := by omega
      clear hje
      go_wp2_with fail
      go_ret
      refine ⟨ret_bool ?_, rfl⟩
      rw [HOK.out]
      simp
      omega

set_option maxRecDepth 100000 in
set_option maxHeartbeats 1000000 in
theorem areKeys_c {v : Value} {ks : List Int} (w : World) (B : Nat) (hk : IntsIn w B v ks) :
    Calls Try.prog 116 #[v] w fun e w' => e = .returned (.bool (keysOk ks)) ∧ w' = w := by
  obtain ⟨a, cap, rfl, h1, h2, _, h3⟩ := hk
  unfold maxLen at h2
  have HK := Lib.hid h3
  clear h3
  go_enter Try.func116, Try.ntmps116
  by_cases hbig : ks.length ≤ 200
  · have hb' : ¬ ((ks.length : Int) > 200) := by omega
    have HBIG := Lib.hid hbig
    clear hbig
    go_wp2_with fail
    go_loopw [4, 10] (fun s4 i wr => ∃ (j : Nat), j ≤ ks.length ∧ i = .int .i64 j ∧ (∀ q, q < j → inB (ks.getD q 0) 0 99 = true) ∧ wr = w) (fun _ i _ => ks.length - (intOf i).toNat)
    case atStart => exact ⟨0, Nat.zero_le _, rfl, fun q h => by omega, rfl⟩
    case round =>
      obtain ⟨j, hj, rfl, hall, rfl⟩ := hrel
      have HALL := Lib.hid hall
      clear hall
      by_cases hlt : j < ks.length
      · rcases HK.out with h | ⟨b, off, rfl, hb, hat⟩
        · simp [h] at hlt
        have ha' := hat j hlt
        obtain ⟨x, hx⟩ : ∃ x, x = ks.getD j 0 := ⟨_, rfl⟩
        rw [← hx] at ha'
        have hjl : (j : Int) < (ks.length : Int) := by omega
        have HX := Lib.hid hx
        clear hx hat
        go_wp2_with fail
        refine (isKey_c x _).mono ?_
        rintro e w5 ⟨rfl, rfl⟩
        cases hin : inB x 0 99 with
        | false =>
          have HNO := Lib.hid (keysOk_not j hlt (by rw [← HX.out]; exact hin))
          clear hin
          go_wp2_with fail
          go_ret
          exact ⟨ret_bool (by rw [HNO.out]), rfl⟩
        | true =>
          have HIN := Lib.hid hin
          clear hin
          go_wp2_with fail
          go_roundw
          case rel =>
            refine ⟨j + 1, by omega, by go_num, fun q hq => ?_, trivial⟩
            by_cases hqj : q = j
            · rw [hqj, ← HX.out]; exact HIN.out
            · exact HALL.out q (by omega)
          case measure => simp [intOf]; omega
      · have HOK := Lib.hid (keysOk_of (ks := ks) (fun q h => HALL.out q (by omega)))
        have hjl : ¬ (j : Int) < (ks.length : Int) := by omega
        go_wp2_with fail
        go_ret
        exact ⟨ret_bool (by rw [HOK.out]; exact (decide_eq_true HBIG.out).symm), rfl⟩
  · have hb' : ((ks.length : Int) > 200) := by omega
    have HNO : Hid (keysOk ks = false) := Lib.hid (by unfold keysOk; rw [decide_eq_false hbig, Bool.and_false])
    clear hbig
    go_wp2_with fail
    go_ret
    exact ⟨ret_bool (by rw [HNO.out]), rfl⟩
end Go.Proofs.Ythiohdbcclbgkaa

/- A list of keys inserted one behind the other: plain data. -/
namespace Go.Proofs.Ythiohdbcclbgkaa
open Go.RowKit
namespace Tr

/-- One key more: the tree, and how many nodes have been split. -/
def putKey (wide : Int) (s : Tr × Nat) (k : Int) : Tr × Nat := if (s.1.path k).2 then s else (insT wide k s.1, s.2 + insN wide k s.1)
def allIn (wide : Int) (ks : List Int) : Tr × Nat := ks.foldl (putKey wide) (.mk [] [], 0)

theorem allIn_snoc (wide : Int) {ks : List Int} {j : Nat} (h : j < ks.length) : allIn wide (ks.take (j + 1)) = putKey wide (allIn wide (ks.take j)) (ks.getD j 0) := by
  have e : ks.take (j + 1) = ks.take j ++ [ks.getD j 0] := by
    rw [List.take_add_one, List.getElem?_eq_getElem h, List.getD_eq_getElem?_getD, List.getElem?_eq_getElem h]
    rfl
  rw [e]
  unfold allIn
  rw [List.foldl_append]
  rfl

theorem leaf_valid {wide : Int} (h2 : 2 ≤ wide) (h6 : wide ≤ 6) : validB wide (.mk [] []) = true := by
  obtain ⟨n, rfl⟩ := Int.eq_ofNat_of_zero_le (show 0 ≤ wide by omega)
  have : n = 2 ∨ n = 3 ∨ n = 4 ∨ n = 5 ∨ n = 6 := by omega
  rcases this with rfl | rfl | rfl | rfl | rfl <;> decide

theorem path_has {wide k : Int} {t : Tr} (h : validB wide t = true) : (t.path k).2 = true ↔ k ∈ t.keys := by
  rw [← (someB_path k t).1 (valid_some h)]
  exact hasB_iff k t (valid_some h)

theorem insN_le (wide k : Int) (t : Tr) : insN wide k t ≤ t.weight + 1 := by
  have := grow_count wide k t
  unfold insN
  dsimp only
  split <;> omega

theorem putKey_valid {wide k : Int} {s : Tr × Nat} (h : validB wide s.1 = true) (h0 : 0 ≤ k) (h9 : k ≤ 99) : validB wide (putKey wide s k).1 = true ∧ (putKey wide s k).2 ≤ s.2 + 201 := by
  unfold putKey
  by_cases hp : (s.1.path k).2 = true
  · rw [if_pos hp]; exact ⟨h, by omega⟩
  · rw [if_neg hp]
    refine ⟨insT_valid h h0 h9 (fun hm => hp ((path_has h).2 hm)), ?_⟩
    have h1 := insN_le wide k s.1
    have h2 := valid_small h
    show s.2 + insN wide k s.1 ≤ s.2 + 201
    omega

theorem allIn_valid {wide : Int} (h2 : 2 ≤ wide) (h6 : wide ≤ 6) {ks : List Int} (hk : ∀ i, i < ks.length → inB (ks.getD i 0) 0 99 = true) :
    ∀ j, j ≤ ks.length → validB wide (allIn wide (ks.take j)).1 = true ∧ (allIn wide (ks.take j)).2 ≤ 201 * j := by
  intro j
  induction j with
  | zero => intro _; exact ⟨leaf_valid h2 h6, Nat.le_refl _⟩
  | succ j ih =>
    intro hj
    obtain ⟨hv, hn⟩ := ih (by omega)
    have hb := hk j (by omega)
    have hb' : 0 ≤ ks.getD j 0 ∧ ks.getD j 0 ≤ 99 := by simpa [inB] using hb
    obtain ⟨h3, h4⟩ := putKey_valid hv hb'.1 hb'.2
    rw [allIn_snoc wide (by omega)]
    exact ⟨h3, by omega⟩

/-- What InsertAll and SplitsOf tell. -/
def allOk (wide : Int) (ks : List Int) : Bool := inB wide 2 6 && keysOk ks
def insAllT (wide : Int) (ks : List Int) : Tr := if allOk wide ks then (allIn wide ks).1 else .mk [] []
def splitsOfB (wide : Int) (ks : List Int) : Int := if allOk wide ks then ((allIn wide ks).2 : Int) else -1
end Tr

theorem keysOk_at {ks : List Int} (h : keysOk ks = true) : (∀ i, i < ks.length → inB (ks.getD i 0) 0 99 = true) ∧ ks.length ≤ 200 := by
  unfold keysOk at h
  rw [Bool.and_eq_true, List.all_eq_true] at h
  exact ⟨fun i hi => h.1 i (by simpa using hi), of_decide_eq_true h.2⟩

theorem Tr.insAll_weight (wide : Int) (ks : List Int) : (Tr.insAllT wide ks).weight ≤ 1048576 := by
  unfold insAllT
  split
  · rename_i h
    simp only [allOk, Bool.and_eq_true] at h
    have hw : 2 ≤ wide ∧ wide ≤ 6 := by simpa [inB] using h.1
    have h1 := (allIn_valid hw.1 hw.2 (keysOk_at h.2).1 ks.length (Nat.le_refl _)).1
    rw [List.take_length] at h1
    have := valid_small h1
    omega
  · simp [weight, weights]
end Go.Proofs.Ythiohdbcclbgkaa

/- The model's SplitsBy and GrowsBy. -/
namespace Go.Proofs.Ythiohdbcclbgkaa
open Go.RowKit

/-- What SplitsBy and GrowsBy tell. -/
def Tr.splitsB (wide key : Int) (t : Tr) : Int := if Tr.askedB wide key t then (Tr.insN wide key t : Int) else -1
def Tr.growsB (wide key : Int) (t : Tr) : Bool := Tr.askedB wide key t && Tr.insG wide key t

theorem run_splits (w : World) (x0 x1 x2 x3 x4 x5 : Value) (n : Int) : Sem.run Try.prog (Instr.field 73 (.agg #[x0, x1, x2, x3, x4, x5, .int .i64 n]) 4) w = .ok (.int .i64 n) w := by
  first
    | kernel_rfl
    | rfl
    | (simp [Instr.field, Try.underlying73]; trace_state; done)
theorem run_splits2 (w : World) (x0 x1 x2 x3 x4 : Value) (g : Bool) (n : Value) : Sem.run Try.prog (Instr.field 73 (.agg #[x0, x1, x2, x3, x4, .bool g, n]) 3) w = .ok (.bool g) w := by
  first
    | kernel_rfl
    | rfl
    | (simp [Instr.field, Try.underlying73]; trace_state; done)
attribute [local go_sem] run_splits run_splits2

set_option maxRecDepth 100000 in
set_option maxHeartbeats 2000000 in
theorem specAsked_c {w : World} {B : Nat} {kv cv : Value} {t : Tr} (ht : TreeIn w B kv cv t) (hw : t.weight ≤ 1048576) (wide key : Int) (w' : World) (hbw : Below B w w') (hB : B ≤ w'.heap.size) :
    Calls Try.prog 105 #[.agg #[kv, cv], .int .i64 wide, .int .i64 key] w' fun e w'' => e = .returned (.bool (Tr.askedB wide key t)) ∧ Below w'.heap.size w' w'' := by
  obtain ⟨a5, n5, m5, a6, n6, m6, rfl, rfl⟩ := ht.slices
  obtain ⟨W1, hW1⟩ : ∃ W1, W1 = w'.alloc (.cells #[.slice a5 n5 m5, .slice a6 n6 m6] 25) := ⟨_, rfl⟩
  have hs1 : W1.heap.size = w'.heap.size + 1 := by rw [hW1]; simp
  have hb1 : Below w'.heap.size w' W1 := by rw [hW1]; exact (Below.refl _ _).alloc (Nat.le_refl _) _
  have k0 : W1.heap[w'.heap.size]? = some (.cells #[.slice a5 n5 m5, .slice a6 n6 m6] 25 (0, 0)) := by rw [hW1, new_blk]
  obtain ⟨x1, x2, x3, x4⟩ := box2 k0
  have HT := Lib.hid ht
  have HBW := Lib.hid hbw
  have HW1 := Lib.hid hW1
  have H1 := Lib.hid (And.intro hb1 k0)
  clear ht hbw hW1 hb1 k0
  go_enter Try.func105, Try.ntmps105
  go_wp2_with fail
  rw [← HW1.out]
  refine (specTreeValid_c HT.out hw wide W1 (HBW.out.trans (H1.out.1.mono hB)) (by omega)).mono ?_
  rintro e w2 ⟨rfl, hb2⟩
  have hs2 := hb2.size
  clear x1 x2 x3 x4
  have j0 := (hb2.block _ (by omega)).trans H1.out.2
  obtain ⟨x1, x2, x3, x4⟩ := box2 j0
  have hb2' := H1.out.1.trans (hb2.mono (by omega))
  have H2 := Lib.hid (And.intro hb2' j0)
  clear hb2 hb2' j0
  cases hv : Tr.validB wide t with
  | false =>
    have HA := Lib.hid (show Tr.askedB wide key t = false by simp [Tr.askedB, hv])
    clear hv
    go_wp2_with fail
    go_ret
    exact ⟨by rw [HA.out]; rfl, H2.out.1⟩
  | true =>
  have HV := Lib.hid hv
  clear hv
  go_wp2_with fail
  refine (l1In_c key 0 99 w2).mono ?_
  rintro e w3 ⟨rfl, rfl⟩
  cases hk : inB key 0 99 with
  | false =>
    have HA := Lib.hid (show Tr.askedB wide key t = false by simp [Tr.askedB, hk])
    clear hk
    go_wp2_with fail
    go_ret
    exact ⟨by rw [HA.out]; rfl, H2.out.1⟩
  | true =>
  have HK := Lib.hid hk
  clear hk
  go_wp2_with fail
  refine (specHasKey_c HT.out hw key _ (HBW.out.trans (H2.out.1.mono hB)) (by omega)).mono ?_
  rintro e w4 ⟨rfl, hb4⟩
  have HA := Lib.hid (show Tr.askedB wide key t = !(t.pathB key).2 by simp [Tr.askedB, HV.out, HK.out])
  have H4 := Lib.hid (H2.out.1.trans (hb4.mono (by omega)))
  clear hb4
  go_wp2_with fail
  go_ret
  exact ⟨by rw [HA.out]; rfl, H4.out⟩

theorem cut_tells {w w' : World} {P : Nat → Prop} {wide key : Int} {t : Tr} {e : Ending} (h : Cut w P wide (Tr.grow wide key t) e w') : ∃ (a1 a2 a3 a4 : Option Addr) (n1 c1 n2 c2 n3 c3 n4 c4 : Nat) (mid : Int),
    e = .returned (.agg #[.slice a1 n1 c1, .slice a2 n2 c2, .int .i64 mid, .slice a3 n3 c3, .slice a4 n4 c4, .bool (Tr.insG wide key t), .int .i64 (Tr.insN wide key t : Int)]) ∧ Below w.heap.size w w' := by
  obtain ⟨v, rfl, ⟨lk, lc, rk, rc, mid, cnt, hv, ⟨a1, n1, c1, a2, n2, c2, rfl, rfl⟩, ⟨a3, n3, c3, a4, n4, c4, rfl, rfl⟩, hyes, hno⟩, hb⟩ := h
  refine ⟨a1, a2, a3, a4, n1, c1, n2, c2, n3, c3, n4, c4, mid, ?_, hb⟩
  have hc : cnt = Tr.insN wide key t := by
    unfold Tr.insN
    by_cases hg : wide < ((Tr.grow wide key t).1.ks.length : Int)
    · rw [(hyes hg).2.2.2]; simp [hg]
    · rw [(hno hg).2]; simp [hg]
  rw [hv, hc]
  rfl



end Go.Proofs.Ythiohdbcclbgkaa

/- How heavy a tree becomes by a key. -/
namespace Go.Proofs.Ythiohdbcclbgkaa
open Go.RowKit

namespace Tr
theorem part_weight (u : Tr) : u.leftOf.weight + u.rightOf.weight ≤ u.weight := by
  obtain ⟨k, c⟩ := u
  have h := weights_append (c.take (k.length / 2 + 1)) (c.drop (k.length / 2 + 1))
  rw [List.take_append_drop] at h
  simp only [leftOf, rightOf, weight, List.length_take, List.length_drop]
  omega

mutual
theorem grow_weight (wide key : Int) : ∀ t : Tr, (grow wide key t).1.weight ≤ t.weight + 1 + 2 * (grow wide key t).2
  | .mk k c => by
    have hp := place_le key k
    rw [grow]
    split
    · simp only [weight, putAt_length hp, weights]
      omega
    · rename_i hc
      by_cases hi : place key k < c.length
      · have h := grows_weight wide key c (place key k) hi
        have hs : weights c = weights (c.take (place key k)) + (1 + c[place key k].weight + weights (c.drop (place key k + 1))) := by
          have e := weights_append (c.take (place key k)) (c.drop (place key k))
          rw [List.take_append_drop, ← List.getElem_cons_drop hi] at e
          simpa [weights] using e
        unfold growStep
        split
        · have hpw := part_weight ((grows wide key c).getD (place key k) (.mk [] [], 0)).1
          simp only [splitKid, weight, putAt_length hp, weights_append, weights]
          omega
        · simp only [weight, setKid, weights_append, weights]
          omega
      · have hn : (grows wide key c).getD (place key k) (.mk [] [], 0) = (.mk [] [], 0) := by
          have : (grows wide key c).length = c.length := by
            clear hc hi hp
            induction c with
            | nil => rfl
            | cons t r ih => simp [grows, ih]
          rw [List.getD_eq_getElem?_getD, List.getElem?_eq_none (by omega)]
          rfl
        rw [hn]
        have hd : c.take (place key k) = c := List.take_of_length_le (by omega)
        have hd2 : c.drop (place key k + 1) = [] := List.drop_of_length_le (by omega)
        unfold growStep
        split
        · simp only [splitKid, weight, putAt_length hp, weights_append, weights, hd, hd2, leftOf, rightOf, List.take_nil, List.drop_nil, List.length_nil]
          omega
        · simp only [weight, setKid, weights_append, weights, hd, hd2, List.length_nil]
          omega
theorem grows_weight (wide key : Int) : ∀ (c : List Tr) (i : Nat) (h : i < c.length), ((grows wide key c).getD i (.mk [] [], 0)).1.weight ≤ c[i].weight + 1 + 2 * ((grows wide key c).getD i (.mk [] [], 0)).2
  | [], i, h => by simp at h
  | t :: r, i, h => by
    have h1 := grow_weight wide key t
    cases i with
    | zero => simpa [grows] using h1
    | succ i =>
      have h2 := grows_weight wide key r i (by simpa using h)
      simpa [grows] using h2
end

theorem insT_weight (wide key : Int) (t : Tr) : (insT wide key t).weight ≤ 3 * t.weight + 5 := by
  have h1 := grow_weight wide key t
  have h2 := grow_count wide key t
  have h3 := part_weight (grow wide key t).1
  unfold insT
  simp only
  split
  · simp only [weight, weights, List.length_cons, List.length_nil]
    omega
  · omega
end Tr
end Go.Proofs.Ythiohdbcclbgkaa

/- The model's InsertKey. -/
namespace Go.Proofs.Ythiohdbcclbgkaa
open Go.RowKit

/-- The tree that InsertKey tells. -/
def Tr.insKeyT (wide key : Int) (t : Tr) : Tr := if Tr.askedB wide key t then Tr.insT wide key t else .mk [] []
theorem Tr.insKey_weight (wide key : Int) (t : Tr) : (Tr.insKeyT wide key t).weight ≤ 1048576 := by
  unfold Tr.insKeyT
  split
  · rename_i h
    have := Tr.insT_weight wide key t
    have := Tr.valid_small (Tr.asked_path h).1
    omega
  · simp [weight, weights]

theorem box7' {w : World} {b : Nat} {a0 a1 a2 a3 a4 a5 a6 : Value} {t : TypeId} (h : w.heap[b]? = some (.cells #[a0, a1, a2, a3, a4, a5, a6] t (0, 0))) :
    w.cell? ⟨b, 0, none⟩ = some a0 ∧ w.cell? ⟨b, 1, none⟩ = some a1 ∧ w.cell? ⟨b, 2, none⟩ = some a2 ∧ w.cell? ⟨b, 3, none⟩ = some a3 ∧ w.cell? ⟨b, 4, none⟩ = some a4 ∧ w.cell? ⟨b, 5, none⟩ = some a5 ∧ w.cell? ⟨b, 6, none⟩ = some a6 := by
  refine ⟨?_, ?_, ?_, ?_, ?_, ?_, ?_⟩ <;> simp [World.cell?, h]

/-- The tree that a split is. -/
def Tr.rootT (wide : Int) (u : Tr) : Tr := if wide < (u.ks.length : Int) then .mk [u.midOf] [u.leftOf, u.rightOf] else u

set_option maxRecDepth 100000 in
set_option maxHeartbeats 2000000 in
theorem l3Root_p {w : World} {Q : Nat → Prop} {v : Value} {wide : Int} {u : Tr} {n : Nat} (h : SplitIn w Q v wide u n) (hq : ∀ q, Q q → q < w.heap.size) :
    Calls Try.prog 76 #[v] w fun e w' => ∃ kv cv, e = .returned (.agg #[kv, cv]) ∧ TreeP w' (fun q => Q q ∨ (w.heap.size ≤ q ∧ q < w'.heap.size)) kv cv (Tr.rootT wide u) ∧ Below w.heap.size w w' := by
  obtain ⟨lk, lc, rk, rc, mid, cnt, rfl, ⟨a1, n1, c1, a2, n2, c2, rfl, rfl⟩, ⟨a3, n3, c3, a4, n4, c4, rfl, rfl⟩, hyes, hno⟩ := h
  unfold splitV
  obtain ⟨B, hBd⟩ : ∃ B, B = decide (wide < (u.ks.length : Int)) := ⟨_, rfl⟩
  rw [← hBd]
  obtain ⟨W1, hW1⟩ : ∃ W1, W1 = (w.alloc (.cells #[.slice a1 n1 c1, .slice a2 n2 c2, .int .i64 mid, .slice a3 n3 c3, .slice a4 n4 c4, .bool B, .int .i64 cnt] 73)).alloc (.cells #[.slice none 0 0, .slice none 0 0] 25) := ⟨_, rfl⟩
  have hs1 : W1.heap.size = w.heap.size + 2 := by rw [hW1]; simp
  have hb1 : Below w.heap.size w W1 := by rw [hW1]; exact ((Below.refl _ _).alloc (Nat.le_refl _) _).alloc (by simp) _
  have kt : W1.heap[w.heap.size]? = some (.cells #[.slice a1 n1 c1, .slice a2 n2 c2, .int .i64 mid, .slice a3 n3 c3, .slice a4 n4 c4, .bool B, .int .i64 cnt] 73 (0, 0)) := by rw [hW1, old_blk _ _ _ (by simp), new_blk]
  have kb : W1.heap[w.heap.size + 1]? = some (.cells #[.slice none 0 0, .slice none 0 0] 25 (0, 0)) := by
    rw [hW1, show w.heap.size + 1 = (w.alloc (.cells #[.slice a1 n1 c1, .slice a2 n2 c2, .int .i64 mid, .slice a3 n3 c3, .slice a4 n4 c4, .bool B, .int .i64 cnt] 73)).heap.size by simp, new_blk]
  have ktx := kt
  rw [hW1] at ktx
  obtain ⟨x0, x1, x2, x3, x4, x5, x6⟩ := box7' ktx
  have HW1 := Lib.hid hW1
  have HB1 := Lib.hid (And.intro hb1 (And.intro kb kt))
  have HY := Lib.hid (And.intro hyes (And.intro hno hq))
  have HBD := Lib.hid hBd
  clear ktx hW1 hb1 kb kt hyes hno hq hBd
  go_enter Try.func76, Try.ntmps76
  cases B with
  | false =>
    go_wp2_with fail
    have hnb : ¬ wide < (u.ks.length : Int) := of_decide_eq_false HBD.out.symm
    obtain ⟨W2, hW2⟩ : ∃ W2, W2 = (w.alloc (.cells #[.slice a1 n1 c1, .slice a2 n2 c2, .int .i64 mid, .slice a3 n3 c3, .slice a4 n4 c4, .bool false, .int .i64 cnt] 73)).alloc (.cells #[.slice a1 n1 c1, .slice a2 n2 c2] 25) := ⟨_, rfl⟩
    rw [← hW2]
    have hb2 : Below w.heap.size w W2 := by rw [hW2]; exact ((Below.refl _ _).alloc (Nat.le_refl _) _).alloc (by simp) _
    have kb : W2.heap[w.heap.size + 1]? = some (.cells #[.slice a1 n1 c1, .slice a2 n2 c2] 25 (0, 0)) := by
      rw [hW2, show w.heap.size + 1 = (w.alloc (.cells #[.slice a1 n1 c1, .slice a2 n2 c2, .int .i64 mid, .slice a3 n3 c3, .slice a4 n4 c4, .bool false, .int .i64 cnt] 73)).heap.size by simp, new_blk]
    obtain ⟨d1, d2, d3, d4⟩ := box2 kb
    clear hW2
    refine bodyPost_ret (v := .agg #[.slice a1 n1 c1, .slice a2 n2 c2]) (by simp [results, Try.results76, go_sem, d1, d2]) rfl ⟨_, _, rfl, ?_, hb2⟩
    unfold Tr.rootT
    rw [if_neg hnb]
    exact (HY.out.2.1 (by omega)).1.same (fun k e => hb2.block k (HY.out.2.2 k e)) (fun k e => .inl e)
  | true =>
    go_wp2_with fail
    have hyb : wide < (u.ks.length : Int) := of_decide_eq_true HBD.out.symm
    clear x0 x1 x2 x3 x4 x5 x6
    obtain ⟨WB, hWB⟩ : ∃ WB, WB = (w.alloc (.cells #[.slice a1 n1 c1, .slice a2 n2 c2, .int .i64 mid, .slice a3 n3 c3, .slice a4 n4 c4, .bool true, .int .i64 cnt] 73)).alloc (.cells #[.slice (some ⟨w.heap.size + 1 + 1, 0, none⟩) 1 1, .slice (some ⟨w.heap.size + 1 + 1 + 1, 0, none⟩) 2 2] 25) := ⟨_, rfl⟩
    rw [← hWB]
    have hsB : WB.heap.size = w.heap.size + 1 + 1 := by rw [hWB]; simp
    have hbB : Below w.heap.size w WB := by rw [hWB]; exact ((Below.refl _ _).alloc (Nat.le_refl _) _).alloc (by simp) _
    have kb : WB.heap[w.heap.size + 1]? = some (.cells #[.slice (some ⟨w.heap.size + 1 + 1, 0, none⟩) 1 1, .slice (some ⟨w.heap.size + 1 + 1 + 1, 0, none⟩) 2 2] 25 (0, 0)) := by
      rw [hWB, show w.heap.size + 1 = (w.alloc (.cells #[.slice a1 n1 c1, .slice a2 n2 c2, .int .i64 mid, .slice a3 n3 c3, .slice a4 n4 c4, .bool true, .int .i64 cnt] 73)).heap.size by simp, new_blk]
    clear hWB
    obtain ⟨WC, hWC⟩ : ∃ WC, WC = WB.alloc (.cells #[.int .i64 mid] 3) := ⟨_, rfl⟩
    rw [← hWC]
    have hsC : WC.heap.size = w.heap.size + 1 + 1 + 1 := by rw [hWC]; simp [hsB]
    have hbC : Below WB.heap.size WB WC := by rw [hWC]; exact (Below.refl _ _).alloc (Nat.le_refl _) _
    have kc : WC.heap[w.heap.size + 1 + 1]? = some (.cells #[.int .i64 mid] 3 (0, 0)) := by rw [hWC, ← hsB, new_blk]
    clear hWC
    obtain ⟨WD, hWD⟩ : ∃ WD, WD = WC.alloc (.cells #[.slice a1 n1 c1, .slice a2 n2 c2, .slice a3 n3 c3, .slice a4 n4 c4] 25) := ⟨_, rfl⟩
    rw [← hWD]
    have hsD : WD.heap.size = w.heap.size + 1 + 1 + 1 + 1 := by rw [hWD]; simp [hsC]
    have hbD : Below WC.heap.size WC WD := by rw [hWD]; exact (Below.refl _ _).alloc (Nat.le_refl _) _
    have kd : WD.heap[w.heap.size + 1 + 1 + 1]? = some (.cells #[.slice a1 n1 c1, .slice a2 n2 c2, .slice a3 n3 c3, .slice a4 n4 c4] 25 (0, 0)) := by rw [hWD, ← hsC, new_blk]
    clear hWD
    have hbT : Below w.heap.size w WD := hbB.trans ((hbC.mono (by omega)).trans (hbD.mono (by omega)))
    have kb' := (hbD.block _ (by omega)).trans ((hbC.block _ (by omega)).trans kb)
    have kc' := (hbD.block _ (by omega)).trans kc
    obtain ⟨d1, d2, d3, d4⟩ := box2 kb'
    obtain ⟨e1, -⟩ := box1 kc'
    refine bodyPost_ret (v := .agg #[.slice (some ⟨w.heap.size + 1 + 1, 0, none⟩) 1 1, .slice (some ⟨w.heap.size + 1 + 1 + 1, 0, none⟩) 2 2]) (by simp [results, Try.results76, go_sem, d1, d2]) rfl ⟨_, _, rfl, ?_, hbT⟩
    unfold Tr.rootT
    rw [if_pos hyb]
    obtain ⟨hl, hr, rfl, -⟩ := HY.out.1 hyb
    refine .mk [u.midOf] [u.leftOf, u.rightOf] _ (some ⟨w.heap.size + 1 + 1 + 1, 0, none⟩) 2 (fun i => if i = 0 then .slice a1 n1 c1 else .slice a3 n3 c3) (fun i => if i = 0 then .slice a2 n2 c2 else .slice a4 n4 c4)
      ⟨_, 1, rfl, Nat.le_refl _, by unfold maxLen; omega, by simp, .inr ⟨w.heap.size + 1 + 1, 0, rfl, .inr ⟨by omega, by omega⟩, fun i hi => ?_⟩⟩ (by simp) (by unfold maxLen; omega) (.inr ⟨w.heap.size + 1 + 1 + 1, 0, rfl, .inr ⟨by omega, by omega⟩, fun i hi => ?_⟩) (fun i hi => ?_)
    · have : i = 0 := by simpa using hi
      subst this
      exact e1
    · have hi' : i < 2 := by simpa using hi
      have hc : ∀ j v, (#[Value.slice a1 n1 c1, .slice a2 n2 c2, .slice a3 n3 c3, .slice a4 n4 c4] : Array Value)[j]? = some v → WD.cell? ⟨w.heap.size + 1 + 1 + 1, j, none⟩ = some v := fun j v h => by simpa [World.cell?, kd] using h
      rcases (by omega : i = 0 ∨ i = 1) with rfl | rfl
      · exact ⟨hc 0 _ rfl, hc 1 _ rfl⟩
      · exact ⟨hc 2 _ rfl, hc 3 _ rfl⟩
    · have hi' : i < 2 := by simpa using hi
      rcases (by omega : i = 0 ∨ i = 1) with rfl | rfl
      · exact hl.same (fun k e => hbT.block k (HY.out.2.2 k e)) (fun k e => .inl e)
      · exact hr.same (fun k e => hbT.block k (HY.out.2.2 k e)) (fun k e => .inl e)

theorem l3Root_c {w : World} {Q : Nat → Prop} {v : Value} {wide : Int} {u : Tr} {n : Nat} (h : SplitIn w Q v wide u n) (hq : ∀ q, Q q → q < w.heap.size) :
    Calls Try.prog 76 #[v] w fun e w' => ∃ kv cv, e = .returned (.agg #[kv, cv]) ∧ TreeIn w' w'.heap.size kv cv (Tr.rootT wide u) ∧ Below w.heap.size w w' := by
  refine (l3Root_p h hq).mono ?_
  rintro e w' ⟨kv, cv, rfl, ht, hb⟩
  exact ⟨kv, cv, rfl, ht.tree (fun q e => e.elim (fun e => Nat.lt_of_lt_of_le (hq q e) hb.size) (fun e => e.2)), hb⟩
end Go.Proofs.Ythiohdbcclbgkaa

/- The model's InsertKey, its contract. -/
namespace Go.Proofs.Ythiohdbcclbgkaa
open Go.RowKit

set_option maxRecDepth 100000 in
set_option maxHeartbeats 2000000 in
theorem l3Key_c {w : World} {B : Nat} {kv cv : Value} {t : Tr} (ht : TreeIn w B kv cv t) (wide key : Int) (hv : Tr.validB wide t = true) (w' : World) (hbw : Below B w w') (hB : B ≤ w'.heap.size) :
    Calls Try.prog 68 #[.agg #[kv, cv], .int .i64 wide, .int .i64 key] w' fun e w'' => ∃ kv' cv' P, e = .returned (.agg #[kv', cv']) ∧ TreeO w'' w'.heap.size P kv' cv' (Tr.insT wide key t) ∧ Below w'.heap.size w' w'' := by
  obtain ⟨a5, n5, m5, a6, n6, m6, rfl, rfl⟩ := ht.slices
  obtain ⟨W1, hW1⟩ : ∃ W1, W1 = (w'.alloc (.cells #[.slice a5 n5 m5, .slice a6 n6 m6] 25)).alloc (.cells #[.slice none 0 0, .slice none 0 0] 25) := ⟨_, rfl⟩
  have hs1 : W1.heap.size = w'.heap.size + 2 := by rw [hW1]; simp
  have hb1 : Below w'.heap.size w' W1 := by rw [hW1]; exact ((Below.refl _ _).alloc (Nat.le_refl _) _).alloc (by simp) _
  have k0 : W1.heap[w'.heap.size]? = some (.cells #[.slice a5 n5 m5, .slice a6 n6 m6] 25 (0, 0)) := by rw [hW1, old_blk _ _ _ (by simp), new_blk]
  have kb : W1.heap[w'.heap.size + 1]? = some (.cells #[.slice none 0 0, .slice none 0 0] 25 (0, 0)) := by
    rw [hW1, show w'.heap.size + 1 = (w'.alloc (.cells #[.slice a5 n5 m5, .slice a6 n6 m6] 25)).heap.size by simp, new_blk]
  have k0x := k0
  rw [hW1] at k0x
  obtain ⟨x1, x2, x3, x4⟩ := box2 k0x
  have hsm := Tr.valid_small hv
  have hcall := l3Insert_c wide key (Tr.valid_wide hv) 200 t hsm (by omega) (Tr.valid_well hv) W1 (· < B) _ _ (fun q h => by omega) (ht.later (hbw.trans (hb1.mono hB)) (Nat.le_refl _)).p
  have hiw := Tr.insT_weight wide key t
  have HC := Lib.hid hcall
  have HT := Lib.hid ht
  have HBW := Lib.hid hbw
  have HW1 := Lib.hid hW1
  have H1 := Lib.hid (And.intro hb1 kb)
  clear ht hbw hW1 hb1 k0 kb k0x hcall
  go_enter Try.func68, Try.ntmps68
  go_wp2_with fail
  rw [← HW1.out]
  refine HC.out.mono ?_
  rintro e w2 ⟨v2, rfl, hsp, hb2⟩
  have hs2 := hb2.size
  have HB2 := Lib.hid hb2
  have hroot := l3Root_c hsp (fun q h => by
    rcases h with h | h
    · have : q < B := h
      omega
    · exact h.2)
  have HR := Lib.hid hroot
  clear hsp hb2 hroot x1 x2 x3 x4
  go_wp2_with fail
  refine HR.out.mono ?_
  rintro e w3 ⟨k3, c3, rfl, ht3, hb3⟩
  obtain ⟨p1, p2, p3, p4, p5, p6, rfl, rfl⟩ := ht3.slices
  have hs3 := hb3.size
  have ht3' : TreeIn w3 w3.heap.size (.slice p1 p2 p3) (.slice p4 p5 p6) (Tr.insT wide key t) := ht3
  have HB3 := Lib.hid hb3
  have HCP := Lib.hid (copy_c ht3' (by omega) w3 (Below.refl _ _) (Nat.le_refl _))
  clear ht3 ht3' hb3
  go_wp2_with fail
  refine HCP.out.mono ?_
  rintro e w4 ⟨k4, c4, P, rfl, ht4, hb4⟩
  obtain ⟨q1, q2, q3, q4, q5, q6, rfl, rfl⟩ := ht4.tree.slices
  have hs4 := hb4.size
  have hbr : Below W1.heap.size W1 w4 := HB2.out.trans ((HB3.out.mono hs2).trans (hb4.mono (by omega)))
  have hrb := (hbr.block (w'.heap.size + 1) (by omega)).trans H1.out.2
  obtain ⟨r1, r2, r3, r4⟩ := box2 hrb
  have HZ := Lib.hid (And.intro ht4 (And.intro hbr hrb))
  clear ht4 hb4 hbr hrb
  go_wp2_with fail
  obtain ⟨wf, hwf⟩ : ∃ wf, wf = (w4.setCell ⟨w'.heap.size + 1, 0, none⟩ (.slice q1 q2 q3)).setCell ⟨w'.heap.size + 1, 1, none⟩ (.slice q4 q5 q6) := ⟨_, rfl⟩
  have hfb : wf.heap[w'.heap.size + 1]? = some (.cells #[.slice q1 q2 q3, .slice q4 q5 q6] 25 (0, 0)) := by
    rw [hwf]; exact set_blk (o := 1) _ (set_blk (o := 0) _ HZ.out.2.2)
  obtain ⟨d1, d2, d3, d4⟩ := box2 hfb
  rw [← hwf]
  refine bodyPost_ret (v := .agg #[.slice q1 q2 q3, .slice q4 q5 q6]) (by simp [results, Try.results68, go_sem, d1, d2]) rfl ⟨_, _, P, rfl, ?_, ?_⟩
  · exact (HZ.out.1.same (w' := wf) (by rw [hwf]; simp) (fun q e => by have := (HZ.out.1.lt q e).1; rw [hwf, set_other _ _ _ _ _ (by omega), set_other _ _ _ _ _ (by omega)])).lower (by omega)
  · rw [hwf]; exact ((H1.out.1.trans (HZ.out.2.1.mono (by omega))).setCell (by show w'.heap.size ≤ w'.heap.size + 1; omega) _).setCell (by show w'.heap.size ≤ w'.heap.size + 1; omega) _

set_option maxRecDepth 100000 in
set_option maxHeartbeats 2000000 in
theorem specInsertKey_c {w : World} {B : Nat} {kv cv : Value} {t : Tr} (ht : TreeIn w B kv cv t) (hw : t.weight ≤ 1048576) (wide key : Int) (w' : World) (hbw : Below B w w') (hB : B ≤ w'.heap.size) :
    Calls Try.prog 47 #[.agg #[kv, cv], .int .i64 wide, .int .i64 key] w' fun e w'' => ∃ kv' cv' P, e = .returned (.tuple #[.agg #[kv', cv'], .bool (Tr.askedB wide key t)]) ∧ TreeO w'' w'.heap.size P kv' cv' (Tr.insKeyT wide key t) ∧ Below w'.heap.size w' w'' := by
  obtain ⟨a5, n5, m5, a6, n6, m6, rfl, rfl⟩ := ht.slices
  obtain ⟨W1, hW1⟩ : ∃ W1, W1 = (w'.alloc (.cells #[.slice a5 n5 m5, .slice a6 n6 m6] 25)).alloc (.cells #[.slice none 0 0, .slice none 0 0] 25) := ⟨_, rfl⟩
  have hs1 : W1.heap.size = w'.heap.size + 2 := by rw [hW1]; simp
  have hb1 : Below w'.heap.size w' W1 := by rw [hW1]; exact ((Below.refl _ _).alloc (Nat.le_refl _) _).alloc (by simp) _
  have k0 : W1.heap[w'.heap.size]? = some (.cells #[.slice a5 n5 m5, .slice a6 n6 m6] 25 (0, 0)) := by rw [hW1, old_blk _ _ _ (by simp), new_blk]
  have kb : W1.heap[w'.heap.size + 1]? = some (.cells #[.slice none 0 0, .slice none 0 0] 25 (0, 0)) := by
    rw [hW1, show w'.heap.size + 1 = (w'.alloc (.cells #[.slice a5 n5 m5, .slice a6 n6 m6] 25)).heap.size by simp, new_blk]
  have k0x := k0
  rw [hW1] at k0x
  obtain ⟨x1, x2, x3, x4⟩ := box2 k0x
  have HT := Lib.hid ht
  have HBW := Lib.hid hbw
  have HW1 := Lib.hid hW1
  have H1 := Lib.hid (And.intro hb1 (And.intro kb k0))
  clear ht hbw hW1 hb1 k0 kb k0x
  go_enter Try.func47, Try.ntmps47
  go_wp2_with fail
  rw [← HW1.out]
  refine (specAsked_c HT.out hw wide key W1 (HBW.out.trans (H1.out.1.mono hB)) (by omega)).mono ?_
  rintro e w2 ⟨rfl, hb2⟩
  have hs2 := hb2.size
  clear x1 x2 x3 x4
  have j0 := (hb2.block _ (by omega)).trans H1.out.2.2
  have hrb := (hb2.block (w'.heap.size + 1) (by omega)).trans H1.out.2.1
  obtain ⟨x1, x2, x3, x4⟩ := box2 j0
  obtain ⟨r1, r2, r3, r4⟩ := box2 hrb
  have H2 := Lib.hid (And.intro (H1.out.1.trans (hb2.mono (by omega))) hrb)
  clear hb2 j0 hrb
  cases ha : Tr.askedB wide key t with
  | false =>
    have HA := Lib.hid (show Tr.insKeyT wide key t = .mk [] [] by simp [Tr.insKeyT, ha])
    have HAB := Lib.hid ha
    clear ha
    go_wp2_with fail
    obtain ⟨wf, hwf⟩ : ∃ wf, wf = (w2.setCell ⟨w'.heap.size + 1, 0, none⟩ (.slice none 0 0)).setCell ⟨w'.heap.size + 1, 1, none⟩ (.slice none 0 0) := ⟨_, rfl⟩
    have hfb : wf.heap[w'.heap.size + 1]? = some (.cells #[.slice none 0 0, .slice none 0 0] 25 (0, 0)) := by
      rw [hwf]; exact set_blk (o := 1) _ (set_blk (o := 0) _ H2.out.2)
    obtain ⟨d1, d2, d3, d4⟩ := box2 hfb
    rw [← hwf]
    refine bodyPost_ret (v := .tuple #[.agg #[.slice none 0 0, .slice none 0 0], .bool false]) (by simp [results, Try.results47, go_sem, d1, d2]) rfl ⟨_, _, _, by rw [HAB.out], by rw [HA.out]; exact TreeO.nil _ _, ?_⟩
    rw [hwf]; exact (H2.out.1.setCell (by show w'.heap.size ≤ w'.heap.size + 1; omega) _).setCell (by show w'.heap.size ≤ w'.heap.size + 1; omega) _
  | true =>
    have HA := Lib.hid (show Tr.insKeyT wide key t = Tr.insT wide key t by simp [Tr.insKeyT, ha])
    have HAB := Lib.hid ha
    have hkey := l3Key_c HT.out wide key (Tr.asked_path ha).1 w2 (HBW.out.trans (H2.out.1.mono hB)) (by omega)
    have HK := Lib.hid hkey
    clear ha hkey
    go_wp2_with fail
    refine HK.out.mono ?_
    rintro e w4 ⟨k4, c4, P, rfl, ht4, hb4⟩
    obtain ⟨q1, q2, q3, q4, q5, q6, rfl, rfl⟩ := ht4.tree.slices
    have hs4 := hb4.size
    have hrb := (hb4.block (w'.heap.size + 1) (by omega)).trans H2.out.2
    clear r1 r2 r3 r4 x1 x2 x3 x4
    obtain ⟨r1, r2, r3, r4⟩ := box2 hrb
    have HZ := Lib.hid (And.intro ht4 (And.intro hb4 hrb))
    clear ht4 hb4 hrb
    go_wp2_with fail
    obtain ⟨wf, hwf⟩ : ∃ wf, wf = (w4.setCell ⟨w'.heap.size + 1, 0, none⟩ (.slice q1 q2 q3)).setCell ⟨w'.heap.size + 1, 1, none⟩ (.slice q4 q5 q6) := ⟨_, rfl⟩
    have hfb : wf.heap[w'.heap.size + 1]? = some (.cells #[.slice q1 q2 q3, .slice q4 q5 q6] 25 (0, 0)) := by
      rw [hwf]; exact set_blk (o := 1) _ (set_blk (o := 0) _ HZ.out.2.2)
    obtain ⟨d1, d2, d3, d4⟩ := box2 hfb
    rw [← hwf]
    refine bodyPost_ret (v := .tuple #[.agg #[.slice q1 q2 q3, .slice q4 q5 q6], .bool true]) (by simp [results, Try.results47, go_sem, d1, d2]) rfl ⟨_, _, P, by rw [HAB.out], ?_, ?_⟩
    · rw [HA.out]
      exact (HZ.out.1.same (w' := wf) (by rw [hwf]; simp) (fun q e => by have := (HZ.out.1.lt q e).1; rw [hwf, set_other _ _ _ _ _ (by omega), set_other _ _ _ _ _ (by omega)])).lower (by omega)
    · rw [hwf]; exact ((H2.out.1.trans (HZ.out.2.1.mono (by omega))).setCell (by show w'.heap.size ≤ w'.heap.size + 1; omega) _).setCell (by show w'.heap.size ≤ w'.heap.size + 1; omega) _
end Go.Proofs.Ythiohdbcclbgkaa

/- The model's InsertAll. -/
namespace Go.Proofs.Ythiohdbcclbgkaa
open Go.RowKit

theorem leafO {w : World} {e : Ending} {w' : World} (h : Leafed w [] e w') : ∃ kv cv P, e = .returned (.agg #[kv, cv]) ∧ TreeO w' w.heap.size P kv cv (.mk [] []) ∧ Below w.heap.size w w' := by
  obtain ⟨kv, g, rfl, hk, hlt, hg, hcell, hb⟩ := h
  have hglt : g < w'.heap.size := (Array.getElem?_eq_some_iff.1 hcell).1
  refine ⟨_, _, fun b => ownB kv b ∨ b = g, rfl, ?_, hb⟩
  refine .mk [] [] _ _ _ (hk.lower (by omega)) ?_ (fun x h => by cases h) (fun b h => .inl h) (fun b h => .inr ?_) (fun x h => by cases h) ?_ ?_
  · exact ⟨rfl, .inr ⟨g, 0, #[], rfl, by omega, hcell, Nat.le_refl _, by unfold maxLen; omega, rfl, rfl⟩⟩
  · have : some g = some b := h
    exact (Option.some.inj this).symm
  · simp only [List.map_nil, List.pairwise_cons, List.mem_cons, List.not_mem_nil, or_false, forall_eq, false_implies, implies_true, List.Pairwise.nil, and_true]
    intro b h1 h2
    have : some g = some b := h2
    have := Option.some.inj this
    have := hlt b h1
    omega
  · rintro b (h | rfl)
    · have := hk.lt b h
      omega
    · omega

/-- What InsertAll leaves. -/
def AllGrown (w : World) (wide : Int) (ks : List Int) (e : Ending) (w' : World) : Prop :=
  ∃ kv cv P, e = .returned (.tuple #[.agg #[kv, cv], .bool (Tr.allOk wide ks)]) ∧ TreeO w' w.heap.size P kv cv (Tr.insAllT wide ks) ∧ Below w.heap.size w w'

/-- What the loop keeps: the tree in its box. -/
structure AllBox (w : World) (wide : Int) (ks : List Int) (tb j : Nat) (kv cv : Value) (P : Blocks) (wr : World) : Prop where
  box : wr.heap[tb]? = some (.cells #[kv, cv] 25 (0, 0))
  res : wr.heap[w.heap.size]? = some (.cells #[.slice none 0 0, .slice none 0 0] 25 (0, 0))
  tree : TreeO wr (w.heap.size + 1) P kv cv (Tr.allIn wide (ks.take j)).1
  out : ¬ P tb
  bel : Below w.heap.size w wr

theorem AllBox.keep {w wr w' : World} {wide : Int} {ks : List Int} {tb j : Nat} {kv cv : Value} {P : Blocks} (h : AllBox w wide ks tb j kv cv P wr) (hb : Below wr.heap.size wr w') : AllBox w wide ks tb j kv cv P w' :=
  ⟨(hb.block _ (Array.getElem?_eq_some_iff.1 h.box).1).trans h.box, (hb.block _ (Array.getElem?_eq_some_iff.1 h.res).1).trans h.res, h.tree.later hb (Nat.le_refl _), h.out, h.bel.trans (hb.mono h.bel.size)⟩

theorem AllBox.same {w wr : World} {wide : Int} {ks : List Int} {tb j : Nat} {kv cv : Value} {P : Blocks} (h : AllBox w wide ks tb j kv cv P wr) (hj : j < ks.length) (hp : ((Tr.allIn wide (ks.take j)).1.path (ks.getD j 0)).2 = true) : AllBox w wide ks tb (j + 1) kv cv P wr :=
  ⟨h.box, h.res, by rw [Tr.allIn_snoc wide hj, Tr.putKey, if_pos hp]; exact h.tree, h.out, h.bel⟩

theorem AllBox.put {w w5 w6 : World} {wide : Int} {ks : List Int} {tb j : Nat} {kv cv kv' cv' : Value} {P P' : Blocks} (h : AllBox w wide ks tb j kv cv P w5) (hj : j < ks.length) (htb : w.heap.size < tb) (hp : ((Tr.allIn wide (ks.take j)).1.path (ks.getD j 0)).2 = false)
    (ht : TreeO w6 w5.heap.size P' kv' cv' (Tr.insT wide (ks.getD j 0) (Tr.allIn wide (ks.take j)).1)) (hb : Below w5.heap.size w5 w6) : AllBox w wide ks tb (j + 1) kv' cv' P' ((w6.setCell ⟨tb, 0, none⟩ kv').setCell ⟨tb, 1, none⟩ cv') := by
  have hlt := (Array.getElem?_eq_some_iff.1 h.box).1
  have hbt : Below w.heap.size w w6 := h.bel.trans (hb.mono h.bel.size)
  refine ⟨set_blk (o := 1) _ (set_blk (o := 0) _ ((hb.block _ hlt).trans h.box)), ?_, ?_, fun e => ?_, (hbt.setCell (by show w.heap.size ≤ tb; omega) _).setCell (by show w.heap.size ≤ tb; omega) _⟩
  · rw [set_other _ _ _ _ _ (by omega), set_other _ _ _ _ _ (by omega)]
    exact (hb.block _ (Array.getElem?_eq_some_iff.1 h.res).1).trans h.res
  · rw [Tr.allIn_snoc wide hj, Tr.putKey, if_neg (by rw [hp]; decide)]
    exact (ht.same (by simp) (fun q e => by have := (ht.lt q e).1; rw [set_other _ _ _ _ _ (by omega), set_other _ _ _ _ _ (by omega)])).lower (by have := h.bel.size; omega)
  · have := (ht.lt _ e).1
    omega

set_option maxRecDepth 100000 in
set_option maxHeartbeats 1000000 in
theorem specInsertAll_c {v : Value} {ks : List Int} (w : World) (B : Nat) (hB : B ≤ w.heap.size) (hk : IntsIn w B v ks) (wide : Int) :
    Calls Try.prog 15 #[.int .i64 wide, v] w (AllGrown w wide ks) := by
  obtain ⟨W1, hW1⟩ : ∃ W1, W1 = w.alloc (.cells #[.slice none 0 0, .slice none 0 0] 25) := ⟨_, rfl⟩
  have hs1 : W1.heap.size = w.heap.size + 1 := by rw [hW1]; simp
  have hb1 : Below w.heap.size w W1 := by rw [hW1]; exact (Below.refl _ _).alloc (Nat.le_refl _) _
  have k1 : W1.heap[w.heap.size]? = some (.cells #[.slice none 0 0, .slice none 0 0] 25 (0, 0)) := by rw [hW1, new_blk]
  have HK := Lib.hid hk
  have HK1 := Lib.hid (hk.later hb1 hB)
  obtain ⟨a, cap, rfl, -, hcap, -, h3⟩ := hk
  have H3 := Lib.hid h3
  clear h3
  unfold maxLen at hcap
  have HW1 := Lib.hid hW1
  have H1 := Lib.hid (And.intro hb1 k1)
  have NO : Hid (∀ wf : World, Below w.heap.size w wf → Tr.allOk wide ks = false → AllGrown w wide ks (.returned (.tuple #[.agg #[.slice none 0 0, .slice none 0 0], .bool false])) wf) :=
    Lib.hid (fun wf hb h => ⟨_, _, _, by rw [h], by rw [show Tr.insAllT wide ks = .mk [] [] by simp [Tr.insAllT, h]]; exact TreeO.nil _ _, hb⟩)
  obtain ⟨x1, x2, x3, x4⟩ := box2 k1
  obtain ⟨wf, hwf⟩ : ∃ wf, wf = (W1.setCell ⟨w.heap.size, 0, none⟩ (.slice none 0 0)).setCell ⟨w.heap.size, 1, none⟩ (.slice none 0 0) := ⟨_, rfl⟩
  have hfb : wf.heap[w.heap.size]? = some (.cells #[.slice none 0 0, .slice none 0 0] 25 (0, 0)) := by
    rw [hwf]; exact set_blk (o := 1) _ (set_blk (o := 0) _ k1)
  have hbf : Below w.heap.size w wf := by rw [hwf]; exact (hb1.setCell (by show w.heap.size ≤ w.heap.size; omega) _).setCell (by show w.heap.size ≤ w.heap.size; omega) _
  have HF := Lib.hid (And.intro hwf (And.intro hfb hbf))
  clear hW1 hb1 k1 hwf hfb hbf
  go_enter Try.func15, Try.ntmps15
  go_wp2_with fail
  rw [← HW1.out]
  refine (l1Wide_c wide W1).mono ?_
  rintro e wA ⟨rfl, hwA⟩
  subst wA
  cases hw : inB wide 2 6 with
  | false =>
    have HNO := Lib.hid (NO.out wf HF.out.2.2 (by simp [Tr.allOk, hw]))
    clear hw
    go_wp2_with fail
    rw [← HF.out.1]
    obtain ⟨d1, d2, d3, d4⟩ := box2 HF.out.2.1
    exact bodyPost_ret (v := .tuple #[.agg #[.slice none 0 0, .slice none 0 0], .bool false]) (by simp [results, Try.results15, go_sem, d1, d2]) rfl HNO.out
  | true =>
  go_wp2_with fail
  refine (l3Keys_c W1 B HK1.out).mono ?_
  rintro e wB ⟨rfl, hwB⟩
  subst wB
  cases hko : keysOk ks with
  | false =>
    have HNO := Lib.hid (NO.out wf HF.out.2.2 (by simp [Tr.allOk, hko]))
    clear hw hko
    go_wp2_with fail
    rw [← HF.out.1]
    obtain ⟨d1, d2, d3, d4⟩ := box2 HF.out.2.1
    exact bodyPost_ret (v := .tuple #[.agg #[.slice none 0 0, .slice none 0 0], .bool false]) (by simp [results, Try.results15, go_sem, d1, d2]) rfl HNO.out
  | true =>
  have hwd : 2 ≤ wide ∧ wide ≤ 6 := by simpa [inB] using hw
  obtain ⟨hin, h200⟩ := keysOk_at hko
  have HOK := Lib.hid (show Tr.allOk wide ks = true by simp [Tr.allOk, hw, hko])
  have HV := Lib.hid (fun j hj => (Tr.allIn_valid hwd.1 hwd.2 hin j hj).1)
  have HIN := Lib.hid hin
  clear hw hko hin HF NO x1 x2 x3 x4 hwd
  obtain ⟨W2, hW2⟩ : ∃ W2, W2 = W1.alloc (.cells #[] 3) := ⟨_, rfl⟩
  have hs2 : W2.heap.size = W1.heap.size + 1 := by rw [hW2]; simp
  have hb2 : Below W1.heap.size W1 W2 := by rw [hW2]; exact (Below.refl _ _).alloc (Nat.le_refl _) _
  have H2 := Lib.hid (And.intro hb2 hW2)
  clear hb2 hW2
  go_wp2_with fail
  rw [← H2.out.2]
  refine (leaf_c W2 _ [] (fun w' hb => ⟨_, 0, rfl, fun _ => rfl, .inl rfl⟩) (by simp)).mono ?_
  intro e w3 hlf
  obtain ⟨lk, lc, LP, rfl, ht3, hb3⟩ := leafO hlf
  clear hlf
  obtain ⟨q1, q2, q3, q4, q5, q6, rfl, rfl⟩ := ht3.tree.slices
  have hs3 := hb3.size
  obtain ⟨W4, hW4⟩ : ∃ W4, W4 = w3.alloc (.cells #[.slice q1 q2 q3, .slice q4 q5 q6] 25) := ⟨_, rfl⟩
  have hb4 : Below w3.heap.size w3 W4 := by rw [hW4]; exact (Below.refl _ _).alloc (Nat.le_refl _) _
  have k4 : W4.heap[w3.heap.size]? = some (.cells #[.slice q1 q2 q3, .slice q4 q5 q6] 25 (0, 0)) := by rw [hW4, new_blk]
  have hb24 : Below W1.heap.size W1 W4 := H2.out.1.trans ((hb3.mono (by omega)).trans (hb4.mono (by omega)))
  have hall : AllBox w wide ks w3.heap.size 0 (.slice q1 q2 q3) (.slice q4 q5 q6) LP W4 :=
    ⟨k4, (hb24.block _ (by omega)).trans H1.out.2, (ht3.later hb4 (Nat.le_refl _)).lower (by omega), fun e => by have := (ht3.lt _ e).2; omega, H1.out.1.trans (hb24.mono (by omega))⟩
  have HW4 := Lib.hid hW4
  have HA := Lib.hid hall
  clear ht3 hb3 hb4 k4 hb24 hW4 hall
  have htb : w.heap.size < w3.heap.size := by omega
  go_wp2_with fail
  rw [← HW4.out]
  go_loopw [8, 22] (fun s8 i wr => ∃ (j : Nat) (kv cv : Value) (P : Blocks), j ≤ ks.length ∧ i = .int .i64 j ∧ AllBox w wide ks w3.heap.size j kv cv P wr) (fun _ i _ => ks.length - (intOf i).toNat)
  case atStart => exact ⟨0, _, _, LP, Nat.zero_le _, rfl, HA.out⟩
  case round =>
    obtain ⟨j, kv, cv, P, hj, rfl, hbox⟩ := hrel
    obtain ⟨p1, p2, p3, p4, p5, p6, rfl, rfl⟩ := hbox.tree.tree.slices
    obtain ⟨c1, c2, c3, c4⟩ := box2 hbox.box
    have HBX := Lib.hid hbox
    by_cases hlt : j < ks.length
    · rcases H3.out with h | ⟨b, off, rfl, hb, hat⟩
      · simp [h] at hlt
      have ha' : wr.cell? ⟨b, off + j, none⟩ = some (.int .i64 (ks.getD j 0)) := by rw [below_cell hbox.bel (by omega)]; exact hat j hlt
      have hsmall := Tr.valid_small (HV.out j hj)
      have HHAS := Lib.hid (specHasKey_c hbox.tree.tree (by omega) (ks.getD j 0) wr (Below.refl _ _) (Nat.le_refl _))
      have HPB := Lib.hid ((someB_path (ks.getD j 0) (Tr.allIn wide (ks.take j)).1).1 (Tr.valid_some (HV.out j hj)))
      obtain ⟨x, hx⟩ : ∃ x, x = ks.getD j 0 := ⟨_, rfl⟩
      have hjl : (j : Int) < (ks.length : Int) := by omega
      rw [← hx] at ha' HHAS HPB
      have HX := Lib.hid hx
      clear hbox hat hx
      go_wp2_with fail
      refine HHAS.out.mono ?_
      rintro e w5 ⟨rfl, hb5⟩
      rw [HPB.out]
      have h5 := HBX.out.keep hb5
      clear c1 c2 c3 c4
      obtain ⟨c1, c2, c3, c4⟩ := box2 h5.box
      cases hp : ((Tr.allIn wide (ks.take j)).1.path x).2 with
      | true =>
        have H6 := Lib.hid (h5.same hlt (by rw [← HX.out]; exact hp))
        clear h5 hb5 hp
        go_wp2_with fail
        go_roundw
        case rel => exact ⟨j + 1, _, _, P, by omega, by go_num, H6.out⟩
        case measure => simp [intOf]; omega
      | false =>
        have HK5 := Lib.hid (l3Key_c h5.tree.tree wide x (HV.out j hj) w5 (Below.refl _ _) (Nat.le_refl _))
        have HP := Lib.hid (show ((Tr.allIn wide (ks.take j)).1.path (ks.getD j 0)).2 = false by rw [← HX.out]; exact hp)
        have H5 := Lib.hid h5
        clear h5 hb5 hp
        go_wp2_with fail
        refine HK5.out.mono ?_
        rintro e w6 ⟨k6, c6, P6, rfl, ht6, hb6⟩
        rw [HX.out] at ht6
        obtain ⟨r1, r2, r3, r4, r5, r6, rfl, rfl⟩ := ht6.tree.slices
        have H7 := Lib.hid (H5.out.put hlt htb HP.out ht6 hb6)
        have kb6 := (hb6.block _ (Array.getElem?_eq_some_iff.1 H5.out.box).1).trans H5.out.box
        clear c1 c2 c3 c4
        obtain ⟨c1, c2, c3, c4⟩ := box2 kb6
        clear ht6 hb6 kb6
        go_wp2_with fail
        go_roundw
        case rel => exact ⟨j + 1, _, _, P6, by omega, by go_num, H7.out⟩
        case measure => simp [intOf]; omega
    · have hjn : j = ks.length := by omega
      have hjl : ¬ (j : Int) < (ks.length : Int) := by omega
      have HJN := Lib.hid hjn
      clear hjn hbox
      obtain ⟨y1, y2, y3, y4⟩ := box2 HBX.out.res
      go_wp2_with fail
      obtain ⟨wf, hwf⟩ : ∃ wf, wf = (wr.setCell ⟨w.heap.size, 0, none⟩ (.slice p1 p2 p3)).setCell ⟨w.heap.size, 1, none⟩ (.slice p4 p5 p6) := ⟨_, rfl⟩
      have hfb : wf.heap[w.heap.size]? = some (.cells #[.slice p1 p2 p3, .slice p4 p5 p6] 25 (0, 0)) := by
        rw [hwf]; exact set_blk (o := 1) _ (set_blk (o := 0) _ HBX.out.res)
      obtain ⟨d1, d2, d3, d4⟩ := box2 hfb
      rw [← hwf]
      refine bodyPost_ret (v := .tuple #[.agg #[.slice p1 p2 p3, .slice p4 p5 p6], .bool true]) (by simp [results, Try.results15, go_sem, d1, d2]) rfl ⟨_, _, P, by rw [HOK.out], ?_, ?_⟩
      · have ht := HBX.out.tree
        rw [HJN.out, List.take_length] at ht
        rw [show Tr.insAllT wide ks = (Tr.allIn wide ks).1 by simp [Tr.insAllT, HOK.out]]
        exact (ht.same (w' := wf) (by rw [hwf]; simp) (fun q e => by have := (ht.lt q e).1; rw [hwf, set_other _ _ _ _ _ (by omega), set_other _ _ _ _ _ (by omega)])).lower (by omega)
      · rw [hwf]; exact (HBX.out.bel.setCell (by show w.heap.size ≤ w.heap.size; omega) _).setCell (by show w.heap.size ≤ w.heap.size; omega) _
end Go.Proofs.Ythiohdbcclbgkaa

/- The model's SplitsOf. -/
namespace Go.Proofs.Ythiohdbcclbgkaa
open Go.RowKit

theorem cut_both {w w' : World} {P : Nat → Prop} {wide key : Int} {t : Tr} {e : Ending} (h : Cut w P wide (Tr.grow wide key t) e w') : ∃ (a1 a2 a3 a4 : Option Addr) (n1 c1 n2 c2 n3 c3 n4 c4 : Nat) (mid : Int),
    e = .returned (.agg #[.slice a1 n1 c1, .slice a2 n2 c2, .int .i64 mid, .slice a3 n3 c3, .slice a4 n4 c4, .bool (Tr.insG wide key t), .int .i64 (Tr.insN wide key t : Int)]) ∧
    SplitIn w' (fun q => P q ∨ (w.heap.size + 2 ≤ q ∧ q < w'.heap.size)) (.agg #[.slice a1 n1 c1, .slice a2 n2 c2, .int .i64 mid, .slice a3 n3 c3, .slice a4 n4 c4, .bool (Tr.insG wide key t), .int .i64 (Tr.insN wide key t : Int)]) wide (Tr.grow wide key t).1 (Tr.grow wide key t).2 ∧ Below w.heap.size w w' := by
  obtain ⟨v, rfl, hsp, hb⟩ := h
  have hsp2 := hsp
  obtain ⟨lk, lc, rk, rc, mid, cnt, hv, ⟨a1, n1, c1, a2, n2, c2, rfl, rfl⟩, ⟨a3, n3, c3, a4, n4, c4, rfl, rfl⟩, hyes, hno⟩ := hsp
  have hc : cnt = Tr.insN wide key t := by
    unfold Tr.insN
    by_cases hg : wide < ((Tr.grow wide key t).1.ks.length : Int)
    · rw [(hyes hg).2.2.2]; simp [hg]
    · rw [(hno hg).2]; simp [hg]
  have hv' : v = .agg #[.slice a1 n1 c1, .slice a2 n2 c2, .int .i64 mid, .slice a3 n3 c3, .slice a4 n4 c4, .bool (Tr.insG wide key t), .int .i64 (Tr.insN wide key t : Int)] := by rw [hv, hc]; rfl
  subst hv'
  exact ⟨a1, a2, a3, a4, n1, c1, n2, c2, n3, c3, n4, c4, mid, rfl, hsp2, hb⟩

theorem rootT_ins (wide key : Int) (t : Tr) : Tr.rootT wide (Tr.grow wide key t).1 = Tr.insT wide key t := rfl

/-- What the loop keeps: the tree in its box, its blocks elsewhere. -/
structure SpBox (w : World) (wide : Int) (ks : List Int) (tb j : Nat) (kv cv : Value) (wr : World) : Prop where
  box : wr.heap[tb]? = some (.cells #[kv, cv] 25 (0, 0))
  tree : TreeP wr (fun q => q ≠ tb ∧ q < wr.heap.size) kv cv (Tr.allIn wide (ks.take j)).1
  bel : Below w.heap.size w wr

theorem SpBox.lt {w wr : World} {wide : Int} {ks : List Int} {tb j : Nat} {kv cv : Value} (h : SpBox w wide ks tb j kv cv wr) : tb < wr.heap.size := (Array.getElem?_eq_some_iff.1 h.box).1
theorem SpBox.keep {w wr w' : World} {wide : Int} {ks : List Int} {tb j : Nat} {kv cv : Value} (h : SpBox w wide ks tb j kv cv wr) (hb : Below wr.heap.size wr w') : SpBox w wide ks tb j kv cv w' :=
  ⟨(hb.block _ h.lt).trans h.box, h.tree.same (fun k e => hb.block k e.2) (fun k e => ⟨e.1, Nat.lt_of_lt_of_le e.2 hb.size⟩), h.bel.trans (hb.mono h.bel.size)⟩
theorem SpBox.in {w wr : World} {wide : Int} {ks : List Int} {tb j : Nat} {kv cv : Value} (h : SpBox w wide ks tb j kv cv wr) : TreeIn wr wr.heap.size kv cv (Tr.allIn wide (ks.take j)).1 := h.tree.tree (fun k e => e.2)
theorem SpBox.same {w wr : World} {wide : Int} {ks : List Int} {tb j : Nat} {kv cv : Value} (h : SpBox w wide ks tb j kv cv wr) (hj : j < ks.length) (hp : ((Tr.allIn wide (ks.take j)).1.path (ks.getD j 0)).2 = true) : SpBox w wide ks tb (j + 1) kv cv wr :=
  ⟨h.box, by rw [Tr.allIn_snoc wide hj, Tr.putKey, if_pos hp]; exact h.tree, h.bel⟩
theorem SpBox.put {w wr : World} {wide : Int} {ks : List Int} {tb j : Nat} {kv cv kv' cv' : Value} (h : SpBox w wide ks tb j kv cv wr) (hj : j < ks.length) (htb : w.heap.size ≤ tb) (hp : ((Tr.allIn wide (ks.take j)).1.path (ks.getD j 0)).2 = false)
    (ht : TreeP wr (fun q => q ≠ tb ∧ q < wr.heap.size) kv' cv' (Tr.insT wide (ks.getD j 0) (Tr.allIn wide (ks.take j)).1)) : SpBox w wide ks tb (j + 1) kv' cv' ((wr.setCell ⟨tb, 0, none⟩ kv').setCell ⟨tb, 1, none⟩ cv') := by
  refine ⟨set_blk (o := 1) _ (set_blk (o := 0) _ h.box), ?_, (h.bel.setCell (by show w.heap.size ≤ tb; omega) _).setCell (by show w.heap.size ≤ tb; omega) _⟩
  rw [Tr.allIn_snoc wide hj, Tr.putKey, if_neg (by rw [hp]; decide)]
  exact ht.same (fun k e => by rw [set_other _ _ _ _ _ e.1, set_other _ _ _ _ _ e.1]) (fun k e => ⟨e.1, by simpa using e.2⟩)

set_option maxRecDepth 100000 in
set_option maxHeartbeats 1000000 in
theorem specSplitsOf_c {v : Value} {ks : List Int} (w : World) (B : Nat) (hB : B ≤ w.heap.size) (hk : IntsIn w B v ks) (wide : Int) :
    Calls Try.prog 23 #[.int .i64 wide, v] w fun e w' => e = .returned (.int .i64 (Tr.splitsOfB wide ks)) ∧ Below w.heap.size w w' := by
  have HK := Lib.hid hk
  obtain ⟨a, cap, rfl, -, hcap, -, h3⟩ := hk
  unfold maxLen at hcap
  have H3 := Lib.hid h3
  clear h3
  go_enter Try.func23, Try.ntmps23
  go_wp2_with fail
  refine (l1Wide_c wide w).mono ?_
  rintro e wA ⟨rfl, hwA⟩
  subst wA
  cases hw : inB wide 2 6 with
  | false =>
    have HNO := Lib.hid (show Tr.splitsOfB wide ks = -1 by simp [Tr.splitsOfB, Tr.allOk, hw])
    clear hw
    go_wp2_with fail
    go_ret
    exact ⟨ret_int HNO.out.symm, Below.refl _ _⟩
  | true =>
  go_wp2_with fail
  refine (l3Keys_c w B HK.out).mono ?_
  rintro e wB ⟨rfl, hwB⟩
  subst wB
  cases hko : keysOk ks with
  | false =>
    have HNO := Lib.hid (show Tr.splitsOfB wide ks = -1 by simp [Tr.splitsOfB, Tr.allOk, hko])
    clear hw hko
    go_wp2_with fail
    go_ret
    exact ⟨ret_int HNO.out.symm, Below.refl _ _⟩
  | true =>
  have hwd : 2 ≤ wide ∧ wide ≤ 6 := by simpa [inB] using hw
  obtain ⟨hin, h200⟩ := keysOk_at hko
  have HOK := Lib.hid (show Tr.splitsOfB wide ks = ((Tr.allIn wide ks).2 : Int) by simp [Tr.splitsOfB, Tr.allOk, hw, hko])
  have HV := Lib.hid (fun j hj => Tr.allIn_valid hwd.1 hwd.2 hin j hj)
  have HWD := Lib.hid hwd
  clear hw hko hin hwd
  obtain ⟨W2, hW2⟩ : ∃ W2, W2 = w.alloc (.cells #[] 3) := ⟨_, rfl⟩
  have hs2 : W2.heap.size = w.heap.size + 1 := by rw [hW2]; simp
  have hb2 : Below w.heap.size w W2 := by rw [hW2]; exact (Below.refl _ _).alloc (Nat.le_refl _) _
  have H2 := Lib.hid (And.intro hb2 hW2)
  clear hb2 hW2
  go_wp2_with fail
  rw [← H2.out.2]
  refine (leaf_c W2 _ [] (fun w' hb => ⟨_, 0, rfl, fun _ => rfl, .inl rfl⟩) (by simp)).mono ?_
  intro e w3 hlf
  obtain ⟨lk, lc, LP, rfl, ht3, hb3⟩ := leafO hlf
  clear hlf
  obtain ⟨q1, q2, q3, q4, q5, q6, rfl, rfl⟩ := ht3.tree.slices
  have hs3 := hb3.size
  obtain ⟨W4, hW4⟩ : ∃ W4, W4 = w3.alloc (.cells #[.slice q1 q2 q3, .slice q4 q5 q6] 25) := ⟨_, rfl⟩
  have hs4 : W4.heap.size = w3.heap.size + 1 := by rw [hW4]; simp
  have hb4 : Below w3.heap.size w3 W4 := by rw [hW4]; exact (Below.refl _ _).alloc (Nat.le_refl _) _
  have k4 : W4.heap[w3.heap.size]? = some (.cells #[.slice q1 q2 q3, .slice q4 q5 q6] 25 (0, 0)) := by rw [hW4, new_blk]
  have hb24 : Below w.heap.size w W4 := H2.out.1.trans ((hb3.mono (by omega)).trans (hb4.mono (by omega)))
  have hall : SpBox w wide ks w3.heap.size 0 (.slice q1 q2 q3) (.slice q4 q5 q6) W4 :=
    ⟨k4, ht3.tree.p.same (fun k e => hb4.block k e) (fun k e => ⟨by have : k < w3.heap.size := e; omega, by have : k < w3.heap.size := e; omega⟩), hb24⟩
  have HW4 := Lib.hid hW4
  have HA := Lib.hid hall
  clear ht3 hb3 hb4 k4 hb24 hW4 hall
  have htb : w.heap.size < w3.heap.size := by omega
  go_wp2_with fail
  rw [← HW4.out]
  go_loopw [5, 8, 9, 22] (fun s5 s8 s9 i wr => ∃ (j : Nat) (kv cv : Value), j ≤ ks.length ∧ i = .int .i64 j ∧ s5 = .int .i64 ((Tr.allIn wide (ks.take j)).2 : Int) ∧ SpBox w wide ks w3.heap.size j kv cv wr) (fun _ _ _ i _ => ks.length - (intOf i).toNat)
  case atStart => exact ⟨0, _, _, Nat.zero_le _, rfl, rfl, HA.out⟩
  case round =>
    obtain ⟨j, kv, cv, hj, rfl, rfl, hbox⟩ := hrel
    obtain ⟨p1, p2, p3, p4, p5, p6, rfl, rfl⟩ := hbox.in.slices
    obtain ⟨c1, c2, c3, c4⟩ := box2 hbox.box
    have HBX := Lib.hid hbox
    have hcnt := (HV.out j hj).2
    obtain ⟨N, hN⟩ : ∃ N, N = (Tr.allIn wide (ks.take j)).2 := ⟨_, rfl⟩
    rw [← hN] at hcnt ⊢
    have HN := Lib.hid hN
    clear hN
    by_cases hlt : j < ks.length
    · rcases H3.out with h | ⟨b, off, rfl, hb, hat⟩
      · simp [h] at hlt
      have ha' : wr.cell? ⟨b, off + j, none⟩ = some (.int .i64 (ks.getD j 0)) := by rw [below_cell hbox.bel (by omega)]; exact hat j hlt
      have hsmall := Tr.valid_small (HV.out j hj).1
      have HHAS := Lib.hid (specHasKey_c hbox.in (by omega) (ks.getD j 0) wr (Below.refl _ _) (Nat.le_refl _))
      have HPB := Lib.hid ((someB_path (ks.getD j 0) (Tr.allIn wide (ks.take j)).1).1 (Tr.valid_some (HV.out j hj).1))
      obtain ⟨x, hx⟩ : ∃ x, x = ks.getD j 0 := ⟨_, rfl⟩
      have hjl : (j : Int) < (ks.length : Int) := by omega
      rw [← hx] at ha' HHAS HPB
      have HX := Lib.hid hx
      clear hbox hat hx
      go_wp2_with fail
      refine HHAS.out.mono ?_
      rintro e w5 ⟨rfl, hb5⟩
      rw [HPB.out]
      have h5 := HBX.out.keep hb5
      clear c1 c2 c3 c4
      obtain ⟨c1, c2, c3, c4⟩ := box2 h5.box
      cases hp : ((Tr.allIn wide (ks.take j)).1.path x).2 with
      | true =>
        have hpx : ((Tr.allIn wide (ks.take j)).1.path (ks.getD j 0)).2 = true := by rw [← HX.out]; exact hp
        have H6 := Lib.hid (And.intro (h5.same hlt hpx) (show N = (Tr.allIn wide (ks.take (j + 1))).2 by rw [Tr.allIn_snoc wide hlt, Tr.putKey, if_pos hpx]; exact HN.out))
        clear h5 hb5 hp hpx
        go_wp2_with fail
        go_roundw
        case rel => exact ⟨j + 1, _, _, by omega, by go_num, by rw [← H6.out.2], H6.out.1⟩
        case measure => simp [intOf]; omega
      | false =>
        have hpx : ((Tr.allIn wide (ks.take j)).1.path (ks.getD j 0)).2 = false := by rw [← HX.out]; exact hp
        have hmore := (HV.out (j + 1) (by omega)).2
        have hnn : N + Tr.insN wide x (Tr.allIn wide (ks.take j)).1 = (Tr.allIn wide (ks.take (j + 1))).2 := by
          rw [Tr.allIn_snoc wide hlt, Tr.putKey, if_neg (by rw [hpx]; decide), HX.out, HN.out]
        have hlt5 := h5.lt
        have HK5 := Lib.hid (l3Insert_c wide x HWD.out 200 _ hsmall (by omega) (Tr.valid_well (HV.out j hj).1) w5 _ _ _ (fun q e => e.2) h5.tree)
        rw [← hnn] at hmore
        have HP := Lib.hid (And.intro hpx hnn)
        have H5 := Lib.hid h5
        clear h5 hb5 hp hpx hnn
        go_wp2_with fail
        refine HK5.out.mono ?_
        intro e w6 hcut
        obtain ⟨b1, b2, b3, b4, d1, d2, d3, d4, d5, d6, d7, d8, mid, rfl, hsp, hb6⟩ := cut_both hcut
        have hs6 := hb6.size
        have kb6 := (hb6.block _ hlt5).trans H5.out.box
        obtain ⟨I, hI⟩ : ∃ I, I = Tr.insN wide x (Tr.allIn wide (ks.take j)).1 := ⟨_, rfl⟩
        rw [← hI] at hsp hmore ⊢
        obtain ⟨W7, hW7⟩ : ∃ W7, W7 = w6.alloc (.cells #[.slice b1 d1 d2, .slice b2 d3 d4, .int .i64 mid, .slice b3 d5 d6, .slice b4 d7 d8, .bool (Tr.insG wide x (Tr.allIn wide (ks.take j)).1), .int .i64 (I : Int)] 73) := ⟨_, rfl⟩
        have hs7 : W7.heap.size = w6.heap.size + 1 := by rw [hW7]; simp
        have hb7 : Below w6.heap.size w6 W7 := by rw [hW7]; exact (Below.refl _ _).alloc (Nat.le_refl _) _
        have k7 : (w6.alloc (.cells #[.slice b1 d1 d2, .slice b2 d3 d4, .int .i64 mid, .slice b3 d5 d6, .slice b4 d7 d8, .bool (Tr.insG wide x (Tr.allIn wide (ks.take j)).1), .int .i64 (I : Int)] 73)).heap[w6.heap.size]? = some (.cells #[.slice b1 d1 d2, .slice b2 d3 d4, .int .i64 mid, .slice b3 d5 d6, .slice b4 d7 d8, .bool (Tr.insG wide x (Tr.allIn wide (ks.take j)).1), .int .i64 (I : Int)] 73 (0, 0)) := new_blk _ _
        obtain ⟨g0, g1, g2, g3, g4, g5, g6⟩ := box7' k7
        have hsp7 : SplitIn W7 (fun q => (q ≠ w3.heap.size ∧ q < w5.heap.size) ∨ (w5.heap.size + 2 ≤ q ∧ q < w6.heap.size)) (.agg #[.slice b1 d1 d2, .slice b2 d3 d4, .int .i64 mid, .slice b3 d5 d6, .slice b4 d7 d8, .bool (Tr.insG wide x (Tr.allIn wide (ks.take j)).1), .int .i64 (I : Int)]) wide (Tr.grow wide x (Tr.allIn wide (ks.take j)).1).1 (Tr.grow wide x (Tr.allIn wide (ks.take j)).1).2 := by
          obtain ⟨lk, lc, rk, rc, md, cn, hv, hl, hr, hyes, hno⟩ := hsp
          have hq : ∀ q, ((q ≠ w3.heap.size ∧ q < w5.heap.size) ∨ (w5.heap.size + 2 ≤ q ∧ q < w6.heap.size)) → q < w6.heap.size := fun q e => by omega
          exact ⟨lk, lc, rk, rc, md, cn, hv, hl, hr, fun g => ⟨(hyes g).1.same (fun k e => hb7.block k (hq k e)) (fun k e => e), (hyes g).2.1.same (fun k e => hb7.block k (hq k e)) (fun k e => e), (hyes g).2.2⟩, fun g => ⟨(hno g).1.same (fun k e => hb7.block k (hq k e)) (fun k e => e), (hno g).2⟩⟩
        have HRT := Lib.hid (l3Root_p hsp7 (fun q e => by omega))
        have H7 := Lib.hid (And.intro (H5.out.keep (hb6.trans (hb7.mono (by omega)))) (And.intro hI hW7))
        clear hcut hsp hsp7 hb6 hb7 kb6 k7 hI c1 c2 c3 c4 hW7
        generalize Tr.insG wide x (Tr.allIn wide (ks.take j)).1 = gg at g5 HRT H7 ⊢
        go_wp2_with fail
        rw [← H7.out.2.2]
        refine HRT.out.mono ?_
        rintro e w8 ⟨k8, c8, rfl, ht8, hb8⟩
        rw [rootT_ins, HX.out] at ht8
        obtain ⟨r1, r2, r3, r4, r5, r6, rfl, rfl⟩ := ht8.slices
        have hs8 := hb8.size
        have h8 := H7.out.1.keep hb8
        have ht8' : TreeP w8 (fun q => q ≠ w3.heap.size ∧ q < w8.heap.size) (.slice r1 r2 r3) (.slice r4 r5 r6) (Tr.insT wide (ks.getD j 0) (Tr.allIn wide (ks.take j)).1) :=
          ht8.same (fun _ _ => rfl) (fun k e => by omega)
        have H9 := Lib.hid (h8.put hlt (by omega) HP.out.1 ht8')
        obtain ⟨c1, c2, c3, c4⟩ := box2 h8.box
        clear ht8 ht8' hb8 h8 g0 g1 g2 g3 g4 g5 g6
        go_wp2_with fail
        go_roundw
        case rel => exact ⟨j + 1, _, _, by omega, by go_num, by rw [← HP.out.2, ← H7.out.2.1]; go_num, H9.out⟩
        case measure => simp [intOf]; omega
    · have hjn : j = ks.length := by omega
      have hjl : ¬ (j : Int) < (ks.length : Int) := by omega
      have HJN := Lib.hid hjn
      clear hjn hbox
      go_wp2_with fail
      go_ret
      have hN := HN.out
      rw [HJN.out, List.take_length] at hN
      exact ⟨ret_int (by rw [HOK.out, hN]), HBX.out.bel⟩
end Go.Proofs.Ythiohdbcclbgkaa

/- The law on SplitsOf: the walk over the contracts. -/
namespace Go.Proofs.Ythiohdbcclbgkaa
open Go.RowKit

/-- What the program's SplitsOf is to do. -/
def ImplSplitsOf : Prop := ∀ (w0 : World) (B : Nat) (v : Value) (ks : List Int) (wide : Int), IntsIn w0 B v ks → B ≤ w0.heap.size → ks.length ≤ 1048576 → -9223372036854775808 ≤ wide → wide ≤ 9223372036854775807 →
  Calls Try.prog 24 #[.int .i64 wide, v] w0 fun e w' => e = .returned (.int .i64 (Tr.splitsOfB wide ks)) ∧ Below w0.heap.size w0 w'

set_option maxHeartbeats 1000000 in
set_option maxRecDepth 100000 in
theorem exSplitsOf_c {v : Value} {ks : List Int} (w : World) (hk : IntsIn w w.heap.size v ks) (wide : Int) (hwide1 : -9223372036854775808 ≤ wide) (hwide2 : wide ≤ 9223372036854775807) (hI : ImplSplitsOf) :
    Calls Try.prog 4 #[.int .i64 wide, v] w fun e w' => e = .returned (.bool true) ∧ Below w.heap.size w w' := by
  have HK := Lib.hid hk
  obtain ⟨av, cv, rfl, -, hcap, -, -⟩ := hk
  unfold maxLen at hcap
  by_cases hlen : ks.length ≤ 1048576
  case neg =>
    have hc1' : ((ks.length : Int) > 1048576) := by omega
    go_enter Try.func4, Try.ntmps4
    go_wp2_with fail
    go_ret
    exact ⟨rfl, Below.refl _ _⟩
  have hc1' : ¬ ((ks.length : Int) > 1048576) := by omega
  go_enter Try.func4, Try.ntmps4
  go_wp2_with fail
  refine (toIntS_c ks _ w w.heap.size (Nat.le_refl _) HK.out hlen).mono ?_
  rintro e w2 ⟨g2, rfl, hg2, hr2, hb2⟩
  have hs2 := hb2.size
  have hin2 := rowIn hr2 hlen hr2.lt
  have HS := specSplitsOf_c w2 w2.heap.size (Nat.le_refl _) hin2 wide
  obtain ⟨z, hz⟩ : ∃ z, z = Tr.splitsOfB wide ks := ⟨_, rfl⟩
  rw [← hz] at HS
  have HZ := Lib.hid hz
  have HS' := Lib.hid HS
  have H2 := Lib.hid hb2
  clear hr2 hb2 hin2 hz HS
  go_wp2_with fail
  refine HS'.out.mono ?_
  rintro e w4 ⟨rfl, hb4⟩
  have hs4 := hb4.size
  have hb4' := H2.out.trans (hb4.mono (by omega))
  have HK4 := Lib.hid (HK.out.later hb4' (Nat.le_refl _))
  have H4 := Lib.hid hb4'
  clear hb4 hb4'
  go_wp2_with fail
  refine (toIntS_c ks _ w4 w.heap.size (by omega) HK4.out hlen).mono ?_
  rintro e w6 ⟨g6, rfl, hg6, hr6, hb6⟩
  have hs6 := hb6.size
  have hg6' := hr6.lt
  have HIM := hI w6 w6.heap.size _ _ wide (rowIn hr6 hlen hr6.lt) (Nat.le_refl _) hlen hwide1 hwide2
  rw [← HZ.out] at HIM
  have HI6 := Lib.hid HIM
  have H6 := Lib.hid (And.intro (H4.out.trans (hb6.mono (by omega))) hr6)
  clear hr6 hb6 HIM
  go_wp2_with fail
  refine HI6.out.mono ?_
  rintro e w8 ⟨rfl, hb8⟩
  have hs8 := hb8.size
  have H8 := Lib.hid (And.intro (H6.out.1.trans (hb8.mono (by omega))) (H6.out.2.of_block (hb8.block _ hg6')))
  clear hb8
  go_wp2_with fail
  refine (toIntS_c ks _ w8 w.heap.size (by omega) (HK.out.later H8.out.1 (Nat.le_refl _)) hlen).mono ?_
  rintro e w11 ⟨g11, rfl, hg11, hr11, hb11⟩
  have hs11 := hb11.size
  have H11 := Lib.hid (And.intro (H8.out.1.trans (hb11.mono (by omega))) (And.intro (rowIn (H8.out.2.of_block (hb11.block _ (by omega))) hlen (show g6 < w11.heap.size by omega)) (rowIn hr11 hlen hr11.lt)))
  clear hr11 hb11
  go_wp2_with fail
  refine (eqIntS_c ks _ _ w11 w11.heap.size (Nat.le_refl _) H11.out.2.1 H11.out.2.2).mono ?_
  rintro e w12 ⟨rfl, hb12⟩
  have H12 := Lib.hid (H11.out.1.trans (hb12.mono (by omega)))
  clear hb12
  go_wp2_with fail
  go_ret
  exact ⟨rfl, H12.out⟩
end Go.Proofs.Ythiohdbcclbgkaa

/- The statement on SplitsOf, from the walk of its law. -/
namespace Go.Proofs.Ythiohdbcclbgkaa.rowSplitsOf
open Go.ChangeShapes Go.WideShapes Go.ChangeAt Go.RowKit
set_option linter.unusedVariables false

theorem own : ownKnob Try.prog.godebug = none := by kernel_rfl
theorem laidOut : laidOutB Try.prog = true := by kernel_rfl

set_option maxRecDepth 100000 in
set_option maxHeartbeats 1000000 in
theorem lifted (hI : ImplSplitsOf) (os : Os) (started : os.Started) (H : Type) (enc : TypeId × Value → H) :
    ReturnsInHanded {} Try.checked os 4 .any (Rows.fnExactSplitsOfSpec.pre6 enc Try.prog Try.f4 Rows.fnExactSplitsOfRow.domain false) (Rows.fnExactSplitsOfSpec.post enc Try.prog Try.f4 false true false false) := by
  refine returnsInHanded_of_change (C := Try.checked) own started (by kernel_rfl) Try.func4
    (ChangeSpec.witness6 (enc := enc) (C := Try.checked) false ⟨#[], #[.int .i64 0, .slice none 0 0], []⟩ 8 (by kernel_rfl) (by kernel_rfl) (by kernel_rfl) (by kernel_rfl)) ?_
  intro W base args ds gs before hval0 hW hcnd _
  have hval : ∀ (j : Nat) t v, Try.f4.params[j]? = some t → args[j]? = some v → Value.okWide Try.prog W .any base t v := hval0
  have hW' := hW
  obtain ⟨p, q, hA0, hV, rfl, hfz, hnd⟩ := hW
  have hA : DataW.TrodAll enc Try.prog W 0 (fun _ => true) true Try.f4.params.toList args.toList ds p := hA0
  rw [Try.params4] at hA hval
  obtain ⟨v0, vs0, d0, ds0, p0, q0, hargs, rfl, rfl, h0, r0⟩ := trodAll_cons hA
  obtain ⟨v1, vs1, d1, ds1, p1, q1, rfl, rfl, rfl, h1, r1⟩ := trodAll_cons r0
  obtain ⟨rfl, rfl, rfl⟩ := trodAll_nil r1
  obtain rfl : args = #[v0, v1] := by cases args; simp_all
  obtain ⟨rfl, rfl⟩ := trodVars_none hV
  obtain ⟨n0, rfl, rfl, rfl, wn0⟩ := open_int Try.underlying3 (hval 0 3 v0 rfl rfl) h0
  have hfit0 : -9223372036854775808 ≤ n0 ∧ n0 ≤ 9223372036854775807 := by simpa [Lit.wf, IntKind.min, IntKind.max, IntKind.signed, IntKind.bits] using wn0
  obtain ⟨a1, len1, cap1, rfl⟩ := okWide_slice Try.underlying22 (hval 1 22 v1 rfl rfl)
  have k1 := h1
  have lt1 : ∀ x ∈ p1, x.block < W.heap.size := by obtain ⟨m, hm⟩ := k1; exact DataW.trod_lt m _ _ _ hm
  obtain ⟨ks, hks⟩ : ∃ ks, IntsIn W W.heap.size (.slice a1 len1 cap1) ks := by
    obtain ⟨fuel, hf⟩ := h1
    obtain ⟨v, ks, hv, hin, _⟩ := ints_of_trod hf
    have : v = .slice a1 len1 cap1 := by simpa [Value.cells] using hv.symm
    subst this
    exact ⟨ks, hin⟩
  clear hA0 hval0
  refine (exSplitsOf_c W hks n0 hfit0.1 hfit0.2 hI).mono fun e W' ⟨he, bel⟩ => ?_
  subst he
  exact ⟨_, rfl, _, _, _, [], _, [], hW', trodAll_mk1 (shut_bool Try.underlying4 _), (trodAll_cons_mk (shut_int Try.underlying3 wn0) (trodAll_cons_mk (Below.trod laidOut (by kernel_rfl) (of_decide_eq_true (by kernel_rfl)) k1 bel lt1) trodAll_mk0)), rfl, bel.frame _, fun h => by cases h⟩

theorem closed : joinedFacts Try.prog 4 Try.f4 Rows.fnExactSplitsOfSpec Rows.fnExactSplitsOfRow = true := by
  unfold joinedFacts
  exact band (band (band (band (band (band (band (by kernel_rfl) fact_enter) fact_lifts) fact_make) (by kernel_rfl)) (by kernel_rfl)) (by kernel_rfl)) (by kernel_rfl)

theorem over (hI : ImplSplitsOf) : Rows.fnExactSplitsOfRow.holds Try.pinned (OpenSpec.ofChange Rows.fnExactSplitsOfSpec) :=
  OpenClaim.holds_of_wide 4 Try.f4 rfl rfl rfl rfl rfl rfl rfl ⟨rfl, rfl, rfl, rfl, rfl⟩ rfl rfl rfl rfl rfl (by kernel_rfl) Try.func4 closed
    (of_decide_eq_true (by kernel_rfl)) (by unfold Func.isWrapper; first | (rw [if_pos (by decide +kernel)]; kernel_rfl) | (rw [if_neg (by decide +kernel)]; exact ⟨rfl, rfl⟩))
    (fun os started H enc _ => lifted hI os started H enc)
end Go.Proofs.Ythiohdbcclbgkaa.rowSplitsOf

/- The program's grownFrom: a list of keys inserted one behind the other. -/
namespace Go.Proofs.Ythiohdbcclbgkaa
open Go.RowKit

theorem nd_nil {w : World} {b : Nat} (h : w.heap[b]? = some (.cells #[.slice none 0 0, .slice none 0 0] 106 (0, 0))) : Nd w (boxOf b) b (.mk [] []) := by
  have hlt := (Array.getElem?_eq_some_iff.1 h).1
  exact .mk [] [] (boxOf b) (fun _ _ => False) (fun _ _ => False) b _ _ h (RowF.nil w) (RowF.nil w) (fun x hx => by cases hx) (fun o => rfl) (fun x o hh => hh.elim) (fun x o hh => hh.elim) (fun y hy => by cases hy)
    (by simp [Apart]) (fun x o hh => by have : x = b := hh; omega)

theorem seedling_c (wide : Int) (w : World) : Calls Try.prog 117 #[.int .i64 wide] w fun e w' => ∃ gb b F, e = .returned (.pointer (some ⟨gb, 0, none⟩)) ∧ Grow w' gb wide 0 false F b (.mk [] []) ∧ (∀ x o, F x o → w.heap.size ≤ x) ∧ w.heap.size ≤ gb ∧ Below w.heap.size w w' := by
  obtain ⟨W1, hW1⟩ : ∃ W1, W1 = w.alloc (.cells #[.slice none 0 0, .slice none 0 0] 106) := ⟨_, rfl⟩
  have hs1 : W1.heap.size = w.heap.size + 1 := by rw [hW1]; simp
  have hb1 : Below w.heap.size w W1 := by rw [hW1]; exact (Below.refl _ _).alloc (Nat.le_refl _) _
  have k1 : W1.heap[w.heap.size]? = some (.cells #[.slice none 0 0, .slice none 0 0] 106 (0, 0)) := by rw [hW1, new_blk]
  obtain ⟨W2, hW2⟩ : ∃ W2, W2 = W1.alloc (.cells #[.pointer (some ⟨w.heap.size, 0, none⟩), .int .i64 wide, .int .i64 0, .bool false] 69) := ⟨_, rfl⟩
  have hb2 : Below W1.heap.size W1 W2 := by rw [hW2]; exact (Below.refl _ _).alloc (Nat.le_refl _) _
  have hg2 : GBox W2 W1.heap.size (.pointer (some ⟨w.heap.size, 0, none⟩)) wide 0 (.bool false) := by unfold GBox; rw [hW2, new_blk]; rfl
  have hn2 : Nd W2 (boxOf w.heap.size) w.heap.size (.mk [] []) := nd_nil ((hb2.block _ (by omega)).trans k1)
  have H2 := Lib.hid (And.intro (show Grow W2 W1.heap.size wide 0 false (boxOf w.heap.size) w.heap.size (.mk [] []) from ⟨hg2, hn2, fun o h => by have : W1.heap.size = w.heap.size := h; omega⟩) (hb1.trans (hb2.mono (by omega))))
  have HW := Lib.hid (And.intro hW1 hW2)
  clear hW1 hb1 k1 hW2 hb2 hg2 hn2
  go_enter Try.func117, Try.ntmps117
  go_wp2_with fail
  rw [← HW.out.1, ← hs1, ← HW.out.2]
  refine bodyPost_ret (v := .pointer (some ⟨W1.heap.size, 0, none⟩)) (by simp [results, Try.results117, go_sem]) rfl ⟨_, _, _, rfl, H2.out.1, fun x o h => by have : x = w.heap.size := h; omega, by omega, H2.out.2⟩

/-- What grownFrom leaves. -/
def GrownAllOf (w : World) (wide : Int) (ks : List Int) (e : Ending) (w' : World) : Prop :=
  (Tr.allOk wide ks = false ∧ e = .returned (.tuple #[.pointer none, .bool false]) ∧ Below w.heap.size w w') ∨
  (Tr.allOk wide ks = true ∧ ∃ (gb b : Nat) (F : Cells) (gr : Bool), e = .returned (.tuple #[.pointer (some ⟨gb, 0, none⟩), .bool true]) ∧ Grow w' gb wide (Tr.allIn wide ks).2 gr F b (Tr.allIn wide ks).1 ∧
    (∀ x o, F x o → w.heap.size ≤ x) ∧ Below w.heap.size w w')

set_option maxRecDepth 100000 in
set_option maxHeartbeats 4000000 in
theorem grownFrom_c {v : Value} {ks : List Int} (w : World) (B : Nat) (hB : B ≤ w.heap.size) (hk : IntsIn w B v ks) (wide : Int) :
    Calls Try.prog 69 #[.int .i64 wide, v] w (GrownAllOf w wide ks) := by
  have HK := Lib.hid hk
  obtain ⟨a, cap, rfl, -, hcap, -, h3⟩ := hk
  unfold maxLen at hcap
  have H3 := Lib.hid h3
  clear h3
  go_enter Try.func69, Try.ntmps69
  go_wp2_with fail
  refine (isWide_c wide _).mono ?_
  rintro e w2 ⟨rfl, rfl⟩
  cases hw : inB wide 2 6 with
  | false =>
    have HNO := Lib.hid (show Tr.allOk wide ks = false by simp [Tr.allOk, hw])
    clear hw
    go_wp2_with fail
    exact bodyPost_ret (v := .tuple #[.pointer none, .bool false]) (by simp [results, Try.results69, go_sem]) rfl (.inl ⟨HNO.out, rfl, Below.refl _ _⟩)
  | true =>
  go_wp2_with fail
  refine (areKeys_c _ B HK.out).mono ?_
  rintro e w2 ⟨rfl, rfl⟩
  cases hko : keysOk ks with
  | false =>
    have HNO := Lib.hid (show Tr.allOk wide ks = false by simp [Tr.allOk, hko])
    clear hw hko
    go_wp2_with fail
    exact bodyPost_ret (v := .tuple #[.pointer none, .bool false]) (by simp [results, Try.results69, go_sem]) rfl (.inl ⟨HNO.out, rfl, Below.refl _ _⟩)
  | true =>
  have hwd : 2 ≤ wide ∧ wide ≤ 6 := by simpa [inB] using hw
  obtain ⟨hin, h200⟩ := keysOk_at hko
  have HOK := Lib.hid (show Tr.allOk wide ks = true by simp [Tr.allOk, hw, hko])
  have HV := Lib.hid (fun j hj => Tr.allIn_valid hwd.1 hwd.2 hin j hj)
  have HWD := Lib.hid hwd
  clear hw hko hin hwd
  go_wp2_with fail
  refine (seedling_c wide _).mono ?_
  rintro e w3 ⟨gb, b0, F0, rfl, hg3, hF3, hgb, hb3⟩
  have H3G := Lib.hid (And.intro hg3 (And.intro hF3 hb3))
  clear hg3 hF3 hb3
  go_wp2_with fail
  go_loopw [8, 21] (fun s8 i wr => ∃ (j : Nat) (b : Nat) (F : Cells) (gr : Bool), j ≤ ks.length ∧ i = .int .i64 j ∧ Grow wr gb wide (Tr.allIn wide (ks.take j)).2 gr F b (Tr.allIn wide (ks.take j)).1 ∧ Hid (∀ x o, F x o → w2.heap.size ≤ x) ∧ Below w2.heap.size w2 wr) (fun _ i _ => ks.length - (intOf i).toNat)
  case atStart => exact ⟨0, b0, F0, false, Nat.zero_le _, rfl, H3G.out.1, Lib.hid H3G.out.2.1, H3G.out.2.2⟩
  case round =>
    obtain ⟨j, b, F, gr, hj, rfl, hgrow, HFl, hbel⟩ := hrel
    have HG := Lib.hid (And.intro hgrow hbel)
    by_cases hlt : j < ks.length
    · rcases H3.out with h | ⟨bb, off, rfl, hb, hat⟩
      · simp [h] at hlt
      have ha' : wr.cell? ⟨bb, off + j, none⟩ = some (.int .i64 (ks.getD j 0)) := by rw [below_cell hbel (by omega)]; exact hat j hlt
      have hv := HV.out j hj
      have hsmall := Tr.valid_small hv.1
      have HC := Lib.hid (insert_c wide (ks.getD j 0) HWD.out wr gb _ gr F b _ hgrow (Tr.valid_well hv.1) (by omega) (by omega))
      obtain ⟨x, hx⟩ : ∃ x, x = ks.getD j 0 := ⟨_, rfl⟩
      have hjl : (j : Int) < (ks.length : Int) := by omega
      rw [← hx] at ha' HC
      have HX := Lib.hid hx
      clear hgrow hbel hat hx hv
      go_wp2_with fail
      refine HC.out.mono ?_
      rintro e w5 ⟨F5, b5, rfl, hg5, hF5, hk5⟩
      have hpk : (if ((Tr.allIn wide (ks.take j)).1.path x).2 then (Tr.allIn wide (ks.take j)).2 else (Tr.allIn wide (ks.take j)).2 + Tr.insN wide x (Tr.allIn wide (ks.take j)).1) = (Tr.allIn wide (ks.take (j + 1))).2 ∧
          (if ((Tr.allIn wide (ks.take j)).1.path x).2 then (Tr.allIn wide (ks.take j)).1 else Tr.insT wide x (Tr.allIn wide (ks.take j)).1) = (Tr.allIn wide (ks.take (j + 1))).1 := by
        rw [Tr.allIn_snoc wide hlt, ← HX.out]
        unfold Tr.putKey
        split <;> exact ⟨rfl, rfl⟩
      rw [hpk.1, hpk.2] at hg5
      have H5 := Lib.hid (And.intro hg5 (And.intro hF5 hk5))
      clear hg5 hF5 hk5 hpk
      go_wp2_with fail
      go_roundw
      case rel =>
        have hs := HG.out.2.size
        refine ⟨j + 1, b5, F5, _, by omega, by go_num, H5.out.1, Lib.hid (fun x o h => ?_), ?_⟩
        · rcases H5.out.2.1 x o h with h | h
          · exact HFl.out x o h
          · omega
        · exact HG.out.2.trans (H5.out.2.2.below hs (fun x o h => by
            rcases h with h | h
            · exact HFl.out x o h
            · omega))
      case measure => simp [intOf]; omega
    · have hjn : j = ks.length := by omega
      have hjl : ¬ (j : Int) < (ks.length : Int) := by omega
      have HJN := Lib.hid hjn
      clear hjn hgrow hbel
      go_wp2_with fail
      have hg := HG.out.1
      rw [HJN.out, List.take_length] at hg
      exact bodyPost_ret (v := .tuple #[.pointer (some ⟨gb, 0, none⟩), .bool true]) (by simp [results, Try.results69, go_sem]) rfl (.inr ⟨HOK.out, gb, b, F, gr, rfl, hg, HFl.out, HG.out.2⟩)
end Go.Proofs.Ythiohdbcclbgkaa

/- The program's SplitsOf. -/
namespace Go.Proofs.Ythiohdbcclbgkaa
open Go.RowKit

set_option maxRecDepth 100000 in
set_option maxHeartbeats 2000000 in
theorem impl_splitsOf {v : Value} {ks : List Int} (w : World) (B : Nat) (hB : B ≤ w.heap.size) (hk : IntsIn w B v ks) (wide : Int) :
    Calls Try.prog 24 #[.int .i64 wide, v] w fun e w' => e = .returned (.int .i64 (Tr.splitsOfB wide ks)) ∧ Below w.heap.size w w' := by
  have HG := Lib.hid (grownFrom_c w B hB hk wide)
  clear hk
  go_enter Try.func24, Try.ntmps24
  go_wp2_with fail
  refine HG.out.mono ?_
  intro e w2 hgo
  rcases hgo with ⟨ha, rfl, hb2⟩ | ⟨ha, gb, b, F, gr, rfl, hgr, hF, hb2⟩
  · have H2 := Lib.hid (And.intro (show Tr.splitsOfB wide ks = -1 by simp [Tr.splitsOfB, ha]) hb2)
    clear ha hb2
    go_wp2_with fail
    go_ret
    exact ⟨ret_int H2.out.1.symm, H2.out.2⟩
  · have H2 := Lib.hid (And.intro (show Tr.splitsOfB wide ks = ((Tr.allIn wide ks).2 : Int) by simp [Tr.splitsOfB, ha]) hb2)
    obtain ⟨y1, y2, y3, y4, y5, y6, y7⟩ := hgr.box.cells
    clear ha hb2 hgr hF
    generalize (Tr.allIn wide ks).2 = n at y3 H2
    go_wp2_with fail
    go_ret
    exact ⟨ret_int H2.out.1.symm, H2.out.2⟩
end Go.Proofs.Ythiohdbcclbgkaa

/- For every int and every slice of ints, the law on SplitsOf returns true and leaves its arguments as they were; no conditions. -/
namespace Go.Proofs.Ythiohdbcclbgkaa

theorem splitsOf_said : Rows.FnExactSplitsOfSaid := rowSplitsOf.over (fun w0 B _ _ wide hk hB _ _ _ => impl_splitsOf w0 B hB hk wide)
end Go.Proofs.Ythiohdbcclbgkaa
