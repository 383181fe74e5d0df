/- The contracts of the functions that compare: eqIntS, eqTreeS, eqTree: at two readings of one datum they answer true. -/
import Derived.Test.YtdcifdpkfcgmhaaDoorProg
import Derived.Test.YtdcifdpkfcgmhaaDoorCr0
import Derived.Test.YtdcifdpkfcgmhaaDoorCr4
import Derived.Lib.Hide
import Derived.Test.YtdcifdpkfcgmhaaDoorCr8
import Derived.Test.YtdcifdpkfcgmhaaDoorCrS8
import Derived.Test.YtdcifdpkfcgmhaaDoorCrS2
import Derived.Test.YtdcifdpkfcgmhaaDoorCr5
import Derived.Test.YtdcifdpkfcgmhaaDoorCr11
import Derived.Test.YtdcifdpkfcgmhaaDoorCrS11
import Derived.RangeFuncNested
import Derived.Shelf.RegionOpen
import Derived.WalkKit
import Derived.OwnWalkIn
import Derived.TacticsInMore
import Derived.LoopNIn
import Derived.LoopIn
import Derived.Deep.QuietTactic
import Derived.BigQuiet
import Derived.StillTailTactics
import Derived.WalkSmall

/- The contracts of isKey and isWide. -/
namespace Go.Proofs.YtdcifdpkfcgmhaaDoor
open Go.RowKit

theorem isKey_c (n : Int) (w : World) : Calls Tryd.prog 135 #[.int .i64 n] w fun e w' => e = .returned (.bool (inB n 0 99)) ∧ w' = w := by
  by_cases h1 : 0 ≤ n
  · by_cases h2 : n ≤ 99
    · have hin : inB n 0 99 = true := inB_true h1 h2
      have HI := Lib.hid hin
      clear hin
      go_enter Tryd.func135, Tryd.ntmps135
      go_wp2
      go_ret
      exact ⟨ret_bool HI.out.symm, rfl⟩
    · have hin : inB n 0 99 = false := inB_false (by omega)
      have HI := Lib.hid hin
      clear hin
      go_enter Tryd.func135, Tryd.ntmps135
      go_wp2
      go_ret
      exact ⟨ret_bool HI.out.symm, rfl⟩
  · have hin : inB n 0 99 = false := inB_false (by omega)
    have HI := Lib.hid hin
    clear hin
    go_enter Tryd.func135, Tryd.ntmps135
    go_wp2
    go_ret
    exact ⟨ret_bool HI.out.symm, rfl⟩

theorem isWide_c (n : Int) (w : World) : Calls Tryd.prog 127 #[.int .i64 n] w fun e w' => e = .returned (.bool (inB n 2 6)) ∧ w' = w := by
  by_cases h1 : 2 ≤ n
  · by_cases h2 : n ≤ 6
    · have hin : inB n 2 6 = true := inB_true h1 h2
      have HI := Lib.hid hin
      clear hin
      go_enter Tryd.func127, Tryd.ntmps127
      go_wp2
      go_ret
      exact ⟨ret_bool HI.out.symm, rfl⟩
    · have hin : inB n 2 6 = false := inB_false (by omega)
      have HI := Lib.hid hin
      clear hin
      go_enter Tryd.func127, Tryd.ntmps127
      go_wp2
      go_ret
      exact ⟨ret_bool HI.out.symm, rfl⟩
  · have hin : inB n 2 6 = false := inB_false (by omega)
    have HI := Lib.hid hin
    clear hin
    go_enter Tryd.func127, Tryd.ntmps127
    go_wp2
    go_ret
    exact ⟨ret_bool HI.out.symm, rfl⟩
end Go.Proofs.YtdcifdpkfcgmhaaDoor

/- The iterator inOrder, and the contracts of ascends, isWide, isKey. -/
namespace Go.Proofs.YtdcifdpkfcgmhaaDoor
open Go.RowKit
attribute [local go_sem] Oper.semAt_some

set_option maxRecDepth 100000 in
set_option maxHeartbeats 1000000 in
theorem inOrder_iter {w₀ : World} {lo hi b : Nat} {t : Tr} (ht : NodeIn w₀ lo hi b t) (hwt : t.weight ≤ 1048576) (hhi : hi ≤ w₀.heap.size) :
    Iter Tryd.prog 99 #[.pointer (some ⟨b, 0, none⟩)] #[] intEnc (fun k => lo ≤ k ∧ k < hi) t.keys w₀ := by
  intro l J Jx Pv W hkeep hRd hbnd hJ hJx hY h0
  have hc := yieldKeys_c ht hwt hhi l J Jx t.keys [] Pv Pv W W hkeep (fun k h1 h2 => hRd k ⟨h1, h2⟩) hbnd hJ hJx hY (Keep.refl _ _) (fun _ h => h) h0 (List.prefix_refl _)
  have HC := Lib.hid hc
  clear hc ht hY h0 hJ hJx hkeep hRd hbnd
  show Calls Tryd.prog 99 #[.pointer (some ⟨b, 0, none⟩), .func (.yield l) #[] #[]] W _
  go_enter Tryd.func99, Tryd.ntmps99
  go_wp2_with fail
  refine HC.out.mono ?_
  rintro e W' ⟨hk, (⟨rfl, hj⟩ | ⟨rfl, q, hq, hx⟩)⟩
  · go_wp2_with fail
    go_end0
    exact ⟨⟨_, rfl⟩, hk, .inl hj⟩
  · go_wp2_with fail
    go_end0
    exact ⟨⟨_, rfl⟩, hk, .inr ⟨q, hq, hx⟩⟩

/-- The last of some keys, or -1. -/
def lastOf (pre : List Int) : Int := pre.getLast?.getD (-1)
theorem lastOf_snoc (pre : List Int) (x : Int) : lastOf (pre ++ [x]) = x := by simp [lastOf]

theorem okAt_iff {ks pre : List Int} {x : Int} (h : pre ++ [x] <+: ks) : okAt ks pre.length = (decide (lastOf pre < x) && inB x 0 99) := by
  obtain ⟨r, rfl⟩ := h
  have e1 : (pre ++ [x] ++ r).getD pre.length 0 = x := by simp [List.getD_eq_getElem?_getD]
  unfold okAt
  rw [e1]
  rcases List.eq_nil_or_concat pre with rfl | ⟨p, y, rfl⟩
  · simp only [lastOf, inB, List.length_nil]
    by_cases h : (0 : Int) ≤ x
    · have : (-1 : Int) < x := by omega
      simp [h, this]
    · simp [h]
  · have e2 : (p ++ [y] ++ [x] ++ r).getD ((p ++ [y]).length - 1) 0 = y := by simp [List.getD_eq_getElem?_getD]
    simp only [List.concat_eq_append] at *
    rw [e2, lastOf_snoc]
    have e3 : ¬ (p ++ [y]).length = 0 := by simp
    simp only [e3, decide_false, Bool.false_or]
    exact Bool.and_comm _ _

set_option maxRecDepth 100000 in
set_option maxHeartbeats 2000000 in
theorem ascends_c {w : World} {lo hi b : Nat} {t : Tr} (ht : NodeIn w lo hi b t) (hwt : t.weight ≤ 1048576) (hhi : hi ≤ w.heap.size) :
    Calls Tryd.prog 129 #[.pointer (some ⟨b, 0, none⟩)] w fun e w' => e = .returned (.bool (sortedB t.keys)) ∧ Below w.heap.size w w' := by
  have hit := inOrder_iter ht hwt hhi
  have HIT := Lib.hid hit
  have hlt0 := ht.range
  clear hit ht
  refine (callsIn_wide (n := 9)).1 (callsIn_of_wp_marks Tryd.func129 rfl trivial ?_ rfl)
  simp only [Tryd.ntmps129, List.size_toArray, List.length_cons, List.length_nil, Nat.reduceAdd, Nat.reduceSub, Array.replicate_succ, Array.replicate_zero, List.push_toArray, List.append_toArray, List.nil_append, List.cons_append]
  gi_wp2
  obtain ⟨W2, hW2⟩ : ∃ W2, W2 = (w.alloc (.cells #[.bool false] 4)).alloc (.cells #[.int .i64 (-1)] 3) := ⟨_, rfl⟩
  rw [← hW2]
  have hs2 : W2.heap.size = w.heap.size + 2 := by rw [hW2]; simp
  have hk2 : ∀ K, Keep K w W2 := fun K => by rw [hW2]; exact (Keep.alloc K _ _).trans (Keep.alloc K _ _)
  have b3 : W2.heap[w.heap.size]? = some (.cells #[.bool false] 4 (0, 0)) := by rw [hW2, old_blk _ _ _ (by simp), new_blk]
  have b4 : W2.heap[w.heap.size + 1]? = some (.cells #[.int .i64 (-1)] 3 (0, 0)) := by
    rw [hW2]
    have h := new_blk (w.alloc (.cells #[.bool false] 4)) (.cells #[.int .i64 (-1)] 3)
    rw [World.size_alloc] at h; exact h
  have B34 := Lib.hid (And.intro b3 b4)
  clear hW2 b3 b4
  refine wp_loop (fb := #[.pointer (some ⟨b, 0, none⟩)]) (lb := #[]) rfl (enters_of Tryd.func99 (by kernel_rfl) rfl) HIT.out (hk2 _) (fun x => rfl)
    (fun k => k < w.heap.size) (fun k h => by omega) (fun k h => by omega)
    (fun pre Pv W => ¬ Pv w.heap.size ∧ ¬ Pv (w.heap.size + 1) ∧ W.heap[w.heap.size]? = some (.cells #[.bool false] 4 (0, 0)) ∧ W.heap[w.heap.size + 1]? = some (.cells #[.int .i64 (lastOf pre)] 3 (0, 0)) ∧ ∀ i, i < pre.length → okAt t.keys i = true)
    (fun c pre Pv W => c = .ret ∧ ¬ Pv w.heap.size ∧ W.heap[w.heap.size]? = some (.cells #[.bool false] 4 (0, 0)) ∧ sortedB t.keys = false)
    (fun pre Pv A Pv' B h hk hp => by
      obtain ⟨h1, h2, h3, h4, h5⟩ := h
      have l3 := (Array.getElem?_eq_some_iff.1 h3).1
      have l4 := (Array.getElem?_eq_some_iff.1 h4).1
      refine ⟨fun h => ?_, fun h => ?_, (hk.block _ l3 h1).trans h3, (hk.block _ l4 h2).trans h4, h5⟩
      · rcases hp _ h with h | h
        · exact h1 h
        · omega
      · rcases hp _ h with h | h
        · exact h2 h
        · omega)
    (fun c pre Pv A Pv' B h hk hp => by
      obtain ⟨h0, h1, h3, h5⟩ := h
      have l3 := (Array.getElem?_eq_some_iff.1 h3).1
      refine ⟨h0, fun h => ?_, (hk.block _ l3 h1).trans h3, h5⟩
      rcases hp _ h with h | h
      · exact h1 h
      · omega)
    ⟨by omega, by omega, B34.out.1, B34.out.2, fun i h => by simp at h⟩
    (fun x => { tmps := #[.pointer (some ⟨b, 0, none⟩), undef, .pointer (some ⟨w.heap.size, 0, none⟩), .pointer (some ⟨w.heap.size + 1, 0, none⟩), .int .i64 x, .pointer (some ⟨b, 0, none⟩), .func (.func 99) #[.pointer (some ⟨b, 0, none⟩)] #[], .int .i64 x, undef, undef, undef, undef, undef, undef, undef, undef, undef], defers := [] })
    ?assign ?body ?done ?stop
  case assign =>
    intro l' m x W' K hK
    dsimp only [intEnc]
    gi_wp2
    exact hK
  case body =>
    intro l' m pre x Pv W' hI hkW hsub hbnd hp
    obtain ⟨h1, h2, h3, h4, h5⟩ := hI
    obtain ⟨c3, f3⟩ := box1 h3
    obtain ⟨c4, f4⟩ := box1 h4
    have hok := okAt_iff hp
    have hpl : pre.length < t.keys.length := by have := hp.length_le; simp at this; omega
    have H34 := Lib.hid (And.intro h3 h4)
    have H5 := Lib.hid h5
    have HOK := Lib.hid hok
    generalize hlast : lastOf pre = la at c4
    have HLA := Lib.hid hlast
    clear h3 h4 h5 hok hp hlast
    have fin : sortedB t.keys = false → Keep Pv W' (W'.setCell ⟨w.heap.size, 0, none⟩ (.bool false)) ∧ (Code.ret = Code.ret ∧ ¬ Pv w.heap.size ∧ (W'.setCell ⟨w.heap.size, 0, none⟩ (.bool false)).heap[w.heap.size]? = some (.cells #[.bool false] 4 (0, 0)) ∧ sortedB t.keys = false) :=
      fun h => ⟨Keep.setCell _ _ _ _ h1, rfl, h1, set_blk (.bool false) H34.out.1, h⟩
    have FIN := Lib.hid fin
    clear fin
    by_cases g1 : x ≤ la
    · have hno : sortedB t.keys = false := sortedB_not pre.length hpl (by rw [HOK.out, HLA.out]; simp; intro h; omega)
      have HNO := Lib.hid hno
      clear hno
      gi_wp2
      refine ⟨trivial, ?_⟩
      gi_wp2
      exact ⟨(FIN.out HNO.out).1, rfl, (FIN.out HNO.out).2.2⟩
    · have g1' : decide (x ≤ la) = false := by simpa using g1
      cases hin : inB x 0 99 with
      | false =>
        have hno : sortedB t.keys = false := sortedB_not pre.length hpl (by rw [HOK.out, HLA.out, hin]; simp)
        have HNO := Lib.hid hno
        have HIN := Lib.hid hin
        clear hno hin
        gi_wp2
        refine ⟨trivial, fun h => (by cases h), ?_⟩
        refine (CallsIn.inRound l' ((callsIn_wide (n := m - 1)).2 (isKey_c x W'))).mono ?_
        rintro e W4 ⟨rfl, rfl⟩
        rw [HIN.out]
        gi_wp2
        exact ⟨(FIN.out HNO.out).1, rfl, (FIN.out HNO.out).2.2⟩
      | true =>
        have hyes : okAt t.keys pre.length = true := by rw [HOK.out, HLA.out, hin]; simp; omega
        have HYES := Lib.hid hyes
        have HIN := Lib.hid hin
        clear hyes hin
        gi_wp2
        refine ⟨trivial, fun h => (by cases h), ?_⟩
        refine (CallsIn.inRound l' ((callsIn_wide (n := m - 1)).2 (isKey_c x W'))).mono ?_
        rintro e W4 ⟨rfl, rfl⟩
        rw [HIN.out]
        gi_wp2
        refine ⟨Keep.setCell _ _ _ _ h2, h1, h2, ?_, ?_, fun i hi => ?_⟩
        · rw [set_other _ _ _ _ _ (by omega)]; exact H34.out.1
        · rw [lastOf_snoc]; exact set_blk (.int .i64 x) H34.out.2
        · by_cases hh : i = pre.length
          · rw [hh]; exact HYES.out
          · exact H5.out i (by simp at hi; omega)
  case done =>
    intro W3 hk3 hI hlt hD
    obtain ⟨h1, h2, h3, h4, h5⟩ := hI
    obtain ⟨c3, f3⟩ := box1 h3
    have hyes : sortedB t.keys = true := sortedB_of h5
    have HYES := Lib.hid hyes
    rw [hs2] at hD
    have HD := Lib.hid hD
    have H3 := Lib.hid h3
    clear h3 h4 h5 hyes hD
    gi_wp2
    have hD2 : (W3.setCell ⟨w.heap.size, 0, none⟩ (.bool true)).heap[w.heap.size + 2]? = some (.deferred (some [])) := by rw [set_other _ _ _ _ _ (by omega)]; exact HD.out
    have hc2 := (box1 (set_blk (o := 0) (.bool true) H3.out)).1
    refine ⟨by simp, .inl ⟨_, _, rfl, run_takeDeferred hD2, ?_⟩⟩
    obtain ⟨W5, hW5⟩ : ∃ W5, W5 = ((W3.setCell ⟨w.heap.size, 0, none⟩ (.bool true)).putObj (w.heap.size + 2) (.deferred none)) := ⟨_, rfl⟩
    have hc5 : W5.cell? ⟨w.heap.size, 0, none⟩ = some (.bool true) := by rw [hW5]; exact (cell_of_blk (World.putObj_heap_other (by omega))).trans hc2
    have hk5 : Keep (fun k => k < w.heap.size) W3 W5 := by rw [hW5]; exact (Keep.setCell _ _ _ _ (by simp)).trans (Keep.putObj _ _ _ _ (by omega))
    rw [← hW5]
    exact ⟨.bool true, by simp [results, Tryd.results129, go_sem, hc5], by rw [HYES.out], (((hk2 _).trans hk3).trans hk5).below (Nat.le_refl _) (fun k h => h)⟩
  case stop =>
    rintro c pre' W3 hk3 hp ⟨rfl, h1, h3, h5⟩ hlt hD
    rw [hs2] at hD
    have H5 := Lib.hid h5
    have H3 := Lib.hid h3
    clear h5 h3
    gi_wp2
    refine ⟨by simp, .inl ⟨_, _, rfl, run_takeDeferred hD, ?_⟩⟩
    obtain ⟨W5, hW5⟩ : ∃ W5, W5 = W3.putObj (w.heap.size + 2) (.deferred none) := ⟨_, rfl⟩
    have hc5 : W5.cell? ⟨w.heap.size, 0, none⟩ = some (.bool false) := by rw [hW5]; exact (cell_of_blk (World.putObj_heap_other (by omega))).trans (box1 H3.out).1
    have hk5 : Keep (fun k => k < w.heap.size) W3 W5 := by rw [hW5]; exact Keep.putObj _ _ _ _ (by omega)
    rw [← hW5]
    exact ⟨.bool false, by simp [results, Tryd.results129, go_sem, hc5], by rw [H5.out], (((hk2 _).trans hk3).trans hk5).below (Nat.le_refl _) (fun k h => h)⟩
end Go.Proofs.YtdcifdpkfcgmhaaDoor

/- The contracts of the functions that weigh an argument: szIntS, szTreeS, szTree. -/
namespace Go.Proofs.YtdcifdpkfcgmhaaDoor
open Go.RowKit

/-- What szTree and its kin return. -/
def leftOf (n : Int) (m : Nat) : Int := if n < m then -1 else n - m
theorem leftOf_lt {n : Int} {m : Nat} (h : n < m) : leftOf n m = -1 := if_pos h
theorem leftOf_ge {n : Int} {m : Nat} (h : m ≤ n) : leftOf n m = n - m := if_neg (by omega)

theorem szIntS_c (a : Option Addr) (len cap : Nat) (n : Int) (w : World) (h0 : 0 ≤ n) (h1 : n ≤ 1048576) (h2 : len ≤ 9223372036854775807) :
    Calls Tryd.prog 55 #[.slice a len cap, .int .i64 n] w fun e w' => e = .returned (.int .i64 (leftOf n len)) ∧ w = w' := by
  go_enter Tryd.func55, Tryd.ntmps55
  go_wp2
  · go_ret
    exact ⟨ret_int (leftOf_lt (by omega)).symm, rfl⟩
  · go_ret
    exact ⟨ret_int (leftOf_ge (by omega)).symm, rfl⟩

set_option maxHeartbeats 400000 in
theorem szTreeS_c (cs : List Tr) (a : Option Addr) (cap : Nat) (n : Int) (w : World) (B : Nat) (kvs cvs : Nat → Value) (hB : B ≤ w.heap.size)
    (h0 : 0 ≤ n) (h1 : n ≤ 1048576) (hlen : cs.length ≤ cap) (hcap : cap ≤ 9223372036854775807)
    (hat : KidsIn w B a cs.length kvs cvs)
    (hsz : ∀ i (h : i < cs.length) w' (m : Int), Below B w w' → B ≤ w'.heap.size → 0 ≤ m → m ≤ 1048576 →
      Calls Tryd.prog 15 #[.agg #[kvs i, cvs i], .int .i64 m] w' fun e w'' => e = .returned (.int .i64 (leftOf m cs[i].weight)) ∧ Below w'.heap.size w' w'') :
    Calls Tryd.prog 56 #[.slice a cs.length cap, .int .i64 n] w fun e w' => e = .returned (.int .i64 (leftOf n (Tr.weights cs))) ∧ Below w.heap.size w w' := by
  have HAT := Lib.hid hat
  have HSZ := Lib.hid hsz
  clear hat hsz
  have hl0 := Tr.length_le_weights cs
  go_enter Tryd.func56, Tryd.ntmps56
  go_wp2_with fail
  · go_ret
    exact ⟨ret_int (leftOf_lt (by omega)).symm, Below.refl _ _⟩
  · go_loopw [1, 5] (fun l i wr => ∃ (j : Nat) (m : Int), j ≤ cs.length ∧ i = .int .i64 j ∧ l = .int .i64 m ∧ 0 ≤ m ∧ m + Tr.weights (cs.take j) + (cs.length - j : Nat) = n ∧ Below w.heap.size w wr) (fun _ i _ => cs.length - (intOf i).toNat)
    case atStart => exact ⟨0, _, Nat.zero_le _, rfl, rfl, by omega, by simp [Tr.weights], Below.refl _ _⟩
    case round =>
      obtain ⟨j, m, hj, rfl, rfl, hm, hsum, hbel⟩ := hrel
      by_cases hlt : j < cs.length
      · rcases HAT.out with h | ⟨b, off, rfl, hb, hat⟩
        · omega
        obtain ⟨ha, hc⟩ := hat j hlt
        have ha' : wr.cell? ⟨b, off + j * 2, none⟩ = some (kvs j) := by rw [below_cell hbel (by omega)]; exact ha
        have hc' : wr.cell? ⟨b, off + j * 2 + 1, none⟩ = some (cvs j) := by rw [below_cell hbel (by omega)]; exact hc
        have hw1 := Tr.weights_take_ge cs (j + 1)
        have hw2 := Tr.weights_take_succ cs j hlt
        have hsz := hbel.size
        have hcall := HSZ.out j hlt wr m (hbel.mono hB) (by omega) hm (by omega)
        have HC := Lib.hid hcall
        have HS := Lib.hid hsum
        have HW := Lib.hid hw2
        clear ha hc hat hcall hw2 hsum
        go_wp2_with fail
        refine HC.out.mono ?_
        rintro e w1 ⟨rfl, hb1⟩
        by_cases hneg : m < cs[j].weight
        · rw [leftOf_lt hneg]
          go_wp2_with fail
          go_ret
          have := HW.out
          have := HS.out
          exact ⟨ret_int (leftOf_lt (by omega)).symm, hbel.trans (hb1.mono hsz)⟩
        · have hge : (cs[j].weight : Int) ≤ m := by omega
          rw [leftOf_ge hge]
          go_wp2_with fail
          go_roundw
          case rel =>
            have := HW.out
            have := HS.out
            exact ⟨j + 1, _, by omega, by go_num, rfl, by omega, by omega, hbel.trans (hb1.mono hsz)⟩
          case measure => simp [intOf]; omega
      · obtain rfl : j = cs.length := by omega
        have HS := Lib.hid hsum
        clear hsum
        go_wp2_with fail
        go_ret
        have := HS.out
        rw [List.take_length] at this
        exact ⟨ret_int (by rw [leftOf_ge (by omega)]; omega), hbel⟩

set_option maxHeartbeats 400000 in
theorem szTree_c {w : World} {B : Nat} {kv cv : Value} {t : Tr} (ht : TreeIn w B kv cv t) :
    ∀ w' (n : Int), Below B w w' → B ≤ w'.heap.size → 0 ≤ n → n ≤ 1048576 →
    Calls Tryd.prog 15 #[.agg #[kv, cv], .int .i64 n] w' fun e w'' => e = .returned (.int .i64 (leftOf n t.weight)) ∧ Below w'.heap.size w' w'' := by
  induction ht with
  | mk ks cs kv a cap kvs cvs hk hlen hcap hat hkids ih =>
    intro w' n hbw hB h0 h1
    obtain ⟨ka, kcap, rfl, k1, k2, _, k3⟩ := hk
    unfold maxLen at hcap k2
    have hlk : ks.length ≤ 9223372036854775807 := by omega
    clear k3 hkids
    have HAT := Lib.hid hat
    have IH := Lib.hid ih
    clear hat ih
    go_enter Tryd.func15, Tryd.ntmps15
    go_wp2_with fail
    refine (szIntS_c ka ks.length kcap n _ h0 h1 hlk).mono ?_
    rintro e w1 ⟨rfl, rfl⟩
    by_cases hneg : n < ks.length
    · rw [leftOf_lt hneg]
      go_wp2_with fail
      go_ret
      exact ⟨ret_int (leftOf_lt (by simp only [Tr.weight]; omega)).symm, (Below.refl _ _).alloc (Nat.le_refl _) _⟩
    · rw [leftOf_ge (by omega)]
      go_wp2_with fail
      have hbox : Below w'.heap.size w' (w'.alloc (.cells #[.slice ka ks.length kcap, .slice a cs.length cap] 25)) := (Below.refl _ _).alloc (Nat.le_refl _) _
      have hbs := hbox.size
      have HB := Lib.hid hbox
      clear hbox
      refine (szTreeS_c cs a cap _ _ B kvs cvs (by omega) (by omega) (by omega) hlen hcap ((HAT.out.later hbw (Nat.le_refl _)).later HB.out hB) (fun i hi w2 m hb2 hs2 m0 m1 => ?_)).mono ?_
      · exact IH.out i hi w2 m (hbw.trans ((HB.out.mono hB).trans hb2)) hs2 m0 m1
      · rintro e w2 ⟨rfl, hb2⟩
        by_cases hneg2 : n - ks.length < Tr.weights cs
        · rw [leftOf_lt hneg2]
          go_wp2_with fail
          go_ret
          exact ⟨ret_int (leftOf_lt (by simp only [Tr.weight]; omega)).symm, HB.out.trans (hb2.mono hbs)⟩
        · rw [leftOf_ge (by omega)]
          go_wp2_with fail
          go_ret
          exact ⟨ret_int (by rw [leftOf_ge (by simp only [Tr.weight]; omega)]; simp only [Tr.weight]; omega), HB.out.trans (hb2.mono hbs)⟩

end Go.Proofs.YtdcifdpkfcgmhaaDoor

/- The contracts of the functions that compare: eqIntS, eqTreeS, eqTree: at two readings of one datum they answer true. -/
namespace Go.Proofs.YtdcifdpkfcgmhaaDoor
open Go.RowKit

set_option maxHeartbeats 400000 in
theorem eqIntS_c (ks : List Int) (v v' : Value) (w : World) (B : Nat) (hB : B ≤ w.heap.size) (hk : IntsIn w B v ks) (hk' : IntsIn w B v' ks) :
    Calls Tryd.prog 61 #[v, v'] w fun e w' => e = .returned (.bool true) ∧ Below w.heap.size w w' := by
  obtain ⟨a, cap, rfl, h1, h2, _, h3⟩ := hk
  obtain ⟨a', cap', rfl, h1', h2', _, h3'⟩ := hk'
  unfold maxLen at h2 h2'
  have HK := Lib.hid h3
  have HK' := Lib.hid h3'
  clear h3 h3'
  have hne : ((ks.length : Int) != ks.length) = false := by simp
  go_enter Tryd.func61, Tryd.ntmps61
  go_wp2_with fail
  go_loopw [5] (fun i wr => ∃ (j : Nat), j ≤ ks.length ∧ i = .int .i64 j ∧ Below w.heap.size w wr) (fun i _ => ks.length - (intOf i).toNat)
  case atStart => exact ⟨0, Nat.zero_le _, rfl, Below.refl _ _⟩
  case round =>
    obtain ⟨j, hj, rfl, hbel⟩ := hrel
    by_cases hlt : j < ks.length
    · rcases HK.out with h | ⟨b, off, rfl, hb, hat⟩
      · simp [h] at hlt
      rcases HK'.out with h | ⟨b', off', rfl, hb', hat'⟩
      · simp [h] at hlt
      have ha1 : wr.cell? ⟨b, off + j, none⟩ = some (.int .i64 (ks.getD j 0)) := by rw [below_cell hbel (by omega)]; exact hat j hlt
      have ha2 : wr.cell? ⟨b', off' + j, none⟩ = some (.int .i64 (ks.getD j 0)) := by rw [below_cell hbel (by omega)]; exact hat' j hlt
      have hne2 : ((ks.getD j 0 : Int) != ks.getD j 0) = false := by simp
      clear hat hat'
      generalize ks.getD j 0 = x at ha1 ha2 hne2
      go_wp2_with fail
      go_quiet (fail)
      go_wp2_with fail
      go_roundw
      case rel => exact ⟨j + 1, by omega, by go_num, below_drewN hbel _⟩
      case measure => simp [intOf]; omega
    · obtain rfl : j = ks.length := by omega
      go_wp2_with fail
      go_ret
      exact ⟨rfl, hbel⟩

set_option maxHeartbeats 1000000 in
set_option maxRecDepth 100000 in
theorem eqTreeS_c (cs : List Tr) (a a' : Option Addr) (cap cap' : Nat) (w : World) (B : Nat) (kvs cvs kvs' cvs' : Nat → Value) (hB : B ≤ w.heap.size)
    (hlen : cs.length ≤ cap) (hcap : cap ≤ maxLen) (hlen' : cs.length ≤ cap') (hcap' : cap' ≤ maxLen) (hat : KidsIn w B a cs.length kvs cvs) (hat' : KidsIn w B a' cs.length kvs' cvs')
    (hto : ∀ i (h : i < cs.length) w', Below B w w' → B ≤ w'.heap.size →
      Calls Tryd.prog 20 #[.agg #[kvs i, cvs i], .agg #[kvs' i, cvs' i]] w' fun e w'' => e = .returned (.bool true) ∧ Below w'.heap.size w' w'') :
    Calls Tryd.prog 62 #[.slice a cs.length cap, .slice a' cs.length cap'] w fun e w' => e = .returned (.bool true) ∧ Below w.heap.size w w' := by
  have HAT := Lib.hid hat
  have HAT' := Lib.hid hat'
  have HTO := Lib.hid hto
  clear hat hat' hto
  unfold maxLen at hcap hcap'
  have hne : ((cs.length : Int) != cs.length) = false := by simp
  go_enter Tryd.func62, Tryd.ntmps62
  go_wp2_with fail
  go_loopw [5] (fun i wr => ∃ (j : Nat), j ≤ cs.length ∧ i = .int .i64 j ∧ Below w.heap.size w wr) (fun i _ => cs.length - (intOf i).toNat)
  case atStart => exact ⟨0, Nat.zero_le _, rfl, Below.refl _ _⟩
  case round =>
    obtain ⟨j, hj, rfl, hbel⟩ := hrel
    by_cases hlt : j < cs.length
    · rcases HAT.out with h | ⟨b, off, rfl, hb, hat⟩
      · omega
      rcases HAT'.out with h | ⟨b', off', rfl, hb', hat'⟩
      · omega
      obtain ⟨ha, hc⟩ := hat j hlt
      obtain ⟨ha', hc'⟩ := hat' j hlt
      rw [← below_cell hbel (by omega)] at ha hc ha' hc'
      have hsz := hbel.size
      have HC := Lib.hid (fun w1 h1 h2 => HTO.out j hlt w1 h1 h2)
      clear hat hat'
      go_wp2_with fail
      go_still_tail 8, (by kernel_rfl)
      go_wp2_with fail
      refine (HC.out _ ((below_drewN hbel 1).mono hB) (by simp [World.drewN]; omega)).mono ?_
      rintro e w1 ⟨rfl, hb1⟩
      have hb1' : Below w.heap.size w w1 := (below_drewN hbel 1).trans (hb1.mono hsz)
      clear hb1
      go_wp2_with fail
      go_roundw
      case rel => exact ⟨j + 1, by omega, by go_num, hb1'⟩
      case measure => simp [intOf]; omega
    · obtain rfl : j = cs.length := by omega
      go_wp2_with fail
      go_ret
      exact ⟨rfl, hbel⟩

set_option maxHeartbeats 1000000 in
theorem eqTree_c {w : World} {B : Nat} {kv cv : Value} {t : Tr} (ht : TreeIn w B kv cv t) :
    ∀ kv' cv', TreeIn w B kv' cv' t → ∀ w', Below B w w' → B ≤ w'.heap.size →
    Calls Tryd.prog 20 #[.agg #[kv, cv], .agg #[kv', cv']] w' fun e w'' => e = .returned (.bool true) ∧ Below w'.heap.size w' w'' := by
  induction ht with
  | mk ks cs kv a cap kvs cvs hk hlen hcap hat hkids ih =>
    intro kv' cv' ht' w' hbw hB
    obtain ⟨a', cap', kvs', cvs', rfl, hk', hlen', hcap', hat', hkids'⟩ := ht'.parts
    have HK := Lib.hid (And.intro hk hk')
    have HAT := Lib.hid (And.intro hat hat')
    have IH := Lib.hid ih
    have HKI := Lib.hid hkids'
    clear hk hat ih hkids ht' hk' hat' hkids'
    go_enter Tryd.func20, Tryd.ntmps20
    go_wp2_with fail
    obtain ⟨W3, hW3⟩ : ∃ W3, W3 = ((w'.alloc (.cells #[kv, .slice a cs.length cap] 33)).alloc (.cells #[kv', .slice a' cs.length cap'] 33)) := ⟨_, rfl⟩
    rw [← hW3]
    have hb3 : Below w'.heap.size w' W3 := by rw [hW3]; exact ((Below.refl _ _).alloc (Nat.le_refl _) _).alloc (by simp) _
    have hs3 : W3.heap.size = w'.heap.size + 2 := by rw [hW3]; simp
    have k0 : W3.heap[w'.heap.size]? = some (.cells #[kv, .slice a cs.length cap] 33 (0, 0)) := by rw [hW3, old_blk _ _ _ (by simp), new_blk]
    have k1 : W3.heap[w'.heap.size + 1]? = some (.cells #[kv', .slice a' cs.length cap'] 33 (0, 0)) := by
      rw [hW3, show w'.heap.size + 1 = (w'.alloc (.cells #[kv, .slice a cs.length cap] 33)).heap.size by simp, new_blk]
    clear hW3
    refine (eqIntS_c ks kv kv' _ B (by omega) ((HK.out.1.later hbw (Nat.le_refl _)).later hb3 hB) ((HK.out.2.later hbw (Nat.le_refl _)).later hb3 hB)).mono ?_
    rintro e w1 ⟨rfl, hb1⟩
    have j0 := (hb1.block w'.heap.size (by omega)).trans k0
    have j1 := (hb1.block (w'.heap.size + 1) (by omega)).trans k1
    have hz1 := hb1.size
    have hb1' : Below w'.heap.size w' w1 := hb3.trans (hb1.mono (by omega))
    obtain ⟨a1, a2, a3, a4⟩ := box2 j0
    obtain ⟨b1, b2, b3, b4⟩ := box2 j1
    have HX := Lib.hid (And.intro hs3 hz1)
    clear j0 j1 hb1 hs3 k0 k1 hb3 hz1
    go_wp2_with fail
    have hs3 := HX.out.1
    have hz1 := HX.out.2
    refine (eqTreeS_c cs a a' cap cap' _ B kvs cvs kvs' cvs' (by omega) hlen hcap hlen' hcap' ((HAT.out.1.later hbw (Nat.le_refl _)).later hb1' hB) ((HAT.out.2.later hbw (Nat.le_refl _)).later hb1' hB) (fun i hi w2 hb2 hs2 => ?_)).mono ?_
    · exact IH.out i hi _ _ (HKI.out i hi) w2 (hbw.trans ((hb1'.mono hB).trans hb2)) hs2
    rintro e w2 ⟨rfl, hb2⟩
    have hb2' := hb1'.trans (hb2.mono (by omega))
    clear hb2 hs3 hz1
    go_wp2_with fail
    go_ret
    exact ⟨rfl, hb2'⟩

end Go.Proofs.YtdcifdpkfcgmhaaDoor
