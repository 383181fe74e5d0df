/- The iterator inOrder, and the contracts of ascends, isWide, isKey. -/
import Derived.Test.YtodcapgmhginoaaProg
import Derived.Test.YtodcapgmhginoaaBvS0
import Derived.Test.YtodcapgmhginoaaBvS27
import Derived.Test.YtodcapgmhginoaaBvS19
import Derived.Test.YtodcapgmhginoaaBvS10
import Derived.Test.YtodcapgmhginoaaBvS13
import Derived.Test.YtodcapgmhginoaaBvS14
import Derived.Test.YtodcapgmhginoaaBvS29
import Derived.Test.YtodcapgmhginoaaBvS30
import Derived.RangeFuncNested
import Derived.Shelf.RegionOpen
import Derived.WalkKit
import Derived.OwnWalkIn
import Derived.TacticsInMore
import Derived.LoopNIn
import Derived.LoopIn
namespace Go.Proofs.Ytodcapgmhginoaa
open Go.RowKit
attribute [local go_sem] Oper.semAt_some

set_option maxRecDepth 100000 in
set_option maxHeartbeats 1000000 in
theorem inOrder_iter {w₀ : World} {lo hi b : Nat} {t : Tr} (ht : NodeIn w₀ lo hi b t) (hwt : t.weight ≤ 1048576) (hhi : hi ≤ w₀.heap.size) :
    Iter Try.prog 68 #[.pointer (some ⟨b, 0, none⟩)] #[] intEnc (fun k => lo ≤ k ∧ k < hi) t.keys w₀ := by
  intro l J Jx Pv W hkeep hRd hbnd hJ hJx hY h0
  have hc := yieldKeys_c ht hwt hhi l J Jx t.keys [] Pv Pv W W hkeep (fun k h1 h2 => hRd k ⟨h1, h2⟩) hbnd hJ hJx hY (Keep.refl _ _) (fun _ h => h) h0 (List.prefix_refl _)
  have HC := Lib.hid hc
  clear hc ht hY h0 hJ hJx hkeep hRd hbnd
  show Calls Try.prog 68 #[.pointer (some ⟨b, 0, none⟩), .func (.yield l) #[] #[]] W _
  go_enter Try.func68, Try.ntmps68
  go_wp2_with fail
  refine HC.out.mono ?_
  rintro e W' ⟨hk, (⟨rfl, hj⟩ | ⟨rfl, q, hq, hx⟩)⟩
  · go_wp2_with fail
    go_end0
    exact ⟨⟨_, rfl⟩, hk, .inl hj⟩
  · go_wp2_with fail
    go_end0
    exact ⟨⟨_, rfl⟩, hk, .inr ⟨q, hq, hx⟩⟩

/-- The last of some keys, or -1. -/
def lastOf (pre : List Int) : Int := pre.getLast?.getD (-1)
theorem lastOf_snoc (pre : List Int) (x : Int) : lastOf (pre ++ [x]) = x := by simp [lastOf]

theorem okAt_iff {ks pre : List Int} {x : Int} (h : pre ++ [x] <+: ks) : okAt ks pre.length = (decide (lastOf pre < x) && inB x 0 99) := by
  obtain ⟨r, rfl⟩ := h
  have e1 : (pre ++ [x] ++ r).getD pre.length 0 = x := by simp [List.getD_eq_getElem?_getD]
  unfold okAt
  rw [e1]
  rcases List.eq_nil_or_concat pre with rfl | ⟨p, y, rfl⟩
  · simp only [lastOf, inB, List.length_nil]
    by_cases h : (0 : Int) ≤ x
    · have : (-1 : Int) < x := by omega
      simp [h, this]
    · simp [h]
  · have e2 : (p ++ [y] ++ [x] ++ r).getD ((p ++ [y]).length - 1) 0 = y := by simp [List.getD_eq_getElem?_getD]
    simp only [List.concat_eq_append] at *
    rw [e2, lastOf_snoc]
    have e3 : ¬ (p ++ [y]).length = 0 := by simp
    simp only [e3, decide_false, Bool.false_or]
    exact Bool.and_comm _ _

set_option maxRecDepth 100000 in
set_option maxHeartbeats 2000000 in
theorem ascend_c {w : World} {gf : Nat} {fb lb : Array Value} (eg : ∀ args w, (callFunc gf args).run Try.prog w = .ok (.enter gf args) w) {Rd : Nat → Prop} {ks : List Int}
    (hit : Iter Try.prog gf fb lb intEnc Rd ks w) (hRd : ∀ k, Rd k → k < w.heap.size) :
    Calls Try.prog 66 #[.func (.func gf) fb lb] w fun e w' => e = .returned (.bool (sortedB ks)) ∧ Below w.heap.size w w' := by
  have HIT := Lib.hid hit
  have HRD := Lib.hid hRd
  have HEG := Lib.hid eg
  clear hit hRd eg
  refine (callsIn_wide (n := 9)).1 (callsIn_of_wp_marks Try.func66 rfl trivial ?_ rfl)
  simp only [Try.ntmps66, List.size_toArray, List.length_cons, List.length_nil, Nat.reduceAdd, Nat.reduceSub, Array.replicate_succ, Array.replicate_zero, List.push_toArray, List.append_toArray, List.nil_append, List.cons_append]
  gi_wp2
  obtain ⟨W2, hW2⟩ : ∃ W2, W2 = (w.alloc (.cells #[.bool false] 4)).alloc (.cells #[.int .i64 (-1)] 3) := ⟨_, rfl⟩
  rw [← hW2]
  have hs2 : W2.heap.size = w.heap.size + 2 := by rw [hW2]; simp
  have hk2 : ∀ K, Keep K w W2 := fun K => by rw [hW2]; exact (Keep.alloc K _ _).trans (Keep.alloc K _ _)
  have b3 : W2.heap[w.heap.size]? = some (.cells #[.bool false] 4 (0, 0)) := by rw [hW2, old_blk _ _ _ (by simp), new_blk]
  have b4 : W2.heap[w.heap.size + 1]? = some (.cells #[.int .i64 (-1)] 3 (0, 0)) := by
    rw [hW2]
    have h := new_blk (w.alloc (.cells #[.bool false] 4)) (.cells #[.int .i64 (-1)] 3)
    rw [World.size_alloc] at h; exact h
  have B34 := Lib.hid (And.intro b3 b4)
  clear hW2 b3 b4
  refine wp_loop (fb := fb) (lb := lb) rfl HEG.out HIT.out (hk2 _) (fun x => rfl)
    (fun k => k < w.heap.size) (fun k h => HRD.out k h) (fun k h => by omega)
    (fun pre Pv W => ¬ Pv w.heap.size ∧ ¬ Pv (w.heap.size + 1) ∧ W.heap[w.heap.size]? = some (.cells #[.bool false] 4 (0, 0)) ∧ W.heap[w.heap.size + 1]? = some (.cells #[.int .i64 (lastOf pre)] 3 (0, 0)) ∧ ∀ i, i < pre.length → okAt ks i = true)
    (fun c pre Pv W => c = .ret ∧ ¬ Pv w.heap.size ∧ W.heap[w.heap.size]? = some (.cells #[.bool false] 4 (0, 0)) ∧ sortedB ks = false)
    (fun pre Pv A Pv' B h hk hp => by
      obtain ⟨h1, h2, h3, h4, h5⟩ := h
      have l3 := (Array.getElem?_eq_some_iff.1 h3).1
      have l4 := (Array.getElem?_eq_some_iff.1 h4).1
      refine ⟨fun h => ?_, fun h => ?_, (hk.block _ l3 h1).trans h3, (hk.block _ l4 h2).trans h4, h5⟩
      · rcases hp _ h with h | h
        · exact h1 h
        · omega
      · rcases hp _ h with h | h
        · exact h2 h
        · omega)
    (fun c pre Pv A Pv' B h hk hp => by
      obtain ⟨h0, h1, h3, h5⟩ := h
      have l3 := (Array.getElem?_eq_some_iff.1 h3).1
      refine ⟨h0, fun h => ?_, (hk.block _ l3 h1).trans h3, h5⟩
      rcases hp _ h with h | h
      · exact h1 h
      · omega)
    ⟨by omega, by omega, B34.out.1, B34.out.2, fun i h => by simp at h⟩
    (fun x => { tmps := #[.func (.func gf) fb lb, undef, .pointer (some ⟨w.heap.size, 0, none⟩), .pointer (some ⟨w.heap.size + 1, 0, none⟩), .int .i64 x, .func (.func gf) fb lb, .int .i64 x, undef, undef, undef, undef, undef, undef, undef, undef, undef], defers := [] })
    ?assign ?body ?done ?stop
  case assign =>
    intro l' m x W' K hK
    dsimp only [intEnc]
    gi_wp2
    exact hK
  case body =>
    intro l' m pre x Pv W' hI hkW hsub hbnd hp
    obtain ⟨h1, h2, h3, h4, h5⟩ := hI
    obtain ⟨c3, f3⟩ := box1 h3
    obtain ⟨c4, f4⟩ := box1 h4
    have hok := okAt_iff hp
    have hpl : pre.length < ks.length := by have := hp.length_le; simp at this; omega
    have H34 := Lib.hid (And.intro h3 h4)
    have H5 := Lib.hid h5
    have HOK := Lib.hid hok
    generalize hlast : lastOf pre = la at c4
    have HLA := Lib.hid hlast
    clear h3 h4 h5 hok hp hlast
    have fin : sortedB ks = false → Keep Pv W' (W'.setCell ⟨w.heap.size, 0, none⟩ (.bool false)) ∧ (Code.ret = Code.ret ∧ ¬ Pv w.heap.size ∧ (W'.setCell ⟨w.heap.size, 0, none⟩ (.bool false)).heap[w.heap.size]? = some (.cells #[.bool false] 4 (0, 0)) ∧ sortedB ks = false) :=
      fun h => ⟨Keep.setCell _ _ _ _ h1, rfl, h1, set_blk (.bool false) H34.out.1, h⟩
    have FIN := Lib.hid fin
    clear fin
    by_cases g1 : x ≤ la
    · have hno : sortedB ks = false := sortedB_not pre.length hpl (by rw [HOK.out, HLA.out]; simp; intro h; omega)
      have HNO := Lib.hid hno
      clear hno
      gi_wp2
      refine ⟨trivial, ?_⟩
      gi_wp2
      exact ⟨(FIN.out HNO.out).1, rfl, (FIN.out HNO.out).2.2⟩
    · have g1' : decide (x ≤ la) = false := by simpa using g1
      cases hin : inB x 0 99 with
      | false =>
        have hno : sortedB ks = false := sortedB_not pre.length hpl (by rw [HOK.out, HLA.out, hin]; simp)
        have HNO := Lib.hid hno
        have HIN := Lib.hid hin
        clear hno hin
        gi_wp2
        refine ⟨trivial, fun h => (by cases h), ?_⟩
        refine (CallsIn.inRound l' ((callsIn_wide (n := m - 1)).2 (isKey_c x W'))).mono ?_
        rintro e W4 ⟨rfl, rfl⟩
        rw [HIN.out]
        gi_wp2
        exact ⟨(FIN.out HNO.out).1, rfl, (FIN.out HNO.out).2.2⟩
      | true =>
        have hyes : okAt ks pre.length = true := by rw [HOK.out, HLA.out, hin]; simp; omega
        have HYES := Lib.hid hyes
        have HIN := Lib.hid hin
        clear hyes hin
        gi_wp2
        refine ⟨trivial, fun h => (by cases h), ?_⟩
        refine (CallsIn.inRound l' ((callsIn_wide (n := m - 1)).2 (isKey_c x W'))).mono ?_
        rintro e W4 ⟨rfl, rfl⟩
        rw [HIN.out]
        gi_wp2
        refine ⟨Keep.setCell _ _ _ _ h2, h1, h2, ?_, ?_, fun i hi => ?_⟩
        · rw [set_other _ _ _ _ _ (by omega)]; exact H34.out.1
        · rw [lastOf_snoc]; exact set_blk (.int .i64 x) H34.out.2
        · by_cases hh : i = pre.length
          · rw [hh]; exact HYES.out
          · exact H5.out i (by simp at hi; omega)
  case done =>
    intro W3 hk3 hI hlt hD
    obtain ⟨h1, h2, h3, h4, h5⟩ := hI
    obtain ⟨c3, f3⟩ := box1 h3
    have hyes : sortedB ks = true := sortedB_of h5
    have HYES := Lib.hid hyes
    rw [hs2] at hD
    have HD := Lib.hid hD
    have H3 := Lib.hid h3
    clear h3 h4 h5 hyes hD
    gi_wp2
    have hD2 : (W3.setCell ⟨w.heap.size, 0, none⟩ (.bool true)).heap[w.heap.size + 2]? = some (.deferred (some [])) := by rw [set_other _ _ _ _ _ (by omega)]; exact HD.out
    have hc2 := (box1 (set_blk (o := 0) (.bool true) H3.out)).1
    refine ⟨by simp, .inl ⟨_, _, rfl, run_takeDeferred hD2, ?_⟩⟩
    obtain ⟨W5, hW5⟩ : ∃ W5, W5 = ((W3.setCell ⟨w.heap.size, 0, none⟩ (.bool true)).putObj (w.heap.size + 2) (.deferred none)) := ⟨_, rfl⟩
    have hc5 : W5.cell? ⟨w.heap.size, 0, none⟩ = some (.bool true) := by rw [hW5]; exact (cell_of_blk (World.putObj_heap_other (by omega))).trans hc2
    have hk5 : Keep (fun k => k < w.heap.size) W3 W5 := by rw [hW5]; exact (Keep.setCell _ _ _ _ (by simp)).trans (Keep.putObj _ _ _ _ (by omega))
    rw [← hW5]
    exact ⟨.bool true, by simp [results, Try.results66, go_sem, hc5], by rw [HYES.out], (((hk2 _).trans hk3).trans hk5).below (Nat.le_refl _) (fun k h => h)⟩
  case stop =>
    rintro c pre' W3 hk3 hp ⟨rfl, h1, h3, h5⟩ hlt hD
    rw [hs2] at hD
    have H5 := Lib.hid h5
    have H3 := Lib.hid h3
    clear h5 h3
    gi_wp2
    refine ⟨by simp, .inl ⟨_, _, rfl, run_takeDeferred hD, ?_⟩⟩
    obtain ⟨W5, hW5⟩ : ∃ W5, W5 = W3.putObj (w.heap.size + 2) (.deferred none) := ⟨_, rfl⟩
    have hc5 : W5.cell? ⟨w.heap.size, 0, none⟩ = some (.bool false) := by rw [hW5]; exact (cell_of_blk (World.putObj_heap_other (by omega))).trans (box1 H3.out).1
    have hk5 : Keep (fun k => k < w.heap.size) W3 W5 := by rw [hW5]; exact Keep.putObj _ _ _ _ (by omega)
    rw [← hW5]
    exact ⟨.bool false, by simp [results, Try.results66, go_sem, hc5], by rw [H5.out], (((hk2 _).trans hk3).trans hk5).below (Nat.le_refl _) (fun k h => h)⟩
end Go.Proofs.Ytodcapgmhginoaa
