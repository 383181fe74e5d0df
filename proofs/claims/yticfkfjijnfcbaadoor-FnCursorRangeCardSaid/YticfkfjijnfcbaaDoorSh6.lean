/- Whether a tree is valid for some width: the program. -/
import Derived.Test.YticfkfjijnfcbaaDoorProg
import Derived.Test.YticfkfjijnfcbaaDoorSh0
import Derived.Test.YticfkfjijnfcbaaDoorSh1
import Derived.Lib.Hide
import Derived.Test.YticfkfjijnfcbaaDoorSh3
import Derived.Test.YticfkfjijnfcbaaDoorIter
import Derived.Test.YticfkfjijnfcbaaDoorKeys
import Derived.Test.YticfkfjijnfcbaaDoorSh2
import Derived.Test.YticfkfjijnfcbaaDoorSh5
import Derived.RangeFuncNested
import Derived.Shelf.RegionOpen
import Derived.WalkKit
import Derived.OwnWalkIn
import Derived.TacticsInMore
import Derived.LoopNIn
import Derived.LoopIn
import Derived.Deep.RegionHeld3
import Derived.Test.YticfkfjijnfcbaaDoorPlant
import Derived.Test.YticfkfjijnfcbaaDoorSh4

/- The contracts of isKey and isWide. -/
namespace Go.Proofs.YticfkfjijnfcbaaDoor
open Go.RowKit

theorem isKey_c (n : Int) (w : World) : Calls Tryd.prog 139 #[.int .i64 n] w fun e w' => e = .returned (.bool (inB n 0 99)) ∧ w' = w := by
  by_cases h1 : 0 ≤ n
  · by_cases h2 : n ≤ 99
    · have hin : inB n 0 99 = true := inB_true h1 h2
      have HI := Lib.hid hin
      clear hin
      go_enter Tryd.func139, Tryd.ntmps139
      go_wp2
      go_ret
      exact ⟨ret_bool HI.out.symm, rfl⟩
    · have hin : inB n 0 99 = false := inB_false (by omega)
      have HI := Lib.hid hin
      clear hin
      go_enter Tryd.func139, Tryd.ntmps139
      go_wp2
      go_ret
      exact ⟨ret_bool HI.out.symm, rfl⟩
  · have hin : inB n 0 99 = false := inB_false (by omega)
    have HI := Lib.hid hin
    clear hin
    go_enter Tryd.func139, Tryd.ntmps139
    go_wp2
    go_ret
    exact ⟨ret_bool HI.out.symm, rfl⟩

theorem isWide_c (n : Int) (w : World) : Calls Tryd.prog 131 #[.int .i64 n] w fun e w' => e = .returned (.bool (inB n 2 6)) ∧ w' = w := by
  by_cases h1 : 2 ≤ n
  · by_cases h2 : n ≤ 6
    · have hin : inB n 2 6 = true := inB_true h1 h2
      have HI := Lib.hid hin
      clear hin
      go_enter Tryd.func131, Tryd.ntmps131
      go_wp2
      go_ret
      exact ⟨ret_bool HI.out.symm, rfl⟩
    · have hin : inB n 2 6 = false := inB_false (by omega)
      have HI := Lib.hid hin
      clear hin
      go_enter Tryd.func131, Tryd.ntmps131
      go_wp2
      go_ret
      exact ⟨ret_bool HI.out.symm, rfl⟩
  · have hin : inB n 2 6 = false := inB_false (by omega)
    have HI := Lib.hid hin
    clear hin
    go_enter Tryd.func131, Tryd.ntmps131
    go_wp2
    go_ret
    exact ⟨ret_bool HI.out.symm, rfl⟩
end Go.Proofs.YticfkfjijnfcbaaDoor

/- The iterator inOrder, and the contracts of ascends, isWide, isKey. -/
namespace Go.Proofs.YticfkfjijnfcbaaDoor
open Go.RowKit
attribute [local go_sem] Oper.semAt_some

set_option maxRecDepth 100000 in
set_option maxHeartbeats 1000000 in
theorem inOrder_iter {w₀ : World} {lo hi b : Nat} {t : Tr} (ht : NodeIn w₀ lo hi b t) (hwt : t.weight ≤ 1048576) (hhi : hi ≤ w₀.heap.size) :
    Iter Tryd.prog 101 #[.pointer (some ⟨b, 0, none⟩)] #[] intEnc (fun k => lo ≤ k ∧ k < hi) t.keys w₀ := by
  intro l J Jx Pv W hkeep hRd hbnd hJ hJx hY h0
  have hc := yieldKeys_c ht hwt hhi l J Jx t.keys [] Pv Pv W W hkeep (fun k h1 h2 => hRd k ⟨h1, h2⟩) hbnd hJ hJx hY (Keep.refl _ _) (fun _ h => h) h0 (List.prefix_refl _)
  have HC := Lib.hid hc
  clear hc ht hY h0 hJ hJx hkeep hRd hbnd
  show Calls Tryd.prog 101 #[.pointer (some ⟨b, 0, none⟩), .func (.yield l) #[] #[]] W _
  go_enter Tryd.func101, Tryd.ntmps101
  go_wp2_with fail
  refine HC.out.mono ?_
  rintro e W' ⟨hk, (⟨rfl, hj⟩ | ⟨rfl, q, hq, hx⟩)⟩
  · go_wp2_with fail
    go_end0
    exact ⟨⟨_, rfl⟩, hk, .inl hj⟩
  · go_wp2_with fail
    go_end0
    exact ⟨⟨_, rfl⟩, hk, .inr ⟨q, hq, hx⟩⟩

/-- The last of some keys, or -1. -/
def lastOf (pre : List Int) : Int := pre.getLast?.getD (-1)
theorem lastOf_snoc (pre : List Int) (x : Int) : lastOf (pre ++ [x]) = x := by simp [lastOf]

theorem okAt_iff {ks pre : List Int} {x : Int} (h : pre ++ [x] <+: ks) : okAt ks pre.length = (decide (lastOf pre < x) && inB x 0 99) := by
  obtain ⟨r, rfl⟩ := h
  have e1 : (pre ++ [x] ++ r).getD pre.length 0 = x := by simp [List.getD_eq_getElem?_getD]
  unfold okAt
  rw [e1]
  rcases List.eq_nil_or_concat pre with rfl | ⟨p, y, rfl⟩
  · simp only [lastOf, inB, List.length_nil]
    by_cases h : (0 : Int) ≤ x
    · have : (-1 : Int) < x := by omega
      simp [h, this]
    · simp [h]
  · have e2 : (p ++ [y] ++ [x] ++ r).getD ((p ++ [y]).length - 1) 0 = y := by simp [List.getD_eq_getElem?_getD]
    simp only [List.concat_eq_append] at *
    rw [e2, lastOf_snoc]
    have e3 : ¬ (p ++ [y]).length = 0 := by simp
    simp only [e3, decide_false, Bool.false_or]
    exact Bool.and_comm _ _

set_option maxRecDepth 100000 in
set_option maxHeartbeats 2000000 in
theorem ascend_c {w : World} {gf : Nat} {fb lb : Array Value} (eg : ∀ args w, (callFunc gf args).run Tryd.prog w = .ok (.enter gf args) w) {Rd : Nat → Prop} {ks : List Int}
    (hit : Iter Tryd.prog gf fb lb intEnc Rd ks w) (hRd : ∀ k, Rd k → k < w.heap.size) :
    Calls Tryd.prog 133 #[.func (.func gf) fb lb] w fun e w' => e = .returned (.bool (sortedB ks)) ∧ Below w.heap.size w w' := by
  have HIT := Lib.hid hit
  have HRD := Lib.hid hRd
  have HEG := Lib.hid eg
  clear hit hRd eg
  refine (callsIn_wide (n := 9)).1 (callsIn_of_wp_marks Tryd.func133 rfl trivial ?_ rfl)
  simp only [Tryd.ntmps133, List.size_toArray, List.length_cons, List.length_nil, Nat.reduceAdd, Nat.reduceSub, Array.replicate_succ, Array.replicate_zero, List.push_toArray, List.append_toArray, List.nil_append, List.cons_append]
  gi_wp2
  obtain ⟨W2, hW2⟩ : ∃ W2, W2 = (w.alloc (.cells #[.bool false] 4)).alloc (.cells #[.int .i64 (-1)] 3) := ⟨_, rfl⟩
  rw [← hW2]
  have hs2 : W2.heap.size = w.heap.size + 2 := by rw [hW2]; simp
  have hk2 : ∀ K, Keep K w W2 := fun K => by rw [hW2]; exact (Keep.alloc K _ _).trans (Keep.alloc K _ _)
  have b3 : W2.heap[w.heap.size]? = some (.cells #[.bool false] 4 (0, 0)) := by rw [hW2, old_blk _ _ _ (by simp), new_blk]
  have b4 : W2.heap[w.heap.size + 1]? = some (.cells #[.int .i64 (-1)] 3 (0, 0)) := by
    rw [hW2]
    have h := new_blk (w.alloc (.cells #[.bool false] 4)) (.cells #[.int .i64 (-1)] 3)
    rw [World.size_alloc] at h; exact h
  have B34 := Lib.hid (And.intro b3 b4)
  clear hW2 b3 b4
  refine wp_loop (fb := fb) (lb := lb) rfl HEG.out HIT.out (hk2 _) (fun x => rfl)
    (fun k => k < w.heap.size) (fun k h => HRD.out k h) (fun k h => by omega)
    (fun pre Pv W => ¬ Pv w.heap.size ∧ ¬ Pv (w.heap.size + 1) ∧ W.heap[w.heap.size]? = some (.cells #[.bool false] 4 (0, 0)) ∧ W.heap[w.heap.size + 1]? = some (.cells #[.int .i64 (lastOf pre)] 3 (0, 0)) ∧ ∀ i, i < pre.length → okAt ks i = true)
    (fun c pre Pv W => c = .ret ∧ ¬ Pv w.heap.size ∧ W.heap[w.heap.size]? = some (.cells #[.bool false] 4 (0, 0)) ∧ sortedB ks = false)
    (fun pre Pv A Pv' B h hk hp => by
      obtain ⟨h1, h2, h3, h4, h5⟩ := h
      have l3 := (Array.getElem?_eq_some_iff.1 h3).1
      have l4 := (Array.getElem?_eq_some_iff.1 h4).1
      refine ⟨fun h => ?_, fun h => ?_, (hk.block _ l3 h1).trans h3, (hk.block _ l4 h2).trans h4, h5⟩
      · rcases hp _ h with h | h
        · exact h1 h
        · omega
      · rcases hp _ h with h | h
        · exact h2 h
        · omega)
    (fun c pre Pv A Pv' B h hk hp => by
      obtain ⟨h0, h1, h3, h5⟩ := h
      have l3 := (Array.getElem?_eq_some_iff.1 h3).1
      refine ⟨h0, fun h => ?_, (hk.block _ l3 h1).trans h3, h5⟩
      rcases hp _ h with h | h
      · exact h1 h
      · omega)
    ⟨by omega, by omega, B34.out.1, B34.out.2, fun i h => by simp at h⟩
    (fun x => { tmps := #[.func (.func gf) fb lb, undef, .pointer (some ⟨w.heap.size, 0, none⟩), .pointer (some ⟨w.heap.size + 1, 0, none⟩), .int .i64 x, .func (.func gf) fb lb, .int .i64 x, undef, undef, undef, undef, undef, undef, undef, undef, undef], defers := [] })
    ?assign ?body ?done ?stop
  case assign =>
    intro l' m x W' K hK
    dsimp only [intEnc]
    gi_wp2
    exact hK
  case body =>
    intro l' m pre x Pv W' hI hkW hsub hbnd hp
    obtain ⟨h1, h2, h3, h4, h5⟩ := hI
    obtain ⟨c3, f3⟩ := box1 h3
    obtain ⟨c4, f4⟩ := box1 h4
    have hok := okAt_iff hp
    have hpl : pre.length < ks.length := by have := hp.length_le; simp at this; omega
    have H34 := Lib.hid (And.intro h3 h4)
    have H5 := Lib.hid h5
    have HOK := Lib.hid hok
    generalize hlast : lastOf pre = la at c4
    have HLA := Lib.hid hlast
    clear h3 h4 h5 hok hp hlast
    have fin : sortedB ks = false → Keep Pv W' (W'.setCell ⟨w.heap.size, 0, none⟩ (.bool false)) ∧ (Code.ret = Code.ret ∧ ¬ Pv w.heap.size ∧ (W'.setCell ⟨w.heap.size, 0, none⟩ (.bool false)).heap[w.heap.size]? = some (.cells #[.bool false] 4 (0, 0)) ∧ sortedB ks = false) :=
      fun h => ⟨Keep.setCell _ _ _ _ h1, rfl, h1, set_blk (.bool false) H34.out.1, h⟩
    have FIN := Lib.hid fin
    clear fin
    by_cases g1 : x ≤ la
    · have hno : sortedB ks = false := sortedB_not pre.length hpl (by rw [HOK.out, HLA.out]; simp; intro h; omega)
      have HNO := Lib.hid hno
      clear hno
      gi_wp2
      refine ⟨trivial, ?_⟩
      gi_wp2
      exact ⟨(FIN.out HNO.out).1, rfl, (FIN.out HNO.out).2.2⟩
    · have g1' : decide (x ≤ la) = false := by simpa using g1
      cases hin : inB x 0 99 with
      | false =>
        have hno : sortedB ks = false := sortedB_not pre.length hpl (by rw [HOK.out, HLA.out, hin]; simp)
        have HNO := Lib.hid hno
        have HIN := Lib.hid hin
        clear hno hin
        gi_wp2
        refine ⟨trivial, fun h => (by cases h), ?_⟩
        refine (CallsIn.inRound l' ((callsIn_wide (n := m - 1)).2 (isKey_c x W'))).mono ?_
        rintro e W4 ⟨rfl, rfl⟩
        rw [HIN.out]
        gi_wp2
        exact ⟨(FIN.out HNO.out).1, rfl, (FIN.out HNO.out).2.2⟩
      | true =>
        have hyes : okAt ks pre.length = true := by rw [HOK.out, HLA.out, hin]; simp; omega
        have HYES := Lib.hid hyes
        have HIN := Lib.hid hin
        clear hyes hin
        gi_wp2
        refine ⟨trivial, fun h => (by cases h), ?_⟩
        refine (CallsIn.inRound l' ((callsIn_wide (n := m - 1)).2 (isKey_c x W'))).mono ?_
        rintro e W4 ⟨rfl, rfl⟩
        rw [HIN.out]
        gi_wp2
        refine ⟨Keep.setCell _ _ _ _ h2, h1, h2, ?_, ?_, fun i hi => ?_⟩
        · rw [set_other _ _ _ _ _ (by omega)]; exact H34.out.1
        · rw [lastOf_snoc]; exact set_blk (.int .i64 x) H34.out.2
        · by_cases hh : i = pre.length
          · rw [hh]; exact HYES.out
          · exact H5.out i (by simp at hi; omega)
  case done =>
    intro W3 hk3 hI hlt hD
    obtain ⟨h1, h2, h3, h4, h5⟩ := hI
    obtain ⟨c3, f3⟩ := box1 h3
    have hyes : sortedB ks = true := sortedB_of h5
    have HYES := Lib.hid hyes
    rw [hs2] at hD
    have HD := Lib.hid hD
    have H3 := Lib.hid h3
    clear h3 h4 h5 hyes hD
    gi_wp2
    have hD2 : (W3.setCell ⟨w.heap.size, 0, none⟩ (.bool true)).heap[w.heap.size + 2]? = some (.deferred (some [])) := by rw [set_other _ _ _ _ _ (by omega)]; exact HD.out
    have hc2 := (box1 (set_blk (o := 0) (.bool true) H3.out)).1
    refine ⟨by simp, .inl ⟨_, _, rfl, run_takeDeferred hD2, ?_⟩⟩
    obtain ⟨W5, hW5⟩ : ∃ W5, W5 = ((W3.setCell ⟨w.heap.size, 0, none⟩ (.bool true)).putObj (w.heap.size + 2) (.deferred none)) := ⟨_, rfl⟩
    have hc5 : W5.cell? ⟨w.heap.size, 0, none⟩ = some (.bool true) := by rw [hW5]; exact (cell_of_blk (World.putObj_heap_other (by omega))).trans hc2
    have hk5 : Keep (fun k => k < w.heap.size) W3 W5 := by rw [hW5]; exact (Keep.setCell _ _ _ _ (by simp)).trans (Keep.putObj _ _ _ _ (by omega))
    rw [← hW5]
    exact ⟨.bool true, by simp [results, Tryd.results133, go_sem, hc5], by rw [HYES.out], (((hk2 _).trans hk3).trans hk5).below (Nat.le_refl _) (fun k h => h)⟩
  case stop =>
    rintro c pre' W3 hk3 hp ⟨rfl, h1, h3, h5⟩ hlt hD
    rw [hs2] at hD
    have H5 := Lib.hid h5
    have H3 := Lib.hid h3
    clear h5 h3
    gi_wp2
    refine ⟨by simp, .inl ⟨_, _, rfl, run_takeDeferred hD, ?_⟩⟩
    obtain ⟨W5, hW5⟩ : ∃ W5, W5 = W3.putObj (w.heap.size + 2) (.deferred none) := ⟨_, rfl⟩
    have hc5 : W5.cell? ⟨w.heap.size, 0, none⟩ = some (.bool false) := by rw [hW5]; exact (cell_of_blk (World.putObj_heap_other (by omega))).trans (box1 H3.out).1
    have hk5 : Keep (fun k => k < w.heap.size) W3 W5 := by rw [hW5]; exact Keep.putObj _ _ _ _ (by omega)
    rw [← hW5]
    exact ⟨.bool false, by simp [results, Tryd.results133, go_sem, hc5], by rw [H5.out], (((hk2 _).trans hk3).trans hk5).below (Nat.le_refl _) (fun k h => h)⟩
end Go.Proofs.YticfkfjijnfcbaaDoor

/- The law on TreeValid: the walk over the contracts. -/
namespace Go.Proofs.YticfkfjijnfcbaaDoor
open Go.RowKit

/-- What the program's TreeValid is to do. -/
def ImplTreeValid : Prop := ∀ (w0 : World) (B : Nat) (kv cv : Value) (t : Tr) (n : Int), TreeIn w0 B kv cv t → t.weight ≤ 1048576 → -9223372036854775808 ≤ n → n ≤ 9223372036854775807 → ∀ w', Below B w0 w' → B ≤ w'.heap.size →
  Calls Tryd.prog 116 #[.agg #[kv, cv], .int .i64 n] w' fun e w'' => e = .returned (.bool (Tr.validB n t)) ∧ Below w'.heap.size w' w''


-- END

end Go.Proofs.YticfkfjijnfcbaaDoor

/- The contract of the program's TreeValid. -/
namespace Go.Proofs.YticfkfjijnfcbaaDoor
open Go.RowKit

set_option maxRecDepth 100000 in
set_option maxHeartbeats 2000000 in
theorem impl_valid : ImplTreeValid := by
  intro w0 B kv cv t n ht hwt hn1 hn2 w' hbw hB
  cases t with
  | mk ks cs =>
    have ht' := ht.later hbw (Nat.le_refl _)
    obtain ⟨a5, n5, m5, a6, n6, m6, rfl, rfl⟩ := ht.slices
    obtain ⟨a, cap, kvs, cvs, hcv, hk, hlen, hcap, hat, hkids⟩ := ht.parts
    simp only [Value.slice.injEq] at hcv
    obtain ⟨rfl, rfl, rfl⟩ := hcv
    clear hk hlen hcap hat hkids ht hbw
    obtain ⟨W1, hW1⟩ : ∃ W1, W1 = w'.alloc (.cells #[.slice a5 n5 m5, .slice a6 cs.length m6] 33) := ⟨_, rfl⟩
    have hs1 : W1.heap.size = w'.heap.size + 1 := by rw [hW1]; simp
    have hb1 : Below w'.heap.size w' W1 := by rw [hW1]; exact (Below.refl _ _).alloc (Nat.le_refl _) _
    have kb : W1.heap[w'.heap.size]? = some (.cells #[.slice a5 n5 m5, .slice a6 cs.length m6] 33 (0, 0)) := by rw [hW1, new_blk]
    have ht1 : TreeIn W1 W1.heap.size (.slice a5 n5 m5) (.slice a6 cs.length m6) (.mk ks cs) := (ht'.later hb1 hB).wider (by omega)
    obtain ⟨x1, x2, x3, x4⟩ := box2 kb
    have HT1 := Lib.hid ht1
    have HW1 := Lib.hid hW1
    have HB1 := Lib.hid (And.intro hb1 kb)
    have hval0 : inB n 2 6 = false → Tr.validB n (.mk ks cs) = false := fun h => by simp only [Tr.validB, h]; rfl
    have HV0 := Lib.hid hval0
    clear ht' ht1 hW1 hb1 kb hval0
    by_cases hwd : 2 ≤ n ∧ n ≤ 6
    · have hin := inB_true hwd.1 hwd.2
      have hval := even_valid hwd.1 hwd.2 ks cs
      have hel := Tr.evenD_le n 6 ((min cs.length 1 : Nat) : Int) (.mk ks cs)
      have hc := evenDepth_c n hwd.1 hwd.2 6 (Nat.le_refl _) HT1.out hwt w'.heap.size 0 ((min cs.length 1 : Nat) : Int) (by omega) (by omega) x1 x2 (by omega) W1 (Below.refl _ _) (Nat.le_refl _)
      generalize Tr.evenD n 6 ((min cs.length 1 : Nat) : Int) (.mk ks cs) = E at hval hel hc
      obtain ⟨EI, hEI⟩ : ∃ EI : Int, EI = (E : Int) := ⟨_, rfl⟩
      rw [← hEI] at hc
      have HEI := Lib.hid hEI
      clear hEI
      have HIN := Lib.hid hin
      have HVAL := Lib.hid hval
      have HC := Lib.hid hc
      clear hin hval hc
      go_enter Tryd.func116, Tryd.ntmps116
      go_wp2_with fail
      rw [← HW1.out]
      refine (isWide_c n W1).mono ?_
      rintro e w1 ⟨rfl, rfl⟩
      rw [HIN.out]
      rcases Nat.lt_or_ge cs.length 2 with h0 | h1
      · have h0' : ((cs.length : Nat) : Int) ≤ 1 := by omega
        have H0 := Lib.hid h0
        clear h0
        go_wp2_with fail
        have hc' := HC.out
        have e9 : ((min cs.length 1 : Nat) : Int) = (cs.length : Int) := by omega
        rw [e9] at hc'
        refine hc'.mono ?_
        clear hc' e9
        rintro e w2 ⟨rfl, hb2⟩
        have hs2 := hb2.size
        have kb2 := (hb2.block w'.heap.size (by omega)).trans HB1.out.2
        clear x1 x2 x3 x4
        obtain ⟨x1, x2, x3, x4⟩ := box2 kb2
        have HB2 := Lib.hid hb2
        clear hb2 kb2
        by_cases hE : E = 0
        · have hv : Tr.validB n (.mk ks cs) = false := by rw [HVAL.out, hE]; rfl
          have hE' : ¬ (0 : Int) < EI := by rw [HEI.out, hE]; decide
          have HV := Lib.hid hv
          clear hv hE
          go_wp2_with fail
          go_ret
          exact ⟨ret_bool HV.out.symm, HB1.out.1.trans (HB2.out.mono (by omega))⟩
        · have hv : Tr.validB n (.mk ks cs) = sortedB (Tr.mk ks cs).keys := by rw [HVAL.out, decide_eq_true (by omega), Bool.true_and]
          have hE' : (0 : Int) < EI := by rw [HEI.out]; omega
          have HV := Lib.hid hv
          have HE := Lib.hid hE
          clear hv hE
          go_wp2_with fail
          refine (plant_c HT1.out hwt w2 HB2.out hs2).mono ?_
          rintro e w3 ⟨nb, rfl, hnd, hb3⟩
          have hs3 := hb3.size
          have HND := Lib.hid hnd
          have HB3 := Lib.hid hb3
          clear hnd hb3 x1 x2 x3 x4
          go_wp2_with fail
          refine (ascend_c (enters_of Tryd.func101 (by kernel_rfl) rfl) (inOrder_iter HND.out hwt (Nat.le_refl _)) (fun k h => h.2)).mono ?_
          rintro e w4 ⟨rfl, hb4⟩
          have HB4 := Lib.hid hb4
          clear hb4
          go_wp2_with fail
          go_ret
          exact ⟨ret_bool HV.out.symm, HB1.out.1.trans ((HB2.out.mono (by omega)).trans ((HB3.out.mono (by omega)).trans (HB4.out.mono (by omega))))⟩
      · have h1' : (1 : Int) < ((cs.length : Nat) : Int) := by omega
        have H1 := Lib.hid h1
        clear h1
        go_wp2_with fail
        have hc' := HC.out
        have e9 : ((min cs.length 1 : Nat) : Int) = 1 := by omega
        rw [e9] at hc'
        refine hc'.mono ?_
        clear hc' e9
        rintro e w2 ⟨rfl, hb2⟩
        have hs2 := hb2.size
        have kb2 := (hb2.block w'.heap.size (by omega)).trans HB1.out.2
        clear x1 x2 x3 x4
        obtain ⟨x1, x2, x3, x4⟩ := box2 kb2
        have HB2 := Lib.hid hb2
        clear hb2 kb2
        by_cases hE : E = 0
        · have hv : Tr.validB n (.mk ks cs) = false := by rw [HVAL.out, hE]; rfl
          have hE' : ¬ (0 : Int) < EI := by rw [HEI.out, hE]; decide
          have HV := Lib.hid hv
          clear hv hE
          go_wp2_with fail
          go_ret
          exact ⟨ret_bool HV.out.symm, HB1.out.1.trans (HB2.out.mono (by omega))⟩
        · have hv : Tr.validB n (.mk ks cs) = sortedB (Tr.mk ks cs).keys := by rw [HVAL.out, decide_eq_true (by omega), Bool.true_and]
          have hE' : (0 : Int) < EI := by rw [HEI.out]; omega
          have HV := Lib.hid hv
          have HE := Lib.hid hE
          clear hv hE
          go_wp2_with fail
          refine (plant_c HT1.out hwt w2 HB2.out hs2).mono ?_
          rintro e w3 ⟨nb, rfl, hnd, hb3⟩
          have hs3 := hb3.size
          have HND := Lib.hid hnd
          have HB3 := Lib.hid hb3
          clear hnd hb3 x1 x2 x3 x4
          go_wp2_with fail
          refine (ascend_c (enters_of Tryd.func101 (by kernel_rfl) rfl) (inOrder_iter HND.out hwt (Nat.le_refl _)) (fun k h => h.2)).mono ?_
          rintro e w4 ⟨rfl, hb4⟩
          have HB4 := Lib.hid hb4
          clear hb4
          go_wp2_with fail
          go_ret
          exact ⟨ret_bool HV.out.symm, HB1.out.1.trans ((HB2.out.mono (by omega)).trans ((HB3.out.mono (by omega)).trans (HB4.out.mono (by omega))))⟩
    · have hin := inB_false hwd
      have HIN := Lib.hid hin
      clear hin
      go_enter Tryd.func116, Tryd.ntmps116
      go_wp2_with fail
      rw [← HW1.out]
      refine (isWide_c n W1).mono ?_
      rintro e w1 ⟨rfl, rfl⟩
      rw [HIN.out]
      go_wp2_with fail
      go_ret
      exact ⟨ret_bool (HV0.out HIN.out).symm, HB1.out.1⟩
end Go.Proofs.YticfkfjijnfcbaaDoor

/- Whether a tree is valid for some width: the program. -/
namespace Go.Proofs.YticfkfjijnfcbaaDoor
open Go.RowKit

set_option maxRecDepth 100000 in
set_option maxHeartbeats 1000000 in
theorem validForSome_c {w : World} {B : Nat} {kv cv : Value} {t : Tr} (ht : TreeIn w B kv cv t) (hw : t.weight ≤ 1048576) (w' : World) (hbw : Below B w w') (hB : B ≤ w'.heap.size) :
    Calls Tryd.prog 86 #[.agg #[kv, cv]] w' fun e w'' => e = .returned (.bool t.someB) ∧ Below w'.heap.size w' w'' := by
  obtain ⟨a5, n5, m5, a6, n6, m6, rfl, rfl⟩ := ht.slices
  obtain ⟨W1, hW1⟩ : ∃ W1, W1 = w'.alloc (.cells #[.slice a5 n5 m5, .slice a6 n6 m6] 33) := ⟨_, rfl⟩
  have hs1 : W1.heap.size = w'.heap.size + 1 := by rw [hW1]; simp
  have hb1 : Below w'.heap.size w' W1 := by rw [hW1]; exact (Below.refl _ _).alloc (Nat.le_refl _) _
  have kb : W1.heap[w'.heap.size]? = some (.cells #[.slice a5 n5 m5, .slice a6 n6 m6] 33 (0, 0)) := by rw [hW1, new_blk]
  have HT := Lib.hid ht
  have HBW := Lib.hid hbw
  have HW1 := Lib.hid hW1
  have H1 := Lib.hid (And.intro hb1 kb)
  have hsb := someB_of t
  have HSB := Lib.hid hsb
  clear ht hbw hW1 hb1 kb hsb
  go_enter Tryd.func86, Tryd.ntmps86
  go_wp2_with fail
  rw [← HW1.out]
  go_loopw [3] (fun i wr => ∃ (j : Nat), 2 ≤ j ∧ j ≤ 7 ∧ i = .int .i64 j ∧ (∀ q : Nat, 2 ≤ q → q < j → Tr.validB q t = false) ∧ Below W1.heap.size W1 wr) (fun i _ => 7 - (intOf i).toNat)
  case atStart => exact ⟨2, Nat.le_refl _, by omega, rfl, fun q h1 h2 => by omega, Below.refl _ _⟩
  case round =>
    obtain ⟨j, hj2, hj7, rfl, hall, hbel⟩ := hrel
    have hsr := hbel.size
    obtain ⟨x1, x2, x3, x4⟩ := box2 ((hbel.block w'.heap.size (by omega)).trans H1.out.2)
    have HALL := Lib.hid hall
    have HBEL := Lib.hid hbel
    clear hall hbel
    by_cases hlt : j ≤ 6
    · have hlt' : (j : Int) ≤ 6 := by omega
      go_wp2_with fail
      refine (impl_valid _ _ _ _ _ (j : Int) HT.out hw (by omega) (by omega) wr (HBW.out.trans ((H1.out.1.mono hB).trans (HBEL.out.mono (by omega)))) (by omega)).mono ?_
      rintro e w2 ⟨rfl, hb2⟩
      have HB2 := Lib.hid (HBEL.out.trans (hb2.mono hsr))
      clear hb2
      cases hv : Tr.validB j t with
      | true =>
        have hso := HSB.out.1 j hj2 (by omega) hv
        have HSO := Lib.hid hso
        have HV := Lib.hid hv
        clear hso hv
        go_wp2_with fail
        go_ret
        exact ⟨ret_bool HSO.out.symm, H1.out.1.trans (HB2.out.mono (by omega))⟩
      | false =>
        have HV := Lib.hid hv
        clear hv
        go_wp2_with fail
        go_roundw
        case rel =>
          refine ⟨j + 1, by omega, by omega, by go_num, fun q h1 h2 => ?_, HB2.out⟩
          by_cases hq : q = j
          · rw [hq]; exact HV.out
          · exact HALL.out q h1 (by omega)
        case measure => simp [intOf]; omega
    · have hlt' : ¬ (j : Int) ≤ 6 := by omega
      have hso := HSB.out.2 (fun q h1 h2 => HALL.out q h1 (by omega))
      have HSO := Lib.hid hso
      clear hso
      go_wp2_with fail
      go_ret
      exact ⟨ret_bool HSO.out.symm, H1.out.1.trans (HBEL.out.mono (by omega))⟩
end Go.Proofs.YticfkfjijnfcbaaDoor
