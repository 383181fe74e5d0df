/- Whether a tree is valid for some width: the model. -/
import Derived.Test.YtepkigcbjepbpaaProg
import Derived.Test.YtepkigcbjepbpaaDk0
import Derived.Test.YtepkigcbjepbpaaDk5
import Derived.Test.YtepkigcbjepbpaaDk6
import Derived.Test.YtepkigcbjepbpaaDk3
import Derived.Deep.RegionHeld3
import Derived.Test.YtepkigcbjepbpaaDk1
import Derived.WalkKit

/- The law on TreeValid: the walk over the contracts. -/
namespace Go.Proofs.Ytepkigcbjepbpaa
open Go.RowKit

/-- What the program's TreeValid is to do. -/
def ImplTreeValid : Prop := ∀ (w0 : World) (B : Nat) (kv cv : Value) (t : Tr) (n : Int), TreeIn w0 B kv cv t → t.weight ≤ 1048576 → -9223372036854775808 ≤ n → n ≤ 9223372036854775807 → ∀ w', Below B w0 w' → B ≤ w'.heap.size →
  Calls Try.prog 37 #[.agg #[kv, cv], .int .i64 n] w' fun e w'' => e = .returned (.bool (Tr.validB n t)) ∧ Below w'.heap.size w' w''


-- END

end Go.Proofs.Ytepkigcbjepbpaa

/- The contract of the program's TreeValid. -/
namespace Go.Proofs.Ytepkigcbjepbpaa
open Go.RowKit

set_option maxRecDepth 100000 in
set_option maxHeartbeats 2000000 in
theorem impl_valid : ImplTreeValid := by
  intro w0 B kv cv t n ht hwt hn1 hn2 w' hbw hB
  cases t with
  | mk ks cs =>
    have ht' := ht.later hbw (Nat.le_refl _)
    obtain ⟨a5, n5, m5, a6, n6, m6, rfl, rfl⟩ := ht.slices
    obtain ⟨a, cap, kvs, cvs, hcv, hk, hlen, hcap, hat, hkids⟩ := ht.parts
    simp only [Value.slice.injEq] at hcv
    obtain ⟨rfl, rfl, rfl⟩ := hcv
    clear hk hlen hcap hat hkids ht hbw
    obtain ⟨W1, hW1⟩ : ∃ W1, W1 = w'.alloc (.cells #[.slice a5 n5 m5, .slice a6 cs.length m6] 29) := ⟨_, rfl⟩
    have hs1 : W1.heap.size = w'.heap.size + 1 := by rw [hW1]; simp
    have hb1 : Below w'.heap.size w' W1 := by rw [hW1]; exact (Below.refl _ _).alloc (Nat.le_refl _) _
    have kb : W1.heap[w'.heap.size]? = some (.cells #[.slice a5 n5 m5, .slice a6 cs.length m6] 29 (0, 0)) := by rw [hW1, new_blk]
    have ht1 : TreeIn W1 W1.heap.size (.slice a5 n5 m5) (.slice a6 cs.length m6) (.mk ks cs) := (ht'.later hb1 hB).wider (by omega)
    obtain ⟨x1, x2, x3, x4⟩ := box2 kb
    have HT1 := Lib.hid ht1
    have HW1 := Lib.hid hW1
    have HB1 := Lib.hid (And.intro hb1 kb)
    have hval0 : inB n 2 6 = false → Tr.validB n (.mk ks cs) = false := fun h => by simp only [Tr.validB, h]; rfl
    have HV0 := Lib.hid hval0
    clear ht' ht1 hW1 hb1 kb hval0
    by_cases hwd : 2 ≤ n ∧ n ≤ 6
    · have hin := inB_true hwd.1 hwd.2
      have hval := even_valid hwd.1 hwd.2 ks cs
      have hel := Tr.evenD_le n 6 ((min cs.length 1 : Nat) : Int) (.mk ks cs)
      have hc := evenDepth_c n hwd.1 hwd.2 6 (Nat.le_refl _) HT1.out hwt w'.heap.size 0 ((min cs.length 1 : Nat) : Int) (by omega) (by omega) x1 x2 (by omega) W1 (Below.refl _ _) (Nat.le_refl _)
      generalize Tr.evenD n 6 ((min cs.length 1 : Nat) : Int) (.mk ks cs) = E at hval hel hc
      obtain ⟨EI, hEI⟩ : ∃ EI : Int, EI = (E : Int) := ⟨_, rfl⟩
      rw [← hEI] at hc
      have HEI := Lib.hid hEI
      clear hEI
      have HIN := Lib.hid hin
      have HVAL := Lib.hid hval
      have HC := Lib.hid hc
      clear hin hval hc
      go_enter Try.func37, Try.ntmps37
      go_wp2_with fail
      rw [← HW1.out]
      refine (isWide_c n W1).mono ?_
      rintro e w1 ⟨rfl, rfl⟩
      rw [HIN.out]
      rcases Nat.lt_or_ge cs.length 2 with h0 | h1
      · have h0' : ((cs.length : Nat) : Int) ≤ 1 := by omega
        have H0 := Lib.hid h0
        clear h0
        go_wp2_with fail
        have hc' := HC.out
        have e9 : ((min cs.length 1 : Nat) : Int) = (cs.length : Int) := by omega
        rw [e9] at hc'
        refine hc'.mono ?_
        clear hc' e9
        rintro e w2 ⟨rfl, hb2⟩
        have hs2 := hb2.size
        have kb2 := (hb2.block w'.heap.size (by omega)).trans HB1.out.2
        clear x1 x2 x3 x4
        obtain ⟨x1, x2, x3, x4⟩ := box2 kb2
        have HB2 := Lib.hid hb2
        clear hb2 kb2
        by_cases hE : E = 0
        · have hv : Tr.validB n (.mk ks cs) = false := by rw [HVAL.out, hE]; rfl
          have hE' : ¬ (0 : Int) < EI := by rw [HEI.out, hE]; decide
          have HV := Lib.hid hv
          clear hv hE
          go_wp2_with fail
          go_ret
          exact ⟨ret_bool HV.out.symm, HB1.out.1.trans (HB2.out.mono (by omega))⟩
        · have hv : Tr.validB n (.mk ks cs) = sortedB (Tr.mk ks cs).keys := by rw [HVAL.out, decide_eq_true (by omega), Bool.true_and]
          have hE' : (0 : Int) < EI := by rw [HEI.out]; omega
          have HV := Lib.hid hv
          have HE := Lib.hid hE
          clear hv hE
          go_wp2_with fail
          refine (plant_c HT1.out hwt w2 HB2.out hs2).mono ?_
          rintro e w3 ⟨nb, rfl, hnd, hb3⟩
          have hs3 := hb3.size
          have HND := Lib.hid hnd
          have HB3 := Lib.hid hb3
          clear hnd hb3 x1 x2 x3 x4
          go_wp2_with fail
          refine (ascends_c HND.out hwt (Nat.le_refl _)).mono ?_
          rintro e w4 ⟨rfl, hb4⟩
          have HB4 := Lib.hid hb4
          clear hb4
          go_wp2_with fail
          go_ret
          exact ⟨ret_bool HV.out.symm, HB1.out.1.trans ((HB2.out.mono (by omega)).trans ((HB3.out.mono (by omega)).trans (HB4.out.mono (by omega))))⟩
      · have h1' : (1 : Int) < ((cs.length : Nat) : Int) := by omega
        have H1 := Lib.hid h1
        clear h1
        go_wp2_with fail
        have hc' := HC.out
        have e9 : ((min cs.length 1 : Nat) : Int) = 1 := by omega
        rw [e9] at hc'
        refine hc'.mono ?_
        clear hc' e9
        rintro e w2 ⟨rfl, hb2⟩
        have hs2 := hb2.size
        have kb2 := (hb2.block w'.heap.size (by omega)).trans HB1.out.2
        clear x1 x2 x3 x4
        obtain ⟨x1, x2, x3, x4⟩ := box2 kb2
        have HB2 := Lib.hid hb2
        clear hb2 kb2
        by_cases hE : E = 0
        · have hv : Tr.validB n (.mk ks cs) = false := by rw [HVAL.out, hE]; rfl
          have hE' : ¬ (0 : Int) < EI := by rw [HEI.out, hE]; decide
          have HV := Lib.hid hv
          clear hv hE
          go_wp2_with fail
          go_ret
          exact ⟨ret_bool HV.out.symm, HB1.out.1.trans (HB2.out.mono (by omega))⟩
        · have hv : Tr.validB n (.mk ks cs) = sortedB (Tr.mk ks cs).keys := by rw [HVAL.out, decide_eq_true (by omega), Bool.true_and]
          have hE' : (0 : Int) < EI := by rw [HEI.out]; omega
          have HV := Lib.hid hv
          have HE := Lib.hid hE
          clear hv hE
          go_wp2_with fail
          refine (plant_c HT1.out hwt w2 HB2.out hs2).mono ?_
          rintro e w3 ⟨nb, rfl, hnd, hb3⟩
          have hs3 := hb3.size
          have HND := Lib.hid hnd
          have HB3 := Lib.hid hb3
          clear hnd hb3 x1 x2 x3 x4
          go_wp2_with fail
          refine (ascends_c HND.out hwt (Nat.le_refl _)).mono ?_
          rintro e w4 ⟨rfl, hb4⟩
          have HB4 := Lib.hid hb4
          clear hb4
          go_wp2_with fail
          go_ret
          exact ⟨ret_bool HV.out.symm, HB1.out.1.trans ((HB2.out.mono (by omega)).trans ((HB3.out.mono (by omega)).trans (HB4.out.mono (by omega))))⟩
    · have hin := inB_false hwd
      have HIN := Lib.hid hin
      clear hin
      go_enter Try.func37, Try.ntmps37
      go_wp2_with fail
      rw [← HW1.out]
      refine (isWide_c n W1).mono ?_
      rintro e w1 ⟨rfl, rfl⟩
      rw [HIN.out]
      go_wp2_with fail
      go_ret
      exact ⟨ret_bool (HV0.out HIN.out).symm, HB1.out.1⟩
end Go.Proofs.Ytepkigcbjepbpaa

/- Finding: what the planting of a tree and the making of the iterator over the way down leave. -/
namespace Go.Proofs.Ytepkigcbjepbpaa
open Go.RowKit

/-- What the planting of a tree and the making of the iterator over the way down leave, from block B on. -/
def DownAt (B gf : Nat) (n : Int) (t : Tr) (s : Value) (W : World) : Prop :=
  ∃ lo hi b q bn bf : Nat, s = .func (.func 89) #[] #[.pointer (some ⟨bn, 0, none⟩), .pointer (some ⟨bf, 0, none⟩)] ∧ NodeIn W lo hi b t ∧ B ≤ lo ∧ hi ≤ W.heap.size ∧ B ≤ q ∧ B ≤ bn ∧ B ≤ bf ∧
    W.heap[bn]? = some (.cells #[.pointer (some ⟨b, 0, none⟩)] 71 (0, 0)) ∧
    W.heap[bf]? = some (.cells #[.func (.func gf) #[] #[.pointer (some ⟨q, 0, none⟩)]] 87 (0, 0)) ∧
    W.heap[q]? = some (.cells #[.int .i64 n] 3 (0, 0))

theorem ownsRow_held {w w' : World} {base : Nat} {e : TypeId} {size n : Nat} {v : Value} {xs : List Value} (h : w.ownsRow base e size v n xs) (hb : ∀ k, v.ownBlock = some k → w'.heap[k]? = w.heap[k]?) : w'.ownsRow base e size v n xs := by
  obtain ⟨h1, h2 | ⟨g, cap, cur, hv, hbb, hg, hr⟩⟩ := h
  · exact ⟨h1, .inl h2⟩
  · exact ⟨h1, .inr ⟨g, cap, cur, hv, hbb, (hb g (by rw [hv]; rfl)).trans hg, hr⟩⟩

theorem downAt_mk {B gf : Nat} {n : Int} {t : Tr} {wp w8 wl : World} {nb : Nat} (hB : B ≤ wp.heap.size) (hnd : NodeIn w8 wp.heap.size w8.heap.size nb t) (hl : wl.heap = w8.heap) (hs8 : wp.heap.size ≤ w8.heap.size) :
    DownAt B gf n t (.func (.func 89) #[] #[.pointer (some ⟨(wl.alloc (.cells #[.int .i64 n] 3)).heap.size, 0, none⟩), .pointer (some ⟨(wl.alloc (.cells #[.int .i64 n] 3)).heap.size + 1, 0, none⟩)])
      (((wl.alloc (.cells #[.int .i64 n] 3)).alloc (.cells #[.pointer (some ⟨nb, 0, none⟩)] 71)).alloc (.cells #[.func (.func gf) #[] #[.pointer (some ⟨wl.heap.size, 0, none⟩)]] 87)) := by
  have hls : wl.heap.size = w8.heap.size := by rw [hl]
  refine ⟨wp.heap.size, w8.heap.size, nb, wl.heap.size, _, _, rfl, hnd.same (fun k _ h => ?_), hB, by simp; omega, by omega, by simp; omega, by simp; omega, ?_, ?_, ?_⟩
  · rw [old_blk _ _ _ (by simp <;> omega), old_blk _ _ _ (by simp <;> omega), old_blk _ _ _ (by omega), hl]
  · rw [old_blk _ _ _ (by simp), new_blk]
  · rw [show (wl.alloc (.cells #[.int .i64 n] 3)).heap.size + 1 = ((wl.alloc (.cells #[.int .i64 n] 3)).alloc (.cells #[.pointer (some ⟨nb, 0, none⟩)] 71)).heap.size by simp, new_blk]
  · rw [old_blk _ _ _ (by simp <;> omega), old_blk _ _ _ (by simp), new_blk]
end Go.Proofs.Ytepkigcbjepbpaa

/- Whether a tree is valid for some width: the model. -/
namespace Go.Proofs.Ytepkigcbjepbpaa
open Go.RowKit

/-- Valid for some width. -/
def Tr.someB (t : Tr) : Bool := Tr.validB 2 t || Tr.validB 3 t || Tr.validB 4 t || Tr.validB 5 t || Tr.validB 6 t
theorem someB_of (t : Tr) : (∀ q : Nat, 2 ≤ q → q ≤ 6 → Tr.validB q t = true → t.someB = true) ∧ ((∀ q : Nat, 2 ≤ q → q ≤ 6 → Tr.validB q t = false) → t.someB = false) := by
  constructor
  · intro q h1 h2 h
    have hq : q = 2 ∨ q = 3 ∨ q = 4 ∨ q = 5 ∨ q = 6 := by omega
    unfold Tr.someB
    rcases hq with rfl | rfl | rfl | rfl | rfl
    · have h' : Tr.validB 2 t = true := h
      simp [h']
    · have h' : Tr.validB 3 t = true := h
      simp [h']
    · have h' : Tr.validB 4 t = true := h
      simp [h']
    · have h' : Tr.validB 5 t = true := h
      simp [h']
    · have h' : Tr.validB 6 t = true := h
      simp [h']
  · intro h
    have a2 : Tr.validB 2 t = false := h 2 (by omega) (by omega)
    have a3 : Tr.validB 3 t = false := h 3 (by omega) (by omega)
    have a4 : Tr.validB 4 t = false := h 4 (by omega) (by omega)
    have a5 : Tr.validB 5 t = false := h 5 (by omega) (by omega)
    have a6 : Tr.validB 6 t = false := h 6 (by omega) (by omega)
    unfold Tr.someB
    simp [a2, a3, a4, a5, a6]

set_option maxRecDepth 100000 in
set_option maxHeartbeats 1000000 in
theorem l2Valid_c {w : World} {B : Nat} {kv cv : Value} {t : Tr} (ht : TreeIn w B kv cv t) (hw : t.weight ≤ 1048576) (w' : World) (hbw : Below B w w') (hB : B ≤ w'.heap.size) :
    Calls Try.prog 82 #[.agg #[kv, cv]] w' fun e w'' => e = .returned (.bool t.someB) ∧ Below w'.heap.size w' w'' := by
  obtain ⟨a5, n5, m5, a6, n6, m6, rfl, rfl⟩ := ht.slices
  obtain ⟨W1, hW1⟩ : ∃ W1, W1 = w'.alloc (.cells #[.slice a5 n5 m5, .slice a6 n6 m6] 29) := ⟨_, rfl⟩
  have hs1 : W1.heap.size = w'.heap.size + 1 := by rw [hW1]; simp
  have hb1 : Below w'.heap.size w' W1 := by rw [hW1]; exact (Below.refl _ _).alloc (Nat.le_refl _) _
  have kb : W1.heap[w'.heap.size]? = some (.cells #[.slice a5 n5 m5, .slice a6 n6 m6] 29 (0, 0)) := by rw [hW1, new_blk]
  have HT := Lib.hid ht
  have HBW := Lib.hid hbw
  have HW1 := Lib.hid hW1
  have H1 := Lib.hid (And.intro hb1 kb)
  have hsb := someB_of t
  have HSB := Lib.hid hsb
  clear ht hbw hW1 hb1 kb hsb
  go_enter Try.func82, Try.ntmps82
  go_wp2_with fail
  rw [← HW1.out]
  go_loopw [3] (fun i wr => ∃ (j : Nat), 2 ≤ j ∧ j ≤ 7 ∧ i = .int .i64 j ∧ (∀ q : Nat, 2 ≤ q → q < j → Tr.validB q t = false) ∧ Below W1.heap.size W1 wr) (fun i _ => 7 - (intOf i).toNat)
  case atStart => exact ⟨2, Nat.le_refl _, by omega, rfl, fun q h1 h2 => by omega, Below.refl _ _⟩
  case round =>
    obtain ⟨j, hj2, hj7, rfl, hall, hbel⟩ := hrel
    have hsr := hbel.size
    obtain ⟨x1, x2, x3, x4⟩ := box2 ((hbel.block w'.heap.size (by omega)).trans H1.out.2)
    have HALL := Lib.hid hall
    have HBEL := Lib.hid hbel
    clear hall hbel
    by_cases hlt : j ≤ 6
    · have hlt' : (j : Int) ≤ 6 := by omega
      go_wp2_with fail
      refine (specTreeValid_c HT.out hw (j : Int) wr (HBW.out.trans ((H1.out.1.mono hB).trans (HBEL.out.mono (by omega)))) (by omega)).mono ?_
      rintro e w2 ⟨rfl, hb2⟩
      have HB2 := Lib.hid (HBEL.out.trans (hb2.mono hsr))
      clear hb2
      cases hv : Tr.validB j t with
      | true =>
        have hso := HSB.out.1 j hj2 (by omega) hv
        have HSO := Lib.hid hso
        have HV := Lib.hid hv
        clear hso hv
        go_wp2_with fail
        go_ret
        exact ⟨ret_bool HSO.out.symm, H1.out.1.trans (HB2.out.mono (by omega))⟩
      | false =>
        have HV := Lib.hid hv
        clear hv
        go_wp2_with fail
        go_roundw
        case rel =>
          refine ⟨j + 1, by omega, by omega, by go_num, fun q h1 h2 => ?_, HB2.out⟩
          by_cases hq : q = j
          · rw [hq]; exact HV.out
          · exact HALL.out q h1 (by omega)
        case measure => simp [intOf]; omega
    · have hlt' : ¬ (j : Int) ≤ 6 := by omega
      have hso := HSB.out.2 (fun q h1 h2 => HALL.out q h1 (by omega))
      have HSO := Lib.hid hso
      clear hso
      go_wp2_with fail
      go_ret
      exact ⟨ret_bool HSO.out.symm, H1.out.1.trans (HBEL.out.mono (by omega))⟩
end Go.Proofs.Ytepkigcbjepbpaa
