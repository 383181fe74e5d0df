/- The program's count of black nodes over a copy in new memory. -/
import Derived.Test.YtodcapgmhginoaaProg
import Derived.Test.YtodcapgmhginoaaBvS0
import Derived.Test.YtodcapgmhginoaaBvS2
import Derived.Test.YtodcapgmhginoaaBvS3
import Derived.Test.YtodcapgmhginoaaBvS4
import Derived.WalkKit
namespace Go.Proofs.Ytodcapgmhginoaa
open Go.RowKit

set_option maxHeartbeats 2000000 in
theorem blacksOfNode_c {w : World} {nb no h : Nat} {key : Int} {red : Bool} {a b : Bt} (c1 : w.cell? ⟨nb, no + 1, none⟩ = some (.bool red)) (c2 : w.cell? ⟨nb, no + 2, none⟩ = some (.slice (some ⟨h, 0, none⟩) 2 2))
    (d1 : w.cell? ⟨h, 1, none⟩ = some (.bool a.red)) (d2 : w.cell? ⟨h, 4, none⟩ = some (.bool b.red))
    (HA : ∀ (L : Int), 0 ≤ L → L ≤ 1000 → ∀ W, Below w.heap.size w W → Calls Try.prog 86 #[.pointer (some ⟨h, 0, none⟩), .int .i64 L] W fun e W' => e = .returned (.int .i64 (a.blk L)) ∧ Below W.heap.size W W')
    (HB : ∀ (L : Int), 0 ≤ L → L ≤ 1000 → ∀ W, Below w.heap.size w W → Calls Try.prog 86 #[.pointer (some ⟨h, 3, none⟩), .int .i64 L] W fun e W' => e = .returned (.int .i64 (b.blk L)) ∧ Below W.heap.size W W')
    (L : Int) (h0 : 0 ≤ L) (h1 : L ≤ 1000) (W : World) (hW : Below w.heap.size w W) :
    Calls Try.prog 111 #[.pointer (some ⟨nb, no, none⟩), .int .i64 L] W fun e W' => e = .returned (.int .i64 ((Bt.mk key red [a, b]).blk L)) ∧ Below W.heap.size W W' := by
  have hc : ∀ (b o : Nat) (v : Value), w.cell? ⟨b, o, none⟩ = some v → ∀ W', Below w.heap.size w W' → W'.cell? ⟨b, o, none⟩ = some v := fun b o v hv W' hb => by rw [below_cell hb (World.block_lt_of_cell? w _ hv)]; exact hv
  have C2 := Lib.hid (fun W' hb => hc _ _ _ c2 W' hb)
  have q1 := hc _ _ _ c1 W hW
  have q2 := hc _ _ _ c2 W hW
  have p1 := hc _ _ _ d1 W hW
  have p2 := hc _ _ _ d2 W hW
  rw [Bt.blk_node]
  obtain ⟨ra, hra⟩ : ∃ r, r = a.red := ⟨_, rfl⟩
  obtain ⟨rb, hrb⟩ : ∃ r, r = b.red := ⟨_, rfl⟩
  rw [← hra] at p1 ⊢
  rw [← hrb] at p2 ⊢
  have HA' := Lib.hid HA
  have HB' := Lib.hid HB
  have HW := Lib.hid hW
  have hAl := fun L hL => Bt.blk_hi L a hL
  have hAo := fun L => Bt.blk_lo L a
  have hBo := fun L => Bt.blk_lo L b
  have HB0 := Lib.hid (And.intro hAl (And.intro hAo hBo))
  clear hc c1 c2 d1 d2 HA HB hW hra hrb hAl hAo hBo
  cases red with
  | false =>
    by_cases hL : L < 1
    · rw [if_pos (.inl ⟨rfl, hL⟩)]
      have hg : decide ((1 : Int) > L) = true := by simp; omega
      have hL' : L < 1 := hL
      go_enter Try.func111, Try.ntmps111
      go_wp2_with fail
      go_ret
      exact ⟨rfl, Below.refl _ _⟩
    · rw [if_neg (by simp; omega)]
      simp only [Bool.false_eq_true, if_false]
      obtain ⟨A, hA⟩ : ∃ A, A = a.blk (L - 1) := ⟨_, rfl⟩
      obtain ⟨B, hB⟩ : ∃ B, B = b.blk (L - 1) := ⟨_, rfl⟩
      have hA1 := HB0.out.1 (L - 1) (by omega)
      have hA2 := HB0.out.2.1 (L - 1)
      have hB2 := HB0.out.2.2 (L - 1)
      have hAC := HA'.out (L - 1) (by omega) (by omega) W HW.out
      have hBC := fun W2 hW2 => HB'.out (L - 1) (by omega) (by omega) W2 hW2
      rw [← hA] at hA1 hA2 hAC ⊢
      rw [← hB] at hB2 ⊢
      simp only [← hB] at hBC
      have HAC := Lib.hid hAC
      have HBC := Lib.hid hBC
      clear hA hB hAC hBC
      by_cases hn : A < 0
      · rw [if_pos (.inl hn)]
        go_enter Try.func111, Try.ntmps111
        go_wp2_with fail
        refine HAC.out.mono ?_
        rintro e W2 ⟨rfl, hb2⟩
        have q2 := C2.out W2 (HW.out.trans (hb2.mono HW.out.size))
        have HX := Lib.hid (And.intro hb2 (HW.out.trans (hb2.mono HW.out.size)))
        clear hb2
        go_wp2_with fail
        go_ret
        exact ⟨rfl, HX.out.1⟩
      · by_cases he : B = A
        · have hne : (B != A) = false := by simp [he]
          rw [if_neg (by omega)]
          clear he
          go_enter Try.func111, Try.ntmps111
          go_wp2_with fail
          refine HAC.out.mono ?_
          rintro e W2 ⟨rfl, hb2⟩
          have q2 := C2.out W2 (HW.out.trans (hb2.mono HW.out.size))
          have HX := Lib.hid (And.intro hb2 (HW.out.trans (hb2.mono HW.out.size)))
          clear hb2
          go_wp2_with fail
          refine (HBC.out W2 HX.out.2).mono ?_
          rintro e W3 ⟨rfl, hb3⟩
          have HY := Lib.hid (HX.out.1.trans (hb3.mono HX.out.1.size))
          clear hb3
          go_wp2_with fail
          go_ret
          exact ⟨rfl, HY.out⟩
        · have hne : (B != A) = true := by simp [he]
          rw [if_pos (.inr he)]
          clear he
          go_enter Try.func111, Try.ntmps111
          go_wp2_with fail
          refine HAC.out.mono ?_
          rintro e W2 ⟨rfl, hb2⟩
          have q2 := C2.out W2 (HW.out.trans (hb2.mono HW.out.size))
          have HX := Lib.hid (And.intro hb2 (HW.out.trans (hb2.mono HW.out.size)))
          clear hb2
          go_wp2_with fail
          refine (HBC.out W2 HX.out.2).mono ?_
          rintro e W3 ⟨rfl, hb3⟩
          have HY := Lib.hid (HX.out.1.trans (hb3.mono HX.out.1.size))
          clear hb3
          go_wp2_with fail
          go_ret
          exact ⟨rfl, HY.out⟩
  | true =>
    cases ra with
    | true =>
      rw [if_pos (.inr rfl)]
      go_enter Try.func111, Try.ntmps111
      go_wp2_with fail
      go_ret
      exact ⟨rfl, Below.refl _ _⟩
    | false =>
      cases rb with
      | true =>
        rw [if_pos (.inr rfl)]
        go_enter Try.func111, Try.ntmps111
        go_wp2_with fail
        go_ret
        exact ⟨rfl, Below.refl _ _⟩
      | false =>
        rw [if_neg (by simp)]
        simp only [if_true, Int.sub_zero, Int.add_zero]
        have hL : ¬ (0 > L) := by omega
        obtain ⟨A, hA⟩ : ∃ A, A = a.blk L := ⟨_, rfl⟩
        obtain ⟨B, hB⟩ : ∃ B, B = b.blk L := ⟨_, rfl⟩
        have hA1 := HB0.out.1 L (by omega)
        have hA2 := HB0.out.2.1 L
        have hB2 := HB0.out.2.2 L
        have hAC := HA'.out L (by omega) (by omega) W HW.out
        have hBC := fun W2 hW2 => HB'.out L (by omega) (by omega) W2 hW2
        rw [← hA] at hA1 hA2 hAC ⊢
        rw [← hB] at hB2 ⊢
        simp only [← hB] at hBC
        have HAC := Lib.hid hAC
        have HBC := Lib.hid hBC
        clear hA hB hAC hBC
        by_cases hn : A < 0
        · rw [if_pos (.inl hn)]
          go_enter Try.func111, Try.ntmps111
          go_wp2_with fail
          refine HAC.out.mono ?_
          rintro e W2 ⟨rfl, hb2⟩
          have q2 := C2.out W2 (HW.out.trans (hb2.mono HW.out.size))
          have HX := Lib.hid (And.intro hb2 (HW.out.trans (hb2.mono HW.out.size)))
          clear hb2
          go_wp2_with fail
          go_ret
          exact ⟨rfl, HX.out.1⟩
        · by_cases he : B = A
          · have hne : (B != A) = false := by simp [he]
            rw [if_neg (by omega)]
            clear he
            go_enter Try.func111, Try.ntmps111
            go_wp2_with fail
            refine HAC.out.mono ?_
            rintro e W2 ⟨rfl, hb2⟩
            have q2 := C2.out W2 (HW.out.trans (hb2.mono HW.out.size))
            have HX := Lib.hid (And.intro hb2 (HW.out.trans (hb2.mono HW.out.size)))
            clear hb2
            go_wp2_with fail
            refine (HBC.out W2 HX.out.2).mono ?_
            rintro e W3 ⟨rfl, hb3⟩
            have HY := Lib.hid (HX.out.1.trans (hb3.mono HX.out.1.size))
            clear hb3
            go_wp2_with fail
            go_ret
            exact ⟨rfl, HY.out⟩
          · have hne : (B != A) = true := by simp [he]
            rw [if_pos (.inr he)]
            clear he
            go_enter Try.func111, Try.ntmps111
            go_wp2_with fail
            refine HAC.out.mono ?_
            rintro e W2 ⟨rfl, hb2⟩
            have q2 := C2.out W2 (HW.out.trans (hb2.mono HW.out.size))
            have HX := Lib.hid (And.intro hb2 (HW.out.trans (hb2.mono HW.out.size)))
            clear hb2
            go_wp2_with fail
            refine (HBC.out W2 HX.out.2).mono ?_
            rintro e W3 ⟨rfl, hb3⟩
            have HY := Lib.hid (HX.out.1.trans (hb3.mono HX.out.1.size))
            clear hb3
            go_wp2_with fail
            go_ret
            exact ⟨rfl, HY.out⟩

set_option maxHeartbeats 2000000 in
theorem blacks_c {w : World} {lo : Nat} {cv : Value} {t : Bt} (h : BinNew w lo cv t) : ∀ (nb no : Nat), w.cell? ⟨nb, no, none⟩ = some (.int .i64 t.key) → w.cell? ⟨nb, no + 1, none⟩ = some (.bool t.red) → w.cell? ⟨nb, no + 2, none⟩ = some cv →
    ∀ (L : Int), 0 ≤ L → L ≤ 1000 → ∀ W, Below w.heap.size w W → Calls Try.prog 86 #[.pointer (some ⟨nb, no, none⟩), .int .i64 L] W fun e W' => e = .returned (.int .i64 (t.blk L)) ∧ Below W.heap.size W W' := by
  induction h with
  | mk key red cs h kvs rvs cvs hh hc hkr hkids ih =>
    rcases cs with _ | ⟨a, _ | ⟨b, _ | ⟨z, r⟩⟩⟩
    · intro nb no c0 c1 c2 L h0 h1 W hW
      have hcc : ∀ (b o : Nat) (v : Value), w.cell? ⟨b, o, none⟩ = some v → W.cell? ⟨b, o, none⟩ = some v := fun b o v hv => by rw [below_cell hW (World.block_lt_of_cell? w _ hv)]; exact hv
      have q0 : W.cell? ⟨nb, no, none⟩ = some (.int .i64 key) := hcc _ _ _ c0
      have q1 : W.cell? ⟨nb, no + 1, none⟩ = some (.bool red) := hcc _ _ _ c1
      have q2 := hcc _ _ _ c2
      have hb : (Bt.mk key red []).blk L = if red = true ∨ key ≠ 0 then -1 else 0 := by
        unfold Bt.blk; simp only [Bt.shape]
        cases red <;> by_cases hk : key = 0 <;> simp [hk] <;> omega
      rw [hb]
      clear hb ih hc hkr hkids c0 c1 c2 hcc
      have hW0 := Lib.hid hW
      clear hW
      simp only [List.length_nil] at q2 ⊢
      cases red with
      | true =>
        rw [if_pos (.inl rfl)]
        go_enter Try.func86, Try.ntmps86
        go_wp2_with fail
        go_ret
        exact ⟨rfl, Below.refl _ _⟩
      | false =>
        by_cases hk : key = 0
        · have hz : (key != 0) = false := by simp [hk]
          rw [if_neg (by simp [hk])]
          clear hk
          go_enter Try.func86, Try.ntmps86
          go_wp2_with fail
          go_ret
          exact ⟨rfl, Below.refl _ _⟩
        · have hz : (key != 0) = true := by simp [hk]
          rw [if_pos (.inr hk)]
          go_enter Try.func86, Try.ntmps86
          go_wp2_with fail
          go_ret
          exact ⟨rfl, Below.refl _ _⟩
    · intro nb no c0 c1 c2 L h0 h1 W hW
      have hcc : ∀ (b o : Nat) (v : Value), w.cell? ⟨b, o, none⟩ = some v → W.cell? ⟨b, o, none⟩ = some v := fun b o v hv => by rw [below_cell hW (World.block_lt_of_cell? w _ hv)]; exact hv
      have q0 : W.cell? ⟨nb, no, none⟩ = some (.int .i64 key) := hcc _ _ _ c0
      have q1 : W.cell? ⟨nb, no + 1, none⟩ = some (.bool red) := hcc _ _ _ c1
      have q2 := hcc _ _ _ c2
      have hb : (Bt.mk key red [a]).blk L = -1 := Bt.blk_none (by simp [Bt.shape]) L
      rw [hb]
      clear hb ih hc hkr hkids c0 c1 c2 hcc hW
      simp only [List.length_cons, List.length_nil, Nat.zero_add, Nat.reduceAdd] at q2 ⊢
      go_enter Try.func86, Try.ntmps86
      go_wp2_with fail
      go_ret
      exact ⟨rfl, Below.refl _ _⟩
    · intro nb no c0 c1 c2 L h0 h1 W hW
      have hcc : ∀ (b o : Nat) (v : Value), w.cell? ⟨b, o, none⟩ = some v → W.cell? ⟨b, o, none⟩ = some v := fun b o v hv => by rw [below_cell hW (World.block_lt_of_cell? w _ hv)]; exact hv
      have q0 : W.cell? ⟨nb, no, none⟩ = some (.int .i64 key) := hcc _ _ _ c0
      have q1 : W.cell? ⟨nb, no + 1, none⟩ = some (.bool red) := hcc _ _ _ c1
      have q2 := hcc _ _ _ c2
      have a0 := hc.cell (i := 0 * 3) (by simp)
      have a1 := hc.cell (i := 0 * 3 + 1) (by simp)
      have a2 := hc.cell (i := 0 * 3 + 2) (by simp)
      have b0 := hc.cell (i := 1 * 3) (by simp)
      have b1 := hc.cell (i := 1 * 3 + 1) (by simp)
      have b2 := hc.cell (i := 1 * 3 + 2) (by simp)
      rw [tri_0, (hkr 0 (by simp)).1] at a0
      rw [tri_1, (hkr 0 (by simp)).2] at a1
      rw [tri_2] at a2
      rw [tri_0, (hkr 1 (by simp)).1] at b0
      rw [tri_1, (hkr 1 (by simp)).2] at b1
      rw [tri_2] at b2
      have hN := blacksOfNode_c c1 c2 a1 b1 (fun L g0 g1 W' hW' => ih 0 (by simp) h 0 a0 a1 a2 L g0 g1 W' hW') (fun L g0 g1 W' hW' => ih 1 (by simp) h 3 b0 b1 b2 L g0 g1 W' hW') L h0 h1 W hW (key := key)
      have HN := Lib.hid hN
      clear hN ih hc hkr hkids c0 c1 c2 hcc hW a0 a1 a2 b0 b1 b2
      simp only [List.length_cons, List.length_nil, Nat.zero_add, Nat.reduceAdd] at q2 ⊢
      go_enter Try.func86, Try.ntmps86
      go_wp2_with fail
      refine HN.out.mono ?_
      rintro e W2 ⟨rfl, hb2⟩
      have HX := Lib.hid hb2
      clear hb2
      go_wp2_with fail
      go_ret
      exact ⟨rfl, HX.out⟩
    · intro nb no c0 c1 c2 L h0 h1 W hW
      have hcc : ∀ (b o : Nat) (v : Value), w.cell? ⟨b, o, none⟩ = some v → W.cell? ⟨b, o, none⟩ = some v := fun b o v hv => by rw [below_cell hW (World.block_lt_of_cell? w _ hv)]; exact hv
      have q0 : W.cell? ⟨nb, no, none⟩ = some (.int .i64 key) := hcc _ _ _ c0
      have q1 : W.cell? ⟨nb, no + 1, none⟩ = some (.bool red) := hcc _ _ _ c1
      have q2 := hcc _ _ _ c2
      have hb : (Bt.mk key red (a :: b :: z :: r)).blk L = -1 := Bt.blk_none (by simp [Bt.shape]) L
      rw [hb]
      obtain ⟨n, hn⟩ : ∃ n : Nat, n = (a :: b :: z :: r).length := ⟨_, rfl⟩
      have hn3 : 3 ≤ n := by rw [hn]; simp
      have e0 : ((n : Int) == 0) = false := by simp; omega
      have e2 : ((n : Int) == 2) = false := by simp; omega
      rw [← hn] at q2
      clear hb ih hc hkr hkids c0 c1 c2 hcc hW hn
      go_enter Try.func86, Try.ntmps86
      go_wp2_with fail
      go_ret
      exact ⟨rfl, Below.refl _ _⟩
end Go.Proofs.Ytodcapgmhginoaa
