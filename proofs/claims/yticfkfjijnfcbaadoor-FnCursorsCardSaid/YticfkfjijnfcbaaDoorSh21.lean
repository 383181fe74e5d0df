/- The model's l1Good: a tree is drawn, and a width. -/
import Derived.Test.YticfkfjijnfcbaaDoorProg
import Derived.Test.YticfkfjijnfcbaaDoorSh0
import Derived.Test.YticfkfjijnfcbaaDoorBuild
import Derived.Test.YticfkfjijnfcbaaDoorSh2
import Derived.Test.YticfkfjijnfcbaaDoorSh9
import Derived.Test.YticfkfjijnfcbaaDoorSh20
import Derived.Test.YticfkfjijnfcbaaDoorSh18
import Derived.Test.YticfkfjijnfcbaaDoorSh19

/- The model's l1Build, at every depth. -/
namespace Go.Proofs.YticfkfjijnfcbaaDoor
open Go.RowKit

theorem build_c (B r : Nat) (bs : List Nat) (wide : Nat) (hw1 : 2 ≤ wide) (hw2 : wide ≤ 6) : ∀ (d : Nat), 1 ≤ d → d ≤ 6 → ∀ (w : World) (p : Nat) (v : Value) (ks : List Int) (root : Bool), Rd w B r bs p → p + 8 ^ d ≤ 900000000 →
    IntsP w (fun k => k ≠ r ∧ k < w.heap.size) v ks → ks.length ≤ 100 →
    Calls Tryd.prog 138 #[.pointer (some ⟨r, 0, none⟩), v, .int .i64 wide, .int .i64 d, .bool root] w (Built w B r bs p ks.length d) := by
  intro d
  induction d with
  | zero => intro h; omega
  | succ d ih =>
    intro h1 h6 w p v ks root hr hp hk hl
    by_cases hd : d = 0
    · subst hd
      exact build_base w B r bs p v ks wide root hr hk hl
    · exact build_step B r bs wide d hw1 hw2 (by omega) (by omega) ((d + 1 : Nat) : Int) (by push_cast; rfl) (fun w p v ks a b c e => ih (by omega) (by omega) w p v ks false a b c e) w p v ks root hr hp hk hl
end Go.Proofs.YticfkfjijnfcbaaDoor

/- The model's l1Good: a tree is drawn, and a width. -/
namespace Go.Proofs.YticfkfjijnfcbaaDoor
open Go.RowKit

/-- What drawing a tree and a width leaves. -/
def Gooded (w : World) (B r : Nat) (bs : List Nat) (p : Nat) (e : Ending) (w' : World) : Prop :=
  ∃ (kv cv : Value) (t : Tr) (wide q : Nat), e = .returned (.tuple #[.agg #[kv, cv], .int .i64 wide]) ∧ 2 ≤ wide ∧ wide ≤ 6 ∧ TreeQ w' (fun k => w.heap.size ≤ k ∧ k < w'.heap.size) kv cv t ∧ t.weight ≤ 300000 ∧ Rd w' B r bs q ∧ q ≤ p + 300000 ∧ Only w.heap.size r w w' ∧ (∀ n c, cv = .slice none n c → c = 0)

theorem num_get7 (i : Nat) (h : i < 7) : ∃ n : Nat, ([2, 3, 4, 2, 5, 6, 3] : List Int).getD i 0 = n ∧ 2 ≤ n ∧ n ≤ 6 := by
  rcases i with _ | _ | _ | _ | _ | _ | _ | i
  · exact ⟨2, rfl, by omega, by omega⟩
  · exact ⟨3, rfl, by omega, by omega⟩
  · exact ⟨4, rfl, by omega, by omega⟩
  · exact ⟨2, rfl, by omega, by omega⟩
  · exact ⟨5, rfl, by omega, by omega⟩
  · exact ⟨6, rfl, by omega, by omega⟩
  · exact ⟨3, rfl, by omega, by omega⟩
  · omega
theorem num_get8 (i : Nat) (h : i < 8) : 0 ≤ ([6, 10, 3, 16, 1, 0, 30, 8] : List Int).getD i 0 ∧ ([6, 10, 3, 16, 1, 0, 30, 8] : List Int).getD i 0 ≤ 30 := by
  rcases i with _ | _ | _ | _ | _ | _ | _ | _ | i <;> simp <;> omega

theorem some_depth : ∀ wide, 2 ≤ wide → wide ≤ 6 → ∀ n, n ≤ 30 → ∃ d, 1 ≤ d ∧ d ≤ 6 ∧ lowN wide d ≤ n ∧ n ≤ mostN wide d := by
  intro wide h1 h2 n h3
  have hh : ∀ w ∈ [2, 3, 4, 5, 6], ∀ n ∈ List.range 31, ∃ d ∈ [1, 2, 3, 4, 5, 6], lowN w d ≤ n ∧ n ≤ mostN w d := by decide +kernel
  obtain ⟨d, hd, h4, h5⟩ := hh wide (by simp; omega) n (by simp; omega)
  simp at hd
  exact ⟨d, by omega, by omega, h4, h5⟩

/-- A cell of a block that is known. -/
theorem cell_in {w : World} {b : Nat} {c : Array Value} {t : TypeId} {f : Nat × Nat} (h : w.heap[b]? = some (.cells c t f)) {i : Nat} {v : Value} (hv : c[i]? = some v) : w.cell? ⟨b, i, none⟩ = some v := by
  simpa [World.cell?, h] using hv

set_option maxHeartbeats 2000000 in
set_option maxRecDepth 100000 in
theorem good_c (w : World) (B r : Nat) (bs : List Nat) (p : Nat) (h : Rd w B r bs p) (hp : p ≤ 100000000) :
    Calls Tryd.prog 122 #[.pointer (some ⟨r, 0, none⟩)] w (Gooded w B r bs p) := by
  have hrl := h.lt
  obtain ⟨W1, hW1⟩ : ∃ W1, W1 = (w.alloc (.cells #[.slice none 0 0, .slice none 0 0] 33)).alloc (.cells #[.int .i64 2, .int .i64 3, .int .i64 4, .int .i64 2, .int .i64 5, .int .i64 6, .int .i64 3] 3) := ⟨_, rfl⟩
  have hs1 : W1.heap.size = w.heap.size + 2 := by rw [hW1]; simp
  have hb1 : Below w.heap.size w W1 := by rw [hW1]; exact ((Below.refl _ _).alloc (Nat.le_refl _) _).alloc (by simp) _
  have hr1 : Rd W1 B r bs p := h.later hb1 hrl
  have hk1 : W1.heap[w.heap.size + 1]? = some (.cells #[.int .i64 2, .int .i64 3, .int .i64 4, .int .i64 2, .int .i64 5, .int .i64 6, .int .i64 3] 3 (0, 0)) := by
    rw [hW1, show w.heap.size + 1 = (w.alloc (.cells #[.slice none 0 0, .slice none 0 0] 33)).heap.size by simp, new_blk]
  have hk0 : W1.heap[w.heap.size]? = some (.cells #[.slice none 0 0, .slice none 0 0] 33 (0, 0)) := by rw [hW1, old_blk _ _ _ (by simp), new_blk]
  have HW1 := Lib.hid hW1
  have HX := Lib.hid (And.intro hs1 (And.intro hb1 (And.intro hr1 (And.intro hk1 hk0))))
  clear hW1 hs1 hb1 hr1 hk1 hk0 h
  go_enter Tryd.func122, Tryd.ntmps122
  go_wp2_with fail
  rw [← HW1.out]
  refine (num_c W1 B r bs p (w.heap.size + 1) [2, 3, 4, 2, 5, 6, 3] 7 HX.out.2.2.1 (by omega) (by omega) (by simp) (by simp) (fun i hi => ?_)).mono ?_
  · have hi7 : i < 7 := by simpa using hi
    refine cell_in HX.out.2.2.2.1 ?_
    rcases i with _ | _ | _ | _ | _ | _ | _ | i
    · rfl
    · rfl
    · rfl
    · rfl
    · rfl
    · rfl
    · rfl
    · omega
  rintro e w2 ⟨i, m, hi, rfl, hw2⟩
  obtain ⟨wide, hwd, hwd1, hwd2⟩ := num_get7 i (by simpa using hi)
  rw [hwd]
  have hr2 : Rd w2 B r bs (p + 1) := by rw [hw2]; exact HX.out.2.2.1.picked m
  have ho2 : Only W1.heap.size r W1 w2 := by rw [hw2]; exact Only.picked _ _ _ _ _
  have hk2 := (ho2.block w.heap.size (by have := HX.out.1; omega) (by omega)).trans HX.out.2.2.2.2
  have hz2 := ho2.size
  have hs1 := HX.out.1
  obtain ⟨W3, hW3⟩ : ∃ W3, W3 = w2.alloc (.cells #[.int .i64 6, .int .i64 10, .int .i64 3, .int .i64 16, .int .i64 1, .int .i64 0, .int .i64 30, .int .i64 8] 3) := ⟨_, rfl⟩
  have hs3 : W3.heap.size = w2.heap.size + 1 := by rw [hW3]; simp
  have hb3 : Below w2.heap.size w2 W3 := by rw [hW3]; exact (Below.refl _ _).alloc (Nat.le_refl _) _
  have hr3 : Rd W3 B r bs (p + 1) := hr2.later hb3 (by omega)
  have hk3 : W3.heap[w2.heap.size]? = some (.cells #[.int .i64 6, .int .i64 10, .int .i64 3, .int .i64 16, .int .i64 1, .int .i64 0, .int .i64 30, .int .i64 8] 3 (0, 0)) := by rw [hW3, new_blk]
  have hk30 := (hb3.block w.heap.size (by omega)).trans hk2
  have ho3 : Only w.heap.size r w W3 := ((below_only HX.out.2.1).trans (ho2.mono (by omega))).trans (below_only (hb3.mono (by omega)))
  have HW3 := Lib.hid hW3
  have HY := Lib.hid (And.intro hr3 (And.intro ho3 (And.intro hk3 hk30)))
  clear hr2 ho2 hk2 hi hw2 hW3 hb3 hr3 hk3 hk30 ho3 hwd
  go_wp2_with fail
  rw [← HW3.out]
  refine (num_c W3 B r bs (p + 1) w2.heap.size [6, 10, 3, 16, 1, 0, 30, 8] 8 HY.out.1 (by omega) (by omega) (by simp) (by simp) (fun i hi => ?_)).mono ?_
  · have hi7 : i < 8 := by simpa using hi
    refine cell_in HY.out.2.2.1 ?_
    rcases i with _ | _ | _ | _ | _ | _ | _ | _ | i
    · rfl
    · rfl
    · rfl
    · rfl
    · rfl
    · rfl
    · rfl
    · rfl
    · omega
  rintro e w4 ⟨i, m4, hi, rfl, hw4⟩
  obtain ⟨hm0, hm30⟩ := num_get8 i (by simpa using hi)
  generalize ([6, 10, 3, 16, 1, 0, 30, 8] : List Int).getD i 0 = most at hm0 hm30
  have hr4 : Rd w4 B r bs (p + 1 + 1) := by rw [hw4]; exact HY.out.1.picked m4
  have ho4 : Only W3.heap.size r W3 w4 := by rw [hw4]; exact Only.picked _ _ _ _ _
  have hz4 := ho4.size
  have hk4 := (ho4.block w.heap.size (by omega) (by omega)).trans HY.out.2.2.2
  have HZ := Lib.hid (And.intro hr4 (And.intro (HY.out.2.1.trans (ho4.mono (by omega))) hk4))
  clear hr4 ho4 hk4 hi hw4
  go_wp2_with fail
  refine (sample_c w4 B r bs (p + 1 + 1) most HZ.out.1 (by omega) (by omega) (by omega)).mono ?_
  rintro e w5 ⟨v5, ks, q5, rfl, hown5, hl5, hmost5, hks5, hr5, hq5, ho5⟩
  obtain ⟨va5, vc5, rfl⟩ := hown5.shown
  have hn30 : ks.length ≤ 30 := by
    rcases hmost5 with h | h
    · omega
    · rw [h]; simp
  have hz5 := ho5.size
  obtain ⟨W6, hW6⟩ : ∃ W6, W6 = w5.alloc (.cells #[] 3) := ⟨_, rfl⟩
  have hs6 : W6.heap.size = w5.heap.size + 1 := by rw [hW6]; simp
  have hb6 : Below w5.heap.size w5 W6 := by rw [hW6]; exact (Below.refl _ _).alloc (Nat.le_refl _) _
  have h06 : IntsOwn W6 w5.heap.size (.slice (some ⟨w5.heap.size, 0, none⟩) 0 0) [] := by
    rw [hW6]; exact World.ownsRow_made w5 #[] 0 (Nat.le_refl _) (by unfold maxLen; omega) rfl
  have hr6 : Rd W6 B r bs q5 := hr5.later hb6 (by omega)
  have ho6 : Only w.heap.size r w W6 := (HZ.out.2.1.trans (ho5.mono (by omega))).trans (below_only (hb6.mono (by omega)))
  have hk6 := (hb6.block w.heap.size (by omega)).trans ((ho5.block w.heap.size (by omega) (by omega)).trans HZ.out.2.2)
  have hkp6 : IntsP W6 (fun k => k ≠ r ∧ k < w5.heap.size ∧ w.heap.size < k) (.slice va5 ks.length vc5) ks := (IntsOwn.p hown5).same (fun k hk => hb6.block k hk.2) (fun k hk => ⟨by omega, hk.2, by omega⟩)
  have HW6 := Lib.hid hW6
  have H6 := Lib.hid (And.intro hr6 (And.intro ho6 (And.intro hk6 (And.intro hkp6 h06))))
  clear hown5 hr5 ho5 hb6 h06 hr6 ho6 hk6 hkp6 hW6 hmost5 hks5
  go_wp2_with fail
  rw [← HW6.out]
  go_loopw [6, 7] (fun s6 s7 wr => ∃ (ds : List Int) (j : Nat), s7 = .int .i64 j ∧ 1 ≤ j ∧ j ≤ 7 ∧ IntsOwn wr w5.heap.size s6 ds ∧ ds.length ≤ j ∧ Hid (∀ x ∈ ds, ∃ k : Nat, x = (k : Int) ∧ 1 ≤ k ∧ k ≤ 6) ∧ Hid (∀ d, 1 ≤ d → d < j → lowN wide d ≤ ks.length → ks.length ≤ mostN wide d → ds ≠ []) ∧ Below w5.heap.size W6 wr) (fun _ s7 _ => 8 - (intOf s7).toNat)
  case atStart => exact ⟨[], 1, rfl, by omega, by omega, H6.out.2.2.2.2, by simp, Lib.hid (fun x hx => by cases hx), Lib.hid (fun d h1 h2 => by omega), Below.refl _ _⟩
  case round =>
    obtain ⟨ds, j, rfl, hj1, hj2, hown, hdl, HD, HN, hbel⟩ := hrel
    obtain ⟨a15, c15, rfl⟩ := hown.shown
    have hszr := hbel.size
    by_cases hjw : j ≤ 6
    · have hjw' : (j : Int) ≤ 6 := by omega
      obtain ⟨jm, hjm⟩ : ∃ jm : Nat, jm + 1 = j := ⟨j - 1, by omega⟩
      have hjm' : (j : Int) - 1 = (jm : Int) := by omega
      have HCL := Lib.hid (l1Least_c wide hwd2 jm wr (by omega))
      have HCM := Lib.hid (l1Most_c wide hwd2 j wr (by omega))
      have hmb := mostN_bound wide j hwd2 (by omega)
      have h7 : 7 ^ j ≤ 7 ^ 6 := Nat.pow_le_pow_right (by omega) (by omega)
      have hMj : mostN wide j ≤ 117648 := by omega
      have hmb2 := mostN_bound wide jm hwd2 (by omega)
      have h72 : 7 ^ jm ≤ 7 ^ 6 := Nat.pow_le_pow_right (by omega) (by omega)
      have hLj : leastN wide jm ≤ 117648 := by have := leastN_le_mostN wide jm; omega
      have HLOW := Lib.hid (show lowN wide j = if 1 < j then 1 + 2 * leastN wide jm else 0 by unfold lowN; rw [show j - 1 = jm by omega])
      have HB := Lib.hid hbel
      have HO := Lib.hid hown
      clear hbel hown hmb h7 hmb2 h72
      generalize hLL : leastN wide jm = Lw at HCL hLj HLOW
      generalize hMM : mostN wide j = Mw at HCM hMj
      have HMM := Lib.hid hMM
      clear hLL hMM
      go_upto_if 24 with (fail)
      go_cut [8] (fun s8 wx => ∃ lw : Nat, s8 = .int .i64 lw ∧ lw = lowN wide j ∧ lw ≤ 300000 ∧ wx = wr)
      case first =>
        by_cases hj11 : j = 1
        · have hjn : ¬ ((j : Int) > 1) := by omega
          have hz : lowN wide j = 0 := by rw [HLOW.out, if_neg (by omega)]
          have HZ0 := Lib.hid hz
          clear hz hj11
          go_wp2_with fail
          go_meet
          exact ⟨0, int_eq (by simp), HZ0.out.symm, by omega, rfl⟩
        · have hjn : ((j : Int) > 1) := by omega
          have hz : lowN wide j = 1 + 2 * Lw := by rw [HLOW.out, if_pos (by omega)]
          have HZ0 := Lib.hid hz
          clear hz hj11
          go_wp2_with fail
          refine HCL.out.mono ?_
          rintro e w9 ⟨rfl, rfl⟩
          go_wp2_with fail
          go_meet
          exact ⟨1 + 2 * Lw, int_eq (by push_cast; omega), HZ0.out.symm, by omega, rfl⟩
      case rest =>
        obtain ⟨lw, rfl, hlw, hlw2, rfl⟩ := hcut
        have HLW := Lib.hid hlw
        clear hlw
        go_wp2_with fail
        refine HCM.out.mono ?_
        rintro e w9 ⟨rfl, rfl⟩
        go_wp2_with fail
        refine (l1In_c _ _ _ _).mono ?_
        rintro e w9 ⟨rfl, rfl⟩
        have HINB := Lib.hid (show inB (ks.length : Int) (lw : Int) (Mw : Int) = true ↔ lowN wide j ≤ ks.length ∧ ks.length ≤ mostN wide j by
          rw [HMM.out, ← HLW.out]
          simp only [inB, Bool.and_eq_true, decide_eq_true_eq]
          omega)
        cases hin : inB (ks.length : Int) (lw : Int) (Mw : Int) with
        | true =>
          clear hin
          have HOXX := Lib.hid (IntsOwn.alloc' HO.out (.cells #[.int .i64 (j : Int)] 3))
          have HSX := Lib.hid (IntsAt.one wc (j : Int))
          have hlo9 : w5.heap.size ≤ (wc.alloc (.cells #[.int .i64 (j : Int)] 3)).heap.size := by rw [World.size_alloc]; omega
          have HLEN9 : Hid (ds.length + [(j : Int)].length ≤ 17592186044416) := Lib.hid (by simp; omega)
          have HBA : Hid (Below w5.heap.size wc (wc.alloc (.cells #[.int .i64 (j : Int)] 3))) := Lib.hid ((Below.refl _ _).alloc (by omega) _)
          go_wp2_with (at_builtin; refine wpList_append_ints rfl _ _ rfl w5.heap.size _ _ _ [(j : Int)] rfl HOXX.out rfl HSX.out HLEN9.out hlo9 ?_; intro v9 w9 hown9 hbel9 _ hsh9; obtain ⟨a9, c9, rfl⟩ := hsh9; generalize hL9 : ds ++ [(j : Int)] = L9 at hown9 ⊢; have H9 := Lib.hid (And.intro hown9 (And.intro (HBA.out.trans hbel9) hL9)); clear hown9 hbel9 hL9)
          go_roundw
          case rel =>
            refine ⟨L9, j + 1, by go_num, by omega, by omega, H9.out.1, ?_, Lib.hid ?_, Lib.hid ?_, HB.out.trans H9.out.2.1⟩
            · rw [← H9.out.2.2]; simp; omega
            · intro x hx
              rw [← H9.out.2.2] at hx
              rcases List.mem_append.1 hx with hx | hx
              · exact HD.out x hx
              · obtain rfl := List.mem_singleton.1 hx
                exact ⟨j, rfl, by omega, by omega⟩
            · intro d _ _ _ _ e
              rw [← H9.out.2.2] at e
              simp at e
          case measure => simp [intOf]; omega
        | false =>
          have HF := Lib.hid hin
          clear hin
          go_wp2_with fail
          go_roundw
          case rel =>
            refine ⟨ds, j + 1, by go_num, by omega, by omega, HO.out, by omega, HD, Lib.hid (fun d h1 h2 h3 h4 => ?_), HB.out⟩
            by_cases e : d = j
            · subst e
              have := HINB.out.2 ⟨h3, h4⟩
              rw [HF.out] at this
              cases this
            · exact HN.out d h1 (by omega) h3 h4
          case measure => simp [intOf]; omega
    · have hjw' : ¬ (j : Int) ≤ 6 := by omega
      obtain rfl : j = 7 := by omega
      obtain ⟨d0, g1, g2, g3, g4⟩ := some_depth wide hwd1 hwd2 ks.length hn30
      have hne := HN.out d0 g1 (by omega) g3 g4
      have hlen0 : 0 < ds.length := List.length_pos_iff.2 hne
      have hbw : Below w5.heap.size W6 wr := hbel
      have hRr : Rd wr B r bs q5 := H6.out.1.later (hbw.mono (show w5.heap.size ≤ w5.heap.size by omega)) (by omega)
      have HP := Lib.hid (pick_c wr B r bs q5 ds.length hRr (by omega) (by omega) (by omega))
      have HBW := Lib.hid hbw
      have HO := Lib.hid hown
      clear hne g1 g2 g3 g4 hbel hbw hown hRr
      go_wp2_with fail
      refine HP.out.mono ?_
      rintro e w7 ⟨x, m7, rfl, hx0, hx1, _, hw7⟩
      obtain ⟨ix, rfl⟩ := Int.eq_ofNat_of_zero_le hx0
      have hix : ix < ds.length := by have := hx1 (by omega); omega
      have hr7 : Rd w7 B r bs (q5 + 1) := by rw [hw7]; exact (H6.out.1.later (HBW.out.mono (show w5.heap.size ≤ w5.heap.size by omega)) (by omega)).picked m7
      have ho7 : Only wr.heap.size r wr w7 := by rw [hw7]; exact Only.picked _ _ _ _ _
      have hown7 := HO.out.only ho7 (Nat.le_refl _) (by omega)
      obtain ⟨pa, pc, hpe, _, hpat⟩ := IntsIn.at (IntsOwn.in hown7)
      obtain ⟨rfl, rfl⟩ : a15 = pa ∧ c15 = pc := by simpa using hpe
      rcases hpat with h | ⟨b, o, rfl, hpat⟩
      · rw [h] at hlen0; simp at hlen0
      have hcell := hpat ix hix
      obtain ⟨d, hd, hd1, hd6⟩ := HD.out (ds.getD ix 0) (by rw [List.getD_eq_getElem?_getD, List.getElem?_eq_getElem hix]; exact List.getElem_mem hix)
      rw [hd] at hcell
      have hz7 := ho7.size
      have hOt : Only w5.heap.size r W6 w7 := (below_only HBW.out).trans (ho7.mono (by omega))
      have hkp7 : IntsP w7 (fun k => k ≠ r ∧ k < w7.heap.size) (.slice va5 ks.length vc5) ks := H6.out.2.2.2.1.same (fun k hk => hOt.block k hk.2.1 hk.1) (fun k hk => ⟨hk.1, by omega⟩)
      have hE6 : 8 ^ d ≤ 8 ^ 6 := Nat.pow_le_pow_right (by omega) hd6
      have hbc := build_c B r bs wide hwd1 hwd2 d hd1 hd6 w7 (q5 + 1) _ ks true hr7 (by omega) hkp7 (by omega)
      have hk7 := (hOt.block w.heap.size (by omega) (by omega)).trans H6.out.2.2.1
      have HBC := Lib.hid hbc
      have H7 := Lib.hid (And.intro (H6.out.2.1.trans (hOt.mono (by omega))) hk7)
      clear hbc hkp7 hr7 ho7 hown7 hpat hpe hw7 hx1 hx0 hd hOt hk7
      go_wp2_with fail
      refine HBC.out.mono ?_
      rintro e w8 ⟨k8, c8, t, q8, rfl, ht8, hw8, hr8, hq8, ho8, hnk8⟩
      obtain ⟨b1, b2, b3, b4, b5, b6, rfl, rfl⟩ := ht8.slices
      have hz8 := ho8.size
      have hk8 := (ho8.block w.heap.size (by omega) (by omega)).trans H7.out.2
      obtain ⟨x1, x2, x3, x4⟩ := box2 ((old_blk w8 (.cells #[.slice b1 b2 b3, .slice b4 b5 b6] 33) _ (by omega)).trans hk8)
      have H8 := Lib.hid (And.intro ht8 (And.intro hr8 (And.intro ho8 hk8)))
      have HNK := Lib.hid hnk8
      clear ht8 hr8 ho8 hk8 hnk8
      go_wp2_with fail
      obtain ⟨W9, hW9⟩ : ∃ W9, W9 = w8.alloc (.cells #[.slice b1 b2 b3, .slice b4 b5 b6] 33) := ⟨_, rfl⟩
      rw [← hW9]
      have hb9 : Below w8.heap.size w8 W9 := by rw [hW9]; exact (Below.refl _ _).alloc (Nat.le_refl _) _
      have hk9 := (hb9.block w.heap.size (by omega)).trans H8.out.2.2.2
      obtain ⟨wf, hwf⟩ : ∃ wf, wf = (W9.setCell ⟨w.heap.size, 0, none⟩ (.slice b1 b2 b3)).setCell ⟨w.heap.size, 1, none⟩ (.slice b4 b5 b6) := ⟨_, rfl⟩
      have hfb : wf.heap[w.heap.size]? = some (.cells #[.slice b1 b2 b3, .slice b4 b5 b6] 33 (0, 0)) := by
        rw [hwf]; exact set_blk (o := 1) _ (set_blk (o := 0) _ hk9)
      obtain ⟨d1, d2, d3, d4⟩ := box2 hfb
      rw [← hwf]
      have hz9 := hb9.size
      have hbf : Below w.heap.size W9 wf := by rw [hwf]; exact ((Below.refl _ _).setCell (by show w.heap.size ≤ w.heap.size; omega) _).setCell (by show w.heap.size ≤ w.heap.size; omega) _
      have hzf := hbf.size
      refine bodyPost_ret (v := .tuple #[.agg #[.slice b1 b2 b3, .slice b4 b5 b6], .int .i64 (wide : Int)]) (by simp [results, Tryd.results122, go_sem, d1, d2]) rfl ⟨_, _, t, wide, q8, rfl, hwd1, hwd2, ?_, by omega, ?_, by omega, ?_, HNK.out⟩
      · refine H8.out.1.same (fun k hk => ?_) (fun k hk => ⟨by omega, by omega⟩)
        rw [hwf, set_other _ _ _ _ _ (by omega), set_other _ _ _ _ _ (by omega)]
        exact hb9.block k hk.2
      · exact (H8.out.2.1.later hb9 (by omega)).later hbf (by omega)
      · exact ((H7.out.1.trans (H8.out.2.2.1.mono (by omega))).trans (below_only (hb9.mono (by omega)))).trans (below_only hbf)
end Go.Proofs.YticfkfjijnfcbaaDoor
