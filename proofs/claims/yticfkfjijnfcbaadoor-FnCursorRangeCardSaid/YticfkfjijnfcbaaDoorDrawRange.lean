/- The model draws a tree and a range. -/
import Derived.Test.YticfkfjijnfcbaaDoorProg
import Derived.Test.YticfkfjijnfcbaaDoorSh0
import Derived.Test.YticfkfjijnfcbaaDoorKeys
import Derived.Test.YticfkfjijnfcbaaDoorSh9
import Derived.Test.YticfkfjijnfcbaaDoorSh18
import Derived.Test.YticfkfjijnfcbaaDoorSh20
import Derived.Test.YticfkfjijnfcbaaDoorSh28
import Derived.Test.YticfkfjijnfcbaaDoorDrawSome
import Derived.Test.YticfkfjijnfcbaaDoorSh25
namespace Go.Proofs.YticfkfjijnfcbaaDoor
open Go.RowKit

/-- What drawing a tree and a range leaves. -/
def RangeDrawn (w : World) (e : Ending) (w' : World) : Prop :=
  ∃ (kv cv : Value) (t : Tr) (low high : Int), e = .returned (.tuple #[.agg #[kv, cv], .int .i64 low, .int .i64 high]) ∧ TreeQ w' (fun k => w.heap.size ≤ k ∧ k < w'.heap.size) kv cv t ∧ t.weight ≤ 400000 ∧ Below w.heap.size w w'

/-- What the operations of its last statement leave. -/
def J3r (r S0 : Nat) (tv : Value) (low : Int) (j : Nat) (v : Value) (W : World) : Prop :=
  match j with
  | 0 => v = tv
  | 1 => v = .int .i64 low
  | 2 => v = .pointer (some ⟨r, 0, none⟩)
  | 3 => v = .int .i64 low
  | 4 => v = .pointer (some ⟨r, 0, none⟩)
  | 5 => ∃ x, v = .int .i64 x
  | 6 => ∃ x, v = .int .i64 x
  | 7 => v = .int .i64 low
  | 8 => v = .pointer (some ⟨r, 0, none⟩)
  | 9 => v = tv
  | 10 => ∃ x, v = .int .i64 x
  | 11 => v = .int .i64 low
  | 12 => ∃ x, v = .int .i64 x
  | 13 => ∃ g x1 x2 x3 x4, v = .slice (some ⟨g, 0, none⟩) 5 5 ∧ W.heap[g]? = some (.cells #[.int .i64 x1, .int .i64 x2, .int .i64 99, .int .i64 x3, .int .i64 x4] 3 (0, 0)) ∧ S0 ≤ g
  | 14 => ∃ x, v = .int .i64 x
  | _ => True
theorem J3r_mono {r x S0 : Nat} {tv : Value} {low : Int} (hr : r < S0) (hx : x < S0) (j : Nat) (v : Value) (W W' : World) (h : J3r r S0 tv low j v W) (hb : KeptBut r x W W') : J3r r S0 tv low j v W' := by
  unfold J3r at h ⊢
  split at h
  all_goals first
    | exact h
    | (obtain ⟨g, x1, x2, x3, x4, h1, h2, h3⟩ := h; exact ⟨g, x1, x2, x3, x4, h1, (hb.block _ (Array.getElem?_eq_some_iff.1 h2).1 (by omega) (by omega)).trans h2, h3⟩)
    | trivial

/-- The slots of the last statement's operations; the store has none of its own. -/
def slR (i : Nat) : Nat := if i = 15 then 18 else 19 + i
theorem slR_inj (i j : Nat) (hi : i < 16) (hj : j < 16) (h : slR i = slR j) : i = j := by
  unfold slR at h
  split at h <;> split at h <;> omega

/-- The reader; the box of the result ahead of the store and behind it. -/
def GRan (r x : Nat) (bs : List Nat) (q : Nat) (kv cv : Value) (f : Nat → Bool) (W : World) : Prop :=
  (∃ q', Rd W r r bs q' ∧ q' ≤ q + (if f 5 then 1 else 0) + (if f 10 then 3 else 0) + (if f 14 then 1 else 0)) ∧
  (f 15 = false → W.heap[x]? = some (.cells #[.slice none 0 0, .slice none 0 0] 33 (0, 0))) ∧ (f 15 = true → W.heap[x]? = some (.cells #[kv, cv] 33 (0, 0)))

set_option maxHeartbeats 4000000 in
set_option maxRecDepth 100000 in
theorem drawRange_c {w : World} {B : Nat} {v : Value} {bs : List Nat} (h : BytesIn w B v bs) (w' : World) (hbw : Below B w w') (hB : B ≤ w'.heap.size) :
    Calls Tryd.prog 51 #[v] w' (RangeDrawn w') := by
  obtain ⟨W1, hW1⟩ : ∃ W1, W1 = w'.alloc (.cells #[.slice none 0 0, .slice none 0 0] 33) := ⟨_, rfl⟩
  obtain ⟨R, hRe⟩ : ∃ R, R = w'.heap.size + 1 := ⟨_, rfl⟩
  have hs1 : W1.heap.size = R := by rw [hW1, hRe]; simp
  have hR1 : w'.heap.size < R := by omega
  have hR2 : R ≤ w'.heap.size + 1 := by omega
  have hb1 : Below w'.heap.size w' W1 := by rw [hW1]; exact (Below.refl _ _).alloc (Nat.le_refl _) _
  have hk1 : W1.heap[w'.heap.size]? = some (.cells #[.slice none 0 0, .slice none 0 0] 33 (0, 0)) := by rw [hW1, new_blk]
  have hop := open_c h W1 (hbw.trans (hb1.mono hB)) (by omega)
  rw [hs1] at hop
  have HO := Lib.hid hop
  clear hop hRe
  obtain ⟨va, vcap, rfl, -⟩ := h
  have HW1 := Lib.hid hW1
  have H1 := Lib.hid (And.intro hb1 hk1)
  clear hW1 hb1 hk1 hbw
  go_enter Tryd.func51, Tryd.ntmps51
  go_wp2_with fail
  rw [← HW1.out]
  refine HO.out.mono ?_
  rintro e w2 ⟨rfl, ⟨bs', hr2⟩, hb2⟩
  have hs2 := hb2.size
  have hrl2 := hr2.lt
  obtain ⟨p0, hp0, hr2⟩ : ∃ p0 : Nat, p0 ≤ 100 ∧ Rd w2 R R bs' p0 := ⟨0, by omega, hr2⟩
  have HS := Lib.hid (some_c w2 _ _ bs' p0 hr2 (by omega))
  have H2 := Lib.hid hb2
  clear hr2 hb2
  go_wp2_with fail
  refine HS.out.mono ?_
  rintro e w3 ⟨k3, c3, t, wide, q, rfl, _, _, ht3, hw3, hr3, hq3, ho3⟩
  obtain ⟨b1, b2, b3, b4, b5, b6, rfl, rfl⟩ := ht3.slices
  have hs3 := ho3.size
  have hk3 := (ho3.block w'.heap.size (by omega) (by omega)).trans ((H2.out.block w'.heap.size (by omega)).trans H1.out.2)
  obtain ⟨W4, hW4⟩ : ∃ W4, W4 = w3.alloc (.cells #[.slice b1 b2 b3, .slice b4 b5 b6] 33) := ⟨_, rfl⟩
  have hs4 : W4.heap.size = w3.heap.size + 1 := by rw [hW4]; simp
  have hb4 : Below w3.heap.size w3 W4 := by rw [hW4]; exact (Below.refl _ _).alloc (Nat.le_refl _) _
  have hx4 : W4.heap[w3.heap.size]? = some (.cells #[.slice b1 b2 b3, .slice b4 b5 b6] 33 (0, 0)) := by rw [hW4, new_blk]
  have ht4 : TreeQ W4 (fun k => w2.heap.size ≤ k ∧ k < w3.heap.size) (.slice b1 b2 b3) (.slice b4 b5 b6) t := ht3.same (fun k hk => hb4.block k hk.2) (fun k hk => hk)
  have hk4 := (hb4.block w'.heap.size (by omega)).trans hk3
  have hr4 := hr3.later hb4 (by omega)
  have hbt : Below w'.heap.size w' W4 := H1.out.1.trans ((H2.out.mono (by omega)).trans ((ho3.below (B := w'.heap.size) (by omega) (by omega)).trans (hb4.mono (by omega))))
  have HW4 := Lib.hid hW4
  have H4 := Lib.hid (And.intro ht4 (And.intro hx4 (And.intro hk4 (And.intro hr4 hbt))))
  clear ht3 hr3 ho3 hk3 hW4 hb4 hx4 ht4 hk4 hr4 hbt
  go_upto_region 3 with (fail)
  rw [← HW4.out]
  obtain ⟨x1, x2, x3, x4⟩ := box2 H4.out.2.1
  have hrt4 : TreeIn W4 W4.heap.size (.slice b1 b2 b3) (.slice b4 b5 b6) t := (H4.out.1.same (Q := fun k => k < W4.heap.size) (fun k hk => rfl) (fun k hk => by omega)).tree (fun k hk => hk)
  have HK4 := Lib.hid (drawKey_c W4 _ _ bs' q H4.out.2.2.2.1 (by omega) hrt4 (by omega))
  clear hrt4
  go_wp2_with fail
  refine HK4.out.mono ?_
  rintro e w5 ⟨low, q5, rfl, -, hr5, hq5, ho5⟩
  have hs5 := ho5.size
  have H5 : Hid (TreeQ w5 (fun k => w2.heap.size ≤ k ∧ k < w3.heap.size) (.slice b1 b2 b3) (.slice b4 b5 b6) t ∧ w5.heap[w3.heap.size]? = some (.cells #[.slice b1 b2 b3, .slice b4 b5 b6] 33 (0, 0)) ∧ w5.heap[w'.heap.size]? = some (.cells #[.slice none 0 0, .slice none 0 0] 33 (0, 0)) ∧ Rd w5 R R bs' q5 ∧ Below w'.heap.size w' w5) :=
    Lib.hid ⟨H4.out.1.same (fun k hk => ho5.block k (by omega) (by omega)) (fun k hk => hk), (ho5.block _ (by omega) (by omega)).trans H4.out.2.1, (ho5.block _ (by omega) (by omega)).trans H4.out.2.2.1, hr5, H4.out.2.2.2.2.trans (ho5.below (B := w'.heap.size) (by omega) (by omega))⟩
  clear hr5 ho5 x1 x2 x3 x4
  go_upto_region 4 with (fail)
  refine wp_region_stores (n := 16) (by kernel_rfl) (by kernel_rfl) (by kernel_rfl) ?hn (by kernel_rfl) slR slR_inj
    (KeptBut R w'.heap.size) (KeptBut.refl _ _) (fun a b c h1 h2 => h1.trans h2)
    (GRan R w'.heap.size bs' q5 (.slice b1 b2 b3) (.slice b4 b5 b6)) ⟨⟨q5, rd_drew H5.out.2.2.2.1, by simp⟩, fun _ => H5.out.2.2.1, fun h => by cases h⟩ (fun f g w h hf => by
      unfold GRan at hf ⊢
      rw [← h 5 (by omega), ← h 10 (by omega), ← h 14 (by omega), ← h 15 (by omega)]
      exact hf)
    (J3r R w5.heap.size (.agg #[.slice b1 b2 b3, .slice b4 b5 b6]) low) (fun j v W W' h hb => J3r_mono (by omega) (by omega) j v W W' h hb) ?hg ?hstep ?htail
  case hn => decide
  case hg =>
    intro i oi hi ho
    have hc : i = 0 ∨ i = 1 ∨ i = 2 ∨ i = 3 ∨ i = 4 ∨ i = 5 ∨ i = 6 ∨ i = 7 ∨ i = 8 ∨ i = 9 ∨ i = 10 ∨ i = 11 ∨ i = 12 ∨ i = 13 ∨ i = 14 ∨ i = 15 := by omega
    rcases hc with rfl | rfl | rfl | rfl | rfl | rfl | rfl | rfl | rfl | rfl | rfl | rfl | rfl | rfl | rfl | rfl
    all_goals (
      have ho' := Option.some.inj ho
      subst ho'
      first
        | exact ⟨rfl, .inl rfl⟩
        | exact ⟨rfl, .inr ⟨rfl, fun _ _ _ h => h⟩⟩)
  case hstep =>
    intro i oi hi ho a W f hfi hag hR hGb hpre
    have hc : i = 0 ∨ i = 1 ∨ i = 2 ∨ i = 3 ∨ i = 4 ∨ i = 5 ∨ i = 6 ∨ i = 7 ∨ i = 8 ∨ i = 9 ∨ i = 10 ∨ i = 11 ∨ i = 12 ∨ i = 13 ∨ i = 14 ∨ i = 15 := by omega
    have HSZ := Lib.hid (show a.tmps.size = 34 from hag.size.trans rfl)
    have hRsz : w5.heap.size ≤ W.heap.size := hR.size
    have hbx := (hR.block w3.heap.size (by show w3.heap.size < w5.heap.size; omega) (by omega) (by omega)).trans H5.out.2.1
    have t5 : a.tmps[5]? = some (.pointer (some ⟨R, 0, none⟩)) := hag.other 5 (fun i hi => by unfold slR; split <;> omega)
    have t6 : a.tmps[6]? = some (.pointer (some ⟨w3.heap.size, 0, none⟩)) := hag.other 6 (fun i hi => by unfold slR; split <;> omega)
    have t2 : a.tmps[2]? = some (.pointer (some ⟨w'.heap.size, 0, none⟩)) := hag.other 2 (fun i hi => by unfold slR; split <;> omega)
    have t8 : a.tmps[8]? = some (.int .i64 low) := hag.other 8 (fun i hi => by unfold slR; split <;> omega)
    obtain ⟨x1, x2, x3, x4⟩ := box2 hbx
    obtain ⟨⟨q', hq', hq''⟩, hbx0, hbx1⟩ := hGb
    have HBOX := Lib.hid (And.intro hbx0 hbx1)
    have hqb : q' ≤ q5 + 5 := by
      have h3 : (if f 5 then 1 else 0) ≤ 1 := by split <;> omega
      have h5 : (if f 10 then 3 else 0) ≤ 3 := by split <;> omega
      have h6 : (if f 14 then 1 else 0) ≤ 1 := by split <;> omega
      omega
    have HQQ := Lib.hid (And.intro hq' hq'')
    have HFI := Lib.hid hfi
    have htw : TreeQ W (fun k => k < W.heap.size) (.slice b1 b2 b3) (.slice b4 b5 b6) t := H5.out.1.same (fun k hk => hR.block k (by show k < w5.heap.size; omega) (by omega) (by omega)) (fun k hk => by omega)
    have HTW := Lib.hid htw
    clear hq' hq'' hag hR hbx hfi htw hbx0 hbx1
    rcases hc with rfl | rfl | rfl | rfl | rfl | rfl | rfl | rfl | rfl | rfl | rfl | rfl | rfl | rfl | rfl | rfl
    · have ho' := Option.some.inj ho
      subst ho'
      go_simp
      exact ⟨_, rfl, by rw [HSZ.out]; decide, rfl, KeptBut.refl _ _ _, ⟨q', HQQ.out.1, by simpa using HQQ.out.2⟩, by simpa using HBOX.out⟩
    · have ho' := Option.some.inj ho
      subst ho'
      go_simp
      exact ⟨_, rfl, by rw [HSZ.out]; decide, rfl, KeptBut.refl _ _ _, ⟨q', HQQ.out.1, by simpa using HQQ.out.2⟩, by simpa using HBOX.out⟩
    · have ho' := Option.some.inj ho
      subst ho'
      go_simp
      exact ⟨_, rfl, by rw [HSZ.out]; decide, rfl, KeptBut.refl _ _ _, ⟨q', HQQ.out.1, by simpa using HQQ.out.2⟩, by simpa using HBOX.out⟩
    · have ho' := Option.some.inj ho
      subst ho'
      go_simp
      exact ⟨_, rfl, by rw [HSZ.out]; decide, rfl, KeptBut.refl _ _ _, ⟨q', HQQ.out.1, by simpa using HQQ.out.2⟩, by simpa using HBOX.out⟩
    · have ho' := Option.some.inj ho
      subst ho'
      go_simp
      exact ⟨_, rfl, by rw [HSZ.out]; decide, rfl, KeptBut.refl _ _ _, ⟨q', HQQ.out.1, by simpa using HQQ.out.2⟩, by simpa using HBOX.out⟩
    · have ho' := Option.some.inj ho
      subst ho'
      have p4 : a.tmps[23]?.getD undef = .pointer (some ⟨R, 0, none⟩) := hpre { on := 4, ground := Ground.data } (by simp) rfl
      have HPK := Lib.hid (pick_c W R R bs' q' 30 HQQ.out.1 (by omega) (by omega) (by omega))
      go_simp
      refine HPK.out.mono ?_
      rintro e w6 ⟨x, m6, rfl, -, -, _, hw6⟩
      have h3 := HFI.out
      have h4 := HQQ.out.2
      rw [h3] at h4
      have hon : Only W.heap.size R W w6 := by rw [hw6]; exact Only.picked _ _ _ _ _
      have hbo : w6.heap[w'.heap.size]? = W.heap[w'.heap.size]? := hon.block _ (by omega) (by omega)
      exact ⟨_, rfl, by rw [HSZ.out]; decide, ⟨x, rfl⟩, KeptBut.of_only hon, ⟨q' + 1, by rw [hw6]; exact HQQ.out.1.picked m6, by simp at h4 ⊢; omega⟩, fun h => hbo.trans (HBOX.out.1 (by simpa using h)), fun h => hbo.trans (HBOX.out.2 (by simpa using h))⟩
    · have ho' := Option.some.inj ho
      subst ho'
      have p3 : a.tmps[22]?.getD undef = .int .i64 low := hpre { on := 3, ground := Ground.data } (by simp) rfl
      obtain ⟨y5, p5⟩ : J3r R w5.heap.size (.agg #[.slice b1 b2 b3, .slice b4 b5 b6]) low 5 (a.tmps[24]?.getD undef) W := hpre { on := 5, ground := Ground.data } (by simp) rfl
      go_simp
      exact ⟨_, rfl, by rw [HSZ.out]; decide, ⟨_, rfl⟩, KeptBut.refl _ _ _, ⟨q', HQQ.out.1, by simpa using HQQ.out.2⟩, by simpa using HBOX.out⟩
    · have ho' := Option.some.inj ho
      subst ho'
      go_simp
      exact ⟨_, rfl, by rw [HSZ.out]; decide, rfl, KeptBut.refl _ _ _, ⟨q', HQQ.out.1, by simpa using HQQ.out.2⟩, by simpa using HBOX.out⟩
    · have ho' := Option.some.inj ho
      subst ho'
      go_simp
      exact ⟨_, rfl, by rw [HSZ.out]; decide, rfl, KeptBut.refl _ _ _, ⟨q', HQQ.out.1, by simpa using HQQ.out.2⟩, by simpa using HBOX.out⟩
    · have ho' := Option.some.inj ho
      subst ho'
      go_simp
      exact ⟨_, rfl, by rw [HSZ.out]; decide, rfl, KeptBut.refl _ _ _, ⟨q', HQQ.out.1, by simpa using HQQ.out.2⟩, by simpa using HBOX.out⟩
    · have ho' := Option.some.inj ho
      subst ho'
      have p8 : a.tmps[27]?.getD undef = .pointer (some ⟨R, 0, none⟩) := hpre { on := 8, ground := Ground.data } (by simp) rfl
      have p9 : a.tmps[28]?.getD undef = .agg #[.slice b1 b2 b3, .slice b4 b5 b6] := hpre { on := 9, ground := Ground.data } (by simp) rfl
      have HK := Lib.hid (drawKey_c W _ _ bs' q' HQQ.out.1 (by omega) (HTW.out.tree (fun k hk => hk)) (by omega))
      go_simp
      refine HK.out.mono ?_
      rintro e w6 ⟨key, q6, rfl, -, hr6, hq6, ho6⟩
      have h3 := HFI.out
      have h4 := HQQ.out.2
      rw [h3] at h4
      have hbo : w6.heap[w'.heap.size]? = W.heap[w'.heap.size]? := ho6.block _ (by omega) (by omega)
      exact ⟨_, rfl, by rw [HSZ.out]; decide, ⟨key, rfl⟩, KeptBut.of_only ho6, ⟨q6, hr6, by simp at h4 ⊢; omega⟩, fun h => hbo.trans (HBOX.out.1 (by simpa using h)), fun h => hbo.trans (HBOX.out.2 (by simpa using h))⟩
    · have ho' := Option.some.inj ho
      subst ho'
      go_simp
      exact ⟨_, rfl, by rw [HSZ.out]; decide, rfl, KeptBut.refl _ _ _, ⟨q', HQQ.out.1, by simpa using HQQ.out.2⟩, by simpa using HBOX.out⟩
    · have ho' := Option.some.inj ho
      subst ho'
      have p11 : a.tmps[30]?.getD undef = .int .i64 low := hpre { on := 11, ground := Ground.data } (by simp) rfl
      go_simp
      exact ⟨_, rfl, by rw [HSZ.out]; decide, ⟨_, rfl⟩, KeptBut.refl _ _ _, ⟨q', HQQ.out.1, by simpa using HQQ.out.2⟩, by simpa using HBOX.out⟩
    · have ho' := Option.some.inj ho
      subst ho'
      obtain ⟨y6, p6⟩ : J3r R w5.heap.size (.agg #[.slice b1 b2 b3, .slice b4 b5 b6]) low 6 (a.tmps[25]?.getD undef) W := hpre { on := 6, ground := Ground.data } (by simp) rfl
      have p7 : a.tmps[26]?.getD undef = .int .i64 low := hpre { on := 7, ground := Ground.data } (by simp) rfl
      obtain ⟨y10, p10⟩ : J3r R w5.heap.size (.agg #[.slice b1 b2 b3, .slice b4 b5 b6]) low 10 (a.tmps[29]?.getD undef) W := hpre { on := 10, ground := Ground.data } (by simp) rfl
      obtain ⟨y12, p12⟩ : J3r R w5.heap.size (.agg #[.slice b1 b2 b3, .slice b4 b5 b6]) low 12 (a.tmps[31]?.getD undef) W := hpre { on := 12, ground := Ground.data } (by simp) rfl
      go_simp
      have hba : Below W.heap.size W (W.alloc (.cells #[.int .i64 y6, .int .i64 low, .int .i64 99, .int .i64 y10, .int .i64 y12] 3)) := (Below.refl _ _).alloc (Nat.le_refl _) _
      exact ⟨_, rfl, by rw [HSZ.out]; decide, ⟨W.heap.size, y6, low, y10, y12, rfl, new_blk _ _, (by omega)⟩, KeptBut.of_only (below_only hba), ⟨q', rd_later' HQQ.out.1 hba, by simpa using HQQ.out.2⟩, fun h => (hba.block _ (by omega)).trans (HBOX.out.1 (by simpa using h)), fun h => (hba.block _ (by omega)).trans (HBOX.out.2 (by simpa using h))⟩
    · have ho' := Option.some.inj ho
      subst ho'
      have p2 : a.tmps[21]?.getD undef = .pointer (some ⟨R, 0, none⟩) := hpre { on := 2, ground := Ground.data } (by simp) rfl
      obtain ⟨g, y1, y2, y3, y4, p13, hg, hgl⟩ : J3r R w5.heap.size (.agg #[.slice b1 b2 b3, .slice b4 b5 b6]) low 13 (a.tmps[32]?.getD undef) W := hpre { on := 13, ground := Ground.data } (by simp) rfl
      have HNC := Lib.hid (num_c W R R bs' q' g [y1, y2, 99, y3, y4] 5 HQQ.out.1 (by omega) (by omega) (by simp) (by simp) (fun i hi => by
        have hi5 : i < 5 := by simpa using hi
        refine cell_in hg ?_
        rcases i with _ | _ | _ | _ | _ | i
        · rfl
        · rfl
        · rfl
        · rfl
        · rfl
        · omega))
      clear hg
      go_simp
      refine HNC.out.mono ?_
      rintro e w6 ⟨i, m6, hi, rfl, hw6⟩
      have h3 := HFI.out
      have h4 := HQQ.out.2
      rw [h3] at h4
      have hon : Only W.heap.size R W w6 := by rw [hw6]; exact Only.picked _ _ _ _ _
      have hbo : w6.heap[w'.heap.size]? = W.heap[w'.heap.size]? := hon.block _ (by omega) (by omega)
      exact ⟨_, rfl, by rw [HSZ.out]; decide, ⟨_, rfl⟩, KeptBut.of_only hon, ⟨q' + 1, by rw [hw6]; exact HQQ.out.1.picked m6, by simp at h4 ⊢; omega⟩, fun h => hbo.trans (HBOX.out.1 (by simpa using h)), fun h => hbo.trans (HBOX.out.2 (by simpa using h))⟩
    · have ho' := Option.some.inj ho
      subst ho'
      have p0 : a.tmps[19]?.getD undef = .agg #[.slice b1 b2 b3, .slice b4 b5 b6] := hpre { on := 0, ground := Ground.data } (by simp) rfl
      have hres := HBOX.out.1 HFI.out
      clear x1 x2 x3 x4
      obtain ⟨x1, x2, x3, x4⟩ := box2 hres
      have HRES := Lib.hid hres
      clear hres
      go_simp
      refine ⟨by rw [HSZ.out]; decide, ⟨undef, trivial⟩, ?_, ⟨q', ?_, by simpa using HQQ.out.2⟩, fun h => by simp at h, fun _ => set_blk (o := 1) _ (set_blk (o := 0) _ HRES.out)⟩
      · exact ⟨rfl, rfl, rfl, by simp, fun k hk h1 h2 => by rw [set_other _ _ _ _ _ h2, set_other _ _ _ _ _ h2]⟩
      · exact rd_kept HQQ.out.1 HRES.out (by rw [set_other _ _ _ _ _ (by omega), set_other _ _ _ _ _ (by omega)]) (fun k hk hne => by rw [set_other _ _ _ _ _ hne, set_other _ _ _ _ _ hne])
  case htail =>
    intro a W hag hR hG hj
    have j0 : a.tmps[19]?.getD undef = .agg #[.slice b1 b2 b3, .slice b4 b5 b6] := hj 0 (by omega)
    have j1 : a.tmps[20]?.getD undef = .int .i64 low := hj 1 (by omega)
    have j2 : a.tmps[21]?.getD undef = .pointer (some ⟨R, 0, none⟩) := hj 2 (by omega)
    have j3 : a.tmps[22]?.getD undef = .int .i64 low := hj 3 (by omega)
    have j4 : a.tmps[23]?.getD undef = .pointer (some ⟨R, 0, none⟩) := hj 4 (by omega)
    obtain ⟨z5, j5⟩ : J3r R w5.heap.size (.agg #[.slice b1 b2 b3, .slice b4 b5 b6]) low 5 (a.tmps[24]?.getD undef) W := hj 5 (by omega)
    obtain ⟨z6, j6⟩ : J3r R w5.heap.size (.agg #[.slice b1 b2 b3, .slice b4 b5 b6]) low 6 (a.tmps[25]?.getD undef) W := hj 6 (by omega)
    have j7 : a.tmps[26]?.getD undef = .int .i64 low := hj 7 (by omega)
    have j8 : a.tmps[27]?.getD undef = .pointer (some ⟨R, 0, none⟩) := hj 8 (by omega)
    have j9 : a.tmps[28]?.getD undef = .agg #[.slice b1 b2 b3, .slice b4 b5 b6] := hj 9 (by omega)
    obtain ⟨z10, j10⟩ : J3r R w5.heap.size (.agg #[.slice b1 b2 b3, .slice b4 b5 b6]) low 10 (a.tmps[29]?.getD undef) W := hj 10 (by omega)
    have j11 : a.tmps[30]?.getD undef = .int .i64 low := hj 11 (by omega)
    obtain ⟨z12, j12⟩ : J3r R w5.heap.size (.agg #[.slice b1 b2 b3, .slice b4 b5 b6]) low 12 (a.tmps[31]?.getD undef) W := hj 12 (by omega)
    obtain ⟨g, y1, y2, y3, y4, j13, _⟩ : J3r R w5.heap.size (.agg #[.slice b1 b2 b3, .slice b4 b5 b6]) low 13 (a.tmps[32]?.getD undef) W := hj 13 (by omega)
    obtain ⟨high, j14⟩ : J3r R w5.heap.size (.agg #[.slice b1 b2 b3, .slice b4 b5 b6]) low 14 (a.tmps[33]?.getD undef) W := hj 14 (by omega)
    have ha := hag.eq
    rw [show List.range 16 = [0, 1, 2, 3, 4, 5, 6, 7, 8, 9, 10, 11, 12, 13, 14, 15] from rfl] at ha
    simp only [List.foldl_cons, List.foldl_nil, slR, Nat.reduceAdd, Nat.reduceEqDiff, if_true, if_false, j0, j1, j2, j3, j4, j5, j6, j7, j8, j9, j10, j11, j12, j13, j14] at ha
    generalize a.tmps[18]?.getD undef = u18 at ha
    clear hj hag j0 j1 j2 j3 j4 j5 j6 j7 j8 j9 j10 j11 j12 j13 j14
    subst ha
    have hRsz : w5.heap.size ≤ W.heap.size := hR.size
    have hkx := hG.2.2 rfl
    have htx : TreeQ W (fun k => w2.heap.size ≤ k ∧ k < w3.heap.size) (.slice b1 b2 b3) (.slice b4 b5 b6) t := H5.out.1.same (fun k hk => hR.block k (by show k < w5.heap.size; omega) (by omega) (by omega)) (fun k hk => hk)
    have hbx : Below w'.heap.size w' W := H5.out.2.2.2.2.trans ⟨hR.os, hR.tape, hR.output, hRsz, fun k hk => hR.block k (by show k < w5.heap.size; omega) (by omega) (by omega)⟩
    obtain ⟨r1, r2, r3, r4⟩ := box2 hkx
    have HX := Lib.hid (And.intro hkx (And.intro htx hbx))
    clear hR hG hkx htx hbx
    change wpAny _ _ _ _ 2 _ _ _
    simp only [List.setIfInBounds_toArray, List.set_cons_succ, List.set_cons_zero]
    refine wpAny_ready (rs := [16]) (by kernel_rfl) (by simp) (AllReady.cons rfl (fun K25 hK25 => ?_) AllReady.nil)
    go_simp
    refine hK25 _ _ ?_
    clear hK25 K25
    refine wpAny_ready (rs := [17]) (by kernel_rfl) (by simp) (AllReady.cons rfl (fun K25 hK25 => ?_) AllReady.nil)
    go_simp
    refine hK25 _ _ ?_
    clear hK25 K25
    refine wpAny_done (by kernel_rfl) ?_ _
    go_wp2_with fail
    refine bodyPost_ret (v := .tuple #[.agg #[.slice b1 b2 b3, .slice b4 b5 b6], .int .i64 low, .int .i64 high]) (by simp [results, Tryd.results51, go_sem, r1, r2]) rfl ⟨_, _, t, low, high, rfl, ?_, by omega, HX.out.2.2⟩
    exact HX.out.2.1.same (fun k hk => rfl) (fun k hk => ⟨by omega, by omega⟩)
end Go.Proofs.YticfkfjijnfcbaaDoor
