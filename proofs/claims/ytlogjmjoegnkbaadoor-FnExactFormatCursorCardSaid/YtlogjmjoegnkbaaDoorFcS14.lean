/- The law on the text of a cursor: the walk over the contracts. -/
import Derived.Test.YtlogjmjoegnkbaaDoorProg
import Derived.Test.YtlogjmjoegnkbaaDoorFcS1
import Derived.Test.YtlogjmjoegnkbaaDoorFcS6
import Derived.Test.YtlogjmjoegnkbaaDoorFcS10
import Derived.Test.YtlogjmjoegnkbaaDoorFcS13
import Derived.Deep.RegionHeld3
namespace Go.Proofs.YtlogjmjoegnkbaaDoor
open Go.RowKit

theorem rowInts {w : World} {g : Nat} {ks : List Int} (h : w.rowIs g 3 ks.length (fun i => .int .i64 (ks.getD i 0))) (hl : ks.length ≤ 1048576) {B : Nat} (hB : g < B) : IntsIn w B (.slice (some ⟨g, 0, none⟩) ks.length ks.length) ks := by
  obtain ⟨c, hb, hn, hc⟩ := h
  exact ⟨some ⟨g, 0, none⟩, ks.length, rfl, Nat.le_refl _, by unfold maxLen; omega, (fun h => by cases h), .inr ⟨g, 0, rfl, hB, fun i hi => by simpa [World.cell?, hb] using hc i hi⟩⟩

set_option maxHeartbeats 2000000 in
set_option maxRecDepth 100000 in
theorem exFmtCur_c {v : Value} {ks : List Int} (a : Int) (w : World) (hk : IntsIn w w.heap.size v ks) (hf : ∀ k ∈ ks, Fits k) (ha : Fits a)
    (htab : Lib.TabIs Tryd.prog w "internal/strconv.uint64pow10" .u64 Lib.pow10Tab) :
    Calls Tryd.prog 3 #[.agg #[v, .int .i64 a]] w fun e w' => e = .returned (.bool true) ∧ Below w.heap.size w w' := by
  have HK := Lib.hid hk
  have HT := Lib.hid (Lib.tabBelow_of_tabIs htab)
  obtain ⟨va, vcap, rfl, h1, h2, -, -⟩ := hk
  unfold maxLen at h2
  obtain ⟨W1, hW1⟩ : ∃ W1, W1 = w.alloc (.cells #[.slice va ks.length vcap, .int .i64 a] 24) := ⟨_, rfl⟩
  have hs1 : w.heap.size < W1.heap.size := by rw [hW1]; simp
  have hf1 : Below w.heap.size w W1 := by rw [hW1]; exact (Below.refl _ _).alloc (Nat.le_refl _) _
  have hx1 : W1.heap[w.heap.size]? = some (.cells #[.slice va ks.length vcap, .int .i64 a] 24 (0, 0)) := by rw [hW1, new_blk]
  have BOX : Hid (∀ wx : World, Below W1.heap.size W1 wx → wx.heap[w.heap.size]? = some (.cells #[.slice va ks.length vcap, .int .i64 a] 24 (0, 0))) := Lib.hid (fun wx hx => (hx.block _ (by omega)).trans hx1)
  have hx1x := hx1
  rw [hW1] at hx1x
  obtain ⟨x1, x2, x3, x4⟩ := box2 hx1x
  have HFA := Lib.hid (And.intro hf ha)
  have HF := Lib.hid hf1
  have HW1 := Lib.hid hW1
  clear htab hW1 hf1 hx1 hx1x hf ha
  go_enter Tryd.func3, Tryd.ntmps3
  go_wp2_with fail
  rw [← HW1.out]
  refine (szCursor_c va ks.length vcap a 1048576 W1 (by omega) (by omega) (by omega)).mono ?_
  rintro e w2 ⟨rfl, hb2⟩
  have hs2 := hb2.size
  clear x1 x2 x3 x4
  obtain ⟨x1, x2, x3, x4⟩ := box2 (BOX.out w2 hb2)
  have H2 := Lib.hid hb2
  by_cases hlen : ks.length ≤ 1048576
  case neg =>
    have e1 := leftOf_lt (n := 1048576) (m := ks.length) (by omega)
    rw [e1]
    have H2' := Lib.hid (HF.out.trans (hb2.mono (by omega)))
    clear e1 hb2
    go_wp2_with fail
    go_ret
    exact ⟨rfl, H2'.out⟩
  have e1 := leftOf_ge (n := 1048576) (m := ks.length) (by omega)
  rw [e1]
  obtain ⟨L, hL⟩ : ∃ L : Int, L = 1048576 - (ks.length : Int) := ⟨_, rfl⟩
  rw [← hL]
  have hge : ¬ (L < 0) := by omega
  have HTC : Hid (∀ wx : World, Below w.heap.size w wx → Calls Tryd.prog 6 #[.agg #[.slice va ks.length vcap, .int .i64 a]] wx fun e w' => ∃ g, e = .returned (.agg #[.slice (some ⟨g, 0, none⟩) ks.length ks.length, .int .i64 a]) ∧ wx.heap.size ≤ g ∧ w'.rowIs g 3 ks.length (fun i => .int .i64 (ks.getD i 0)) ∧ Below wx.heap.size wx w') :=
    Lib.hid (fun wx hx => toCursor_c ks _ a wx w.heap.size hx.size (HK.out.later hx (Nat.le_refl _)) hlen)
  clear e1 hb2 hL
  go_wp2_with fail
  refine (HTC.out w2 (HF.out.trans (H2.out.mono (by omega)))).mono ?_
  rintro e w3 ⟨g3, rfl, hg3, hr3, hb3⟩
  have hb3' := H2.out.trans (hb3.mono hs2)
  have hs3 := hb3'.size
  have HS := Lib.hid (specFormatCursor_c a w3 w3.heap.size (Nat.le_refl _) (rowInts hr3 hlen hr3.lt) HFA.out.1 HFA.out.2 hlen)
  have H3 := Lib.hid hb3'
  clear hb3 hb3' hr3 x1 x2 x3 x4
  go_wp2_with fail
  refine HS.out.mono ?_
  rintro e w4 ⟨rfl, hb4⟩
  have hb4' := H3.out.trans (hb4.mono hs3)
  have hs4 := hb4'.size
  obtain ⟨x1, x2, x3, x4⟩ := box2 (BOX.out w4 hb4')
  have H4 := Lib.hid hb4'
  clear hb4 hb4'
  go_wp2_with fail
  refine (HTC.out w4 (HF.out.trans (H4.out.mono (by omega)))).mono ?_
  rintro e w5 ⟨g5, rfl, hg5, hr5, hb5⟩
  have hlt5 := hr5.lt
  have hb5' := H4.out.trans (hb5.mono hs4)
  have hs5 := hb5'.size
  -- the program's argument lies in a box
  obtain ⟨W6, hW6⟩ : ∃ W6, W6 = w5.alloc (.cells #[.slice (some ⟨g5, 0, none⟩) ks.length ks.length, .int .i64 a] 27) := ⟨_, rfl⟩
  have hs6 : w5.heap.size < W6.heap.size := by rw [hW6]; simp
  have hb6 : Below w5.heap.size w5 W6 := by rw [hW6]; exact (Below.refl _ _).alloc (Nat.le_refl _) _
  have hx6 : W6.heap[w5.heap.size]? = some (.cells #[.slice (some ⟨g5, 0, none⟩) ks.length ks.length, .int .i64 a] 27 (0, 0)) := by rw [hW6, new_blk]
  have hb16 : Below W1.heap.size W1 W6 := hb5'.trans (hb6.mono hs5)
  have hr6 := hr5.of_block (hb6.block g5 (by omega))
  have hx6x := hx6
  rw [hW6] at hx6x
  clear x1 x2 x3 x4
  obtain ⟨x1, x2, x3, x4⟩ := box2 hx6x
  have HI := Lib.hid (impl_formatCursor a w W6 HT.out (HF.out.trans (hb16.mono (by omega))) W6.heap.size (Nat.le_refl _) (rowInts hr6 hlen (by omega)) HFA.out.1 HFA.out.2 hlen)
  have H6 := Lib.hid (And.intro hb16 (And.intro hx6 (rowInts hr6 hlen (B := W6.heap.size) (by omega))))
  have HW6 := Lib.hid hW6
  clear hW6 hb6 hx6 hb16 hr6 hx6x hr5 hb5 hb5'
  go_wp2_with fail
  rw [← HW6.out]
  refine HI.out.mono ?_
  rintro e w7 ⟨rfl, hb7⟩
  have hs7 := hb7.size
  have hx7 := (hb7.block w5.heap.size (by omega)).trans H6.out.2.1
  clear x1 x2 x3 x4
  have BOX7 : Hid (∀ wx : World, Below w7.heap.size w7 wx → wx.heap[w5.heap.size]? = some (.cells #[.slice (some ⟨g5, 0, none⟩) ks.length ks.length, .int .i64 a] 27 (0, 0)) ∧ wx.heap[w.heap.size]? = some (.cells #[.slice va ks.length vcap, .int .i64 a] 24 (0, 0))) :=
    Lib.hid (fun wx hx => ⟨(hx.block _ (by omega)).trans hx7, BOX.out wx (H6.out.1.trans ((hb7.trans (hx.mono hs7)).mono H6.out.1.size))⟩)
  have H7 := Lib.hid (And.intro (H6.out.1.trans (hb7.mono H6.out.1.size)) (IntsIn.later H6.out.2.2 hb7 (Nat.le_refl _)))
  clear hb7 hx7
  have HTC2 : Hid (∀ wx : World, Below w7.heap.size w7 wx → Calls Tryd.prog 6 #[.agg #[.slice va ks.length vcap, .int .i64 a]] wx fun e w' => ∃ g, e = .returned (.agg #[.slice (some ⟨g, 0, none⟩) ks.length ks.length, .int .i64 a]) ∧ wx.heap.size ≤ g ∧ w'.rowIs g 3 ks.length (fun i => .int .i64 (ks.getD i 0)) ∧ Below wx.heap.size wx w') :=
    Lib.hid (fun wx hx => HTC.out wx (HF.out.trans ((H7.out.1.trans (hx.mono (by omega))).mono (by omega))))
  have HEQ : Hid (∀ (wx wy : World) (g : Nat), Below w7.heap.size w7 wx → wx.rowIs g 3 ks.length (fun i => .int .i64 (ks.getD i 0)) → wx = wy → Calls Tryd.prog 8 #[.agg #[.slice (some ⟨g5, 0, none⟩) ks.length ks.length, .int .i64 a], .agg #[.slice (some ⟨g, 0, none⟩) ks.length ks.length, .int .i64 a]] wy fun e w' => e = .returned (.bool true) ∧ Below wy.heap.size wy w') :=
    Lib.hid (fun wx wy g hx hr he => by
      subst he
      exact eqCursor_c ks _ _ a wx wx.heap.size (Nat.le_refl _) (IntsIn.wider (IntsIn.later H7.out.2 hx hs7) (by have := hx.size; omega)) (rowInts hr hlen hr.lt))
  go_wp2_with fail
  obtain ⟨⟨x1, x2, -, -⟩, x5, x6, -, -⟩ := (⟨box2 (BOX7.out w7 (Below.refl _ _)).1, box2 (BOX7.out w7 (Below.refl _ _)).2⟩ : _ ∧ _)
  go_region_held3 (fun x => x.cell? ⟨w5.heap.size, 0, none⟩ = some (.slice (some ⟨g5, 0, none⟩) ks.length ks.length) ∧ x.cell? ⟨w5.heap.size, 1, none⟩ = some (.int .i64 a) ∧ x.cell? ⟨w.heap.size, 0, none⟩ = some (.slice va ks.length vcap) ∧ x.cell? ⟨w.heap.size, 1, none⟩ = some (.int .i64 a))
    (first | exact ⟨x1, x2, x5, x6⟩ | exact ⟨z1, z2, z5, z6⟩ | exact ⟨q1, q2, q5, q6⟩ | go_keep)
    (first
      | (go_at_call 6; refine (HTC2.out _ (Below.refl _ _).drew).mono ?_; rintro e w8 ⟨g8, rfl, hg8, hr8, hb8⟩; have hB8 : Below w7.heap.size w7 w8 := ((Below.refl _ _).drew).trans hb8; obtain ⟨z1, z2, -, -⟩ := box2 (BOX7.out w8 hB8).1; obtain ⟨z5, z6, -, -⟩ := box2 (BOX7.out w8 hB8).2; have HB8 := Lib.hid (And.intro hB8 hr8); clear hb8 hB8 hr8)
      | (go_at_call 8; refine (HEQ.out w8 _ g8 HB8.out.1 HB8.out.2 rfl).mono ?_; rintro e w9 ⟨rfl, hb9⟩; have hB9 : Below w7.heap.size w7 w9 := HB8.out.1.trans (hb9.mono HB8.out.1.size); obtain ⟨q1, q2, -, -⟩ := box2 (BOX7.out w9 hB9).1; obtain ⟨q5, q6, -, -⟩ := box2 (BOX7.out w9 hB9).2; have HB9 := Lib.hid hB9; clear hb9 hB9))
  have HL := Lib.hid (HF.out.trans ((H7.out.1.trans (HB9.out.mono (by omega))).mono (by omega)))
  clear x1 x2 x5 x6 z1 z2 z5 z6 q1 q2 q5 q6
  go_wp2_with fail
  go_ret
  exact ⟨rfl, HL.out⟩
end Go.Proofs.YtlogjmjoegnkbaaDoor
