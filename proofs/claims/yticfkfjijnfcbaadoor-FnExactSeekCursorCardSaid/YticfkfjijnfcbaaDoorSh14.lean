/- The moves of a walker: forward, backward, toLast, and what SeekCursor hands to walk. -/
import Derived.Test.YticfkfjijnfcbaaDoorProg
import Derived.Test.YticfkfjijnfcbaaDoorSh0
import Derived.Test.YticfkfjijnfcbaaDoorSh9
import Derived.Test.YticfkfjijnfcbaaDoorSh10
import Derived.Test.YticfkfjijnfcbaaDoorClimb
import Derived.Deep.QuietTactic
import Derived.BigQuiet
import Derived.StillTailTactics
import Derived.Test.YticfkfjijnfcbaaDoorSh12
import Derived.Test.YticfkfjijnfcbaaDoorCurWalk
import Derived.Test.YticfkfjijnfcbaaDoorSh13

/- The cursor at which a walker stands. -/
namespace Go.Proofs.YticfkfjijnfcbaaDoor
open Go.RowKit

set_option maxRecDepth 100000 in
set_option maxHeartbeats 4000000 in
theorem cursor_c {w : World} {b : Nat} {P : List Int} {a : Int} (h : StandsAt w b P a) (hP : P.length < 6) :
    Calls Tryd.prog 104 #[.pointer (some ⟨b, 0, none⟩)] w fun e w' => ∃ v, e = .returned (.agg #[v, .int .i64 a]) ∧ IntsOwn w' w.heap.size v P ∧ Below w.heap.size w w' := by
  obtain ⟨f, hW, hf, hfa⟩ := h
  obtain ⟨n, hn⟩ : ∃ n, n = P.length := ⟨_, rfl⟩
  rw [← hn] at hW hf hfa hP
  have hlt := hW.lt
  obtain ⟨W1, hW1⟩ : ∃ W1, W1 = w.alloc (.cells #[.slice none 0 0, .int .i64 0] 28) := ⟨_, rfl⟩
  have hs1 : W1.heap.size = w.heap.size + 1 := by rw [hW1]; simp
  have hb1 : Below w.heap.size w W1 := by rw [hW1]; exact (Below.refl _ _).alloc (Nat.le_refl _) _
  have k0 : W1.heap[w.heap.size]? = some (.cells #[.slice none 0 0, .int .i64 0] 28 (0, 0)) := by rw [hW1, new_blk]
  have hwk1 : Walker W1 b f (n + 1) := hW.blow (hb1.block b hlt)
  have HLW := Lib.hid (lowest_c hwk1 hP)
  -- the walker's cells, wherever its block is the same
  have CE : Hid (∀ wx : World, wx.heap[b]? = w.heap[b]? → wx.cell? ⟨b, n * 2 + 1, none⟩ = some (.int .i64 a) ∧ wx.cell? ⟨b, 12, none⟩ = some (.int .i64 ((n : Int) + 1)) ∧
      ∀ i, i < n → ∃ v : Addr, wx.cell? ⟨b, i * 2, none⟩ = some (.pointer (some v)) ∧ wx.cell? ⟨b, i * 2 + 1, none⟩ = some (.int .i64 (P.getD i 0))) := by
    obtain ⟨C, hx, hC, h12, hat⟩ := hW.blk
    refine Lib.hid (fun wx he => ⟨?_, ?_, fun i hi => ?_⟩)
    · have := (hat n (by omega)).2
      rw [hfa, show 2 * n + 1 = n * 2 + 1 by omega] at this
      simp [World.cell?, he, hx, this]
    · have : C[12]? = some (.int .i64 ((n : Int) + 1)) := by rw [h12]; simp
      simp [World.cell?, he, hx, this]
    · obtain ⟨g1, pp, g2⟩ := hf i hi
      have g3 := (hat i (by omega)).1
      have g4 := (hat i (by omega)).2
      rw [g2, show 2 * i = i * 2 by omega] at g3
      rw [g1, show 2 * i + 1 = i * 2 + 1 by omega] at g4
      exact ⟨pp, by simp [World.cell?, he, hx, g3], by simp [World.cell?, he, hx, g4]⟩
  have HB1 := Lib.hid (And.intro hb1 k0)
  have HW1 := Lib.hid hW1
  have HN := Lib.hid hn
  clear hW hf hfa hwk1 hb1 k0 hW1 hn
  go_enter Tryd.func104, Tryd.ntmps104
  go_wp2_with fail
  rw [← HW1.out]
  refine HLW.out.mono ?_
  rintro e w2 ⟨rfl, hb2, hh⟩
  have hs2 : w2.heap.size = w.heap.size + 1 := by rw [hh]; exact hs1
  have hbl2 : w2.heap[b]? = w.heap[b]? := by rw [hh]; exact HB1.out.1.block b hlt
  obtain ⟨x1, -, -⟩ := CE.out w2 hbl2
  -- the cursor's box
  obtain ⟨W3, hW3⟩ : ∃ W3, W3 = w2.alloc (.cells #[.slice none 0 0, .int .i64 a] 28) := ⟨_, rfl⟩
  have hs3 : W3.heap.size = w.heap.size + 2 := by rw [hW3]; simp [hs2]
  have hb3 : Below w.heap.size w W3 := by
    rw [hW3]; exact HB1.out.1.trans ((hb2.mono (by omega)).alloc (by omega) _) 
  have k03 : W3.heap[w.heap.size]? = some (.cells #[.slice none 0 0, .int .i64 0] 28 (0, 0)) := by rw [hW3, old_blk _ _ _ (by omega), hh]; exact HB1.out.2
  have k13 : W3.heap[w.heap.size + 1]? = some (.cells #[.slice none 0 0, .int .i64 a] 28 (0, 0)) := by rw [hW3, ← hs2, new_blk]
  have hbl3 : W3.heap[b]? = w.heap[b]? := hb3.block b hlt
  obtain ⟨-, y1, -⟩ := CE.out W3 hbl3
  rw [hW3] at y1
  have hdec : IntKind.i64.wrap ((n : Int) + 1 - 1) = (n : Int) := by rw [IntKind.wrap_i64]; omega
  have hsub : (n : Int) + 1 - 1 = (n : Int) := by omega
  have hn6 : (n : Int) ≤ 6 := by omega
  have hn0 : (0 : Int) ≤ (n : Int) := by omega
  have H3 := Lib.hid (And.intro hb3 (And.intro k03 (And.intro k13 hbl3)))
  have HW3 := Lib.hid hW3
  have HS2 := Lib.hid (And.intro hs2 (And.intro hs3 hs1))
  clear hb2 hh hb3 k03 k13 hbl3 hW3 hs3 hs1
  go_wp2_with fail
  go_quiet (fail)
  rw [← HW3.out]
  go_wp2_with fail
  go_loopw [5, 22] (fun _ i wr => ∃ (j : Nat) (a1 : Option Addr) (c1 : Nat), j ≤ n ∧ i = .int .i64 (j : Int) ∧ Hid (IntsOwn wr (w.heap.size + 2) (.slice a1 j c1) (P.take j)) ∧
    wr.heap[w.heap.size + 1]? = some (.cells #[.slice a1 j c1, .int .i64 a] 28 (0, 0)) ∧ wr.heap[w.heap.size]? = some (.cells #[.slice none 0 0, .int .i64 0] 28 (0, 0)) ∧ Below w.heap.size w wr) (fun _ i _ => n - (intOf i).toNat)
  case atStart => exact ⟨0, none, 0, Nat.zero_le _, rfl, Lib.hid ⟨rfl, .inl ⟨rfl, rfl⟩⟩, H3.out.2.2.1, H3.out.2.1, H3.out.1.trans (drewN_below _ _ _)⟩
  case round =>
    obtain ⟨j, a1, c1, hj, rfl, HOWN, hx1, hx0, hbel⟩ := hrel
    have hsz : w.heap.size + 2 ≤ wr.heap.size := by
      have := (Array.getElem?_eq_some_iff.1 hx1).1; omega
    have hblr : wr.heap[b]? = w.heap[b]? := hbel.block b hlt
    have htl : (P.take j).length = j := by have := HN.out; rw [List.length_take]; omega
    by_cases hlt' : j < n
    · obtain ⟨v, c3, c4⟩ := (CE.out wr hblr).2.2 j hlt'
      obtain ⟨x, hx⟩ : ∃ x, x = P.getD j 0 := ⟨_, rfl⟩
      rw [← hx] at c4
      have hjn : (j : Int) < (n : Int) := by omega
      obtain ⟨Wj, hWj⟩ : ∃ Wj, Wj = wr.alloc (.cells #[.pointer (some v), .int .i64 x] 124) := ⟨_, rfl⟩
      have hsj : Wj.heap.size = wr.heap.size + 1 := by rw [hWj]; simp
      have e1 : Wj.heap[w.heap.size + 1]? = some (.cells #[.slice a1 j c1, .int .i64 a] 28 (0, 0)) := by rw [hWj, old_blk _ _ _ (by omega)]; exact hx1
      have e2 : Wj.heap[wr.heap.size]? = some (.cells #[.pointer (some v), .int .i64 x] 124 (0, 0)) := by rw [hWj, new_blk]
      obtain ⟨q1, q2, q3, q4⟩ := box2 e1
      obtain ⟨r1, r2, r3, r4⟩ := box2 e2
      have HOJ : Hid (IntsOwn (Wj.alloc (.cells #[.int .i64 x] 3)) (w.heap.size + 2) (.slice a1 j c1) (P.take j)) := Lib.hid (by rw [hWj]; exact (HOWN.out.alloc' _).alloc' _)
      have HSX : Hid (IntsAt (Wj.alloc (.cells #[.int .i64 x] 3)) (.slice (some ⟨wr.heap.size + 1, 0, none⟩) 1 1) [x]) := Lib.hid (by rw [← hsj]; exact IntsAt.one Wj x)
      have HLN : Hid ((P.take j).length + [x].length ≤ 17592186044416) := Lib.hid (by rw [htl]; simp; omega)
      have hlo : w.heap.size + 2 ≤ (Wj.alloc (.cells #[.int .i64 x] 3)).heap.size := by simp; omega
      have HPJ : Hid (P.take j ++ [x] = P.take (j + 1)) := Lib.hid (by
        have hjP : j < P.length := by have := HN.out; omega
        rw [List.take_succ_eq_append_getElem hjP, hx, List.getD_eq_getElem?_getD, List.getElem?_eq_getElem hjP]; rfl)
      have HX := Lib.hid (And.intro hx1 (And.intro hx0 (And.intro hbel hx)))
      have HE := Lib.hid (And.intro e1 (And.intro e2 hWj))
      have hWjr : wr.alloc (.cells #[.pointer (some v), .int .i64 x] 124) = Wj := hWj.symm
      clear hx1 hx0 hbel hx e1 e2 hblr hWj
      go_wp2_with (at_builtin; refine wpList_append_ints rfl _ _ rfl (w.heap.size + 2) _ _ (P.take j) [x] rfl HOJ.out rfl HSX.out HLN.out hlo ?_; intro v9 w9 hown9 hbel9 _ hsh9; obtain ⟨a9, c9, rfl⟩ := hsh9; have d1 := (hbel9.block (w.heap.size + 1) (by omega)).trans ((old_blk _ _ _ (by omega)).trans HE.out.1); obtain ⟨t1, t2, t3, t4⟩ := box2 d1; have hl9 : (P.take j ++ [x]).length = j + 1 := by simp [htl])
      go_roundw
      case rel =>
        have hsw : w.heap.size + 2 ≤ (Wj.alloc (.cells #[.int .i64 x] 3)).heap.size := hlo
        have hbj : Below w.heap.size w (Wj.alloc (.cells #[.int .i64 x] 3)) := HX.out.2.2.1.trans (by rw [HE.out.2.2]; exact ((Below.refl _ _).alloc (by omega) _).alloc (by simp; omega) _)
        have d0 : w9.heap[w.heap.size]? = some (.cells #[.slice none 0 0, .int .i64 0] 28 (0, 0)) := (hbel9.block w.heap.size (by omega)).trans ((old_blk _ _ _ (by omega)).trans (by rw [HE.out.2.2, old_blk _ _ _ (by omega)]; exact HX.out.2.1))
        refine ⟨j + 1, a9, c9, by omega, by go_num, Lib.hid ?_, ?_, ?_, ?_⟩
        · rw [← HPJ.out]
          have ho := hown9
          rw [hl9] at ho
          exact ho.only (C := w9.heap.size) (r := w.heap.size + 1) ⟨rfl, rfl, rfl, by simp, fun k _ hne => set_other _ _ _ _ _ hne⟩ (Nat.le_refl _) (by omega)
        · exact set_blk (o := 0) _ d1
        · rw [set_other _ _ _ _ _ (by omega)]; exact d0
        · exact (hbj.trans (hbel9.mono (by omega))).setCell (by show w.heap.size ≤ w.heap.size + 1; omega) _
      case measure => simp [intOf]; omega
    · have hjn : ¬ (j : Int) < (n : Int) := by omega
      obtain rfl : j = n := by omega
      have htk : P.take j = P := List.take_of_length_le (by have := HN.out; omega)
      rw [htk] at HOWN
      obtain ⟨q1, q2, q3, q4⟩ := box2 hx1
      obtain ⟨r1, r2, r3, r4⟩ := box2 hx0
      have HX := Lib.hid (And.intro hx1 (And.intro hx0 hbel))
      clear hx1 hx0 hbel htk hblr htl
      go_wp2_with fail
      have d := set_blk (o := 1) (.int .i64 a) (set_blk (o := 0) (.slice a1 j c1) HX.out.2.1)
      obtain ⟨t1, t2, -, -⟩ := box2 d
      refine bodyPost_ret (v := .agg #[.slice a1 j c1, .int .i64 a]) (by simp [results, Tryd.results104, go_sem, t1, t2]) rfl ⟨_, rfl, ?_, ?_⟩
      · have h2 := HOWN.out.only (w' := (wr.setCell ⟨w.heap.size, 0, none⟩ (.slice a1 j c1)).setCell ⟨w.heap.size, 1, none⟩ (.int .i64 a)) (C := wr.heap.size) (r := w.heap.size) ⟨rfl, rfl, rfl, by simp, fun k _ hne => by rw [set_other _ _ _ _ _ hne, set_other _ _ _ _ _ hne]⟩ (Nat.le_refl _) (by omega)
        exact h2.lower (by omega)
      · exact (HX.out.2.2.setCell (p := ⟨w.heap.size, 0, none⟩) (Nat.le_refl _) _).setCell (p := ⟨w.heap.size, 1, none⟩) (Nat.le_refl _) _
end Go.Proofs.YticfkfjijnfcbaaDoor

/- The moves of a walker: forward, backward, toLast, and what SeekCursor hands to walk. -/
namespace Go.Proofs.YticfkfjijnfcbaaDoor
open Go.RowKit

theorem below_only_trans {w1 w2 w3 : World} {b : Nat} (h : Below w1.heap.size w1 w2) (h2 : Only w2.heap.size b w2 w3) : Only w1.heap.size b w1 w3 :=
  ⟨h2.os.trans h.os, h2.tape.trans h.tape, h2.output.trans h.output, Nat.le_trans h.size h2.size, fun k h1 hne => (h2.block k (by have := h.size; omega) hne).trans (h.block k h1)⟩
theorem Joints.cut {w : World} {lo hi : Nat} {t : Tr} {ks : List Int} {a : Int} {f : Nat → Value × Int} (h : Joints w lo hi t (ks ++ [a]) f (ks.length + 1)) : Joints w lo hi t ks f ks.length := by
  intro i hi
  obtain ⟨p, u, h1, h2, h3⟩ := h i (by omega)
  rw [Tr.getD_left hi] at h1
  rw [List.take_append_of_le_length (by omega)] at h2
  exact ⟨p, u, h1, h2, h3⟩

/-- A walker that stands at a cursor of a valid tree. -/
structure Stood (w : World) (b : Nat) (t : Tr) (ks : List Int) (a : Int) (k : List Int) (V : Value) : Prop where
  valid : t.someB = true
  light : t.weight ≤ 1048576
  low : 0 ≤ a
  high : a < (k.length : Int)
  var : ∀ wx : World, Only w.heap.size b w wx → wx.cell? ⟨1, 0, none⟩ = some V
  at' : ∃ (c : List Tr) (f : Nat → Value × Int) (p lo hi : Nat), Tr.nodeTo ks t = some (.mk k c) ∧ Walker w b f (ks.length + 1) ∧ Joints w lo hi t ks f ks.length ∧ f ks.length = (.pointer (some ⟨p, 0, none⟩), a) ∧ NodeAt w lo hi p (.mk k c) ∧ b < lo ∧ hi ≤ w.heap.size

theorem Stood.later {w w' : World} {b : Nat} {t : Tr} {ks k : List Int} {a : Int} {V : Value} (h : Stood w b t ks a k V) (hb : Below w.heap.size w w') : Stood w' b t ks a k V := by
  obtain ⟨c, f, p, lo, hi, h1, h2, h3, h4, h5, h6, h7⟩ := h.at'
  have hs := hb.size
  exact ⟨h.valid, h.light, h.low, h.high, fun wx hx => h.var wx (below_only_trans hb hx), c, f, p, lo, hi, h1, h2.blow (hb.block b h2.lt), h3.same (fun k _ h2 => hb.block k (by omega)), h4, h5.same (fun k _ h2 => hb.block k (by omega)), h6, by omega⟩

theorem Stood.behind {w : World} {b : Nat} {t : Tr} {ks k : List Int} {a : Int} {V : Value} (h : Stood w b t ks a k V) {gf q : Nat} {n c : Int} (hg : Ahead gf n c) (hq : w.heap[q]? = some (.cells #[.int .i64 n] 3 (0, 0))) (hqb : q ≠ b) :
    Calls Tryd.prog 73 #[.pointer (some ⟨b, 0, none⟩), .func (.func gf) #[] #[.pointer (some ⟨q, 0, none⟩)]] w (Moved w b V (Tr.goF c t ks)) := by
  obtain ⟨cs, f, p, lo, hi, h1, h2, h3, h4, h5, h6, h7⟩ := h.at'
  rw [Tr.goF_at h1]
  exact toBehind_c h2 h3 h4 h5 h1 (Tr.nodeTo_well ks (Tr.Well.of_some h.valid) h1) (by have := (Tr.nodeTo_small ks h1).1; have := h.light; omega) (Tr.six h.valid h1 c) h6 h7 hg hq hqb h.var
theorem Stood.ahead {w : World} {b : Nat} {t : Tr} {ks k : List Int} {a : Int} {V : Value} (h : Stood w b t ks a k V) {gf q : Nat} {n c : Int} (hg : Ahead gf n c) (hq : w.heap[q]? = some (.cells #[.int .i64 n] 3 (0, 0))) (hqb : q ≠ b) :
    Calls Tryd.prog 105 #[.pointer (some ⟨b, 0, none⟩), .func (.func gf) #[] #[.pointer (some ⟨q, 0, none⟩)]] w (Moved w b V (Tr.goB c t ks)) := by
  obtain ⟨cs, f, p, lo, hi, h1, h2, h3, h4, h5, h6, h7⟩ := h.at'
  rw [Tr.goB_at h1]
  exact toAhead_c h2 h3 h4 h5 h1 (Tr.nodeTo_well ks (Tr.Well.of_some h.valid) h1) (by have := (Tr.nodeTo_small ks h1).1; have := h.light; omega) (Tr.six h.valid h1 c) h6 h7 hg hq hqb h.var (Tr.smallAt h.valid h.light h1 c)
theorem Stood.key {w : World} {b : Nat} {t : Tr} {ks k : List Int} {a : Int} {V : Value} (h : Stood w b t ks a k V) :
    Calls Tryd.prog 82 #[.pointer (some ⟨b, 0, none⟩)] w fun e w' => e = .returned (.int .i64 (k.getD a.toNat 0)) ∧ Below w.heap.size w w' := by
  obtain ⟨cs, f, p, lo, hi, h1, h2, h3, h4, h5, h6, h7⟩ := h.at'
  exact key_c h2 (by have := Tr.nodeTo_few h.valid h1; omega) h4 h5 ⟨h.low, h.high⟩
theorem Stood.lt {w : World} {b : Nat} {t : Tr} {ks k : List Int} {a : Int} {V : Value} (h : Stood w b t ks a k V) : b < w.heap.size := by
  obtain ⟨cs, f, p, lo, hi, h1, h2, -⟩ := h.at'
  exact h2.lt
theorem Moved.from {w1 w2 : World} {b : Nat} {V : Value} {r : List Int × Int × Bool} {e : Ending} {w' : World} (h : Moved w2 b V r e w') (hb : Below w1.heap.size w1 w2) : Moved w1 b V r e w' :=
  ⟨h.1, below_only_trans hb h.2⟩
theorem Moved.shown {w : World} {b : Nat} {T : Nat} {s : Addr} {r : List Int × Int × Bool} {e : Ending} {w' : World} (h : Moved w b (.iface T (.pointer (some s))) r e w') : (e = .returned .nilIface ∨ e = .returned (.iface T (.pointer (some s)))) := by
  rcases h.1 with ⟨_, h, _⟩ | ⟨_, h⟩
  · exact .inl h
  · exact .inr h

set_option maxHeartbeats 1000000 in
theorem forward_c {w : World} {b : Nat} {t : Tr} {ks k : List Int} {a : Int} {T : Nat} {s : Addr} (h : Stood w b t ks a k (.iface T (.pointer (some s)))) :
    Calls Tryd.prog 76 #[.pointer (some ⟨b, 0, none⟩)] w (Moved w b (.iface T (.pointer (some s))) (Tr.goF (k.getD a.toNat 0 + 1) t ks)) := by
  have HS := Lib.hid h
  have hlt := h.lt
  obtain ⟨K, hK⟩ : ∃ K, K = k.getD a.toNat 0 := ⟨_, rfl⟩
  have HKEY := Lib.hid h.key
  rw [← hK] at HKEY ⊢
  clear h hK
  go_enter Tryd.func76, Tryd.ntmps76
  go_wp2_with fail
  refine HKEY.out.mono ?_
  rintro e w2 ⟨rfl, hb2⟩
  have H2 := Lib.hid hb2
  have hs2 := hb2.size
  clear hb2
  go_wp2_with fail
  refine (upTo_c K w2).mono ?_
  rintro e w3 ⟨rfl, hw3⟩
  have hb3 : Below w2.heap.size w2 w3 := by rw [hw3]; exact (Below.refl _ _).alloc (Nat.le_refl _) _
  have hq3 : w3.heap[w2.heap.size]? = some (.cells #[.int .i64 K] 3 (0, 0)) := by rw [hw3, new_blk]
  have hb13 := H2.out.trans (hb3.mono hs2)
  have HM := Lib.hid ((HS.out.later hb13).behind (.inr ⟨rfl, rfl⟩) hq3 (by omega))
  have HB := Lib.hid hb13
  clear hb3 hq3 hb13 hw3
  go_wp2_with fail
  refine HM.out.mono ?_
  intro e w4 hm
  have HMM := Lib.hid (hm.from HB.out)
  rcases hm.shown with rfl | rfl
  · clear hm
    go_wp2_with fail
    exact bodyPost_ret (v := .nilIface) (by simp [results, Tryd.results76, go_sem]) rfl HMM.out
  · clear hm
    go_wp2_with fail
    exact bodyPost_ret (v := .iface T (.pointer (some s))) (by simp [results, Tryd.results76, go_sem]) rfl HMM.out

set_option maxHeartbeats 1000000 in
theorem backward_c {w : World} {b : Nat} {t : Tr} {ks k : List Int} {a : Int} {T : Nat} {s : Addr} (h : Stood w b t ks a k (.iface T (.pointer (some s)))) :
    Calls Tryd.prog 77 #[.pointer (some ⟨b, 0, none⟩)] w (Moved w b (.iface T (.pointer (some s))) (Tr.goB (k.getD a.toNat 0) t ks)) := by
  have HS := Lib.hid h
  have hlt := h.lt
  obtain ⟨K, hK⟩ : ∃ K, K = k.getD a.toNat 0 := ⟨_, rfl⟩
  have HKEY := Lib.hid h.key
  rw [← hK] at HKEY ⊢
  clear h hK
  go_enter Tryd.func77, Tryd.ntmps77
  go_wp2_with fail
  refine HKEY.out.mono ?_
  rintro e w2 ⟨rfl, hb2⟩
  have H2 := Lib.hid hb2
  have hs2 := hb2.size
  clear hb2
  go_wp2_with fail
  refine (less_c K w2).mono ?_
  rintro e w3 ⟨rfl, hw3⟩
  have hb3 : Below w2.heap.size w2 w3 := by rw [hw3]; exact (Below.refl _ _).alloc (Nat.le_refl _) _
  have hq3 : w3.heap[w2.heap.size]? = some (.cells #[.int .i64 K] 3 (0, 0)) := by rw [hw3, new_blk]
  have hb13 := H2.out.trans (hb3.mono hs2)
  have HM := Lib.hid ((HS.out.later hb13).ahead (.inl ⟨rfl, rfl⟩) hq3 (by omega))
  have HB := Lib.hid hb13
  clear hb3 hq3 hb13 hw3
  go_wp2_with fail
  refine HM.out.mono ?_
  intro e w4 hm
  have HMM := Lib.hid (hm.from HB.out)
  rcases hm.shown with rfl | rfl
  · clear hm
    go_wp2_with fail
    exact bodyPost_ret (v := .nilIface) (by simp [results, Tryd.results77, go_sem]) rfl HMM.out
  · clear hm
    go_wp2_with fail
    exact bodyPost_ret (v := .iface T (.pointer (some s))) (by simp [results, Tryd.results77, go_sem]) rfl HMM.out

set_option maxHeartbeats 1000000 in
theorem toLast_c {w : World} {b : Nat} {t : Tr} {ks k : List Int} {a : Int} {T : Nat} {s : Addr} (h : Stood w b t ks a k (.iface T (.pointer (some s)))) :
    Calls Tryd.prog 67 #[.pointer (some ⟨b, 0, none⟩)] w (Moved w b (.iface T (.pointer (some s))) (Tr.goB 100 t ks)) := by
  have HS := Lib.hid h
  have hlt := h.lt
  clear h
  go_enter Tryd.func67, Tryd.ntmps67
  go_wp2_with fail
  refine (upTo_c 99 w).mono ?_
  rintro e w3 ⟨rfl, hw3⟩
  have hb3 : Below w.heap.size w w3 := by rw [hw3]; exact (Below.refl _ _).alloc (Nat.le_refl _) _
  have hq3 : w3.heap[w.heap.size]? = some (.cells #[.int .i64 99] 3 (0, 0)) := by rw [hw3, new_blk]
  have HM := Lib.hid ((HS.out.later hb3).ahead (.inr ⟨rfl, rfl⟩) hq3 (by omega))
  have HB := Lib.hid hb3
  clear hb3 hq3 hw3
  go_wp2_with fail
  refine HM.out.mono ?_
  intro e w4 hm
  have HMM := Lib.hid (hm.from HB.out)
  rcases hm.shown with rfl | rfl
  · clear hm
    go_wp2_with fail
    exact bodyPost_ret (v := .nilIface) (by simp [results, Tryd.results67, go_sem]) rfl HMM.out
  · clear hm
    go_wp2_with fail
    exact bodyPost_ret (v := .iface T (.pointer (some s))) (by simp [results, Tryd.results67, go_sem]) rfl HMM.out

set_option maxHeartbeats 1000000 in
theorem seek1_c {w : World} {b : Nat} {t : Tr} {ks k : List Int} {a : Int} {T : Nat} {s : Addr} (h : Stood w b t ks a k (.iface T (.pointer (some s)))) {kb : Nat} {key : Int} (hkb : w.cell? ⟨kb, 0, none⟩ = some (.int .i64 key)) :
    Calls Tryd.prog 72 #[.pointer (some ⟨b, 0, none⟩), .pointer (some ⟨kb, 0, none⟩)] w (Moved w b (.iface T (.pointer (some s))) (Tr.goF key t ks)) := by
  have HS := Lib.hid h
  have hlt := h.lt
  clear h
  go_enter Tryd.func72, Tryd.ntmps72
  go_wp2_with fail
  refine (less_c key w).mono ?_
  rintro e w3 ⟨rfl, hw3⟩
  have hb3 : Below w.heap.size w w3 := by rw [hw3]; exact (Below.refl _ _).alloc (Nat.le_refl _) _
  have hq3 : w3.heap[w.heap.size]? = some (.cells #[.int .i64 key] 3 (0, 0)) := by rw [hw3, new_blk]
  have HM := Lib.hid ((HS.out.later hb3).behind (.inl ⟨rfl, rfl⟩) hq3 (by omega))
  have HB := Lib.hid hb3
  clear hb3 hq3 hw3
  go_wp2_with fail
  refine HM.out.mono ?_
  intro e w4 hm
  have HMM := Lib.hid (hm.from HB.out)
  rcases hm.shown with rfl | rfl
  · clear hm
    go_wp2_with fail
    exact bodyPost_ret (v := .nilIface) (by simp [results, Tryd.results72, go_sem]) rfl HMM.out
  · clear hm
    go_wp2_with fail
    exact bodyPost_ret (v := .iface T (.pointer (some s))) (by simp [results, Tryd.results72, go_sem]) rfl HMM.out
end Go.Proofs.YticfkfjijnfcbaaDoor
