/- For every slice of bytes, the law on cursors (FnCursorRange) returns true and leaves its arguments as they were, where the program's errNowhere and errEnd hold what its text lays; the card ties it to that text. -/
import Derived.Test.YticfkfjijnfcbaaDoorProg
import Derived.Test.YticfkfjijnfcbaaDoorSh0
import Derived.Test.YticfkfjijnfcbaaDoorSh18
import Derived.Test.YticfkfjijnfcbaaDoorSh19
import Derived.Test.YticfkfjijnfcbaaDoorDrawRange
import Derived.Test.YticfkfjijnfcbaaDoorSh24
import Derived.Test.YticfkfjijnfcbaaDoorSh9
import Derived.Test.YticfkfjijnfcbaaDoorFtSame
import Derived.Test.YticfkfjijnfcbaaDoorSh27
import Derived.Test.YticfkfjijnfcbaaDoorSh26
import Derived.Test.YticfkfjijnfcbaaDoorImRank
import Derived.Test.YticfkfjijnfcbaaDoorSh30
import Derived.Test.YticfkfjijnfcbaaDoorSh10
import Derived.Test.YticfkfjijnfcbaaDoorSh15
import Derived.Test.YticfkfjijnfcbaaDoorCurEq
import Derived.Test.YticfkfjijnfcbaaDoorSh16
import Derived.Deep.RegionHeld3
import Derived.Test.YticfkfjijnfcbaaDoorRows
import Derived.Test.YticfkfjijnfcbaaDoorCards
import Derived.Test.YticfkfjijnfcbaaDoorTie
import Derived.Test.YticfkfjijnfcbaaDoorFacts
import Derived.Lib.LaidTab
import Derived.WalkKit
import Derived.ProofKit
import Derived.OpenShut
import Derived.ChangeOld
import Derived.Below
import Derived.LaidMore
import Derived.OpenVars
import Derived.Stop.LaidErr
import Derived.Stop.LaidTwo
import Derived.Stop.Joined
import Derived.SevenTiedAt

/- The law on ranges by cursors: the walk over the contracts. -/
namespace Go.Proofs.YticfkfjijnfcbaaDoor
open Go.RowKit

theorem ownElse {w w' : World} {lo : Nat} {v : Value} {ks : List Int} (h : IntsOwn w lo v ks) (hb : ∀ k, some k = v.ownBlock → w'.heap[k]? = w.heap[k]?) : IntsOwn w' lo v ks := by
  obtain ⟨h1, h2 | ⟨g, cap, cur, hv, hbb, hg, hr⟩⟩ := h
  · exact ⟨h1, .inl h2⟩
  · exact ⟨h1, .inr ⟨g, cap, cur, hv, hbb, (hb g (by rw [hv]; rfl)).trans hg, hr⟩⟩

set_option maxHeartbeats 4000000 in
set_option maxRecDepth 100000 in
theorem fnCursorRange_c {w : World} {v : Value} {bs : List Nat} (h : BytesIn w w.heap.size v bs) (s s2 : Addr)
    (hV : w.cell? ⟨0, 0, none⟩ = some (.iface 174 (.pointer (some s))) ∧ w.cell? ⟨1, 0, none⟩ = some (.iface 174 (.pointer (some s2)))) (h0 : 1 < w.heap.size) :
    Calls Tryd.prog 14 #[v] w fun e w' => e = .returned (.bool true) ∧ Below w.heap.size w w' := by
  have VAR : Hid (∀ wx : World, Below w.heap.size w wx → wx.cell? ⟨0, 0, none⟩ = some (.iface 174 (.pointer (some s))) ∧ wx.cell? ⟨1, 0, none⟩ = some (.iface 174 (.pointer (some s2)))) :=
    Lib.hid (fun wx hx => ⟨(below_cell hx (by show 0 < _; omega)).trans hV.1, (below_cell hx (by show 1 < _; omega)).trans hV.2⟩)
  have H := Lib.hid h
  obtain ⟨a1, c1, rfl, -⟩ := h
  clear hV
  by_cases hc1 : bs.length ≤ 1048576
  case neg =>
    have hc1' : ((bs.length : Int) > 1048576) := by omega
    go_enter Tryd.func14, Tryd.ntmps14
    go_wp2_with fail
    go_ret
    exact ⟨rfl, Below.refl _ _⟩
  have hc1' : ¬ ((bs.length : Int) > 1048576) := by omega
  have HD := Lib.hid (drawRange_c H.out w (Below.refl _ _) (Nat.le_refl _))
  go_enter Tryd.func14, Tryd.ntmps14
  go_wp2_with fail
  refine HD.out.mono ?_
  rintro e w2 ⟨k2, d2, t, low, high, rfl, ht2, hw2, hb2⟩
  obtain ⟨b1, b2, b3, b4, b5, b6, rfl, rfl⟩ := ht2.slices
  have hs2 := hb2.size
  obtain ⟨W3, hW3⟩ : ∃ W3, W3 = w2.alloc (.cells #[.slice b1 b2 b3, .slice b4 b5 b6] 33) := ⟨_, rfl⟩
  have hs3 : w2.heap.size < W3.heap.size := by rw [hW3]; simp
  have hb3 : Below w2.heap.size w2 W3 := by rw [hW3]; exact (Below.refl _ _).alloc (Nat.le_refl _) _
  have hx3 : W3.heap[w2.heap.size]? = some (.cells #[.slice b1 b2 b3, .slice b4 b5 b6] 33 (0, 0)) := by rw [hW3, new_blk]
  have hta3 : TreeA W3 (.slice b1 b2 b3) (.slice b4 b5 b6) t := (ht2.a (fun k hk => hk.2)).later hb3 (Nat.le_refl _)
  have hwt : t.weight ≤ 1048576 := by omega
  have HF : Hid (∀ wx : World, Below W3.heap.size W3 wx → Below w.heap.size w wx) := Lib.hid (fun wx hx => (hb2.trans (hb3.mono (by omega))).trans (hx.mono (by omega)))
  obtain ⟨r, hr⟩ : ∃ r, r = Tr.walkB t [] 0 (fun _ => Tr.goF low t []) := ⟨_, rfl⟩
  obtain ⟨rk, hrk⟩ : ∃ rk, rk = t.rankB 0 := ⟨_, rfl⟩
  have HC1 : Hid (∀ wx : World, Below W3.heap.size W3 wx → Calls Tryd.prog 27 #[.agg #[.slice b1 b2 b3, .slice b4 b5 b6], .int .i64 low] wx (Walked wx r)) := Lib.hid (fun wx hx => by
    rw [hr]; exact impl_seek_c hta3.tree hwt low s s2 wx hx hx.size (fun wy hy => VAR.out wy (HF.out wy (hx.trans (hy.mono hx.size)))))
  have HC2 : Hid (∀ wx : World, Below W3.heap.size W3 wx → Calls Tryd.prog 41 #[.agg #[.slice b1 b2 b3, .slice b4 b5 b6], .int .i64 0] wx fun e w'' => e = .returned (.int .i64 rk) ∧ Below wx.heap.size wx w'') :=
    Lib.hid (fun wx hx => by rw [hrk]; exact impl_rank (hta3.later hx (Nat.le_refl _)).tree hwt 0 wx (Below.refl _ _) (Nat.le_refl _))
  have HC3 : Hid (∀ wx : World, Below W3.heap.size W3 wx → Calls Tryd.prog 52 #[.agg #[.slice b1 b2 b3, .slice b4 b5 b6], .int .i64 0] wx fun e w'' => e = .returned (.int .i64 rk) ∧ Below wx.heap.size wx w'') :=
    Lib.hid (fun wx hx => by rw [hrk]; exact specRankOf_c (hta3.later hx (Nat.le_refl _)).tree hwt 0 wx (Below.refl _ _) (Nat.le_refl _))
  have HC6 : Hid (∀ (wx : World) (v : Value) (P : List Int) (A : Int), Below W3.heap.size W3 wx → IntsIn wx wx.heap.size v P → Calls Tryd.prog 37 #[.agg #[.slice b1 b2 b3, .slice b4 b5 b6], .agg #[v, .int .i64 A]] wx fun e w'' => e = .returned (.tuple #[.int .i64 (Tr.curK t P A), .bool (Tr.curB t P A)]) ∧ Below wx.heap.size wx w'') :=
    Lib.hid (fun wx v P A hx hi => impl_cursorKey ((hta3.later hx (Nat.le_refl _)).tree) hwt hi A s wx (Below.refl _ _) (Nat.le_refl _) (fun wy hy => (VAR.out wy (HF.out wy (hx.trans (hy.mono hx.size)))).1))
  have HC7 : Hid (∀ (wx : World) (v : Value) (P : List Int) (A : Int), Below W3.heap.size W3 wx → IntsIn wx wx.heap.size v P → Calls Tryd.prog 31 #[.agg #[.slice b1 b2 b3, .slice b4 b5 b6], .agg #[v, .int .i64 A]] wx (Walked wx (Tr.walkB t P A (fun K => Tr.goF (K + 1) t P)))) :=
    Lib.hid (fun wx v P A hx hi => impl_forward_c ((hta3.later hx (Nat.le_refl _)).tree) hwt hi A s s2 wx (Below.refl _ _) (Nat.le_refl _) (fun wy hy => VAR.out wy (HF.out wy (hx.trans (hy.mono hx.size)))))
  have HC8 : Hid (∀ wx : World, Below W3.heap.size W3 wx → Calls Tryd.prog 54 #[.agg #[.slice b1 b2 b3, .slice b4 b5 b6], .int .i64 low, .int .i64 high] wx fun e w'' => ∃ v, e = .returned v ∧ IntsCut w'' wx.heap.size v (t.rangeB low high) ∧ Below wx.heap.size wx w'') :=
    Lib.hid (fun wx hx => impl_range (hta3.later hx (Nat.le_refl _)).tree hwt low high wx (Below.refl _ _) (Nat.le_refl _))
  have BOX : Hid (∀ wx : World, Below W3.heap.size W3 wx → wx.heap[w2.heap.size]? = some (.cells #[.slice b1 b2 b3, .slice b4 b5 b6] 33 (0, 0))) := Lib.hid (fun wx hx => (hx.block _ (by omega)).trans hx3)
  have hx3x := hx3
  rw [hW3] at hx3x
  obtain ⟨x1, x2, x3, x4⟩ := box2 hx3x
  have HW3 := Lib.hid hW3
  have HR := Lib.hid hr
  have HRK := Lib.hid hrk
  have hneb : (rk != rk) = false := by simp
  clear ht2 hb2 hW3 hb3 hx3 hx3x hta3 hr hrk
  go_wp2_with fail
  rw [← HW3.out]
  clear x1 x2 x3 x4
  obtain ⟨x1, x2, x3, x4⟩ := box2 (BOX.out W3 (Below.refl _ _))
  go_region_held3 (fun x => x.cell? ⟨w2.heap.size, 0, none⟩ = some (.slice b1 b2 b3) ∧ x.cell? ⟨w2.heap.size, 1, none⟩ = some (.slice b4 b5 b6))
    (first | exact ⟨x1, x2⟩ | exact ⟨z1, z2⟩ | exact ⟨q1, q2⟩ | go_keep)
    (first
      | (go_at_call 41; refine (HC2.out _ (Below.refl _ _).drew).mono ?_; rintro e w4 ⟨rfl, hb4⟩; have hB4 : Below W3.heap.size W3 w4 := ((Below.refl _ _).drew).trans hb4; obtain ⟨z1, z2, -⟩ := box2 (BOX.out w4 hB4); have HB4 := Lib.hid hB4; clear hb4 hB4)
      | (go_at_call 52; refine (HC3.out _ HB4.out).mono ?_; rintro e w5 ⟨rfl, hb5⟩; have hB5 : Below W3.heap.size W3 w5 := HB4.out.trans (hb5.mono (by have := HB4.out.size; omega)); obtain ⟨q1, q2, -⟩ := box2 (BOX.out w5 hB5); have HB5 := Lib.hid hB5; clear hb5 hB5))
  clear x1 x2 x3 x4 z1 z2 q1 q2
  obtain ⟨x1, x2, x3, x4⟩ := box2 (BOX.out w5 HB5.out)
  have hz5 := HB5.out.size
  clear hneb
  go_wp2_with fail
  refine (HC2.out w5 HB5.out).mono ?_
  rintro e w6 ⟨rfl, hb6⟩
  have HB6 := Lib.hid (HB5.out.trans (hb6.mono hz5))
  have hz6 := HB6.out.size
  clear hb6 x1 x2 x3 x4
  by_cases hneg : rk < 0
  · go_wp2_with fail
    go_ret
    exact ⟨rfl, HF.out _ HB6.out⟩
  have hsome := Tr.rank_some (t := t) (key := 0) (by rw [← HRK.out]; omega)
  obtain ⟨K, hK⟩ : ∃ K, K = t.keys := ⟨_, rfl⟩
  obtain ⟨p, hp⟩ : ∃ p, p = place low K := ⟨_, rfl⟩
  have hpk : p ≤ K.length := by rw [hp]; exact place_le _ _
  have hkl : K.length ≤ 400000 := by have := Tr.keys_length_le t; rw [hK]; omega
  have hfirst : (r.2.2 = true ∧ p < K.length ∧ Tr.curAt t p = (r.1, r.2.1, true)) ∨ (r.2.2 = false ∧ p = K.length) := by
    rw [HR.out, Tr.whole_seek, ← hK, ← hp]
    by_cases h : p < K.length
    · rw [if_pos ⟨hsome, h⟩]
      have := (Tr.curAt_facts hsome (show p < t.keys.length by rw [← hK]; exact h)).2.2.1
      exact .inl ⟨this, h, by rw [← this]⟩
    · rw [if_neg (fun e => h e.2)]
      exact .inr ⟨rfl, by omega⟩
  have HKF : Hid (∀ j, j < K.length → Tr.curB t (Tr.curAt t j).1 (Tr.curAt t j).2.1 = true ∧ Tr.curK t (Tr.curAt t j).1 (Tr.curAt t j).2.1 = K.getD j 0 ∧ (Tr.curAt t j).2.2 = true ∧
      Tr.walkB t (Tr.curAt t j).1 (Tr.curAt t j).2.1 (fun K' => Tr.goF (K' + 1) t (Tr.curAt t j).1) = (if j + 1 < K.length then Tr.curAt t (j + 1) else ([], 0, false))) := Lib.hid (fun j hj => by
    rw [hK] at hj ⊢
    have h := Tr.curAt_facts hsome hj
    exact ⟨h.1, h.2.1, h.2.2.1, h.2.2.2.2⟩)
  have HEND : Hid (∀ n, (∀ x ∈ (K.drop p).take n, x ≤ high) → (p + n = K.length ∨ (p + n < K.length ∧ high < K.getD (p + n) 0)) → t.rangeB low high = (K.drop p).take n) := Lib.hid (fun n h1 h2 => by
    rw [(rangeB_is low high t).1 hsome, ← hK]
    have hs : K.Pairwise (· < ·) := by rw [hK]; exact (Tr.Well.of_some hsome).2
    rw [hp] at h1 h2 ⊢
    exact rangeL_walk hs h1 h2)
  have HFI := Lib.hid hfirst
  obtain ⟨x1, x2, x3, x4⟩ := box2 (BOX.out w6 HB6.out)
  obtain ⟨W7, hW7⟩ : ∃ W7, W7 = w6.alloc (.cells #[] 3) := ⟨_, rfl⟩
  have hal : Below w6.heap.size w6 W7 := by rw [hW7]; exact (Below.refl _ _).alloc (Nat.le_refl _) _
  have HB7 := Lib.hid (HB6.out.trans (hal.mono hz6))
  have hz7 := HB7.out.size
  have HL7 : Hid (IntsOwn W7 W3.heap.size (.slice (some ⟨w6.heap.size, 0, none⟩) 0 0) []) := Lib.hid (by
    have h := (World.ownsRow_made w6 #[] 0 (Nat.le_refl _) (by unfold maxLen; omega) rfl : IntsOwn (w6.alloc (.cells #[] 3)) w6.heap.size (.slice (some ⟨w6.heap.size, 0, none⟩) 0 0) [])
    rw [hW7]; exact IntsOwn.lower h hz6)
  have HZ7 : Hid (W7.heap.size = w6.heap.size + 1) := Lib.hid (by rw [hW7]; simp)
  have hbx7 := BOX.out W7 HB7.out
  rw [hW7] at hbx7
  clear x1 x2 x3 x4
  obtain ⟨x1, x2, x3, x4⟩ := box2 hbx7
  have HW7 := Lib.hid hW7
  obtain ⟨P0, A0, ok0⟩ := r
  clear hsome hK hp hfirst hal hbx7 hW7
  go_wp2_with fail
  rw [← HW7.out]
  refine (HC1.out W7 HB7.out).mono ?_
  rintro e w8 ⟨v8, rfl, ho8, hb8⟩
  obtain ⟨va8, vc8, rfl⟩ := IntsOwn.shown ho8
  have hs8 := hb8.size
  obtain ⟨W9, hW9⟩ : ∃ W9, W9 = w8.alloc (.cells #[.slice va8 P0.length vc8, .int .i64 A0] 28) := ⟨_, rfl⟩
  have hz9 : w8.heap.size < W9.heap.size := by rw [hW9]; simp
  have hbb9 : Below w8.heap.size w8 W9 := by rw [hW9]; exact (Below.refl _ _).alloc (Nat.le_refl _) _
  have kc9 : W9.heap[w8.heap.size]? = some (.cells #[.slice va8 P0.length vc8, .int .i64 A0] 28 (0, 0)) := by rw [hW9, new_blk]
  have h79 : Below W7.heap.size W7 W9 := hb8.trans (hbb9.mono hs8)
  have HB9 := Lib.hid (HB7.out.trans (h79.mono hz7))
  have H9 := Lib.hid (And.intro kc9 (And.intro (HL7.out.later h79 (Nat.le_refl _)) (And.intro (IntsOwn.lower (ho8.later hbb9 (Nat.le_refl _)) hz7) (And.intro (show (Value.slice (some ⟨w6.heap.size, 0, none⟩) 0 0).ownBlock ≠ some w8.heap.size from (fun e => by
    have := HZ7.out
    simp [Value.ownBlock] at e
    omega)) (show ∀ k, (Value.slice va8 P0.length vc8).ownBlock = some k → (Value.slice (some ⟨w6.heap.size, 0, none⟩) 0 0).ownBlock ≠ some k from (fun k hk e => by
    have := (ho8.lt _ hk).1
    have h7 := HZ7.out
    simp [Value.ownBlock] at e
    omega))))))
  have HW9 := Lib.hid hW9
  clear x1 x2 x3 x4 ho8 hb8 hW9 hbb9 kc9 h79
  go_wp2_with fail
  rw [← HW9.out]
  go_loopw [6, 7, 8, 9, 10] (fun s6 s7 s8 _ _ wr => ∃ (n : Nat) (P : List Int) (A : Int) (ok : Bool) (va : Option Addr) (vc q : Nat), p + n ≤ K.length ∧ s8 = .bool ok ∧ s7 = .pointer (some ⟨q, 0, none⟩) ∧ wr.heap[q]? = some (.cells #[.slice va P.length vc, .int .i64 A] 28 (0, 0)) ∧
      IntsOwn wr W3.heap.size s6 ((K.drop p).take n) ∧ Hid (IntsOwn wr W3.heap.size (.slice va P.length vc) P) ∧ Hid (s6.ownBlock ≠ some q) ∧ Hid (∀ k, (Value.slice va P.length vc).ownBlock = some k → s6.ownBlock ≠ some k) ∧
      Hid ((ok = true ∧ p + n < K.length ∧ Tr.curAt t (p + n) = (P, A, true)) ∨ (ok = false ∧ p + n = K.length)) ∧ Hid (∀ x ∈ (K.drop p).take n, x ≤ high) ∧ Hid (Below W3.heap.size W3 wr)) (fun s6 _ _ _ _ _ => K.length - rowLen s6)
  case atStart => exact ⟨0, P0, A0, ok0, va8, vc8, w8.heap.size, by omega, rfl, rfl, H9.out.1, by rw [List.take_zero]; exact H9.out.2.1, Lib.hid H9.out.2.2.1, Lib.hid H9.out.2.2.2.1, Lib.hid H9.out.2.2.2.2, Lib.hid (by simpa using HFI.out), Lib.hid (by simp), HB9⟩
  case round =>
    obtain ⟨n, P, A, ok, va, vc, q, hn, rfl, rfl, hcx, hown, HCI, HD1, HD2, HST, HLE, HB⟩ := hrel
    have hbr := HB.out.size
    have htl : ((K.drop p).take n).length = n := by rw [List.length_take, List.length_drop]; omega
    obtain ⟨L, hL⟩ : ∃ L, L = (K.drop p).take n := ⟨_, rfl⟩
    rw [← hL] at hown htl HLE
    obtain ⟨oa, oc, rfl⟩ := IntsOwn.shown hown
    have HTL := Lib.hid (And.intro htl (And.intro hL hown))
    obtain ⟨x1, x2, x3, x4⟩ := box2 (BOX.out wr HB.out)
    obtain ⟨y1, y2, y3, y4⟩ := box2 hcx
    have HCX := Lib.hid hcx
    clear htl hL hown hcx
    cases hok : ok with
    | false =>
      subst hok
      have he : p + n = K.length := by
        rcases HST.out with h | h
        · exact absurd h.1 (by simp)
        · exact h.2
      have HC := HC8.out wr HB.out
      rw [HEND.out n (by rw [← HTL.out.2.1]; exact HLE.out) (.inl he), ← HTL.out.2.1] at HC
      have HCL := Lib.hid HC
      clear HC he
      go_wp2_with fail
      refine HCL.out.mono ?_
      rintro e wt ⟨vt, rfl, hot, hbt⟩
      obtain ⟨vat, vct, rfl⟩ := IntsCut.shown hot
      have HT := Lib.hid (And.intro (IntsOwn.later (HTL.out.2.2) hbt (Nat.le_refl _)) hot)
      have HBT := Lib.hid ((HB.out).trans (hbt.mono (HB.out).size))
      clear hot hbt
      go_wp2_with fail
      refine (ftSame_c L _ _ wt wt.heap.size (Nat.le_refl _) (IntsOwn.inB HT.out.1 (Nat.le_refl _)) (HT.out.2.inB (Nat.le_refl _))).mono ?_
      rintro e wu ⟨rfl, hbu⟩
      have HBU := Lib.hid (HF.out wu (HBT.out.trans (hbu.mono HBT.out.size)))
      clear hbu
      go_wp2_with fail
      go_ret
      exact ⟨rfl, HBU.out⟩
    | true =>
      subst hok
      obtain ⟨hlt, hca⟩ : p + n < K.length ∧ Tr.curAt t (p + n) = (P, A, true) := by
        rcases HST.out with h | h
        · exact h.2
        · exact absurd h.1 (by simp)
      obtain ⟨f1, f2, -, f4⟩ := HKF.out (p + n) hlt
      rw [hca] at f1 f2 f4
      simp only at f1 f2 f4
      obtain ⟨x, hx⟩ : ∃ x, x = K.getD (p + n) 0 := ⟨_, rfl⟩
      rw [← hx] at f2
      have HX := Lib.hid hx
      have HCK := Lib.hid (HC6.out wr (.slice va P.length vc) P A HB.out (HCI.out.in))
      rw [f1, f2] at HCK
      have HF4 := Lib.hid f4
      clear f1 f2 f4 hca hx
      go_wp2_with fail
      refine HCK.out.mono ?_
      rintro e w12 ⟨rfl, hb12⟩
      have hs12 := hb12.size
      have H12 := Lib.hid hb12
      have HB12 := Lib.hid (HB.out.trans (hb12.mono hbr))
      clear x1 x2 x3 x4 y1 y2 y3 y4 hb12
      obtain ⟨x1, x2, x3, x4⟩ := box2 (BOX.out w12 HB12.out)
      by_cases hgt : x > high
      · have HC := HC8.out w12 HB12.out
        rw [HEND.out n (by rw [← HTL.out.2.1]; exact HLE.out) (.inr ⟨hlt, by rw [← HX.out]; exact hgt⟩), ← HTL.out.2.1] at HC
        have HCL := Lib.hid HC
        clear HC
        go_wp2_with fail
        refine HCL.out.mono ?_
        rintro e wt ⟨vt, rfl, hot, hbt⟩
        obtain ⟨vat, vct, rfl⟩ := IntsCut.shown hot
        have HT := Lib.hid (And.intro (IntsOwn.later (HTL.out.2.2.later H12.out (Nat.le_refl _)) hbt (Nat.le_refl _)) hot)
        have HBT := Lib.hid ((HB12.out).trans (hbt.mono (HB12.out).size))
        clear hot hbt
        go_wp2_with fail
        refine (ftSame_c L _ _ wt wt.heap.size (Nat.le_refl _) (IntsOwn.inB HT.out.1 (Nat.le_refl _)) (HT.out.2.inB (Nat.le_refl _))).mono ?_
        rintro e wu ⟨rfl, hbu⟩
        have HBU := Lib.hid (HF.out wu (HBT.out.trans (hbu.mono HBT.out.size)))
        clear hbu
        go_wp2_with fail
        go_ret
        exact ⟨rfl, HBU.out⟩
      · have hown12 := HTL.out.2.2.later H12.out (Nat.le_refl _)
        have hxle : x ≤ high := by omega
        have HO1 := Lib.hid (IntsOwn.alloc' hown12 (.cells #[.int .i64 x] 3))
        have HS := Lib.hid (IntsAt.one w12 x)
        have hlo : W3.heap.size ≤ (w12.alloc (.cells #[.int .i64 x] 3)).heap.size := by have := HB12.out.size; simp; omega
        have HLN : Hid (L.length + [x].length ≤ 17592186044416) := Lib.hid (by have := HTL.out.1; simp; omega)
        have HE : Hid (L ++ [x] = (K.drop p).take (n + 1)) := Lib.hid (by rw [HTL.out.2.1, HX.out]; exact part_snoc hlt)
        have hqs : q < wr.heap.size := (Array.getElem?_eq_some_iff.1 HCX.out).1
        have hq12 : (w12.alloc (.cells #[.int .i64 x] 3)).heap[q]? = some (.cells #[.slice va P.length vc, .int .i64 A] 28 (0, 0)) := by rw [old_blk _ _ _ (by omega)]; exact (H12.out.block q hqs).trans HCX.out
        have HQ := Lib.hid (And.intro hq12 (IntsOwn.alloc' (HCI.out.later H12.out (Nat.le_refl _)) (.cells #[.int .i64 x] 3)))
        have HZ12 : Hid (q < (w12.alloc (.cells #[.int .i64 x] 3)).heap.size) := Lib.hid (by simp; omega)
        obtain ⟨r', hr'⟩ : ∃ r', r' = (if p + n + 1 < K.length then Tr.curAt t (p + n + 1) else ([], 0, false)) := ⟨_, rfl⟩
        have HF5 := Lib.hid (HF4.out.trans hr'.symm)
        have HR' := Lib.hid hr'
        have HXL := Lib.hid hxle
        clear hown12 hqs hq12 x1 x2 x3 x4 hr' hxle
        obtain ⟨P', A', ok'⟩ := r'
        go_wp2_with (at_builtin; refine wpList_append_ints rfl _ _ rfl W3.heap.size _ _ L [x] rfl HO1.out rfl HS.out HLN.out hlo ?_; intro v4 w13 hown13 hbel13 hgr13 hsh13; obtain ⟨a13, c13, rfl⟩ := hsh13; generalize hL13 : L ++ [x] = L13 at hown13 ⊢; have HL13 := Lib.hid hL13; have hq13 := (hgr13.block q HZ12.out (fun e => HD1.out e.symm)).trans HQ.out.1; have hci13 : IntsOwn w13 W3.heap.size (.slice va P.length vc) P := ownElse HQ.out.2 (fun k hk => hgr13.block k ((HQ.out.2.lt k hk.symm).2) (fun e => HD2.out k hk.symm e.symm)); have HB13 := Lib.hid (HB12.out.trans (((Below.refl W3.heap.size w12).alloc HB12.out.size _).trans hbel13)); obtain ⟨y1, y2, y3, y4⟩ := box2 hq13; obtain ⟨W14, hW14⟩ : ∃ W, W = w13.alloc (.cells #[.slice va P.length vc, .int .i64 A] 28) := ⟨_, rfl⟩; have hb14 : Below w13.heap.size w13 W14 := (by rw [hW14]; exact (Below.refl _ _).alloc (Nat.le_refl _) _); have kc14 : W14.heap[w13.heap.size]? = some (.cells #[.slice va P.length vc, .int .i64 A] 28 (0, 0)) := (by rw [hW14, new_blk]); have hz14 : w13.heap.size < W14.heap.size := (by rw [hW14]; simp); have HB14 := Lib.hid (HB13.out.trans (hb14.mono HB13.out.size)); have hbx := BOX.out W14 HB14.out; have kcx := kc14; rw [hW14] at hbx kcx; obtain ⟨x1, x2, x3, x4⟩ := box2 hbx; obtain ⟨z1, z2, z3, z4⟩ := box2 kcx; have HW14 := Lib.hid hW14; have H14 := Lib.hid (And.intro hb14 (And.intro kc14 (And.intro hown13 (And.intro hci13 hz14)))); clear hown13 hbel13 hgr13 hL13 hq13 hci13 hW14 hb14 kc14 hbx kcx hz14)
        rw [← HW14.out]
        have HFW := HC7.out W14 (.slice va P.length vc) P A HB14.out (IntsOwn.in (H14.out.2.2.2.1.later H14.out.1 (Nat.le_refl _)))
        rw [HF5.out] at HFW
        refine HFW.mono ?_
        clear HFW
        rintro e w15 ⟨v15, rfl, ho15, hb15⟩
        obtain ⟨va15, vc15, rfl⟩ := IntsOwn.shown ho15
        have kc15 := (hb15.block w13.heap.size H14.out.2.2.2.2).trans H14.out.2.1
        clear x1 x2 x3 x4 y1 y2 y3 y4 z1 z2 z3 z4
        obtain ⟨x1, x2, x3, x4⟩ := box2 kc15
        have H15 := Lib.hid (And.intro kc15 (And.intro ho15 hb15))
        clear kc15 ho15 hb15
        go_wp2_with fail
        go_roundw
        case rel =>
          obtain ⟨kc15, ho15, hb15⟩ := H15.out
          obtain ⟨hb14, -, hown13, hci13, hz14⟩ := H14.out
          have h1315 : Below w13.heap.size w13 w15 := hb14.trans (hb15.mono (by omega))
          have hz13 := HB13.out.size
          have hl13 := hown13.lt
          have hl15 := ho15.lt
          have ho13 : IntsOwn w15 W3.heap.size (.slice a13 L13.length c13) ((K.drop p).take (n + 1)) := by
            rw [← HE.out, HL13.out]; exact hown13.later h1315 (Nat.le_refl _)
          refine ⟨n + 1, P', A', ok', va15, vc15, w13.heap.size, by omega, rfl, rfl, set_blk (o := 1) _ (set_blk (o := 0) _ kc15), ?_, ?_, ?_, ?_, ?_, ?_, ?_⟩
          · exact ownElse ho13 (fun k hk => by
              have := (hl13 k hk.symm).2
              rw [set_other _ _ _ _ _ (by omega), set_other _ _ _ _ _ (by omega)])
          · exact Lib.hid (ownElse (IntsOwn.lower ho15 (by omega)) (fun k hk => by
              have := (hl15 k hk.symm).1
              rw [set_other _ _ _ _ _ (by omega), set_other _ _ _ _ _ (by omega)]))
          · exact Lib.hid (fun e => by have := (hl13 _ e).2; omega)
          · exact Lib.hid (fun k hk e => by have := (hl13 _ e).2; have := (hl15 _ hk).1; omega)
          · refine Lib.hid ?_
            have hr2 := HR'.out
            by_cases h1 : p + n + 1 < K.length
            · rw [if_pos h1] at hr2
              have h3 := (HKF.out (p + n + 1) h1).2.2.1
              rw [← hr2] at h3
              exact .inl ⟨h3, by omega, by rw [← Nat.add_assoc, ← hr2, show ok' = true from h3]⟩
            · rw [if_neg h1] at hr2
              have h3 : ok' = false := congrArg (fun z => z.2.2) hr2
              exact .inr ⟨h3, by omega⟩
          · refine Lib.hid ?_
            rw [← HE.out]
            intro y hy
            rcases List.mem_append.1 hy with h | h
            · exact HLE.out y h
            · rw [List.mem_singleton.1 h]; exact HXL.out
          · exact Lib.hid (((HB14.out.trans (hb15.mono HB14.out.size)).setCell (by show W3.heap.size ≤ w13.heap.size; omega) _).setCell (by show W3.heap.size ≤ w13.heap.size; omega) _)
        case measure =>
          have h1 := HTL.out.1
          have h2 : L13.length = n + 1 := by rw [← HL13.out]; simp; omega
          simp [rowLen]
          omega
end Go.Proofs.YticfkfjijnfcbaaDoor

/- The statement FnCursorRange: the row, and the card that ties it to the program's text. -/
namespace Go.Proofs.YticfkfjijnfcbaaDoor.rowFnCursorRange
open Go.ChangeShapes Go.WideShapes Go.ChangeAt Go.RowKit
set_option linter.unusedVariables false

theorem own : ownKnob Tryd.prog.godebug = none := by kernel_rfl
theorem laidOut : laidOutB Tryd.prog = true := by kernel_rfl
theorem gNo : Tryd.prog.globalNamed "loop.example/fulltrees/impl.errNowhere" = some 0 := by kernel_rfl
theorem gEnd : Tryd.prog.globalNamed "loop.example/fulltrees/impl.errEnd" = some 1 := by kernel_rfl
theorem tNo : (Tryd.prog.globals[0]?).map (·.type) = some 84 := by kernel_rfl
theorem tEnd : (Tryd.prog.globals[1]?).map (·.type) = some 84 := by kernel_rfl
theorem star : "*errors.errorString" = "*" ++ "errors.errorString" := by decide
theorem rowPtr (u : TypeId) (h : Tryd.prog.typeName? 3 u = some "*errors.errorString") : u = 174 :=
  typeName_ptr_named (nm := "errors.errorString") (by rw [← star]; kernel_rfl) (by kernel_rfl) (by decide) u (by rw [← star]; exact h)

def laid3 : List (String × DataW Unit) := [("loop.example/fulltrees/impl.errNowhere", Rows.laid_loop_example_fulltrees_impl_errNowhere), ("loop.example/fulltrees/impl.errEnd", Rows.laid_loop_example_fulltrees_impl_errEnd)]

theorem of_laid {W : World} (h : laidMetH Tryd.prog laid3 W) : ∃ s s2 : Addr, (W.cell? ⟨0, 0, none⟩ = some (.iface 174 (.pointer (some s))) ∧ W.cell? ⟨1, 0, none⟩ = some (.iface 174 (.pointer (some s2)))) ∧ 1 < W.heap.size := by
  rw [MakeChecks.laidMetH_plain _ _ _ (by kernel_rfl)] at h
  obtain ⟨a0, a1, s0, s1, c0, c1, t0, t1, hv0, hv1, -⟩ := laid_sentinels2 h gNo tNo gEnd tEnd Tryd.underlying84 rowPtr Tryd.underlying174 Tryd.underlying202 rfl rfl Tryd.underlying9 (by kernel_rfl) (by kernel_rfl)
  have hc := World.var?_cell gNo hv0 0
  have hc1 := World.var?_cell gEnd hv1 0
  exact ⟨a0, a1, ⟨hc, hc1⟩, World.block_lt_of_cell? W _ hc1⟩
theorem vars_two {H : Type} {enc : TypeId × Value → H} {w : World} {spare : Nat → Bool} {n m : String} {gs : List (DataW H)} {ps : List MemPlace} (h : DataW.TrodVars enc Tryd.prog w spare [n, m] gs ps) : ∃ d e, gs = [d, e] := by
  cases gs with
  | nil => simp [DataW.TrodVars] at h
  | cons d ds =>
    obtain ⟨g, t, cs, fuel, p, q, h1, h2, h3, h4, hs, e⟩ := h
    obtain ⟨_, _, _, _, e, _, rfl, -⟩ := trodVars_one hs
    exact ⟨_, _, rfl⟩

theorem bounds {n : Int} (h : (Lit.int .i64 n).wf = true) : -9223372036854775808 ≤ n ∧ n ≤ 9223372036854775807 := by
  simpa [Lit.wf, IntKind.min, IntKind.max, IntKind.signed, IntKind.bits] using h

theorem door_met (os : Os) (args : Array Value) : laidMetH Tryd.prog laid3 ((World.doorLaid Tryd.prog 400 os).forCall (fun _ _ => 0) ⟨#[], args, []⟩).memory :=
  laidMetH_of_parts3 (fuel := 8) (laidMet_of_run' 8 (by kernel_rfl) (by kernel_rfl)) (by kernel_rfl) (by kernel_rfl)

set_option maxRecDepth 100000 in
set_option maxHeartbeats 1000000 in
theorem lifted (os : Os) (started : os.Started) (H : Type) (enc : TypeId × Value → H) :
    ReturnsInHanded {} Tryd.checked os 14 .any (fun w args => (Rows.fnCursorRangeSpec.pre enc Tryd.prog Tryd.f14 Rows.fnCursorRangeRow.domain false w args ∧ laidMetH Tryd.prog laid3 w) ∧ sizedMet enc Tryd.prog Tryd.f14 (OpenSpec.ofChange Rows.fnCursorRangeSpec) false w args)
      (Rows.fnCursorRangeSpec.post enc Tryd.prog Tryd.f14 false true false false) := by
  refine returnsInHanded_of_change_and (C := Tryd.checked) (X := fun w _ => laidMetH Tryd.prog laid3 w) (fun _ _ _ hh h => h.of_heap hh) own started (by kernel_rfl) Tryd.func14
    (ChangeSpec.witness_shaped (enc := enc) (C := Tryd.checked) (os := os) (X := fun w _ => laidMetH Tryd.prog laid3 w) false (World.doorLaid Tryd.prog 400 os) #[.slice none 0 0] 8 rfl (World.shaped_of_RefB (by kernel_rfl) (by kernel_rfl)) (by kernel_rfl) (by kernel_rfl) (by kernel_rfl) (door_met os _)) ?_
  intro W base args ds gs before hval0 hW _ _ hL _
  have hval : ∀ (j : Nat) t v, Tryd.f14.params[j]? = some t → args[j]? = some v → Value.okWide Tryd.prog W .any base t v := hval0
  have hW' := hW
  obtain ⟨p, q, hA0, hV, rfl, hfz, hnd⟩ := hW
  have hA : DataW.TrodAll enc Tryd.prog W 0 (fun _ => true) true Tryd.f14.params.toList args.toList ds p := hA0
  rw [Tryd.params14] at hA hval
  have hV2 := hV
  obtain ⟨gd, gd2, rfl⟩ := vars_two hV2
  obtain ⟨v0, vs0, d0, ds0, p0, q0, hargs, rfl, rfl, h0, r0⟩ := trodAll_cons hA
  obtain ⟨rfl, rfl, rfl⟩ := trodAll_nil r0
  obtain rfl : args = #[v0] := by cases args; simp_all
  obtain ⟨a0, len0, cap0, rfl⟩ := okWide_slice Tryd.underlying47 (hval 0 47 v0 rfl rfl)
  have k0 := h0
  have lt0 : ∀ x ∈ p0, x.block < W.heap.size := by obtain ⟨m, hm⟩ := k0; exact DataW.trod_lt m _ _ _ hm
  obtain ⟨bs0, hb0⟩ : ∃ bs, BytesIn W W.heap.size (.slice a0 len0 cap0) bs := by
    obtain ⟨fuel, hf⟩ := h0
    exact bytes_of_trod fuel (fun _ => rfl) hf
  clear hA0 hval0
  obtain ⟨s, s2, hs, hz⟩ := of_laid hL
  refine (fnCursorRange_c hb0 s s2 hs hz).mono fun e W' ⟨he, bel⟩ => ?_
  subst he
  exact ⟨_, rfl, _, _, _, [], _, q, hW', trodAll_mk1 (shut_bool Tryd.underlying4 _), (trodAll_cons_mk (Below.trod laidOut (by kernel_rfl) (of_decide_eq_true (by kernel_rfl)) k0 bel lt0) trodAll_mk0), Below.trodVars laidOut bel (by kernel_rfl) hV, bel.frame _, fun h => by cases h⟩

theorem closed : joinedFacts Tryd.prog 14 Tryd.f14 Rows.fnCursorRangeSpec Rows.fnCursorRangeRow = true := by
  unfold joinedFacts
  exact band (band (band (band (band (band (band (by kernel_rfl) fact_enter) fact_lifts) fact_make) (by kernel_rfl)) (by kernel_rfl)) (by kernel_rfl)) (by kernel_rfl)

theorem over : Rows.fnCursorRangeRow.holds Tryd.pinned (OpenSpec.ofChange Rows.fnCursorRangeSpec) :=
  OpenClaim.holds_of_wide 14 Tryd.f14 rfl rfl rfl rfl rfl rfl rfl ⟨rfl, rfl, rfl, rfl, rfl⟩ rfl rfl rfl rfl rfl (by kernel_rfl) Tryd.func14 closed
    (of_decide_eq_true (by kernel_rfl)) (by unfold Func.isWrapper; first | (rw [if_pos (by decide +kernel)]; kernel_rfl) | (rw [if_neg (by decide +kernel)]; exact ⟨rfl, rfl⟩))
    (fun os started H enc _ => lifted os started H enc)

theorem card : Rows.FnCursorRangeCardSaid :=
  Claim7.holds_tied_plain_at .later [] [.sentinel, .sentinel] true Rows.fnCursorRangeCard.stood.harness true
    over (fun _ h => by cases h) (by kernel_rfl) (fun _ h => by cases h) fnCursorRange_row_tie rfl ⟨rfl, rfl⟩ (by kernel_rfl) rfl
    (fun f fn hf hfn => by
      obtain rfl : f = 14 := Option.some.inj ((show Tryd.prog.funcNamed "loop.example/fulltrees/laws.FnCursorRange" = some 14 by kernel_rfl).symm.trans hf) |>.symm
      obtain rfl : fn = Tryd.f14 := (Option.some.inj (Tryd.func14.symm.trans hfn)).symm
      exact ⟨by kernel_rfl, fun j t ht => by
        rw [Tryd.params14] at ht
        have hm : t ∈ [47] := by simpa using Array.mem_of_getElem? ht
        have hall : ([47].all fun u => !Tryd.prog.wantsStandIn u) = true := by kernel_rfl
        exact (show Tryd.prog.wantsStandIn t = false by simpa using List.all_eq_true.1 hall t hm)⟩)
    (by kernel_rfl)
end Go.Proofs.YticfkfjijnfcbaaDoor.rowFnCursorRange

/- For every slice of bytes, the law on cursors (FnCursorRange) returns true and leaves its arguments as they were, where the program's errNowhere and errEnd hold what its text lays; the card ties it to that text. -/
namespace Go.Proofs.YticfkfjijnfcbaaDoor

theorem cursor_range_said : Rows.FnCursorRangeCardSaid := rowFnCursorRange.card
end Go.Proofs.YticfkfjijnfcbaaDoor
