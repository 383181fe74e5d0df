/- The program's walk, for each move. -/
import Derived.Test.YticfkfjijnfcbaaDoorProg
import Derived.Test.YticfkfjijnfcbaaDoorSh0
import Derived.Test.YticfkfjijnfcbaaDoorSh10
import Derived.Test.YticfkfjijnfcbaaDoorCurWalk
import Derived.Test.YticfkfjijnfcbaaDoorSh12
import Derived.Test.YticfkfjijnfcbaaDoorSh13
import Derived.Test.YticfkfjijnfcbaaDoorClimb
import Derived.Test.YticfkfjijnfcbaaDoorSh14
import Derived.Deep.RegionHeld3
namespace Go.Proofs.YticfkfjijnfcbaaDoor
open Go.RowKit

/-- What a move has come to, told by one Bool. -/
theorem Moved.told {w : World} {b : Nat} {s : Addr} {r : List Int × Int × Bool} {e : Ending} {w' : World} (h : Moved w b (.iface 174 (.pointer (some s))) r e w') :
    ∃ rv B, e = .returned rv ∧ (∀ wx : World, Calls Tryd.prog 81 #[rv, .iface 174 (.pointer (some s))] wx fun e' w'' => e' = .returned (.bool B) ∧ w'' = wx) ∧
      ((B = false ∧ r.2.2 = true ∧ StandsAt w' b r.1 r.2.1) ∨ (B = true ∧ r = ([], 0, false))) ∧ Only w.heap.size b w w' := by
  obtain ⟨h1 | h1, h2⟩ := h
  · exact ⟨_, false, h1.2.1, fun wx => is_nil s wx, .inl ⟨rfl, h1.1, h1.2.2⟩, h2⟩
  · exact ⟨_, true, h1.2, fun wx => is_same s wx, .inr ⟨rfl, h1.1⟩, h2⟩

/-- What walk answers. -/
def Walked (w' : World) (r : List Int × Int × Bool) (e : Ending) (w'' : World) : Prop :=
  ∃ v, e = .returned (.tuple #[.agg #[v, .int .i64 r.2.1], .bool r.2.2]) ∧ IntsOwn w'' w'.heap.size v r.1 ∧ Below w'.heap.size w' w''
theorem Walked.none {w' w'' : World} (h : Below w'.heap.size w' w'') : Walked w' ([], 0, false) (.returned (.tuple #[.agg #[.slice none 0 0, .int .i64 0], .bool false])) w'' :=
  ⟨_, rfl, ⟨rfl, .inl ⟨rfl, rfl⟩⟩, h⟩

/-- What one comes to from a cursor, by a number that is told by the key there. -/
def Tr.walkB (t : Tr) (ks : List Int) (a : Int) (go : Int → List Int × Int × Bool) : List Int × Int × Bool := if Tr.curB t ks a = true then go (Tr.curK t ks a) else ([], 0, false)
theorem walkB_no {t : Tr} {ks : List Int} {a : Int} {go : Int → List Int × Int × Bool} (h : Tr.curB t ks a = false) : Tr.walkB t ks a go = ([], 0, false) := by simp [Tr.walkB, h]
theorem walkB_at {t : Tr} {ks : List Int} {a : Int} {go : Int → List Int × Int × Bool} {k : List Int} {c : List Tr} (h : Tr.curB t ks a = true) (hn : Tr.nodeTo ks t = some (.mk k c)) : Tr.walkB t ks a go = go (k.getD a.toNat 0) := by
  rw [Tr.walkB, if_pos h, (curK_at h hn).1]
theorem go_short {c : Int} {t : Tr} {ks : List Int} (hs : t.someB = true) : (Tr.goF c t ks).1.length < 6 ∧ (Tr.goB c t ks).1.length < 6 := by
  have hup : ∀ (L : List Int) (x : Int) (D : Nat), L.length ≤ 6 → D ≤ L.length → (Tr.upTo L x D).1.length < 6 := by
    intro L x D h h2
    unfold Tr.upTo
    split
    · simp
    · rw [List.length_take]; omega
  unfold Tr.goF Tr.goB
  cases hn : Tr.nodeTo ks t with
  | none => simp
  | some u =>
    have := Tr.six hs hn c
    exact ⟨hup _ _ _ this (Tr.climb_le _ _), hup _ _ _ this (Tr.climb_le _ _)⟩

set_option maxHeartbeats 2000000 in
set_option maxRecDepth 100000 in
theorem walkForward_c {w : World} {B : Nat} {kv cv v : Value} {t : Tr} {ks : List Int} (ht : TreeIn w B kv cv t) (hw : t.weight ≤ 1048576) (hk : IntsIn w B v ks) (a : Int) (s s2 : Addr) (w' : World) (hbw : Below B w w') (hB : B ≤ w'.heap.size)
    (hV : ∀ wx, Below w'.heap.size w' wx → wx.cell? ⟨0, 0, none⟩ = some (.iface 174 (.pointer (some s))) ∧ wx.cell? ⟨1, 0, none⟩ = some (.iface 174 (.pointer (some s2)))) :
    Calls Tryd.prog 66 #[.agg #[kv, cv], .agg #[v, .int .i64 a], .func (.func 76) #[] #[]] w' (Walked w' (Tr.walkB t ks a (fun K => Tr.goF (K + 1) t ks))) := by
  obtain ⟨r, hr⟩ : ∃ r, r = Tr.walkB t ks a (fun K => Tr.goF (K + 1) t ks) := ⟨_, rfl⟩
  rw [← hr]
  have HRW := Lib.hid hr
  clear hr
  have HT := Lib.hid ht
  have HK := Lib.hid hk
  obtain ⟨g1, g2, g3, g4, g5, g6, rfl, rfl⟩ := ht.slices
  obtain ⟨va, vcap, rfl, -⟩ := hk
  obtain ⟨W2, hW2⟩ : ∃ W2, W2 = ((w'.alloc (.cells #[.slice g1 g2 g3, .slice g4 g5 g6] 33)).alloc (.cells #[.slice va ks.length vcap, .int .i64 a] 28)).alloc (.cells #[.slice none 0 0, .int .i64 0] 28) := ⟨_, rfl⟩
  have hb2 : Below w'.heap.size w' W2 := by rw [hW2]; exact (((Below.refl _ _).alloc (Nat.le_refl _) _).alloc (by simp) _).alloc (by simp; omega) _
  have hs2 : W2.heap.size = w'.heap.size + 3 := by rw [hW2]; simp
  have k0 : W2.heap[w'.heap.size]? = some (.cells #[.slice g1 g2 g3, .slice g4 g5 g6] 33 (0, 0)) := by rw [hW2, old_blk _ _ _ (by simp; omega), old_blk _ _ _ (by simp), new_blk]
  have k1 : W2.heap[w'.heap.size + 1]? = some (.cells #[.slice va ks.length vcap, .int .i64 a] 28 (0, 0)) := by
    rw [hW2, old_blk _ _ _ (by simp), show w'.heap.size + 1 = (w'.alloc (.cells #[.slice g1 g2 g3, .slice g4 g5 g6] 33)).heap.size by simp, new_blk]
  have k2 : W2.heap[w'.heap.size + 1 + 1]? = some (.cells #[.slice none 0 0, .int .i64 0] 28 (0, 0)) := by
    rw [hW2, show w'.heap.size + 1 + 1 = ((w'.alloc (.cells #[.slice g1 g2 g3, .slice g4 g5 g6] 33)).alloc (.cells #[.slice va ks.length vcap, .int .i64 a] 28)).heap.size by simp, new_blk]
  have k0x := k0
  have k1x := k1
  rw [hW2] at k0x k1x
  obtain ⟨x1, x2, x3, x4⟩ := box2 k0x
  obtain ⟨y1, y2, y3, y4⟩ := box2 k1x
  have hlt2 : w'.heap.size + 1 + 1 < W2.heap.size := by omega
  have HWA := Lib.hid (walkerAt_c HT.out hw HK.out a s W2 (hbw.trans (hb2.mono hB)) (by omega) (fun wx hx => (hV wx (hb2.trans (hx.mono (by omega)))).1))
  have HB2 := Lib.hid (And.intro hb2 (And.intro hV (And.intro k2 hs2)))
  have HW2 := Lib.hid hW2
  clear ht hbw hW2 hb2 k0 k1 k2 k0x k1x hV hs2
  go_enter Tryd.func66, Tryd.ntmps66
  go_wp2_with fail
  rw [← HW2.out]
  refine HWA.out.mono ?_
  rintro e w3 ⟨hres, hb3⟩
  have hs3 := hb3.size
  have h3 := HB2.out.1.trans (hb3.mono (by omega))
  have xv := (HB2.out.2.1 w3 h3).1
  have j2 := (hb3.block (w'.heap.size + 1 + 1) (by omega)).trans HB2.out.2.2.1
  have H3 := Lib.hid (And.intro h3 (And.intro j2 hb3))
  clear hb3 x1 x2 x3 x4 y1 y2 y3 y4 h3 j2
  rcases hres with ⟨hc, rfl⟩ | ⟨hc, b, f, ⟨uk, uc⟩, p, lo, hi, rfl, hwk, hfp, hnode, hnd, hhi, hbw2, hblo, hjs⟩
  · have HC := Lib.hid hc
    obtain ⟨c1, c2, c3, c4⟩ := box2 H3.out.2.1
    clear hc
    go_wp2_with fail
    refine (is_same s _).mono ?_
    rintro e w4 ⟨rfl, hw4⟩
    have hw4' := hw4.symm
    subst hw4'
    go_wp2_with fail
    have d := set_blk (o := 1) (.int .i64 0) (set_blk (o := 0) (.slice none 0 0) H3.out.2.1)
    obtain ⟨t1, t2, -, -⟩ := box2 d
    refine bodyPost_ret (v := .tuple #[.agg #[.slice none 0 0, .int .i64 0], .bool false]) (by simp [results, Tryd.results66, go_sem, t1, t2]) rfl ?_
    rw [HRW.out, walkB_no HC.out]
    exact Walked.none ((H3.out.1.setCell (by show w'.heap.size ≤ w'.heap.size + 1 + 1; omega) _).setCell (by show w'.heap.size ≤ w'.heap.size + 1 + 1; omega) _)
  · obtain ⟨hk1, ha1, ha2, hsb⟩ := curK_at hc hnode
    have hfew := Tr.nodeTo_few hsb hnode
    have hbl3 : b < w3.heap.size := hwk.lt
    have hstd : Stood w3 b t ks a uk (.iface 174 (.pointer (some s2))) :=
      ⟨hsb, hw, ha1, ha2, fun wx hx => by
        have hb' : Below W2.heap.size W2 wx := by have := hx.below (B := W2.heap.size) hs3 (by omega); exact H3.out.2.2.trans this
        exact (HB2.out.2.1 wx (HB2.out.1.trans (hb'.mono (by omega)))).2, uc, f, p, lo, hi, hnode, hwk, hjs.cut, hfp, hnd, hblo, hhi⟩
    have hgo := walkB_at (go := fun K => Tr.goF (K + 1) t ks) hc hnode
    have hr := HRW.out
    have hsh : r.1.length < 6 := by rw [hr, hgo]; exact (go_short hsb).1
    have HM := Lib.hid (show Calls Tryd.prog 76 #[.pointer (some ⟨b, 0, none⟩)] w3.drew (Moved w3.drew b (.iface 174 (.pointer (some s2))) r) by
      rw [hr, hgo]; exact forward_c (hstd.later (Below.refl _ _).drew))
    have HR := Lib.hid hsh
    have xe := (HB2.out.2.1 w3 H3.out.1).2
    have HVE : Hid (∀ wx : World, Only w3.heap.size b w3 wx → wx.cell? ⟨1, 0, none⟩ = some (.iface 174 (.pointer (some s2)))) := Lib.hid hstd.var
    have hbne : b ≠ w'.heap.size + 1 + 1 := by have := HB2.out.2.2.2; omega
    have hbge : w'.heap.size ≤ b := by omega
    clear hc hwk hfp hnode hnd hk1 ha1 ha2 hsb hfew hstd hgo hjs hsh hr
    go_wp2_with fail
    refine (is_nil s _).mono ?_
    rintro e w4 ⟨rfl, hw4⟩
    have hw4' := hw4.symm
    subst hw4'
    go_wp2_with fail
    go_region_held3 (fun x => x.cell? ⟨1, 0, none⟩ = some (.iface 174 (.pointer (some s2))))
      (first | exact xe | exact xe5 | go_keep)
      (first
        | (go_at_call 76; refine HM.out.mono ?_; intro e w5 hm; obtain ⟨rv, BB, rfl, his, hst, hon⟩ := hm.told; have xe5 := HVE.out w5 ⟨hon.os, hon.tape, hon.output, hon.size, hon.block⟩; have HST := Lib.hid (And.intro hst hon); have HIS := Lib.hid his; clear hst hon his hm)
        | (go_at_call 81; refine (HIS.out _).mono ?_; rintro e w6 ⟨rfl, hw6⟩; have hw6' := hw6.symm; subst hw6'))
    have hon := HST.out.2
    have hs5 : w3.heap.size ≤ w5.heap.size := hon.size
    have hb5 : Below w'.heap.size w' w5 := H3.out.1.trans (Below.mono (B := w'.heap.size) (Only.below (by show Only w3.heap.size b w3 w5; exact ⟨hon.os, hon.tape, hon.output, hon.size, hon.block⟩) (by omega) hbge) (Nat.le_refl _))
    have j5 : w5.heap[w'.heap.size + 1 + 1]? = some (.cells #[.slice none 0 0, .int .i64 0] 28 (0, 0)) := (hon.block (w'.heap.size + 1 + 1) (by show w'.heap.size + 1 + 1 < w3.heap.size; omega) (by omega)).trans H3.out.2.1
    obtain ⟨c1, c2, c3, c4⟩ := box2 j5
    have H5 := Lib.hid (And.intro hb5 j5)
    clear hon hb5 j5 xe xe5
    cases BB with
    | true =>
      have hr : r = ([], 0, false) := by
        rcases HST.out.1 with h | h
        · cases h.1
        · exact h.2
      have HRT := Lib.hid hr
      clear hr
      go_wp2_with fail
      have d := set_blk (o := 1) (.int .i64 0) (set_blk (o := 0) (.slice none 0 0) H5.out.2)
      obtain ⟨t1, t2, -, -⟩ := box2 d
      refine bodyPost_ret (v := .tuple #[.agg #[.slice none 0 0, .int .i64 0], .bool false]) (by simp [results, Tryd.results66, go_sem, t1, t2]) rfl ?_
      rw [HRT.out]
      exact Walked.none ((H5.out.1.setCell (by show w'.heap.size ≤ w'.heap.size + 1 + 1; omega) _).setCell (by show w'.heap.size ≤ w'.heap.size + 1 + 1; omega) _)
    | false =>
      have hr : r.2.2 = true ∧ StandsAt w5 b r.1 r.2.1 := by
        rcases HST.out.1 with h | h
        · exact h.2
        · cases h.1
      have HCU := Lib.hid (cursor_c hr.2 HR.out)
      have HRT := Lib.hid hr.1
      clear hr
      go_wp2_with fail
      refine HCU.out.mono ?_
      rintro e w6 ⟨v6, rfl, hown, hb6⟩
      obtain ⟨a6, m6, rfl⟩ := IntsOwn.shown hown
      have hs6 := hb6.size
      have j6 := (hb6.block (w'.heap.size + 1 + 1) (by omega)).trans H5.out.2
      have h6 := H5.out.1.trans (hb6.mono H5.out.1.size)
      clear c1 c2 c3 c4
      obtain ⟨c1, c2, c3, c4⟩ := box2 j6
      have H6 := Lib.hid (And.intro h6 (And.intro j6 (And.intro hown hs6)))
      clear h6 j6 hown hb6
      go_wp2_with fail
      have d := set_blk (o := 1) (.int .i64 r.2.1) (set_blk (o := 0) (.slice a6 r.1.length m6) H6.out.2.1)
      obtain ⟨t1, t2, -, -⟩ := box2 d
      refine bodyPost_ret (v := .tuple #[.agg #[.slice a6 r.1.length m6, .int .i64 r.2.1], .bool true]) (by simp [results, Tryd.results66, go_sem, t1, t2]) rfl ⟨_, by rw [HRT.out], ?_, ?_⟩
      · have h2 := H6.out.2.2.1.only (w' := (w6.setCell ⟨w'.heap.size + 1 + 1, 0, none⟩ (.slice a6 r.1.length m6)).setCell ⟨w'.heap.size + 1 + 1, 1, none⟩ (.int .i64 r.2.1)) (C := w6.heap.size) (r := w'.heap.size + 1 + 1) ⟨rfl, rfl, rfl, by simp, fun k _ hne => by rw [set_other _ _ _ _ _ hne, set_other _ _ _ _ _ hne]⟩ (Nat.le_refl _) (by omega)
        exact h2.lower (by omega)
      · exact (H6.out.1.setCell (by show w'.heap.size ≤ w'.heap.size + 1 + 1; omega) _).setCell (by show w'.heap.size ≤ w'.heap.size + 1 + 1; omega) _

set_option maxHeartbeats 2000000 in
set_option maxRecDepth 100000 in
theorem walkBackward_c {w : World} {B : Nat} {kv cv v : Value} {t : Tr} {ks : List Int} (ht : TreeIn w B kv cv t) (hw : t.weight ≤ 1048576) (hk : IntsIn w B v ks) (a : Int) (s s2 : Addr) (w' : World) (hbw : Below B w w') (hB : B ≤ w'.heap.size)
    (hV : ∀ wx, Below w'.heap.size w' wx → wx.cell? ⟨0, 0, none⟩ = some (.iface 174 (.pointer (some s))) ∧ wx.cell? ⟨1, 0, none⟩ = some (.iface 174 (.pointer (some s2)))) :
    Calls Tryd.prog 66 #[.agg #[kv, cv], .agg #[v, .int .i64 a], .func (.func 77) #[] #[]] w' (Walked w' (Tr.walkB t ks a (fun K => Tr.goB K t ks))) := by
  obtain ⟨r, hr⟩ : ∃ r, r = Tr.walkB t ks a (fun K => Tr.goB K t ks) := ⟨_, rfl⟩
  rw [← hr]
  have HRW := Lib.hid hr
  clear hr
  have HT := Lib.hid ht
  have HK := Lib.hid hk
  obtain ⟨g1, g2, g3, g4, g5, g6, rfl, rfl⟩ := ht.slices
  obtain ⟨va, vcap, rfl, -⟩ := hk
  obtain ⟨W2, hW2⟩ : ∃ W2, W2 = ((w'.alloc (.cells #[.slice g1 g2 g3, .slice g4 g5 g6] 33)).alloc (.cells #[.slice va ks.length vcap, .int .i64 a] 28)).alloc (.cells #[.slice none 0 0, .int .i64 0] 28) := ⟨_, rfl⟩
  have hb2 : Below w'.heap.size w' W2 := by rw [hW2]; exact (((Below.refl _ _).alloc (Nat.le_refl _) _).alloc (by simp) _).alloc (by simp; omega) _
  have hs2 : W2.heap.size = w'.heap.size + 3 := by rw [hW2]; simp
  have k0 : W2.heap[w'.heap.size]? = some (.cells #[.slice g1 g2 g3, .slice g4 g5 g6] 33 (0, 0)) := by rw [hW2, old_blk _ _ _ (by simp; omega), old_blk _ _ _ (by simp), new_blk]
  have k1 : W2.heap[w'.heap.size + 1]? = some (.cells #[.slice va ks.length vcap, .int .i64 a] 28 (0, 0)) := by
    rw [hW2, old_blk _ _ _ (by simp), show w'.heap.size + 1 = (w'.alloc (.cells #[.slice g1 g2 g3, .slice g4 g5 g6] 33)).heap.size by simp, new_blk]
  have k2 : W2.heap[w'.heap.size + 1 + 1]? = some (.cells #[.slice none 0 0, .int .i64 0] 28 (0, 0)) := by
    rw [hW2, show w'.heap.size + 1 + 1 = ((w'.alloc (.cells #[.slice g1 g2 g3, .slice g4 g5 g6] 33)).alloc (.cells #[.slice va ks.length vcap, .int .i64 a] 28)).heap.size by simp, new_blk]
  have k0x := k0
  have k1x := k1
  rw [hW2] at k0x k1x
  obtain ⟨x1, x2, x3, x4⟩ := box2 k0x
  obtain ⟨y1, y2, y3, y4⟩ := box2 k1x
  have hlt2 : w'.heap.size + 1 + 1 < W2.heap.size := by omega
  have HWA := Lib.hid (walkerAt_c HT.out hw HK.out a s W2 (hbw.trans (hb2.mono hB)) (by omega) (fun wx hx => (hV wx (hb2.trans (hx.mono (by omega)))).1))
  have HB2 := Lib.hid (And.intro hb2 (And.intro hV (And.intro k2 hs2)))
  have HW2 := Lib.hid hW2
  clear ht hbw hW2 hb2 k0 k1 k2 k0x k1x hV hs2
  go_enter Tryd.func66, Tryd.ntmps66
  go_wp2_with fail
  rw [← HW2.out]
  refine HWA.out.mono ?_
  rintro e w3 ⟨hres, hb3⟩
  have hs3 := hb3.size
  have h3 := HB2.out.1.trans (hb3.mono (by omega))
  have xv := (HB2.out.2.1 w3 h3).1
  have j2 := (hb3.block (w'.heap.size + 1 + 1) (by omega)).trans HB2.out.2.2.1
  have H3 := Lib.hid (And.intro h3 (And.intro j2 hb3))
  clear hb3 x1 x2 x3 x4 y1 y2 y3 y4 h3 j2
  rcases hres with ⟨hc, rfl⟩ | ⟨hc, b, f, ⟨uk, uc⟩, p, lo, hi, rfl, hwk, hfp, hnode, hnd, hhi, hbw2, hblo, hjs⟩
  · have HC := Lib.hid hc
    obtain ⟨c1, c2, c3, c4⟩ := box2 H3.out.2.1
    clear hc
    go_wp2_with fail
    refine (is_same s _).mono ?_
    rintro e w4 ⟨rfl, hw4⟩
    have hw4' := hw4.symm
    subst hw4'
    go_wp2_with fail
    have d := set_blk (o := 1) (.int .i64 0) (set_blk (o := 0) (.slice none 0 0) H3.out.2.1)
    obtain ⟨t1, t2, -, -⟩ := box2 d
    refine bodyPost_ret (v := .tuple #[.agg #[.slice none 0 0, .int .i64 0], .bool false]) (by simp [results, Tryd.results66, go_sem, t1, t2]) rfl ?_
    rw [HRW.out, walkB_no HC.out]
    exact Walked.none ((H3.out.1.setCell (by show w'.heap.size ≤ w'.heap.size + 1 + 1; omega) _).setCell (by show w'.heap.size ≤ w'.heap.size + 1 + 1; omega) _)
  · obtain ⟨hk1, ha1, ha2, hsb⟩ := curK_at hc hnode
    have hfew := Tr.nodeTo_few hsb hnode
    have hbl3 : b < w3.heap.size := hwk.lt
    have hstd : Stood w3 b t ks a uk (.iface 174 (.pointer (some s2))) :=
      ⟨hsb, hw, ha1, ha2, fun wx hx => by
        have hb' : Below W2.heap.size W2 wx := by have := hx.below (B := W2.heap.size) hs3 (by omega); exact H3.out.2.2.trans this
        exact (HB2.out.2.1 wx (HB2.out.1.trans (hb'.mono (by omega)))).2, uc, f, p, lo, hi, hnode, hwk, hjs.cut, hfp, hnd, hblo, hhi⟩
    have hgo := walkB_at (go := fun K => Tr.goB K t ks) hc hnode
    have hr := HRW.out
    have hsh : r.1.length < 6 := by rw [hr, hgo]; exact (go_short hsb).2
    have HM := Lib.hid (show Calls Tryd.prog 77 #[.pointer (some ⟨b, 0, none⟩)] w3.drew (Moved w3.drew b (.iface 174 (.pointer (some s2))) r) by
      rw [hr, hgo]; exact backward_c (hstd.later (Below.refl _ _).drew))
    have HR := Lib.hid hsh
    have xe := (HB2.out.2.1 w3 H3.out.1).2
    have HVE : Hid (∀ wx : World, Only w3.heap.size b w3 wx → wx.cell? ⟨1, 0, none⟩ = some (.iface 174 (.pointer (some s2)))) := Lib.hid hstd.var
    have hbne : b ≠ w'.heap.size + 1 + 1 := by have := HB2.out.2.2.2; omega
    have hbge : w'.heap.size ≤ b := by omega
    clear hc hwk hfp hnode hnd hk1 ha1 ha2 hsb hfew hstd hgo hjs hsh hr
    go_wp2_with fail
    refine (is_nil s _).mono ?_
    rintro e w4 ⟨rfl, hw4⟩
    have hw4' := hw4.symm
    subst hw4'
    go_wp2_with fail
    go_region_held3 (fun x => x.cell? ⟨1, 0, none⟩ = some (.iface 174 (.pointer (some s2))))
      (first | exact xe | exact xe5 | go_keep)
      (first
        | (go_at_call 77; refine HM.out.mono ?_; intro e w5 hm; obtain ⟨rv, BB, rfl, his, hst, hon⟩ := hm.told; have xe5 := HVE.out w5 ⟨hon.os, hon.tape, hon.output, hon.size, hon.block⟩; have HST := Lib.hid (And.intro hst hon); have HIS := Lib.hid his; clear hst hon his hm)
        | (go_at_call 81; refine (HIS.out _).mono ?_; rintro e w6 ⟨rfl, hw6⟩; have hw6' := hw6.symm; subst hw6'))
    have hon := HST.out.2
    have hs5 : w3.heap.size ≤ w5.heap.size := hon.size
    have hb5 : Below w'.heap.size w' w5 := H3.out.1.trans (Below.mono (B := w'.heap.size) (Only.below (by show Only w3.heap.size b w3 w5; exact ⟨hon.os, hon.tape, hon.output, hon.size, hon.block⟩) (by omega) hbge) (Nat.le_refl _))
    have j5 : w5.heap[w'.heap.size + 1 + 1]? = some (.cells #[.slice none 0 0, .int .i64 0] 28 (0, 0)) := (hon.block (w'.heap.size + 1 + 1) (by show w'.heap.size + 1 + 1 < w3.heap.size; omega) (by omega)).trans H3.out.2.1
    obtain ⟨c1, c2, c3, c4⟩ := box2 j5
    have H5 := Lib.hid (And.intro hb5 j5)
    clear hon hb5 j5 xe xe5
    cases BB with
    | true =>
      have hr : r = ([], 0, false) := by
        rcases HST.out.1 with h | h
        · cases h.1
        · exact h.2
      have HRT := Lib.hid hr
      clear hr
      go_wp2_with fail
      have d := set_blk (o := 1) (.int .i64 0) (set_blk (o := 0) (.slice none 0 0) H5.out.2)
      obtain ⟨t1, t2, -, -⟩ := box2 d
      refine bodyPost_ret (v := .tuple #[.agg #[.slice none 0 0, .int .i64 0], .bool false]) (by simp [results, Tryd.results66, go_sem, t1, t2]) rfl ?_
      rw [HRT.out]
      exact Walked.none ((H5.out.1.setCell (by show w'.heap.size ≤ w'.heap.size + 1 + 1; omega) _).setCell (by show w'.heap.size ≤ w'.heap.size + 1 + 1; omega) _)
    | false =>
      have hr : r.2.2 = true ∧ StandsAt w5 b r.1 r.2.1 := by
        rcases HST.out.1 with h | h
        · exact h.2
        · cases h.1
      have HCU := Lib.hid (cursor_c hr.2 HR.out)
      have HRT := Lib.hid hr.1
      clear hr
      go_wp2_with fail
      refine HCU.out.mono ?_
      rintro e w6 ⟨v6, rfl, hown, hb6⟩
      obtain ⟨a6, m6, rfl⟩ := IntsOwn.shown hown
      have hs6 := hb6.size
      have j6 := (hb6.block (w'.heap.size + 1 + 1) (by omega)).trans H5.out.2
      have h6 := H5.out.1.trans (hb6.mono H5.out.1.size)
      clear c1 c2 c3 c4
      obtain ⟨c1, c2, c3, c4⟩ := box2 j6
      have H6 := Lib.hid (And.intro h6 (And.intro j6 (And.intro hown hs6)))
      clear h6 j6 hown hb6
      go_wp2_with fail
      have d := set_blk (o := 1) (.int .i64 r.2.1) (set_blk (o := 0) (.slice a6 r.1.length m6) H6.out.2.1)
      obtain ⟨t1, t2, -, -⟩ := box2 d
      refine bodyPost_ret (v := .tuple #[.agg #[.slice a6 r.1.length m6, .int .i64 r.2.1], .bool true]) (by simp [results, Tryd.results66, go_sem, t1, t2]) rfl ⟨_, by rw [HRT.out], ?_, ?_⟩
      · have h2 := H6.out.2.2.1.only (w' := (w6.setCell ⟨w'.heap.size + 1 + 1, 0, none⟩ (.slice a6 r.1.length m6)).setCell ⟨w'.heap.size + 1 + 1, 1, none⟩ (.int .i64 r.2.1)) (C := w6.heap.size) (r := w'.heap.size + 1 + 1) ⟨rfl, rfl, rfl, by simp, fun k _ hne => by rw [set_other _ _ _ _ _ hne, set_other _ _ _ _ _ hne]⟩ (Nat.le_refl _) (by omega)
        exact h2.lower (by omega)
      · exact (H6.out.1.setCell (by show w'.heap.size ≤ w'.heap.size + 1 + 1; omega) _).setCell (by show w'.heap.size ≤ w'.heap.size + 1 + 1; omega) _

set_option maxHeartbeats 2000000 in
set_option maxRecDepth 100000 in
theorem walkToLast_c {w : World} {B : Nat} {kv cv v : Value} {t : Tr} {ks : List Int} (ht : TreeIn w B kv cv t) (hw : t.weight ≤ 1048576) (hk : IntsIn w B v ks) (a : Int) (s s2 : Addr) (w' : World) (hbw : Below B w w') (hB : B ≤ w'.heap.size)
    (hV : ∀ wx, Below w'.heap.size w' wx → wx.cell? ⟨0, 0, none⟩ = some (.iface 174 (.pointer (some s))) ∧ wx.cell? ⟨1, 0, none⟩ = some (.iface 174 (.pointer (some s2)))) :
    Calls Tryd.prog 66 #[.agg #[kv, cv], .agg #[v, .int .i64 a], .func (.func 67) #[] #[]] w' (Walked w' (Tr.walkB t ks a (fun K => Tr.goB 100 t ks))) := by
  obtain ⟨r, hr⟩ : ∃ r, r = Tr.walkB t ks a (fun K => Tr.goB 100 t ks) := ⟨_, rfl⟩
  rw [← hr]
  have HRW := Lib.hid hr
  clear hr
  have HT := Lib.hid ht
  have HK := Lib.hid hk
  obtain ⟨g1, g2, g3, g4, g5, g6, rfl, rfl⟩ := ht.slices
  obtain ⟨va, vcap, rfl, -⟩ := hk
  obtain ⟨W2, hW2⟩ : ∃ W2, W2 = ((w'.alloc (.cells #[.slice g1 g2 g3, .slice g4 g5 g6] 33)).alloc (.cells #[.slice va ks.length vcap, .int .i64 a] 28)).alloc (.cells #[.slice none 0 0, .int .i64 0] 28) := ⟨_, rfl⟩
  have hb2 : Below w'.heap.size w' W2 := by rw [hW2]; exact (((Below.refl _ _).alloc (Nat.le_refl _) _).alloc (by simp) _).alloc (by simp; omega) _
  have hs2 : W2.heap.size = w'.heap.size + 3 := by rw [hW2]; simp
  have k0 : W2.heap[w'.heap.size]? = some (.cells #[.slice g1 g2 g3, .slice g4 g5 g6] 33 (0, 0)) := by rw [hW2, old_blk _ _ _ (by simp; omega), old_blk _ _ _ (by simp), new_blk]
  have k1 : W2.heap[w'.heap.size + 1]? = some (.cells #[.slice va ks.length vcap, .int .i64 a] 28 (0, 0)) := by
    rw [hW2, old_blk _ _ _ (by simp), show w'.heap.size + 1 = (w'.alloc (.cells #[.slice g1 g2 g3, .slice g4 g5 g6] 33)).heap.size by simp, new_blk]
  have k2 : W2.heap[w'.heap.size + 1 + 1]? = some (.cells #[.slice none 0 0, .int .i64 0] 28 (0, 0)) := by
    rw [hW2, show w'.heap.size + 1 + 1 = ((w'.alloc (.cells #[.slice g1 g2 g3, .slice g4 g5 g6] 33)).alloc (.cells #[.slice va ks.length vcap, .int .i64 a] 28)).heap.size by simp, new_blk]
  have k0x := k0
  have k1x := k1
  rw [hW2] at k0x k1x
  obtain ⟨x1, x2, x3, x4⟩ := box2 k0x
  obtain ⟨y1, y2, y3, y4⟩ := box2 k1x
  have hlt2 : w'.heap.size + 1 + 1 < W2.heap.size := by omega
  have HWA := Lib.hid (walkerAt_c HT.out hw HK.out a s W2 (hbw.trans (hb2.mono hB)) (by omega) (fun wx hx => (hV wx (hb2.trans (hx.mono (by omega)))).1))
  have HB2 := Lib.hid (And.intro hb2 (And.intro hV (And.intro k2 hs2)))
  have HW2 := Lib.hid hW2
  clear ht hbw hW2 hb2 k0 k1 k2 k0x k1x hV hs2
  go_enter Tryd.func66, Tryd.ntmps66
  go_wp2_with fail
  rw [← HW2.out]
  refine HWA.out.mono ?_
  rintro e w3 ⟨hres, hb3⟩
  have hs3 := hb3.size
  have h3 := HB2.out.1.trans (hb3.mono (by omega))
  have xv := (HB2.out.2.1 w3 h3).1
  have j2 := (hb3.block (w'.heap.size + 1 + 1) (by omega)).trans HB2.out.2.2.1
  have H3 := Lib.hid (And.intro h3 (And.intro j2 hb3))
  clear hb3 x1 x2 x3 x4 y1 y2 y3 y4 h3 j2
  rcases hres with ⟨hc, rfl⟩ | ⟨hc, b, f, ⟨uk, uc⟩, p, lo, hi, rfl, hwk, hfp, hnode, hnd, hhi, hbw2, hblo, hjs⟩
  · have HC := Lib.hid hc
    obtain ⟨c1, c2, c3, c4⟩ := box2 H3.out.2.1
    clear hc
    go_wp2_with fail
    refine (is_same s _).mono ?_
    rintro e w4 ⟨rfl, hw4⟩
    have hw4' := hw4.symm
    subst hw4'
    go_wp2_with fail
    have d := set_blk (o := 1) (.int .i64 0) (set_blk (o := 0) (.slice none 0 0) H3.out.2.1)
    obtain ⟨t1, t2, -, -⟩ := box2 d
    refine bodyPost_ret (v := .tuple #[.agg #[.slice none 0 0, .int .i64 0], .bool false]) (by simp [results, Tryd.results66, go_sem, t1, t2]) rfl ?_
    rw [HRW.out, walkB_no HC.out]
    exact Walked.none ((H3.out.1.setCell (by show w'.heap.size ≤ w'.heap.size + 1 + 1; omega) _).setCell (by show w'.heap.size ≤ w'.heap.size + 1 + 1; omega) _)
  · obtain ⟨hk1, ha1, ha2, hsb⟩ := curK_at hc hnode
    have hfew := Tr.nodeTo_few hsb hnode
    have hbl3 : b < w3.heap.size := hwk.lt
    have hstd : Stood w3 b t ks a uk (.iface 174 (.pointer (some s2))) :=
      ⟨hsb, hw, ha1, ha2, fun wx hx => by
        have hb' : Below W2.heap.size W2 wx := by have := hx.below (B := W2.heap.size) hs3 (by omega); exact H3.out.2.2.trans this
        exact (HB2.out.2.1 wx (HB2.out.1.trans (hb'.mono (by omega)))).2, uc, f, p, lo, hi, hnode, hwk, hjs.cut, hfp, hnd, hblo, hhi⟩
    have hgo := walkB_at (go := fun K => Tr.goB 100 t ks) hc hnode
    have hr := HRW.out
    have hsh : r.1.length < 6 := by rw [hr, hgo]; exact (go_short hsb).2
    have HM := Lib.hid (show Calls Tryd.prog 67 #[.pointer (some ⟨b, 0, none⟩)] w3.drew (Moved w3.drew b (.iface 174 (.pointer (some s2))) r) by
      rw [hr, hgo]; exact toLast_c (hstd.later (Below.refl _ _).drew))
    have HR := Lib.hid hsh
    have xe := (HB2.out.2.1 w3 H3.out.1).2
    have HVE : Hid (∀ wx : World, Only w3.heap.size b w3 wx → wx.cell? ⟨1, 0, none⟩ = some (.iface 174 (.pointer (some s2)))) := Lib.hid hstd.var
    have hbne : b ≠ w'.heap.size + 1 + 1 := by have := HB2.out.2.2.2; omega
    have hbge : w'.heap.size ≤ b := by omega
    clear hc hwk hfp hnode hnd hk1 ha1 ha2 hsb hfew hstd hgo hjs hsh hr
    go_wp2_with fail
    refine (is_nil s _).mono ?_
    rintro e w4 ⟨rfl, hw4⟩
    have hw4' := hw4.symm
    subst hw4'
    go_wp2_with fail
    go_region_held3 (fun x => x.cell? ⟨1, 0, none⟩ = some (.iface 174 (.pointer (some s2))))
      (first | exact xe | exact xe5 | go_keep)
      (first
        | (go_at_call 67; refine HM.out.mono ?_; intro e w5 hm; obtain ⟨rv, BB, rfl, his, hst, hon⟩ := hm.told; have xe5 := HVE.out w5 ⟨hon.os, hon.tape, hon.output, hon.size, hon.block⟩; have HST := Lib.hid (And.intro hst hon); have HIS := Lib.hid his; clear hst hon his hm)
        | (go_at_call 81; refine (HIS.out _).mono ?_; rintro e w6 ⟨rfl, hw6⟩; have hw6' := hw6.symm; subst hw6'))
    have hon := HST.out.2
    have hs5 : w3.heap.size ≤ w5.heap.size := hon.size
    have hb5 : Below w'.heap.size w' w5 := H3.out.1.trans (Below.mono (B := w'.heap.size) (Only.below (by show Only w3.heap.size b w3 w5; exact ⟨hon.os, hon.tape, hon.output, hon.size, hon.block⟩) (by omega) hbge) (Nat.le_refl _))
    have j5 : w5.heap[w'.heap.size + 1 + 1]? = some (.cells #[.slice none 0 0, .int .i64 0] 28 (0, 0)) := (hon.block (w'.heap.size + 1 + 1) (by show w'.heap.size + 1 + 1 < w3.heap.size; omega) (by omega)).trans H3.out.2.1
    obtain ⟨c1, c2, c3, c4⟩ := box2 j5
    have H5 := Lib.hid (And.intro hb5 j5)
    clear hon hb5 j5 xe xe5
    cases BB with
    | true =>
      have hr : r = ([], 0, false) := by
        rcases HST.out.1 with h | h
        · cases h.1
        · exact h.2
      have HRT := Lib.hid hr
      clear hr
      go_wp2_with fail
      have d := set_blk (o := 1) (.int .i64 0) (set_blk (o := 0) (.slice none 0 0) H5.out.2)
      obtain ⟨t1, t2, -, -⟩ := box2 d
      refine bodyPost_ret (v := .tuple #[.agg #[.slice none 0 0, .int .i64 0], .bool false]) (by simp [results, Tryd.results66, go_sem, t1, t2]) rfl ?_
      rw [HRT.out]
      exact Walked.none ((H5.out.1.setCell (by show w'.heap.size ≤ w'.heap.size + 1 + 1; omega) _).setCell (by show w'.heap.size ≤ w'.heap.size + 1 + 1; omega) _)
    | false =>
      have hr : r.2.2 = true ∧ StandsAt w5 b r.1 r.2.1 := by
        rcases HST.out.1 with h | h
        · exact h.2
        · cases h.1
      have HCU := Lib.hid (cursor_c hr.2 HR.out)
      have HRT := Lib.hid hr.1
      clear hr
      go_wp2_with fail
      refine HCU.out.mono ?_
      rintro e w6 ⟨v6, rfl, hown, hb6⟩
      obtain ⟨a6, m6, rfl⟩ := IntsOwn.shown hown
      have hs6 := hb6.size
      have j6 := (hb6.block (w'.heap.size + 1 + 1) (by omega)).trans H5.out.2
      have h6 := H5.out.1.trans (hb6.mono H5.out.1.size)
      clear c1 c2 c3 c4
      obtain ⟨c1, c2, c3, c4⟩ := box2 j6
      have H6 := Lib.hid (And.intro h6 (And.intro j6 (And.intro hown hs6)))
      clear h6 j6 hown hb6
      go_wp2_with fail
      have d := set_blk (o := 1) (.int .i64 r.2.1) (set_blk (o := 0) (.slice a6 r.1.length m6) H6.out.2.1)
      obtain ⟨t1, t2, -, -⟩ := box2 d
      refine bodyPost_ret (v := .tuple #[.agg #[.slice a6 r.1.length m6, .int .i64 r.2.1], .bool true]) (by simp [results, Tryd.results66, go_sem, t1, t2]) rfl ⟨_, by rw [HRT.out], ?_, ?_⟩
      · have h2 := H6.out.2.2.1.only (w' := (w6.setCell ⟨w'.heap.size + 1 + 1, 0, none⟩ (.slice a6 r.1.length m6)).setCell ⟨w'.heap.size + 1 + 1, 1, none⟩ (.int .i64 r.2.1)) (C := w6.heap.size) (r := w'.heap.size + 1 + 1) ⟨rfl, rfl, rfl, by simp, fun k _ hne => by rw [set_other _ _ _ _ _ hne, set_other _ _ _ _ _ hne]⟩ (Nat.le_refl _) (by omega)
        exact h2.lower (by omega)
      · exact (H6.out.1.setCell (by show w'.heap.size ≤ w'.heap.size + 1 + 1; omega) _).setCell (by show w'.heap.size ≤ w'.heap.size + 1 + 1; omega) _

set_option maxHeartbeats 2000000 in
set_option maxRecDepth 100000 in
theorem walkSeek_c {w : World} {B : Nat} {kv cv v : Value} {t : Tr} {ks : List Int} (ht : TreeIn w B kv cv t) (hw : t.weight ≤ 1048576) (hk : IntsIn w B v ks) (a : Int) (s s2 : Addr) (w' : World) (hbw : Below B w w') (hB : B ≤ w'.heap.size)
    (hV : ∀ wx, Below w'.heap.size w' wx → wx.cell? ⟨0, 0, none⟩ = some (.iface 174 (.pointer (some s))) ∧ wx.cell? ⟨1, 0, none⟩ = some (.iface 174 (.pointer (some s2)))) (key : Int) (kb : Nat) (hkb : ∀ wx, Below w'.heap.size w' wx → wx.cell? ⟨kb, 0, none⟩ = some (.int .i64 key)) :
    Calls Tryd.prog 66 #[.agg #[kv, cv], .agg #[v, .int .i64 a], .func (.func 72) #[] #[.pointer (some ⟨kb, 0, none⟩)]] w' (Walked w' (Tr.walkB t ks a (fun K => Tr.goF key t ks))) := by
  obtain ⟨r, hr⟩ : ∃ r, r = Tr.walkB t ks a (fun K => Tr.goF key t ks) := ⟨_, rfl⟩
  rw [← hr]
  have HRW := Lib.hid hr
  clear hr
  have HT := Lib.hid ht
  have HK := Lib.hid hk
  obtain ⟨g1, g2, g3, g4, g5, g6, rfl, rfl⟩ := ht.slices
  obtain ⟨va, vcap, rfl, -⟩ := hk
  obtain ⟨W2, hW2⟩ : ∃ W2, W2 = ((w'.alloc (.cells #[.slice g1 g2 g3, .slice g4 g5 g6] 33)).alloc (.cells #[.slice va ks.length vcap, .int .i64 a] 28)).alloc (.cells #[.slice none 0 0, .int .i64 0] 28) := ⟨_, rfl⟩
  have hb2 : Below w'.heap.size w' W2 := by rw [hW2]; exact (((Below.refl _ _).alloc (Nat.le_refl _) _).alloc (by simp) _).alloc (by simp; omega) _
  have hs2 : W2.heap.size = w'.heap.size + 3 := by rw [hW2]; simp
  have k0 : W2.heap[w'.heap.size]? = some (.cells #[.slice g1 g2 g3, .slice g4 g5 g6] 33 (0, 0)) := by rw [hW2, old_blk _ _ _ (by simp; omega), old_blk _ _ _ (by simp), new_blk]
  have k1 : W2.heap[w'.heap.size + 1]? = some (.cells #[.slice va ks.length vcap, .int .i64 a] 28 (0, 0)) := by
    rw [hW2, old_blk _ _ _ (by simp), show w'.heap.size + 1 = (w'.alloc (.cells #[.slice g1 g2 g3, .slice g4 g5 g6] 33)).heap.size by simp, new_blk]
  have k2 : W2.heap[w'.heap.size + 1 + 1]? = some (.cells #[.slice none 0 0, .int .i64 0] 28 (0, 0)) := by
    rw [hW2, show w'.heap.size + 1 + 1 = ((w'.alloc (.cells #[.slice g1 g2 g3, .slice g4 g5 g6] 33)).alloc (.cells #[.slice va ks.length vcap, .int .i64 a] 28)).heap.size by simp, new_blk]
  have k0x := k0
  have k1x := k1
  rw [hW2] at k0x k1x
  obtain ⟨x1, x2, x3, x4⟩ := box2 k0x
  obtain ⟨y1, y2, y3, y4⟩ := box2 k1x
  have hlt2 : w'.heap.size + 1 + 1 < W2.heap.size := by omega
  have HWA := Lib.hid (walkerAt_c HT.out hw HK.out a s W2 (hbw.trans (hb2.mono hB)) (by omega) (fun wx hx => (hV wx (hb2.trans (hx.mono (by omega)))).1))
  have HB2 := Lib.hid (And.intro hb2 (And.intro hV (And.intro k2 hs2)))
  have HW2 := Lib.hid hW2
  have HKB := Lib.hid hkb
  clear hkb
  clear ht hbw hW2 hb2 k0 k1 k2 k0x k1x hV hs2
  go_enter Tryd.func66, Tryd.ntmps66
  go_wp2_with fail
  rw [← HW2.out]
  refine HWA.out.mono ?_
  rintro e w3 ⟨hres, hb3⟩
  have hs3 := hb3.size
  have h3 := HB2.out.1.trans (hb3.mono (by omega))
  have xv := (HB2.out.2.1 w3 h3).1
  have j2 := (hb3.block (w'.heap.size + 1 + 1) (by omega)).trans HB2.out.2.2.1
  have H3 := Lib.hid (And.intro h3 (And.intro j2 hb3))
  clear hb3 x1 x2 x3 x4 y1 y2 y3 y4 h3 j2
  rcases hres with ⟨hc, rfl⟩ | ⟨hc, b, f, ⟨uk, uc⟩, p, lo, hi, rfl, hwk, hfp, hnode, hnd, hhi, hbw2, hblo, hjs⟩
  · have HC := Lib.hid hc
    obtain ⟨c1, c2, c3, c4⟩ := box2 H3.out.2.1
    clear hc
    go_wp2_with fail
    refine (is_same s _).mono ?_
    rintro e w4 ⟨rfl, hw4⟩
    have hw4' := hw4.symm
    subst hw4'
    go_wp2_with fail
    have d := set_blk (o := 1) (.int .i64 0) (set_blk (o := 0) (.slice none 0 0) H3.out.2.1)
    obtain ⟨t1, t2, -, -⟩ := box2 d
    refine bodyPost_ret (v := .tuple #[.agg #[.slice none 0 0, .int .i64 0], .bool false]) (by simp [results, Tryd.results66, go_sem, t1, t2]) rfl ?_
    rw [HRW.out, walkB_no HC.out]
    exact Walked.none ((H3.out.1.setCell (by show w'.heap.size ≤ w'.heap.size + 1 + 1; omega) _).setCell (by show w'.heap.size ≤ w'.heap.size + 1 + 1; omega) _)
  · obtain ⟨hk1, ha1, ha2, hsb⟩ := curK_at hc hnode
    have hfew := Tr.nodeTo_few hsb hnode
    have hbl3 : b < w3.heap.size := hwk.lt
    have hstd : Stood w3 b t ks a uk (.iface 174 (.pointer (some s2))) :=
      ⟨hsb, hw, ha1, ha2, fun wx hx => by
        have hb' : Below W2.heap.size W2 wx := by have := hx.below (B := W2.heap.size) hs3 (by omega); exact H3.out.2.2.trans this
        exact (HB2.out.2.1 wx (HB2.out.1.trans (hb'.mono (by omega)))).2, uc, f, p, lo, hi, hnode, hwk, hjs.cut, hfp, hnd, hblo, hhi⟩
    have hgo := walkB_at (go := fun K => Tr.goF key t ks) hc hnode
    have hr := HRW.out
    have hsh : r.1.length < 6 := by rw [hr, hgo]; exact (go_short hsb).1
    have HM := Lib.hid (show Calls Tryd.prog 72 #[.pointer (some ⟨b, 0, none⟩), .pointer (some ⟨kb, 0, none⟩)] w3.drew (Moved w3.drew b (.iface 174 (.pointer (some s2))) r) by
      rw [hr, hgo]; exact seek1_c (hstd.later (Below.refl _ _).drew) (HKB.out _ H3.out.1.drew))
    have HR := Lib.hid hsh
    have xe := (HB2.out.2.1 w3 H3.out.1).2
    have HVE : Hid (∀ wx : World, Only w3.heap.size b w3 wx → wx.cell? ⟨1, 0, none⟩ = some (.iface 174 (.pointer (some s2)))) := Lib.hid hstd.var
    have hbne : b ≠ w'.heap.size + 1 + 1 := by have := HB2.out.2.2.2; omega
    have hbge : w'.heap.size ≤ b := by omega
    clear hc hwk hfp hnode hnd hk1 ha1 ha2 hsb hfew hstd hgo hjs hsh hr
    go_wp2_with fail
    refine (is_nil s _).mono ?_
    rintro e w4 ⟨rfl, hw4⟩
    have hw4' := hw4.symm
    subst hw4'
    go_wp2_with fail
    go_region_held3 (fun x => x.cell? ⟨1, 0, none⟩ = some (.iface 174 (.pointer (some s2))))
      (first | exact xe | exact xe5 | go_keep)
      (first
        | (go_at_call 72; refine HM.out.mono ?_; intro e w5 hm; obtain ⟨rv, BB, rfl, his, hst, hon⟩ := hm.told; have xe5 := HVE.out w5 ⟨hon.os, hon.tape, hon.output, hon.size, hon.block⟩; have HST := Lib.hid (And.intro hst hon); have HIS := Lib.hid his; clear hst hon his hm)
        | (go_at_call 81; refine (HIS.out _).mono ?_; rintro e w6 ⟨rfl, hw6⟩; have hw6' := hw6.symm; subst hw6'))
    have hon := HST.out.2
    have hs5 : w3.heap.size ≤ w5.heap.size := hon.size
    have hb5 : Below w'.heap.size w' w5 := H3.out.1.trans (Below.mono (B := w'.heap.size) (Only.below (by show Only w3.heap.size b w3 w5; exact ⟨hon.os, hon.tape, hon.output, hon.size, hon.block⟩) (by omega) hbge) (Nat.le_refl _))
    have j5 : w5.heap[w'.heap.size + 1 + 1]? = some (.cells #[.slice none 0 0, .int .i64 0] 28 (0, 0)) := (hon.block (w'.heap.size + 1 + 1) (by show w'.heap.size + 1 + 1 < w3.heap.size; omega) (by omega)).trans H3.out.2.1
    obtain ⟨c1, c2, c3, c4⟩ := box2 j5
    have H5 := Lib.hid (And.intro hb5 j5)
    clear hon hb5 j5 xe xe5
    cases BB with
    | true =>
      have hr : r = ([], 0, false) := by
        rcases HST.out.1 with h | h
        · cases h.1
        · exact h.2
      have HRT := Lib.hid hr
      clear hr
      go_wp2_with fail
      have d := set_blk (o := 1) (.int .i64 0) (set_blk (o := 0) (.slice none 0 0) H5.out.2)
      obtain ⟨t1, t2, -, -⟩ := box2 d
      refine bodyPost_ret (v := .tuple #[.agg #[.slice none 0 0, .int .i64 0], .bool false]) (by simp [results, Tryd.results66, go_sem, t1, t2]) rfl ?_
      rw [HRT.out]
      exact Walked.none ((H5.out.1.setCell (by show w'.heap.size ≤ w'.heap.size + 1 + 1; omega) _).setCell (by show w'.heap.size ≤ w'.heap.size + 1 + 1; omega) _)
    | false =>
      have hr : r.2.2 = true ∧ StandsAt w5 b r.1 r.2.1 := by
        rcases HST.out.1 with h | h
        · exact h.2
        · cases h.1
      have HCU := Lib.hid (cursor_c hr.2 HR.out)
      have HRT := Lib.hid hr.1
      clear hr
      go_wp2_with fail
      refine HCU.out.mono ?_
      rintro e w6 ⟨v6, rfl, hown, hb6⟩
      obtain ⟨a6, m6, rfl⟩ := IntsOwn.shown hown
      have hs6 := hb6.size
      have j6 := (hb6.block (w'.heap.size + 1 + 1) (by omega)).trans H5.out.2
      have h6 := H5.out.1.trans (hb6.mono H5.out.1.size)
      clear c1 c2 c3 c4
      obtain ⟨c1, c2, c3, c4⟩ := box2 j6
      have H6 := Lib.hid (And.intro h6 (And.intro j6 (And.intro hown hs6)))
      clear h6 j6 hown hb6
      go_wp2_with fail
      have d := set_blk (o := 1) (.int .i64 r.2.1) (set_blk (o := 0) (.slice a6 r.1.length m6) H6.out.2.1)
      obtain ⟨t1, t2, -, -⟩ := box2 d
      refine bodyPost_ret (v := .tuple #[.agg #[.slice a6 r.1.length m6, .int .i64 r.2.1], .bool true]) (by simp [results, Tryd.results66, go_sem, t1, t2]) rfl ⟨_, by rw [HRT.out], ?_, ?_⟩
      · have h2 := H6.out.2.2.1.only (w' := (w6.setCell ⟨w'.heap.size + 1 + 1, 0, none⟩ (.slice a6 r.1.length m6)).setCell ⟨w'.heap.size + 1 + 1, 1, none⟩ (.int .i64 r.2.1)) (C := w6.heap.size) (r := w'.heap.size + 1 + 1) ⟨rfl, rfl, rfl, by simp, fun k _ hne => by rw [set_other _ _ _ _ _ hne, set_other _ _ _ _ _ hne]⟩ (Nat.le_refl _) (by omega)
        exact h2.lower (by omega)
      · exact (H6.out.1.setCell (by show w'.heap.size ≤ w'.heap.size + 1 + 1; omega) _).setCell (by show w'.heap.size ≤ w'.heap.size + 1 + 1; omega) _
end Go.Proofs.YticfkfjijnfcbaaDoor
