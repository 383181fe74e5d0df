/- The model's l1Some: a tree that is mostly valid is drawn, and a number. -/
import Derived.Test.YticfkfjijnfcbaaDoorProg
import Derived.Test.YticfkfjijnfcbaaDoorSh0
import Derived.Test.YticfkfjijnfcbaaDoorSh9
import Derived.Test.YticfkfjijnfcbaaDoorSh18
import Derived.Test.YticfkfjijnfcbaaDoorSh19
import Derived.Test.YticfkfjijnfcbaaDoorSh20
import Derived.Test.YticfkfjijnfcbaaDoorSh21
namespace Go.Proofs.YticfkfjijnfcbaaDoor
open Go.RowKit

/-- What drawing a tree and a number leaves. -/
def Somed (w : World) (B r : Nat) (bs : List Nat) (p : Nat) (e : Ending) (w' : World) : Prop :=
  ∃ (kv cv : Value) (t : Tr) (wide : Int) (q : Nat), e = .returned (.tuple #[.agg #[kv, cv], .int .i64 wide]) ∧ -1 ≤ wide ∧ wide ≤ 7 ∧ TreeQ w' (fun k => w.heap.size ≤ k ∧ k < w'.heap.size) kv cv t ∧ t.weight ≤ 400000 ∧ Rd w' B r bs q ∧ q ≤ p + 400000 ∧ Only w.heap.size r w w'

/-- Storing a tree into the result's box and leaving. -/
theorem some_out {w W : World} {B r q : Nat} {bs : List Nat} {t : Tr} {b1 : Option Addr} {b2 b3 : Nat} {b4 : Option Addr} {b5 b6 : Nat}
    (hk : W.heap[w.heap.size]? = some (.cells #[.slice none 0 0, .slice none 0 0] 33 (0, 0))) (ht : TreeQ W (fun k => w.heap.size < k ∧ k < W.heap.size) (.slice b1 b2 b3) (.slice b4 b5 b6) t) (hr : Rd W B r bs q) (hrl : r < w.heap.size) (ho : Only w.heap.size r w W) :
    ((W.setCell ⟨w.heap.size, 0, none⟩ (.slice b1 b2 b3)).setCell ⟨w.heap.size, 1, none⟩ (.slice b4 b5 b6)).heap[w.heap.size]? = some (.cells #[.slice b1 b2 b3, .slice b4 b5 b6] 33 (0, 0)) ∧
    TreeQ ((W.setCell ⟨w.heap.size, 0, none⟩ (.slice b1 b2 b3)).setCell ⟨w.heap.size, 1, none⟩ (.slice b4 b5 b6)) (fun k => w.heap.size ≤ k ∧ k < ((W.setCell ⟨w.heap.size, 0, none⟩ (.slice b1 b2 b3)).setCell ⟨w.heap.size, 1, none⟩ (.slice b4 b5 b6)).heap.size) (.slice b1 b2 b3) (.slice b4 b5 b6) t ∧
    Rd ((W.setCell ⟨w.heap.size, 0, none⟩ (.slice b1 b2 b3)).setCell ⟨w.heap.size, 1, none⟩ (.slice b4 b5 b6)) B r bs q ∧
    Only w.heap.size r w ((W.setCell ⟨w.heap.size, 0, none⟩ (.slice b1 b2 b3)).setCell ⟨w.heap.size, 1, none⟩ (.slice b4 b5 b6)) := by
  have hbf : Below w.heap.size W ((W.setCell ⟨w.heap.size, 0, none⟩ (.slice b1 b2 b3)).setCell ⟨w.heap.size, 1, none⟩ (.slice b4 b5 b6)) :=
    ((Below.refl _ _).setCell (by show w.heap.size ≤ w.heap.size; omega) _).setCell (by show w.heap.size ≤ w.heap.size; omega) _
  refine ⟨set_blk (o := 1) _ (set_blk (o := 0) _ hk), ht.same (fun k hk => ?_) (fun k hk => ⟨by omega, by simpa using hk.2⟩), hr.later hbf hrl, ho.trans (below_only hbf)⟩
  rw [set_other _ _ _ _ _ (by omega), set_other _ _ _ _ _ (by omega)]

theorem num_get4b (i : Nat) (h : i < 4) : -1 ≤ ([99, 0, 100, -1] : List Int).getD i 0 ∧ ([99, 0, 100, -1] : List Int).getD i 0 ≤ 100 := by
  rcases i with _ | _ | _ | _ | i <;> simp <;> omega
theorem num_get6 (i : Nat) (h : i < 6) : -1 ≤ ([1, 7, 2, 6, 0, -1] : List Int).getD i 0 ∧ ([1, 7, 2, 6, 0, -1] : List Int).getD i 0 ≤ 7 := by
  rcases i with _ | _ | _ | _ | _ | _ | i <;> simp <;> omega

/-- What the operations of the statement that tells another number leave. -/
def J8 (r S0 : Nat) (tv : Value) (j : Nat) (v : Value) (W : World) : Prop :=
  match j with
  | 0 => v = tv
  | 1 => v = .pointer (some ⟨r, 0, none⟩)
  | 2 => ∃ g, v = .slice (some ⟨g, 0, none⟩) 6 6 ∧ W.heap[g]? = some (.cells #[.int .i64 1, .int .i64 7, .int .i64 2, .int .i64 6, .int .i64 0, .int .i64 (-1)] 3 (0, 0)) ∧ S0 ≤ g
  | 3 => ∃ n, v = .int .i64 n ∧ -1 ≤ n ∧ n ≤ 7
  | _ => True
theorem J8_mono {r S0 : Nat} {tv : Value} (hr : r < S0) (j : Nat) (v : Value) (W W' : World) (h : J8 r S0 tv j v W) (hb : Only W.heap.size r W W') : J8 r S0 tv j v W' := by
  unfold J8 at h ⊢
  split at h
  all_goals first
    | exact h
    | (obtain ⟨g, h1, h2, h3⟩ := h; exact ⟨g, h1, (hb.block _ (Array.getElem?_eq_some_iff.1 h2).1 (by omega)).trans h2, h3⟩)
    | trivial

set_option maxHeartbeats 2000000 in
set_option maxRecDepth 100000 in
theorem some_c (w : World) (B r : Nat) (bs : List Nat) (p : Nat) (h : Rd w B r bs p) (hp : p ≤ 100000000) :
    Calls Tryd.prog 95 #[.pointer (some ⟨r, 0, none⟩)] w (Somed w B r bs p) := by
  have hrl := h.lt
  obtain ⟨W1, hW1⟩ : ∃ W1, W1 = w.alloc (.cells #[.slice none 0 0, .slice none 0 0] 33) := ⟨_, rfl⟩
  have hs1 : W1.heap.size = w.heap.size + 1 := by rw [hW1]; simp
  have hb1 : Below w.heap.size w W1 := by rw [hW1]; exact (Below.refl _ _).alloc (Nat.le_refl _) _
  have hk1 : W1.heap[w.heap.size]? = some (.cells #[.slice none 0 0, .slice none 0 0] 33 (0, 0)) := by rw [hW1, new_blk]
  have HG := Lib.hid (good_c W1 B r bs p (h.later hb1 hrl) hp)
  have HW1 := Lib.hid hW1
  have H1 := Lib.hid (And.intro hb1 hk1)
  clear hW1 hb1 hk1 h
  go_enter Tryd.func95, Tryd.ntmps95
  go_wp2_with fail
  rw [← HW1.out]
  refine HG.out.mono ?_
  rintro e w2 ⟨k2, c2, t, wide, q, rfl, hwd1, hwd2, ht2, hw2, hr2, hq2, ho2, hnk2⟩
  have HNK := Lib.hid hnk2
  clear hnk2
  obtain ⟨b1, b2, b3, b4, b5, b6, rfl, rfl⟩ := ht2.slices
  have hz2 := ho2.size
  have hk2 := (ho2.block w.heap.size (by omega) (by omega)).trans H1.out.2
  obtain ⟨W3, hW3⟩ : ∃ W3, W3 = w2.alloc (.cells #[.slice b1 b2 b3, .slice b4 b5 b6] 33) := ⟨_, rfl⟩
  have hs3 : W3.heap.size = w2.heap.size + 1 := by rw [hW3]; simp
  have hb3 : Below w2.heap.size w2 W3 := by rw [hW3]; exact (Below.refl _ _).alloc (Nat.le_refl _) _
  have ht3 : TreeQ W3 (fun k => w.heap.size < k ∧ k < w2.heap.size) (.slice b1 b2 b3) (.slice b4 b5 b6) t := ht2.same (fun k hk => hb3.block k hk.2) (fun k hk => ⟨by omega, hk.2⟩)
  have hx3 : W3.heap[w2.heap.size]? = some (.cells #[.slice b1 b2 b3, .slice b4 b5 b6] 33 (0, 0)) := by rw [hW3, new_blk]
  have ho3 : Only w.heap.size r w W3 := ((below_only H1.out.1).trans (ho2.mono (by omega))).trans (below_only (hb3.mono (by omega)))
  have hr3 : Rd W3 B r bs q := hr2.later hb3 (by omega)
  have HPK := Lib.hid (pick_c W3 B r bs q 24 hr3 (by omega) (by omega) (by omega))
  have HW3 := Lib.hid hW3
  have H3 := Lib.hid (And.intro ht3 (And.intro hx3 (And.intro ho3 (And.intro hr3 ((hb3.block w.heap.size (by omega)).trans hk2)))))
  clear ht2 hr2 ho2 hk2 hW3 hb3 ht3 hx3 ho3 hr3
  go_wp2_with fail
  rw [← HW3.out]
  refine HPK.out.mono ?_
  rintro e w4 ⟨x, m, rfl, hx0, hx1, _, hw4⟩
  obtain ⟨x, rfl⟩ := Int.eq_ofNat_of_zero_le hx0
  have hr4 : Rd w4 B r bs (q + 1) := by rw [hw4]; exact H3.out.2.2.2.1.picked m
  have ho4 : Only W3.heap.size r W3 w4 := by rw [hw4]; exact Only.picked _ _ _ _ _
  have hz4 := ho4.size
  have ht4 : TreeQ w4 (fun k => w.heap.size < k ∧ k < w2.heap.size) (.slice b1 b2 b3) (.slice b4 b5 b6) t := H3.out.1.same (fun k hk => ho4.block k (by omega) (by omega)) (fun k hk => hk)
  have hx4 := (ho4.block w2.heap.size (by omega) (by omega)).trans H3.out.2.1
  have hk4 := (ho4.block w.heap.size (by omega) (by omega)).trans H3.out.2.2.2.2
  have ho4' := H3.out.2.2.1.trans (ho4.mono (show w.heap.size ≤ W3.heap.size by omega))
  have H4 := Lib.hid (And.intro ht4 (And.intro hx4 (And.intro hk4 (And.intro ho4' hr4))))
  clear ht4 ho4 hk4 ho4' hr4 hw4 hx0 hx1
  obtain ⟨x1, x2, x3, x4⟩ := box2 hx4
  have HX4 := Lib.hid hx4
  clear hx4
  obtain ⟨r1, r2, r3, r4⟩ := box2 H4.out.2.2.1
  by_cases hxa : x = 0
  · subst hxa
    obtain ⟨ks, cs⟩ := t
    obtain ⟨ca, ccap, kvs, cvs, hce, hik, hcl, hcc, hkat, hkk⟩ := H4.out.1.parts
    simp only [Value.slice.injEq] at hce
    obtain ⟨rfl, rfl, rfl⟩ := hce
    obtain ⟨ka, kcap, hke, _⟩ := id hik
    simp only [Value.slice.injEq] at hke
    obtain ⟨rfl, rfl, rfl⟩ := hke
    simp only [Tr.weight] at hw2
    obtain ⟨W5, hW5⟩ : ∃ W5, W5 = w4.alloc (.cells #[] 3) := ⟨_, rfl⟩
    have hs5 : W5.heap.size = w4.heap.size + 1 := by rw [hW5]; simp
    have hb5 : Below w4.heap.size w4 W5 := by rw [hW5]; exact (Below.refl _ _).alloc (Nat.le_refl _) _
    have h05 : IntsOwn W5 w4.heap.size (.slice (some ⟨w4.heap.size, 0, none⟩) 0 0) [] := by
      rw [hW5]; exact World.ownsRow_made w4 #[] 0 (Nat.le_refl _) (by unfold maxLen; omega) rfl
    have hsr5 : IntsAt W5 (.slice b1 ks.length b3) ks := IntsIn.at ((hik.in (B := w4.heap.size) (fun k hk => by omega)).later hb5 (Nat.le_refl _))
    have hlo5 : w4.heap.size ≤ W5.heap.size := by omega
    have HLN5 : Hid (([] : List Int).length + ks.length ≤ 17592186044416) := Lib.hid (by simp; omega)
    have y := (hb5.block w2.heap.size (by omega)).trans (show w4.heap[w2.heap.size]? = _ from HX4.out)
    have hrb5 := H4.out.2.2.2.2.later hb5 (by omega)
    have HT := Lib.hid (And.intro hkat hkk)
    have H5 := Lib.hid (And.intro hb5 (And.intro hrb5 y))
    have H05 := Lib.hid h05
    have HSR5 := Lib.hid hsr5
    have HW5 := Lib.hid hW5
    rw [hW5] at y
    clear x1 x2 x3 x4
    obtain ⟨x1, x2, x3, x4⟩ := box2 y
    clear y hik hkat hkk hb5 hrb5 h05 hsr5
    rw [hW5] at hlo5 H05 HSR5
    clear hW5
    go_wp2_with (at_builtin; refine wpList_append_ints rfl _ _ rfl w4.heap.size _ _ [] ks rfl H05.out rfl HSR5.out HLN5.out hlo5 ?_; intro v6 w6 hown6 hbel6 _ hsh6; obtain ⟨a6, c6, rfl⟩ := hsh6; rw [← HW5.out] at hbel6; have hz6 : W5.heap.size ≤ w6.heap.size := hbel6.size; rw [List.nil_append] at hown6; have H6 := Lib.hid (And.intro hown6 hbel6); clear hown6 hbel6)
    obtain ⟨W7, hW7⟩ : ∃ W7, W7 = w6.alloc (.cells #[.int .i64 99, .int .i64 0, .int .i64 100, .int .i64 (-1)] 3) := ⟨_, rfl⟩
    rw [← hW7]
    have hs7 : W7.heap.size = w6.heap.size + 1 := by rw [hW7]; simp
    have hb7 : Below w6.heap.size w6 W7 := by rw [hW7]; exact (Below.refl _ _).alloc (Nat.le_refl _) _
    have hk7 : W7.heap[w6.heap.size]? = some (.cells #[.int .i64 99, .int .i64 0, .int .i64 100, .int .i64 (-1)] 3 (0, 0)) := by rw [hW7, new_blk]
    have hb57 : Below w4.heap.size W5 W7 := (H6.out.2).trans (hb7.mono (by omega))
    have hr7 : Rd W7 B r bs (q + 1) := H5.out.2.1.later hb57 (by omega)
    have hown7 : IntsOwn W7 w4.heap.size (.slice a6 ks.length c6) ks := IntsOwn.later H6.out.1 hb7 (Nat.le_refl _)
    have H7 := Lib.hid (And.intro hb57 hown7)
    clear hW7 hb7 hb57 hown7
    refine (num_c W7 B r bs (q + 1) w6.heap.size [99, 0, 100, -1] 4 hr7 (by omega) (by omega) (by simp) (by simp) (fun i hi => ?_)).mono ?_
    · have hi4 : i < 4 := by simpa using hi
      refine cell_in hk7 ?_
      rcases i with _ | _ | _ | _ | i
      · rfl
      · rfl
      · rfl
      · rfl
      · omega
    rintro e w8 ⟨i, m8, hi, rfl, hw8⟩
    obtain ⟨hx1, hx2⟩ := num_get4b i (by simpa using hi)
    generalize ([99, 0, 100, -1] : List Int).getD i 0 = xx at hx1 hx2
    have hr8 : Rd w8 B r bs (q + 1 + 1) := by rw [hw8]; exact hr7.picked m8
    have ho8 : Only W7.heap.size r W7 w8 := by rw [hw8]; exact Only.picked _ _ _ _ _
    have hz8 := ho8.size
    have hown8 : IntsOwn w8 w4.heap.size (.slice a6 ks.length c6) ks := IntsOwn.only H7.out.2 ho8 (Nat.le_refl _) (by omega)
    obtain ⟨W9, hW9⟩ : ∃ W9, W9 = w8.alloc (.cells #[.int .i64 xx] 3) := ⟨_, rfl⟩
    have hs9 : W9.heap.size = w8.heap.size + 1 := by rw [hW9]; simp
    have hb9 : Below w8.heap.size w8 W9 := by rw [hW9]; exact (Below.refl _ _).alloc (Nat.le_refl _) _
    have ho59 : Only w4.heap.size r w4 W9 := (below_only H5.out.1).trans ((below_only H7.out.1).trans ((ho8.mono (by omega)).trans (below_only (hb9.mono (by omega)))))
    have hown9 : IntsOwn W9 w4.heap.size (.slice a6 ks.length c6) ks := IntsOwn.later hown8 hb9 (Nat.le_refl _)
    have hr9 : Rd W9 B r bs (q + 1 + 1) := hr8.later hb9 (by omega)
    have hsr9 : IntsAt W9 (.slice (some ⟨w8.heap.size, 0, none⟩) 1 1) [xx] := by rw [hW9]; exact IntsAt.one w8 xx
    have hlo9 : w4.heap.size ≤ W9.heap.size := by omega
    have HLN9 : Hid (ks.length + [xx].length ≤ 17592186044416) := Lib.hid (by simp; omega)
    have HOW9 := Lib.hid hown9
    have HSR9 := Lib.hid hsr9
    have H9 := Lib.hid (And.intro ho59 hr9)
    have HW9 := Lib.hid hW9
    rw [hW9] at hlo9 HOW9 HSR9
    clear hr7 hk7 hi hw8 hr8 ho8 hown8 hW9 hb9 ho59 hown9 hr9 hsr9 x1 x2 x3 x4
    go_wp2_with (at_builtin; refine wpList_append_ints rfl _ _ rfl w4.heap.size _ _ ks [xx] rfl HOW9.out rfl HSR9.out HLN9.out hlo9 ?_; intro v10 w10 hown10 hbel10 _ hsh10; obtain ⟨a10, c10, rfl⟩ := hsh10; rw [← HW9.out] at hbel10; have hz10 : W9.heap.size ≤ w10.heap.size := hbel10.size; have y10 := (hbel10.block w2.heap.size (by omega)).trans ((H9.out.1.block w2.heap.size (by omega) (by omega)).trans HX4.out); have y11 := (hbel10.block w.heap.size (by omega)).trans ((H9.out.1.block w.heap.size (by omega) (by omega)).trans H4.out.2.2.1); clear r1 r2 r3 r4; obtain ⟨x1, x2, x3, x4⟩ := box2 y10; obtain ⟨r1, r2, r3, r4⟩ := box2 y11; have hlen10 : (ks ++ [xx]).length = ks.length + 1 := (by simp); rw [hlen10]; have H10 := Lib.hid (And.intro hown10 (And.intro hbel10 (And.intro y10 (And.intro y11 hlen10)))); clear hown10 hbel10 y10 y11 hlen10)
    obtain ⟨Wx, hWx⟩ : ∃ Wx, Wx = w10.setCell ⟨w2.heap.size, 0, none⟩ (.slice a10 (ks.length + 1) c10) := ⟨_, rfl⟩
    rw [← hWx]
    have hbx : Below w2.heap.size w10 Wx := by rw [hWx]; exact (Below.refl _ _).setCell (by show w2.heap.size ≤ w2.heap.size; omega) _
    have hOx : Only w2.heap.size r w4 Wx := (H9.out.1.mono (by omega)).trans ((below_only (H10.out.2.1.mono (by omega))).trans (below_only hbx))
    have hzx := hbx.size
    have hown : IntsOwn Wx w4.heap.size (.slice a10 (ks.length + 1) c10) (ks ++ [xx]) := by
      rw [hWx]
      have h := ownsRow_keep (w' := w10.setCell ⟨w2.heap.size, 0, none⟩ (.slice a10 (ks.length + 1) c10)) H10.out.1 (fun k hk => set_other _ _ _ _ _ (by have := (H10.out.1.lt k hk).1; omega))
      rw [H10.out.2.2.2.2] at h
      unfold IntsOwn
      rw [H10.out.2.2.2.2]
      exact h
    have htx : TreeQ Wx (fun k => w.heap.size < k ∧ k < Wx.heap.size) (.slice a10 (ks.length + 1) c10) (.slice b4 cs.length b6) (.mk (ks ++ [xx]) cs) := by
      refine .mk (ks ++ [xx]) cs _ b4 b6 kvs cvs ((IntsOwn.p hown).same (fun _ _ => rfl) (fun k hk => ⟨by omega, hk.2⟩)) hcl hcc (HT.out.1.same (fun k hk => hOx.block k hk.2 (by omega)) (fun k hk => ⟨hk.1, by omega⟩)) (fun i hi => (HT.out.2 i hi).same (fun k hk => hOx.block k hk.2 (by omega)) (fun k hk => ⟨hk.1, by omega⟩))
    have hkx := (hbx.block w.heap.size (by omega)).trans H10.out.2.2.2.1
    have hrx : Rd Wx B r bs (q + 1 + 1) := (H9.out.2.later (H10.out.2.1) (by omega)).later hbx (by omega)
    have hox : Only w.heap.size r w Wx := H4.out.2.2.2.1.trans (hOx.mono (by omega))
    obtain ⟨g1, g2, g3, g4⟩ := some_out hkx htx hrx hrl hox
    clear hWx
    obtain ⟨wf, hwf⟩ : ∃ wf, wf = (Wx.setCell ⟨w.heap.size, 0, none⟩ (.slice a10 (ks.length + 1) c10)).setCell ⟨w.heap.size, 1, none⟩ (.slice b4 cs.length b6) := ⟨_, rfl⟩
    rw [← hwf] at g1 g2 g3 g4 ⊢
    obtain ⟨d1, d2, d3, d4⟩ := box2 g1
    exact bodyPost_ret (v := .tuple #[.agg #[.slice a10 (ks.length + 1) c10, .slice b4 cs.length b6], .int .i64 (wide : Int)]) (by simp [results, Tryd.results95, go_sem, d1, d2]) rfl ⟨_, _, _, wide, q + 1 + 1, rfl, by omega, by omega, g2, by simp only [Tr.weight, List.length_append, List.length_cons, List.length_nil]; omega, g3, by omega, g4⟩
  by_cases hxb : x = 1
  · subst hxb
    obtain ⟨ks, cs⟩ := t
    obtain ⟨ca, ccap, kvs, cvs, hce, hik, hcl, hcc, hkat, hkk⟩ := H4.out.1.parts
    simp only [Value.slice.injEq] at hce
    obtain ⟨rfl, rfl, rfl⟩ := hce
    obtain ⟨ka, kcap, hke, _⟩ := id hik
    simp only [Value.slice.injEq] at hke
    obtain ⟨rfl, rfl, rfl⟩ := hke
    simp only [Tr.weight] at hw2
    have hclw := Tr.length_le_weights cs
    obtain ⟨W5, hW5⟩ : ∃ W5, W5 = w4.alloc (.cells #[] 33) := ⟨_, rfl⟩
    have hs5 : W5.heap.size = w4.heap.size + 1 := by rw [hW5]; simp
    have hb5 : Below w4.heap.size w4 W5 := by rw [hW5]; exact (Below.refl _ _).alloc (Nat.le_refl _) _
    have h05 : TreesOwn W5 w4.heap.size (.slice (some ⟨w4.heap.size, 0, none⟩) 0 0) [] := by
      rw [hW5]; exact World.ownsRow_made w4 #[] 0 (Nat.le_refl _) (by unfold maxLen; omega) rfl
    have hsr5 : KidsAt W5 (.slice b4 cs.length b6) ((List.range cs.length).map (fun i => (kvs i, cvs i))) :=
      KidsIn.at ((hkat.p.in (B := w4.heap.size) (fun k hk => by omega)).later hb5 (Nat.le_refl _)) (fun h => HNK.out cs.length b6 (by rw [h]))
    have h1c : ∀ u, u ∈ flatT ((List.range cs.length).map (fun i => (kvs i, cvs i))) → u.oneCell' = true := fun u hu => by
      obtain ⟨p, hp, hu⟩ := List.mem_flatMap.1 hu
      obtain ⟨i, hi, rfl⟩ := List.mem_map.1 hp
      obtain ⟨s1, s2, s3, s4, s5, s6, e1, e2⟩ := (hkk i (List.mem_range.1 hi)).slices
      simp only [e1, e2, List.mem_cons, List.not_mem_nil, or_false] at hu
      rcases hu with rfl | rfl <;> rfl
    have hlo5 : w4.heap.size ≤ W5.heap.size := by omega
    have hMl : ((List.range cs.length).map (fun i => (kvs i, cvs i))).length = cs.length := by simp
    have HLN5 : Hid (([] : List (Value × Value)).length + ((List.range cs.length).map (fun i => (kvs i, cvs i))).length ≤ 100000000) := Lib.hid (by rw [hMl]; simp; omega)
    have HMG : Hid (∀ i (h : i < cs.length), (((List.range cs.length).map (fun i => (kvs i, cvs i))).getD i (undef, undef)) = (kvs i, cvs i)) := Lib.hid (fun i hi => by simp [List.getD_eq_getElem?_getD, hi])
    have HML := Lib.hid hMl
    clear hMl
    have y := (hb5.block w2.heap.size (by omega)).trans (show w4.heap[w2.heap.size]? = _ from HX4.out)
    have hrb5 := H4.out.2.2.2.2.later hb5 (by omega)
    have HT := Lib.hid (And.intro hik hkk)
    have H5 := Lib.hid (And.intro hb5 (And.intro hrb5 y))
    have H05 := Lib.hid h05
    have HSR5 := Lib.hid hsr5
    have H1C := Lib.hid h1c
    have HW5 := Lib.hid hW5
    rw [hW5] at y
    clear x1 x2 x3 x4
    obtain ⟨x1, x2, x3, x4⟩ := box2 y
    clear y hik hkat hkk hb5 hrb5 h05 hsr5 h1c
    generalize hMd : ((List.range cs.length).map (fun i => (kvs i, cvs i))) = M at HSR5 H1C HLN5 HMG HML
    clear hMd
    rw [hW5] at hlo5 H05 HSR5
    clear hW5
    go_wp2_with (at_builtin; refine wpList_append_trees rfl _ _ rfl w4.heap.size _ _ [] M rfl H05.out rfl HSR5.out H1C.out HLN5.out hlo5 ?_; intro v6 w6 hown6 hbel6 _ hsh6; obtain ⟨a6, c6, rfl⟩ := hsh6; rw [← HW5.out] at hbel6; have hz6 : W5.heap.size ≤ w6.heap.size := hbel6.size; rw [List.nil_append] at hown6; have H6 := Lib.hid (And.intro hown6 hbel6); clear hown6 hbel6)
    refine (pick_c w6 B r bs (q + 1) 99 (H5.out.2.1.later H6.out.2 (by omega)) (by omega) (by omega) (by omega)).mono ?_
    rintro e w7 ⟨y1, m7, rfl, hy0, hy1, _, hw7⟩
    have hy99 : y1 < 99 := hy1 (by omega)
    have hr7 : Rd w7 B r bs (q + 1 + 1) := by rw [hw7]; exact (H5.out.2.1.later H6.out.2 (by omega)).picked m7
    have ho7 : Only w6.heap.size r w6 w7 := by rw [hw7]; exact Only.picked _ _ _ _ _
    have hz7 := ho7.size
    have hown7 : TreesOwn w7 w4.heap.size (.slice a6 M.length c6) M := ownsRow_keep H6.out.1 (fun k hk => ho7.block k (H6.out.1.lt k hk).2 (by have := (H6.out.1.lt k hk).1; omega))
    obtain ⟨W8, hW8⟩ : ∃ W8, W8 = w7.alloc (.cells #[.int .i64 y1] 3) := ⟨_, rfl⟩
    have hs8 : W8.heap.size = w7.heap.size + 1 := by rw [hW8]; simp
    have hb8 : Below w7.heap.size w7 W8 := by rw [hW8]; exact (Below.refl _ _).alloc (Nat.le_refl _) _
    have hk8 : W8.heap[w7.heap.size]? = some (.cells #[.int .i64 y1] 3 (0, 0)) := by rw [hW8, new_blk]
    have hlf := leaf_c W8 (.slice (some ⟨w7.heap.size, 0, none⟩) 1 1) [y1] (fun w' hb => ⟨_, _, rfl, by simp, .inr ⟨_, 0, rfl, fun i hi => by
      obtain rfl : i = 0 := by simpa using hi
      have h := (hb.block w7.heap.size (by omega)).trans hk8
      exact (box1 h).1⟩⟩) (by simp)
    have HLF := Lib.hid hlf
    have HW8 := Lib.hid hW8
    have H7 := Lib.hid (And.intro hr7 (And.intro ho7 (And.intro hown7 hb8)))
    clear hr7 ho7 hown7 hb8 hk8 hlf hW8 hw7 hy0 hy1 x1 x2 x3 x4 r1 r2 r3 r4
    go_wp2_with fail
    rw [← HW8.out]
    refine HLF.out.mono ?_
    rintro e w9 ⟨kv9, g9, rfl, hown9, hne9, hg9, hkg9, hb9⟩
    obtain ⟨a9, c9, rfl⟩ := hown9.shown
    have hz9 := hb9.size
    have hg9l := (Array.getElem?_eq_some_iff.1 hkg9).1
    obtain ⟨W10, hW10⟩ : ∃ W10, W10 = w9.alloc (.cells #[.slice a9 ([y1] : List Int).length c9, .slice (some ⟨g9, 0, none⟩) 0 0] 33) := ⟨_, rfl⟩
    have hs10 : W10.heap.size = w9.heap.size + 1 := by rw [hW10]; simp
    have hb10 : Below w9.heap.size w9 W10 := by rw [hW10]; exact (Below.refl _ _).alloc (Nat.le_refl _) _
    have hb710 : Below w7.heap.size w7 W10 := H7.out.2.2.2.trans ((hb9.mono (by omega)).trans (hb10.mono (by omega)))
    have ho10 : Only w4.heap.size r w4 W10 := (below_only H5.out.1).trans ((below_only H6.out.2).trans ((H7.out.2.1.mono (by omega)).trans (below_only (hb710.mono (by omega)))))
    have hr10 : Rd W10 B r bs (q + 1 + 1) := H7.out.1.later hb710 (by omega)
    have hown10 : TreesOwn W10 w4.heap.size (.slice a6 M.length c6) M := ownsRow_keep H7.out.2.2.1 (fun k hk => hb710.block k (H7.out.2.2.1.lt k hk).2)
    have hlt10 : TreeQ W10 (fun k => w7.heap.size ≤ k ∧ k < W10.heap.size) (.slice a9 ([y1] : List Int).length c9) (.slice (some ⟨g9, 0, none⟩) 0 0) (.mk [y1] []) :=
      (IntsP.leafQ ((IntsOwn.p (IntsOwn.later hown9 hb10 (Nat.le_refl _))).same (fun _ _ => rfl) (fun k hk => ⟨by omega, hk.2⟩)))
    have hsr10 : KidsAt W10 (.slice (some ⟨w9.heap.size, 0, none⟩) 1 1) [(.slice a9 ([y1] : List Int).length c9, .slice (some ⟨g9, 0, none⟩) 0 0)] := by rw [hW10]; exact KidsAt.one w9 _ _
    have hlo10 : w4.heap.size ≤ W10.heap.size := by omega
    have HLN10 : Hid (M.length + [((.slice a9 ([y1] : List Int).length c9, .slice (some ⟨g9, 0, none⟩) 0 0) : Value × Value)].length ≤ 100000000) := Lib.hid (by have := HML.out; simp; omega)
    have HOW10 := Lib.hid hown10
    have HSR10 := Lib.hid hsr10
    have H10 := Lib.hid (And.intro ho10 (And.intro hr10 hlt10))
    have HW10 := Lib.hid hW10
    rw [hW10] at hlo10 HOW10 HSR10
    clear hown9 hne9 hkg9 hb9 hW10 hb10 hb710 ho10 hr10 hown10 hlt10 hsr10
    simp only [List.length_cons, List.length_nil, Nat.zero_add] at HSR10 HOW10 HW10 H10 hlo10 HLN10
    go_wp2_with (at_builtin; refine wpList_append_trees rfl _ _ rfl w4.heap.size _ _ M [(.slice a9 1 c9, .slice (some ⟨g9, 0, none⟩) 0 0)] rfl HOW10.out rfl HSR10.out (by simp [flatT, Value.oneCell']) HLN10.out hlo10 ?_; intro v11 w11 hown11 hbel11 hgr11 hsh11; obtain ⟨a11, c11, rfl⟩ := hsh11; rw [← HW10.out] at hbel11 hgr11; have HGR := Lib.hid hgr11; clear hgr11; have hz11 : W10.heap.size ≤ w11.heap.size := hbel11.size; have y10 := (hbel11.block w2.heap.size (by omega)).trans ((H10.out.1.block w2.heap.size (by omega) (by omega)).trans HX4.out); have y11 := (hbel11.block w.heap.size (by omega)).trans ((H10.out.1.block w.heap.size (by omega) (by omega)).trans H4.out.2.2.1); obtain ⟨x1, x2, x3, x4⟩ := box2 y10; obtain ⟨r1, r2, r3, r4⟩ := box2 y11; have hlen11 : (M ++ [((.slice a9 1 c9, .slice (some ⟨g9, 0, none⟩) 0 0) : Value × Value)]).length = cs.length + 1 := (by have := HML.out; simp; omega); rw [hlen11]; have H11 := Lib.hid (And.intro hown11 (And.intro hbel11 (And.intro y10 (And.intro y11 hlen11)))); clear hown11 hbel11 y10 y11 hlen11)
    obtain ⟨Wx, hWx⟩ : ∃ Wx, Wx = w11.setCell ⟨w2.heap.size, 1, none⟩ (.slice a11 (cs.length + 1) c11) := ⟨_, rfl⟩
    rw [← hWx]
    have hbx : Below w2.heap.size w11 Wx := by rw [hWx]; exact (Below.refl _ _).setCell (by show w2.heap.size ≤ w2.heap.size; omega) _
    have hb1x : ∀ k, w4.heap.size ≤ k → k < w11.heap.size → Wx.heap[k]? = w11.heap[k]? := fun k h1 _ => by rw [hWx]; exact set_other _ _ _ _ _ (by omega)
    have hOx : Only w2.heap.size r w4 Wx := (H10.out.1.mono (by omega)).trans ((below_only (H11.out.2.1.mono (by omega))).trans (below_only hbx))
    have hzx : w11.heap.size = Wx.heap.size := by rw [hWx]; simp
    have hown : TreesOwn Wx w4.heap.size (.slice a11 (cs.length + 1) c11) (M ++ [(.slice a9 1 c9, .slice (some ⟨g9, 0, none⟩) 0 0)]) := by
      have h := H11.out.1
      rw [H11.out.2.2.2.2] at h
      exact ownsRow_keep h (fun k hk => hb1x k (h.lt k hk).1 (h.lt k hk).2)
    have htx : TreeQ Wx (fun k => w.heap.size < k ∧ k < Wx.heap.size) (.slice b1 ks.length b3) (.slice a11 (cs.length + 1) c11) (.mk ks (cs ++ [.mk [y1] []])) := by
      refine treeQ_row (HT.out.1.same (fun k hk => hOx.block k hk.2 (by omega)) (fun k hk => ⟨hk.1, by omega⟩)) hown (fun k h1 h2 => ⟨by omega, h2⟩) (by have := HML.out; simp; omega) (fun i hi => ?_)
      by_cases hic : i < cs.length
      · have e1 : (M ++ [((.slice a9 1 c9, .slice (some ⟨g9, 0, none⟩) 0 0) : Value × Value)]).getD i (undef, undef) = (kvs i, cvs i) := by
          rw [← HMG.out i hic]
          simp [List.getD_eq_getElem?_getD, List.getElem?_append_left (show i < M.length by have := HML.out; omega)]
        rw [e1, List.getElem_append_left hic]
        exact (HT.out.2 i hic).same (fun k hk => hOx.block k hk.2 (by omega)) (fun k hk => ⟨hk.1, by omega⟩)
      · have hie : i = cs.length := by simp at hi; omega
        subst hie
        have e1 : (M ++ [((.slice a9 1 c9, .slice (some ⟨g9, 0, none⟩) 0 0) : Value × Value)]).getD cs.length (undef, undef) = (.slice a9 1 c9, .slice (some ⟨g9, 0, none⟩) 0 0) := by
          rw [← HML.out]
          simp
        rw [e1]
        simp only [List.getElem_append_right (Nat.le_refl _), Nat.sub_self, List.getElem_cons_zero]
        exact H10.out.2.2.same (fun k hk => (hb1x k (by omega) (by omega)).trans (HGR.out.block k hk.2 (fun e => by have := (H6.out.1.lt k e.symm).2; omega))) (fun k hk => ⟨by omega, by omega⟩)
    have hkx := (hbx.block w.heap.size (by omega)).trans H11.out.2.2.2.1
    have hrx : Rd Wx B r bs (q + 1 + 1) := (H10.out.2.1.later (H11.out.2.1) (by omega)).later hbx (by omega)
    have hox : Only w.heap.size r w Wx := H4.out.2.2.2.1.trans (hOx.mono (by omega))
    obtain ⟨g1, g2, g3, g4⟩ := some_out hkx htx hrx hrl hox
    clear hWx
    obtain ⟨wf, hwf⟩ : ∃ wf, wf = (Wx.setCell ⟨w.heap.size, 0, none⟩ (.slice b1 ks.length b3)).setCell ⟨w.heap.size, 1, none⟩ (.slice a11 (cs.length + 1) c11) := ⟨_, rfl⟩
    rw [← hwf] at g1 g2 g3 g4 ⊢
    obtain ⟨d1, d2, d3, d4⟩ := box2 g1
    exact bodyPost_ret (v := .tuple #[.agg #[.slice b1 ks.length b3, .slice a11 (cs.length + 1) c11], .int .i64 (wide : Int)]) (by simp [results, Tryd.results95, go_sem, d1, d2]) rfl ⟨_, _, _, wide, q + 1 + 1, rfl, by omega, by omega, g2, by
      rw [Tr.weight, Tr.weights_append]
      simp only [Tr.weights, Tr.weight, List.length_cons, List.length_nil]; omega, g3, by omega, g4⟩
  by_cases hxc : x = 2
  · subst hxc
    go_upto_region 8 with (fail)
    have hr4 := H4.out.2.2.2.2
    obtain ⟨W5, hW5⟩ : ∃ W5, W5 = w4.drew := ⟨_, rfl⟩
    refine wp_region_one (n := 4) (by kernel_rfl) (by kernel_rfl) (by kernel_rfl) ?hn (by kernel_rfl) (fun i => 40 + i) (fun i j _ _ h => by omega)
      (fun a b => Only a.heap.size r a b) (fun a => Only.refl _ _ _) (fun a b c h1 h2 => h1.trans (h2.mono h1.size)) 3 (by omega)
      (fun b W => (b = false → Rd W B r bs (q + 1)) ∧ (b = true → Rd W B r bs (q + 1 + 1))) ⟨fun _ => rd_drew hr4, fun h => by cases h⟩
      (J8 r w4.heap.size (.agg #[.slice b1 b2 b3, .slice b4 b5 b6])) (fun j v W W' h hb => J8_mono (by omega) j v W W' h hb) ?hg ?hstep ?hcall ?htail
    case hn => decide
    case hg =>
      intro i oi hi ho
      have hc : i = 0 ∨ i = 1 ∨ i = 2 ∨ i = 3 := by omega
      rcases hc with rfl | rfl | rfl | rfl
      all_goals (
        have ho' := Option.some.inj ho
        subst ho'
        exact ⟨rfl, rfl⟩)
    case hstep =>
      intro i oi hi hic ho a W b hag hR hGb hpre
      have hc : i = 0 ∨ i = 1 ∨ i = 2 := by omega
      have HSZ := Lib.hid (show a.tmps.size = 46 from hag.size.trans rfl)
      have hbx := (hR.block w2.heap.size (by show w2.heap.size < w4.heap.size; omega) (by omega)).trans HX4.out
      have hRsz : w4.heap.size ≤ W.heap.size := hR.size
      have t0 : a.tmps[0]? = some (.pointer (some ⟨r, 0, none⟩)) := hag.other 0 (fun i hi => by show 40 + i ≠ 0; omega)
      have t4 : a.tmps[4]? = some (.pointer (some ⟨w2.heap.size, 0, none⟩)) := hag.other 4 (fun i hi => by show 40 + i ≠ 4; omega)
      clear x1 x2 x3 x4
      obtain ⟨x1, x2, x3, x4⟩ := box2 hbx
      have HGB := Lib.hid hGb
      clear hGb hag hR hbx
      rcases hc with rfl | rfl | rfl
      · have ho' := Option.some.inj ho
        subst ho'
        go_simp
        exact ⟨_, rfl, by rw [HSZ.out]; decide, rfl, Only.refl _ _ _, HGB.out⟩
      · have ho' := Option.some.inj ho
        subst ho'
        go_simp
        exact ⟨_, rfl, by rw [HSZ.out]; decide, rfl, Only.refl _ _ _, HGB.out⟩
      · have ho' := Option.some.inj ho
        subst ho'
        go_simp
        have hba : Below W.heap.size W (W.alloc (.cells #[.int .i64 1, .int .i64 7, .int .i64 2, .int .i64 6, .int .i64 0, .int .i64 (-1)] 3)) := (Below.refl _ _).alloc (Nat.le_refl _) _
        exact ⟨_, rfl, by rw [HSZ.out]; decide, ⟨W.heap.size, rfl, new_blk _ _, hRsz⟩, below_only hba, fun h => rd_later' (HGB.out.1 h) hba, fun h => rd_later' (HGB.out.2 h) hba⟩
    case hcall =>
      intro oi ho a W hag hR hGf hpre
      have HSZ := Lib.hid (show a.tmps.size = 46 from hag.size.trans rfl)
      have hRd := hGf.1 rfl
      have ho' := Option.some.inj ho
      subst ho'
      have p1 : a.tmps[41]?.getD undef = .pointer (some ⟨r, 0, none⟩) := hpre { on := 1, ground := Ground.data } (by simp) rfl
      obtain ⟨g, p2, hg, hgl⟩ : J8 r w4.heap.size (.agg #[.slice b1 b2 b3, .slice b4 b5 b6]) 2 (a.tmps[42]?.getD undef) W := hpre { on := 2, ground := Ground.data } (by simp) rfl
      have HNC := Lib.hid (num_c W B r bs (q + 1) g [1, 7, 2, 6, 0, -1] 6 hRd (by omega) (by omega) (by simp) (by simp) (fun i hi => by
        have hi6 : i < 6 := by simpa using hi
        refine cell_in hg ?_
        rcases i with _ | _ | _ | _ | _ | _ | i
        · rfl
        · rfl
        · rfl
        · rfl
        · rfl
        · rfl
        · omega))
      clear hag hR hGf hg
      go_simp
      refine HNC.out.mono ?_
      rintro e w6 ⟨i, m6, hi, rfl, hw6⟩
      obtain ⟨hx1, hx2⟩ := num_get6 i (by simpa using hi)
      exact ⟨_, rfl, by rw [HSZ.out]; decide, ⟨_, rfl, hx1, hx2⟩, by rw [hw6]; exact Only.picked _ _ _ _ _, by rw [hw6]; exact hRd.picked m6⟩
    case htail =>
      intro a W hag hR hG hj
      have j0 : a.tmps[40]?.getD undef = .agg #[.slice b1 b2 b3, .slice b4 b5 b6] := hj 0 (by omega)
      have j1 : a.tmps[41]?.getD undef = .pointer (some ⟨r, 0, none⟩) := hj 1 (by omega)
      obtain ⟨g, j2, _, _⟩ : J8 r w4.heap.size (.agg #[.slice b1 b2 b3, .slice b4 b5 b6]) 2 (a.tmps[42]?.getD undef) W := hj 2 (by omega)
      obtain ⟨n, j3, hn1, hn2⟩ : J8 r w4.heap.size (.agg #[.slice b1 b2 b3, .slice b4 b5 b6]) 3 (a.tmps[43]?.getD undef) W := hj 3 (by omega)
      have ha := hag.eq
      rw [show List.range 4 = [0, 1, 2, 3] from rfl] at ha
      simp only [List.foldl_cons, List.foldl_nil, Nat.reduceAdd, j0, j1, j2, j3] at ha
      clear hj hag j0 j1 j2 j3
      subst ha
      have hRsz : w4.heap.size ≤ W.heap.size := hR.size
      have hkx := (hR.block w.heap.size (by show w.heap.size < w4.heap.size; omega) (by omega)).trans H4.out.2.2.1
      have htx : TreeQ W (fun k => w.heap.size < k ∧ k < W.heap.size) (.slice b1 b2 b3) (.slice b4 b5 b6) t := H4.out.1.same (fun k hk => hR.block k (by show k < w4.heap.size; omega) (by omega)) (fun k hk => ⟨hk.1, by omega⟩)
      have hrx : Rd W B r bs (q + 1 + 1) := hG.2 rfl
      have hox : Only w.heap.size r w W := H4.out.2.2.2.1.trans ((only_undrew hR).mono (show w.heap.size ≤ w4.heap.size by omega))
      obtain ⟨g1, g2, g3, g4⟩ := some_out hkx htx hrx hrl hox
      clear r1 r2 r3 r4 x1 x2 x3 x4
      obtain ⟨r1, r2, r3, r4⟩ := box2 hkx
      have HSO := Lib.hid (And.intro g1 (And.intro g2 (And.intro g3 g4)))
      clear hR hG hkx htx hrx hox g1 g2 g3 g4
      change wpAny _ _ _ _ 2 _ _ _
      simp only [List.setIfInBounds_toArray, List.set_cons_succ, List.set_cons_zero]
      refine wpAny_ready (rs := [4]) (by kernel_rfl) (by simp) (AllReady.cons rfl (fun K25 hK25 => ?_) AllReady.nil)
      go_simp
      refine hK25 _ _ ?_
      clear hK25 K25
      refine wpAny_ready (rs := [5]) (by kernel_rfl) (by simp) (AllReady.cons rfl (fun K25 hK25 => ?_) AllReady.nil)
      go_simp
      refine hK25 _ _ ?_
      clear hK25 K25
      refine wpAny_done (by kernel_rfl) ?_ _
      go_wp2_with fail
      obtain ⟨g1, g2, g3, g4⟩ := HSO.out
      obtain ⟨wf, hwf⟩ : ∃ wf, wf = (W.setCell ⟨w.heap.size, 0, none⟩ (.slice b1 b2 b3)).setCell ⟨w.heap.size, 1, none⟩ (.slice b4 b5 b6) := ⟨_, rfl⟩
      rw [← hwf] at g1 g2 g3 g4 ⊢
      obtain ⟨d1, d2, d3, d4⟩ := box2 g1
      exact bodyPost_ret (v := .tuple #[.agg #[.slice b1 b2 b3, .slice b4 b5 b6], .int .i64 n]) (by simp [results, Tryd.results95, go_sem, d1, d2]) rfl ⟨_, _, t, n, q + 1 + 1, rfl, by omega, by omega, g2, by omega, g3, by omega, g4⟩
  have c0 : ((x : Int) == 0) = false := beq_eq_false_iff_ne.2 (by omega)
  have c1 : ((x : Int) == 1) = false := beq_eq_false_iff_ne.2 (by omega)
  have c2 : ((x : Int) == 2) = false := beq_eq_false_iff_ne.2 (by omega)
  go_wp2_with fail
  obtain ⟨g1, g2, g3, g4⟩ := some_out H4.out.2.2.1 (H4.out.1.same (fun _ _ => rfl) (fun k hk => ⟨hk.1, by omega⟩)) H4.out.2.2.2.2 hrl H4.out.2.2.2.1
  obtain ⟨wf, hwf⟩ : ∃ wf, wf = (w4.setCell ⟨w.heap.size, 0, none⟩ (.slice b1 b2 b3)).setCell ⟨w.heap.size, 1, none⟩ (.slice b4 b5 b6) := ⟨_, rfl⟩
  rw [← hwf] at g1 g2 g3 g4 ⊢
  obtain ⟨d1, d2, d3, d4⟩ := box2 g1
  exact bodyPost_ret (v := .tuple #[.agg #[.slice b1 b2 b3, .slice b4 b5 b6], .int .i64 (wide : Int)]) (by simp [results, Tryd.results95, go_sem, d1, d2]) rfl ⟨_, _, t, wide, q + 1, rfl, by omega, by omega, g2, by omega, g3, by omega, g4⟩
end Go.Proofs.YticfkfjijnfcbaaDoor
