/- The model draws a tree and a number to look for. -/
import Derived.Test.YticfkfjijnfcbaaDoorProg
import Derived.Test.YticfkfjijnfcbaaDoorSh0
import Derived.Test.YticfkfjijnfcbaaDoorKeys
import Derived.Test.YticfkfjijnfcbaaDoorSh9
import Derived.Test.YticfkfjijnfcbaaDoorSh18
import Derived.Test.YticfkfjijnfcbaaDoorSh21
import Derived.Test.YticfkfjijnfcbaaDoorDrawSome
import Derived.Test.YticfkfjijnfcbaaDoorSh19
import Derived.Test.YticfkfjijnfcbaaDoorSh20

/- The model opens a reader over bytes; a key is drawn. -/
namespace Go.Proofs.YticfkfjijnfcbaaDoor
open Go.RowKit

theorem num_get6k (x : Int) (hx : 0 ≤ x ∧ x < 100) (i : Nat) (h : i < 6) : -1 ≤ ([x, 0, 99, 5, -1, 100] : List Int).getD i 0 ∧ ([x, 0, 99, 5, -1, 100] : List Int).getD i 0 ≤ 100 := by
  rcases i with _ | _ | _ | _ | _ | _ | i <;> simp <;> omega

/-- What drawing a key leaves. -/
def Keyed (w : World) (B r : Nat) (bs : List Nat) (p : Nat) (t : Tr) (e : Ending) (w' : World) : Prop :=
  ∃ (key : Int) (q : Nat), e = .returned (.int .i64 key) ∧ (key ∈ t.keys ∨ (-1 ≤ key ∧ key ≤ 100)) ∧ Rd w' B r bs q ∧ q ≤ p + 3 ∧ Only w.heap.size r w w'

set_option maxHeartbeats 1000000 in
set_option maxRecDepth 100000 in
theorem drawKey_c (w : World) (B r : Nat) (bs : List Nat) (p : Nat) (h : Rd w B r bs p) (hp : p ≤ 200000000) {kv cv : Value} {t : Tr} (ht : TreeIn w w.heap.size kv cv t) (hw : t.weight ≤ 1048576) :
    Calls Tryd.prog 96 #[.pointer (some ⟨r, 0, none⟩), .agg #[kv, cv]] w (Keyed w B r bs p t) := by
  have hrl := h.lt
  obtain ⟨a5, n5, m5, a6, n6, m6, rfl, rfl⟩ := ht.slices
  obtain ⟨W1, hW1⟩ : ∃ W1, W1 = w.alloc (.cells #[.slice a5 n5 m5, .slice a6 n6 m6] 33) := ⟨_, rfl⟩
  have hs1 : W1.heap.size = w.heap.size + 1 := by rw [hW1]; simp
  have hb1 : Below w.heap.size w W1 := by rw [hW1]; exact (Below.refl _ _).alloc (Nat.le_refl _) _
  have k0 : W1.heap[w.heap.size]? = some (.cells #[.slice a5 n5 m5, .slice a6 n6 m6] 33 (0, 0)) := by rw [hW1, new_blk]
  obtain ⟨x1, x2, x3, x4⟩ := box2 k0
  have HK := Lib.hid (specKeys_c ht hw W1 hb1 (by omega))
  have hkl : t.keys.length ≤ t.weight := Tr.keys_length_le t
  have H1 := Lib.hid (And.intro hb1 (h.later hb1 hrl))
  have HW1 := Lib.hid hW1
  clear hb1 k0 hW1 ht h
  go_enter Tryd.func96, Tryd.ntmps96
  go_wp2_with fail
  rw [← HW1.out]
  refine HK.out.mono ?_
  rintro e w2 ⟨v2, rfl, hown2, hb2⟩
  obtain ⟨a2, c2, rfl⟩ := hown2.shown
  have hs2 := hb2.size
  have hr2 : Rd w2 B r bs p := H1.out.2.later hb2 (by omega)
  have ho2 : Only w.heap.size r w w2 := below_only (H1.out.1.trans (hb2.mono (by omega)))
  have H2 := Lib.hid (And.intro hown2 (And.intro hr2 ho2))
  clear hown2 hb2 hr2 ho2 x1 x2 x3 x4
  by_cases hk0 : 0 < t.keys.length
  · have hk0' : ((t.keys.length : Int) > 0) := by omega
    have HP := Lib.hid (pick_c w2 B r bs p 2 H2.out.2.1 (by omega) (by omega) (by omega))
    go_wp2_with fail
    refine HP.out.mono ?_
    rintro e w3 ⟨x, m3, rfl, hx0, hx1, _, hw3⟩
    have hr3 : Rd w3 B r bs (p + 1) := by rw [hw3]; exact H2.out.2.1.picked m3
    have ho3 : Only w2.heap.size r w2 w3 := by rw [hw3]; exact Only.picked _ _ _ _ _
    have hz3 := ho3.size
    have hown3 : IntsOwn w3 W1.heap.size (.slice a2 t.keys.length c2) t.keys := IntsOwn.only H2.out.1 ho3 (Nat.le_refl _) (by omega)
    have ho3' := H2.out.2.2.trans (ho3.mono (by omega))
    have H3 := Lib.hid (And.intro hown3 (And.intro hr3 ho3'))
    clear hw3 hr3 ho3 hown3 ho3'
    by_cases hx : x = 0
    · have hxe : (x == 0) = true := by simp [hx]
      clear hx
      have HP2 := Lib.hid (pick_c w3 B r bs (p + 1) t.keys.length H3.out.2.1 (by omega) (by omega) (by omega))
      go_wp2_with fail
      refine HP2.out.mono ?_
      rintro e w4 ⟨y, m4, rfl, hy0, hy1, _, hw4⟩
      obtain ⟨iy, rfl⟩ := Int.eq_ofNat_of_zero_le hy0
      have hiy : iy < t.keys.length := by have := hy1 (by omega); omega
      have hr4 : Rd w4 B r bs (p + 1 + 1) := by rw [hw4]; exact H3.out.2.1.picked m4
      have ho4 : Only w3.heap.size r w3 w4 := by rw [hw4]; exact Only.picked _ _ _ _ _
      have hown4 := IntsOwn.only H3.out.1 ho4 (Nat.le_refl _) (by omega)
      obtain ⟨pa, pc, hpe, _, hpat⟩ := IntsIn.at (IntsOwn.in hown4)
      obtain ⟨rfl, rfl⟩ : a2 = pa ∧ c2 = pc := by simpa using hpe
      rcases hpat with h | ⟨b, o, rfl, hpat⟩
      · rw [h] at hk0; simp at hk0
      have hcell := hpat iy hiy
      have hmem : t.keys.getD iy 0 ∈ t.keys := by rw [List.getD_eq_getElem?_getD, List.getElem?_eq_getElem hiy]; exact List.getElem_mem hiy
      generalize t.keys.getD iy 0 = key at hcell hmem
      have H4 := Lib.hid (And.intro hr4 (And.intro (H3.out.2.2.trans (ho4.mono (by omega))) hmem))
      clear hr4 ho4 hown4 hpat hpe hw4 hy0 hy1 hmem
      go_wp2_with fail
      exact bodyPost_ret (v := .int .i64 key) (by simp [results, Tryd.results96, go_sem]) rfl ⟨key, p + 1 + 1, rfl, .inl H4.out.2.2, H4.out.1, by omega, H4.out.2.1⟩
    · have hxe : (x == 0) = false := beq_eq_false_iff_ne.2 hx
      clear hx
      have HP2 := Lib.hid (pick_c w3 B r bs (p + 1) 100 H3.out.2.1 (by omega) (by omega) (by omega))
      go_wp2_with fail
      refine HP2.out.mono ?_
      rintro e w4 ⟨y, m4, rfl, hy0, hy1, _, hw4⟩
      have hy100 : y < 100 := hy1 (by omega)
      have hr4 : Rd w4 B r bs ((p + 1) + 1) := by rw [hw4]; exact H3.out.2.1.picked m4
      have ho4 : Only w3.heap.size r w3 w4 := by rw [hw4]; exact Only.picked _ _ _ _ _
      have hz4 := ho4.size
      obtain ⟨W5, hW5⟩ : ∃ W5, W5 = w4.alloc (.cells #[.int .i64 y, .int .i64 0, .int .i64 99, .int .i64 5, .int .i64 (-1), .int .i64 100] 3) := ⟨_, rfl⟩
      have hs5 : W5.heap.size = w4.heap.size + 1 := by rw [hW5]; simp
      have hb5 : Below w4.heap.size w4 W5 := by rw [hW5]; exact (Below.refl _ _).alloc (Nat.le_refl _) _
      have hk5 : W5.heap[w4.heap.size]? = some (.cells #[.int .i64 y, .int .i64 0, .int .i64 99, .int .i64 5, .int .i64 (-1), .int .i64 100] 3 (0, 0)) := by rw [hW5, new_blk]
      have ho5 : Only w.heap.size r w W5 := (H3.out.2.2.trans (ho4.mono (by omega))).trans (below_only (hb5.mono (by omega)))
      have HN := Lib.hid (num_c W5 B r bs ((p + 1) + 1) w4.heap.size [y, 0, 99, 5, -1, 100] 6 (hr4.later hb5 (by omega)) (by omega) (by omega) (by simp) (by simp) (fun i hi => by
        have hi6 : i < 6 := by simpa using hi
        refine cell_in hk5 ?_
        rcases i with _ | _ | _ | _ | _ | _ | i
        · rfl
        · rfl
        · rfl
        · rfl
        · rfl
        · rfl
        · omega))
      have H5 := Lib.hid (And.intro (hr4.later hb5 (by omega)) ho5)
      have HW5 := Lib.hid hW5
      clear hr4 ho4 hW5 hb5 hk5 ho5 hw4 hy1
      go_wp2_with fail
      rw [← HW5.out]
      refine HN.out.mono ?_
      rintro e w6 ⟨i, m6, hi, rfl, hw6⟩
      obtain ⟨g1, g2⟩ := num_get6k y ⟨hy0, hy100⟩ i (by simpa using hi)
      generalize ([y, 0, 99, 5, -1, 100] : List Int).getD i 0 = key at g1 g2
      have hr6 : Rd w6 B r bs ((p + 1) + 1 + 1) := by rw [hw6]; exact H5.out.1.picked m6
      have ho6 : Only w.heap.size r w w6 := H5.out.2.trans (by rw [hw6]; exact (Only.picked W5.heap.size _ _ _ _).mono (by omega))
      have H6 := Lib.hid (And.intro hr6 ho6)
      clear hr6 ho6 hi hw6
      go_wp2_with fail
      exact bodyPost_ret (v := .int .i64 key) (by simp [results, Tryd.results96, go_sem]) rfl ⟨key, (p + 1) + 1 + 1, rfl, .inr ⟨g1, g2⟩, H6.out.1, by omega, H6.out.2⟩
  · have hk0' : ¬ ((t.keys.length : Int) > 0) := by omega
    have HP2 := Lib.hid (pick_c w2 B r bs p 100 H2.out.2.1 (by omega) (by omega) (by omega))
    go_wp2_with fail
    refine HP2.out.mono ?_
    rintro e w4 ⟨y, m4, rfl, hy0, hy1, _, hw4⟩
    have hy100 : y < 100 := hy1 (by omega)
    have hr4 : Rd w4 B r bs (p + 1) := by rw [hw4]; exact H2.out.2.1.picked m4
    have ho4 : Only w2.heap.size r w2 w4 := by rw [hw4]; exact Only.picked _ _ _ _ _
    have hz4 := ho4.size
    obtain ⟨W5, hW5⟩ : ∃ W5, W5 = w4.alloc (.cells #[.int .i64 y, .int .i64 0, .int .i64 99, .int .i64 5, .int .i64 (-1), .int .i64 100] 3) := ⟨_, rfl⟩
    have hs5 : W5.heap.size = w4.heap.size + 1 := by rw [hW5]; simp
    have hb5 : Below w4.heap.size w4 W5 := by rw [hW5]; exact (Below.refl _ _).alloc (Nat.le_refl _) _
    have hk5 : W5.heap[w4.heap.size]? = some (.cells #[.int .i64 y, .int .i64 0, .int .i64 99, .int .i64 5, .int .i64 (-1), .int .i64 100] 3 (0, 0)) := by rw [hW5, new_blk]
    have ho5 : Only w.heap.size r w W5 := (H2.out.2.2.trans (ho4.mono (by omega))).trans (below_only (hb5.mono (by omega)))
    have HN := Lib.hid (num_c W5 B r bs (p + 1) w4.heap.size [y, 0, 99, 5, -1, 100] 6 (hr4.later hb5 (by omega)) (by omega) (by omega) (by simp) (by simp) (fun i hi => by
      have hi6 : i < 6 := by simpa using hi
      refine cell_in hk5 ?_
      rcases i with _ | _ | _ | _ | _ | _ | i
      · rfl
      · rfl
      · rfl
      · rfl
      · rfl
      · rfl
      · omega))
    have H5 := Lib.hid (And.intro (hr4.later hb5 (by omega)) ho5)
    have HW5 := Lib.hid hW5
    clear hr4 ho4 hW5 hb5 hk5 ho5 hw4 hy1
    go_wp2_with fail
    rw [← HW5.out]
    refine HN.out.mono ?_
    rintro e w6 ⟨i, m6, hi, rfl, hw6⟩
    obtain ⟨g1, g2⟩ := num_get6k y ⟨hy0, hy100⟩ i (by simpa using hi)
    generalize ([y, 0, 99, 5, -1, 100] : List Int).getD i 0 = key at g1 g2
    have hr6 : Rd w6 B r bs (p + 1 + 1) := by rw [hw6]; exact H5.out.1.picked m6
    have ho6 : Only w.heap.size r w w6 := H5.out.2.trans (by rw [hw6]; exact (Only.picked W5.heap.size _ _ _ _).mono (by omega))
    have H6 := Lib.hid (And.intro hr6 ho6)
    clear hr6 ho6 hi hw6
    go_wp2_with fail
    exact bodyPost_ret (v := .int .i64 key) (by simp [results, Tryd.results96, go_sem]) rfl ⟨key, p + 1 + 1, rfl, .inr ⟨g1, g2⟩, H6.out.1, by omega, H6.out.2⟩
end Go.Proofs.YticfkfjijnfcbaaDoor

/- The model draws a tree and a number to look for. -/
namespace Go.Proofs.YticfkfjijnfcbaaDoor
open Go.RowKit

/-- What drawing a tree and a number to look for leaves. -/
def HasDrawn (w : World) (e : Ending) (w' : World) : Prop :=
  ∃ (kv cv : Value) (t : Tr) (key : Int), e = .returned (.tuple #[.agg #[kv, cv], .int .i64 key]) ∧ TreeQ w' (fun k => w.heap.size ≤ k ∧ k < w'.heap.size) kv cv t ∧ t.weight ≤ 400000 ∧ (key ∈ t.keys ∨ (-1 ≤ key ∧ key ≤ 100)) ∧ Below w.heap.size w w'

/-- What the operations of its last statement leave. -/
def J3h (r : Nat) (tv : Value) (t : Tr) (j : Nat) (v : Value) (_W : World) : Prop :=
  match j with
  | 0 => v = tv
  | 1 => v = .pointer (some ⟨r, 0, none⟩)
  | 2 => v = tv
  | 3 => ∃ key, v = .int .i64 key ∧ (key ∈ t.keys ∨ (-1 ≤ key ∧ key ≤ 100))
  | _ => True

set_option maxHeartbeats 2000000 in
set_option maxRecDepth 100000 in
theorem drawHas_c {w : World} {B : Nat} {v : Value} {bs : List Nat} (h : BytesIn w B v bs) (w' : World) (hbw : Below B w w') (hB : B ≤ w'.heap.size) :
    Calls Tryd.prog 85 #[v] w' (HasDrawn w') := by
  obtain ⟨W1, hW1⟩ : ∃ W1, W1 = w'.alloc (.cells #[.slice none 0 0, .slice none 0 0] 33) := ⟨_, rfl⟩
  obtain ⟨R, hRe⟩ : ∃ R, R = w'.heap.size + 1 := ⟨_, rfl⟩
  have hs1 : W1.heap.size = R := by rw [hW1, hRe]; simp
  have hR1 : w'.heap.size < R := by omega
  have hR2 : R ≤ w'.heap.size + 1 := by omega
  have hb1 : Below w'.heap.size w' W1 := by rw [hW1]; exact (Below.refl _ _).alloc (Nat.le_refl _) _
  have hk1 : W1.heap[w'.heap.size]? = some (.cells #[.slice none 0 0, .slice none 0 0] 33 (0, 0)) := by rw [hW1, new_blk]
  have hop := open_c h W1 (hbw.trans (hb1.mono hB)) (by omega)
  rw [hs1] at hop
  have HO := Lib.hid hop
  clear hop hRe
  obtain ⟨va, vcap, rfl, -⟩ := h
  have HW1 := Lib.hid hW1
  have H1 := Lib.hid (And.intro hb1 hk1)
  clear hW1 hb1 hk1 hbw
  go_enter Tryd.func85, Tryd.ntmps85
  go_wp2_with fail
  rw [← HW1.out]
  refine HO.out.mono ?_
  rintro e w2 ⟨rfl, ⟨bs', hr2⟩, hb2⟩
  have hs2 := hb2.size
  have hrl2 := hr2.lt
  obtain ⟨p0, hp0, hr2⟩ : ∃ p0 : Nat, p0 ≤ 100 ∧ Rd w2 R R bs' p0 := ⟨0, by omega, hr2⟩
  have HS := Lib.hid (some_c w2 _ _ bs' p0 hr2 (by omega))
  have H2 := Lib.hid hb2
  clear hr2 hb2
  go_wp2_with fail
  refine HS.out.mono ?_
  rintro e w3 ⟨k3, c3, t, wide, q, rfl, _, _, ht3, hw3, hr3, hq3, ho3⟩
  obtain ⟨b1, b2, b3, b4, b5, b6, rfl, rfl⟩ := ht3.slices
  have hs3 := ho3.size
  have hk3 := (ho3.block w'.heap.size (by omega) (by omega)).trans ((H2.out.block w'.heap.size (by omega)).trans H1.out.2)
  obtain ⟨W4, hW4⟩ : ∃ W4, W4 = w3.alloc (.cells #[.slice b1 b2 b3, .slice b4 b5 b6] 33) := ⟨_, rfl⟩
  have hs4 : W4.heap.size = w3.heap.size + 1 := by rw [hW4]; simp
  have hb4 : Below w3.heap.size w3 W4 := by rw [hW4]; exact (Below.refl _ _).alloc (Nat.le_refl _) _
  have hx4 : W4.heap[w3.heap.size]? = some (.cells #[.slice b1 b2 b3, .slice b4 b5 b6] 33 (0, 0)) := by rw [hW4, new_blk]
  have ht4 : TreeQ W4 (fun k => w2.heap.size ≤ k ∧ k < w3.heap.size) (.slice b1 b2 b3) (.slice b4 b5 b6) t := ht3.same (fun k hk => hb4.block k hk.2) (fun k hk => hk)
  have hk4 := (hb4.block w'.heap.size (by omega)).trans hk3
  have hr4 := hr3.later hb4 (by omega)
  have hbt : Below w'.heap.size w' W4 := H1.out.1.trans ((H2.out.mono (by omega)).trans ((ho3.below (B := w'.heap.size) (by omega) (by omega)).trans (hb4.mono (by omega))))
  have HW4 := Lib.hid hW4
  have H4 := Lib.hid (And.intro ht4 (And.intro hx4 (And.intro hk4 (And.intro hr4 hbt))))
  clear ht3 hr3 ho3 hk3 hW4 hb4 hx4 ht4 hk4 hr4 hbt
  go_upto_region 3 with (fail)
  rw [← HW4.out]
  refine wp_region_one (n := 4) (by kernel_rfl) (by kernel_rfl) (by kernel_rfl) ?hn (by kernel_rfl) (fun i => 14 + i) (fun i j _ _ h => by omega)
    (fun a b => Only a.heap.size R a b) (fun a => Only.refl _ _ _) (fun a b c h1 h2 => h1.trans (h2.mono h1.size)) 3 (by omega)
    (fun b W => b = false → Rd W R R bs' q) (fun _ => rd_drew H4.out.2.2.2.1)
    (J3h R (.agg #[.slice b1 b2 b3, .slice b4 b5 b6]) t) (fun j v W W' h hb => h) ?hg ?hstep ?hcall ?htail
  case hn => decide
  case hg =>
    intro i oi hi ho
    have hc : i = 0 ∨ i = 1 ∨ i = 2 ∨ i = 3 := by omega
    rcases hc with rfl | rfl | rfl | rfl
    all_goals (
      have ho' := Option.some.inj ho
      subst ho'
      exact ⟨rfl, rfl⟩)
  case hstep =>
    intro i oi hi hic ho a W b hag hR hGb hpre
    have hc : i = 0 ∨ i = 1 ∨ i = 2 := by omega
    have HSZ := Lib.hid (show a.tmps.size = 18 from hag.size.trans rfl)
    have hbx := (hR.block w3.heap.size (by show w3.heap.size < W4.heap.size; omega) (by omega)).trans H4.out.2.1
    have t4 : a.tmps[4]? = some (.pointer (some ⟨R, 0, none⟩)) := hag.other 4 (fun i hi => by show 14 + i ≠ 4; omega)
    have t5 : a.tmps[5]? = some (.pointer (some ⟨w3.heap.size, 0, none⟩)) := hag.other 5 (fun i hi => by show 14 + i ≠ 5; omega)
    obtain ⟨x1, x2, x3, x4⟩ := box2 hbx
    have HGB := Lib.hid hGb
    clear hGb hag hR hbx
    rcases hc with rfl | rfl | rfl
    all_goals (
      have ho' := Option.some.inj ho
      subst ho'
      go_simp
      exact ⟨_, rfl, by rw [HSZ.out]; decide, rfl, Only.refl _ _ _, HGB.out⟩)
  case hcall =>
    intro oi ho a W hag hR hGf hpre
    have HSZ := Lib.hid (show a.tmps.size = 18 from hag.size.trans rfl)
    have hRsz : W4.heap.size ≤ W.heap.size := hR.size
    have ho' := Option.some.inj ho
    subst ho'
    have p1 : a.tmps[15]?.getD undef = .pointer (some ⟨R, 0, none⟩) := hpre { on := 1, ground := Ground.data } (by simp) rfl
    have p2 : a.tmps[16]?.getD undef = .agg #[.slice b1 b2 b3, .slice b4 b5 b6] := hpre { on := 2, ground := Ground.data } (by simp) rfl
    have htw : TreeQ W (fun k => k < W.heap.size) (.slice b1 b2 b3) (.slice b4 b5 b6) t := H4.out.1.same (fun k hk => hR.block k (by show k < W4.heap.size; omega) (by omega)) (fun k hk => by omega)
    have HK := Lib.hid (drawKey_c W _ _ bs' q (hGf rfl) (by omega) (htw.tree (fun k hk => hk)) (by omega))
    clear hag hR hGf htw
    go_simp
    refine HK.out.mono ?_
    rintro e w6 ⟨key, q6, rfl, hkey, hr6, hq6, ho6⟩
    exact ⟨_, rfl, by rw [HSZ.out]; decide, ⟨key, rfl, hkey⟩, ho6⟩
  case htail =>
    intro a W hag hR hG hj
    have j0 : a.tmps[14]?.getD undef = .agg #[.slice b1 b2 b3, .slice b4 b5 b6] := hj 0 (by omega)
    have j1 : a.tmps[15]?.getD undef = .pointer (some ⟨R, 0, none⟩) := hj 1 (by omega)
    have j2 : a.tmps[16]?.getD undef = .agg #[.slice b1 b2 b3, .slice b4 b5 b6] := hj 2 (by omega)
    obtain ⟨key, j3, hkey⟩ : J3h R (.agg #[.slice b1 b2 b3, .slice b4 b5 b6]) t 3 (a.tmps[17]?.getD undef) W := hj 3 (by omega)
    have ha := hag.eq
    rw [show List.range 4 = [0, 1, 2, 3] from rfl] at ha
    simp only [List.foldl_cons, List.foldl_nil, Nat.reduceAdd, j0, j1, j2, j3] at ha
    clear hj hag j0 j1 j2 j3
    subst ha
    have hRsz : W4.heap.size ≤ W.heap.size := hR.size
    have hkx := (hR.block w'.heap.size (by show w'.heap.size < W4.heap.size; omega) (by omega)).trans H4.out.2.2.1
    have htx : TreeQ W (fun k => w2.heap.size ≤ k ∧ k < w3.heap.size) (.slice b1 b2 b3) (.slice b4 b5 b6) t := H4.out.1.same (fun k hk => hR.block k (by show k < W4.heap.size; omega) (by omega)) (fun k hk => hk)
    have hbx : Below w'.heap.size w' W := H4.out.2.2.2.2.trans ((only_undrew hR).below (B := w'.heap.size) (show w'.heap.size ≤ W4.heap.size by omega) (by omega))
    obtain ⟨r1, r2, r3, r4⟩ := box2 hkx
    have HX := Lib.hid (And.intro hkx (And.intro htx (And.intro hbx hkey)))
    clear hR hG hkx htx hbx hkey
    change wpAny _ _ _ _ 2 _ _ _
    simp only [List.setIfInBounds_toArray, List.set_cons_succ, List.set_cons_zero]
    refine wpAny_ready (rs := [4]) (by kernel_rfl) (by simp) (AllReady.cons rfl (fun K25 hK25 => ?_) AllReady.nil)
    go_simp
    refine hK25 _ _ ?_
    clear hK25 K25
    refine wpAny_ready (rs := [5]) (by kernel_rfl) (by simp) (AllReady.cons rfl (fun K25 hK25 => ?_) AllReady.nil)
    go_simp
    refine hK25 _ _ ?_
    clear hK25 K25
    refine wpAny_done (by kernel_rfl) ?_ _
    go_wp2_with fail
    obtain ⟨wf, hwf⟩ : ∃ wf, wf = (W.setCell ⟨w'.heap.size, 0, none⟩ (.slice b1 b2 b3)).setCell ⟨w'.heap.size, 1, none⟩ (.slice b4 b5 b6) := ⟨_, rfl⟩
    have hfb : wf.heap[w'.heap.size]? = some (.cells #[.slice b1 b2 b3, .slice b4 b5 b6] 33 (0, 0)) := by
      rw [hwf]; exact set_blk (o := 1) _ (set_blk (o := 0) _ HX.out.1)
    obtain ⟨d1, d2, d3, d4⟩ := box2 hfb
    have hsf : wf.heap.size = W.heap.size := by rw [hwf]; simp
    rw [← hwf]
    refine bodyPost_ret (v := .tuple #[.agg #[.slice b1 b2 b3, .slice b4 b5 b6], .int .i64 key]) (by simp [results, Tryd.results85, go_sem, d1, d2]) rfl ⟨_, _, t, key, rfl, ?_, by omega, HX.out.2.2.2, ?_⟩
    · refine HX.out.2.1.same (fun k hk => ?_) (fun k hk => ⟨by omega, by omega⟩)
      rw [hwf, set_other _ _ _ _ _ (by omega), set_other _ _ _ _ _ (by omega)]
    · rw [hwf]; exact (HX.out.2.2.1.setCell (by show w'.heap.size ≤ w'.heap.size; omega) _).setCell (by show w'.heap.size ≤ w'.heap.size; omega) _
end Go.Proofs.YticfkfjijnfcbaaDoor
