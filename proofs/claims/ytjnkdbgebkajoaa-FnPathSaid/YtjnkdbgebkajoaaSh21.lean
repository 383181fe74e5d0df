/- Two lists that are the same: the laws' own function. -/
import Derived.Test.YtjnkdbgebkajoaaProg
import Derived.Test.YtjnkdbgebkajoaaSh0
import Derived.Test.YtjnkdbgebkajoaaSh6
import Derived.Test.YtjnkdbgebkajoaaSh1
import Derived.Test.YtjnkdbgebkajoaaSh2
import Derived.Test.YtjnkdbgebkajoaaSh20
import Derived.Test.YtjnkdbgebkajoaaDrawSome
import Derived.Deep.QuietTactic
import Derived.BigQuiet
import Derived.WalkSmall

/- The model opens a reader over bytes; a key is drawn. -/
namespace Go.Proofs.Ytjnkdbgebkajoaa
open Go.RowKit

theorem num_get6k (x : Int) (hx : 0 ≤ x ∧ x < 100) (i : Nat) (h : i < 6) : -1 ≤ ([x, 0, 99, 5, -1, 100] : List Int).getD i 0 ∧ ([x, 0, 99, 5, -1, 100] : List Int).getD i 0 ≤ 100 := by
  rcases i with _ | _ | _ | _ | _ | _ | i <;> simp <;> omega

/-- What drawing a key leaves. -/
def Keyed (w : World) (B r : Nat) (bs : List Nat) (p : Nat) (t : Tr) (e : Ending) (w' : World) : Prop :=
  ∃ (key : Int) (q : Nat), e = .returned (.int .i64 key) ∧ (key ∈ t.keys ∨ (-1 ≤ key ∧ key ≤ 100)) ∧ Rd w' B r bs q ∧ q ≤ p + 3 ∧ Only w.heap.size r w w'

set_option maxHeartbeats 1000000 in
set_option maxRecDepth 100000 in
theorem key_c (w : World) (B r : Nat) (bs : List Nat) (p : Nat) (h : Rd w B r bs p) (hp : p ≤ 200000000) {kv cv : Value} {t : Tr} (ht : TreeIn w w.heap.size kv cv t) (hw : t.weight ≤ 1048576) :
    Calls Try.prog 71 #[.pointer (some ⟨r, 0, none⟩), .agg #[kv, cv]] w (Keyed w B r bs p t) := by
  have hrl := h.lt
  obtain ⟨a5, n5, m5, a6, n6, m6, rfl, rfl⟩ := ht.slices
  obtain ⟨W1, hW1⟩ : ∃ W1, W1 = w.alloc (.cells #[.slice a5 n5 m5, .slice a6 n6 m6] 26) := ⟨_, rfl⟩
  have hs1 : W1.heap.size = w.heap.size + 1 := by rw [hW1]; simp
  have hb1 : Below w.heap.size w W1 := by rw [hW1]; exact (Below.refl _ _).alloc (Nat.le_refl _) _
  have k0 : W1.heap[w.heap.size]? = some (.cells #[.slice a5 n5 m5, .slice a6 n6 m6] 26 (0, 0)) := by rw [hW1, new_blk]
  obtain ⟨x1, x2, x3, x4⟩ := box2 k0
  have HK := Lib.hid (specKeys_c ht hw W1 hb1 (by omega))
  have hkl : t.keys.length ≤ t.weight := Tr.keys_length_le t
  have H1 := Lib.hid (And.intro hb1 (h.later hb1 hrl))
  have HW1 := Lib.hid hW1
  clear hb1 k0 hW1 ht h
  go_enter Try.func71, Try.ntmps71
  go_wp2_with fail
  rw [← HW1.out]
  refine HK.out.mono ?_
  rintro e w2 ⟨v2, rfl, hown2, hb2⟩
  obtain ⟨a2, c2, rfl⟩ := hown2.shown
  have hs2 := hb2.size
  have hr2 : Rd w2 B r bs p := H1.out.2.later hb2 (by omega)
  have ho2 : Only w.heap.size r w w2 := below_only (H1.out.1.trans (hb2.mono (by omega)))
  have H2 := Lib.hid (And.intro hown2 (And.intro hr2 ho2))
  clear hown2 hb2 hr2 ho2 x1 x2 x3 x4
  by_cases hk0 : 0 < t.keys.length
  · have hk0' : ((t.keys.length : Int) > 0) := by omega
    have HP := Lib.hid (pick_c w2 B r bs p 2 H2.out.2.1 (by omega) (by omega) (by omega))
    go_wp2_with fail
    refine HP.out.mono ?_
    rintro e w3 ⟨x, m3, rfl, hx0, hx1, _, hw3⟩
    have hr3 : Rd w3 B r bs (p + 1) := by rw [hw3]; exact H2.out.2.1.picked m3
    have ho3 : Only w2.heap.size r w2 w3 := by rw [hw3]; exact Only.picked _ _ _ _ _
    have hz3 := ho3.size
    have hown3 : IntsOwn w3 W1.heap.size (.slice a2 t.keys.length c2) t.keys := IntsOwn.only H2.out.1 ho3 (Nat.le_refl _) (by omega)
    have ho3' := H2.out.2.2.trans (ho3.mono (by omega))
    have H3 := Lib.hid (And.intro hown3 (And.intro hr3 ho3'))
    clear hw3 hr3 ho3 hown3 ho3'
    by_cases hx : x = 0
    · have hxe : (x == 0) = true := by simp [hx]
      clear hx
      have HP2 := Lib.hid (pick_c w3 B r bs (p + 1) t.keys.length H3.out.2.1 (by omega) (by omega) (by omega))
      go_wp2_with fail
      refine HP2.out.mono ?_
      rintro e w4 ⟨y, m4, rfl, hy0, hy1, _, hw4⟩
      obtain ⟨iy, rfl⟩ := Int.eq_ofNat_of_zero_le hy0
      have hiy : iy < t.keys.length := by have := hy1 (by omega); omega
      have hr4 : Rd w4 B r bs (p + 1 + 1) := by rw [hw4]; exact H3.out.2.1.picked m4
      have ho4 : Only w3.heap.size r w3 w4 := by rw [hw4]; exact Only.picked _ _ _ _ _
      have hown4 := IntsOwn.only H3.out.1 ho4 (Nat.le_refl _) (by omega)
      obtain ⟨pa, pc, hpe, _, hpat⟩ := IntsIn.at (IntsOwn.in hown4)
      obtain ⟨rfl, rfl⟩ : a2 = pa ∧ c2 = pc := by simpa using hpe
      rcases hpat with h | ⟨b, o, rfl, hpat⟩
      · rw [h] at hk0; simp at hk0
      have hcell := hpat iy hiy
      have hmem : t.keys.getD iy 0 ∈ t.keys := by rw [List.getD_eq_getElem?_getD, List.getElem?_eq_getElem hiy]; exact List.getElem_mem hiy
      generalize t.keys.getD iy 0 = key at hcell hmem
      have H4 := Lib.hid (And.intro hr4 (And.intro (H3.out.2.2.trans (ho4.mono (by omega))) hmem))
      clear hr4 ho4 hown4 hpat hpe hw4 hy0 hy1 hmem
      go_wp2_with fail
      exact bodyPost_ret (v := .int .i64 key) (by simp [results, Try.results71, go_sem]) rfl ⟨key, p + 1 + 1, rfl, .inl H4.out.2.2, H4.out.1, by omega, H4.out.2.1⟩
    · have hxe : (x == 0) = false := beq_eq_false_iff_ne.2 hx
      clear hx
      have HP2 := Lib.hid (pick_c w3 B r bs (p + 1) 100 H3.out.2.1 (by omega) (by omega) (by omega))
      go_wp2_with fail
      refine HP2.out.mono ?_
      rintro e w4 ⟨y, m4, rfl, hy0, hy1, _, hw4⟩
      have hy100 : y < 100 := hy1 (by omega)
      have hr4 : Rd w4 B r bs ((p + 1) + 1) := by rw [hw4]; exact H3.out.2.1.picked m4
      have ho4 : Only w3.heap.size r w3 w4 := by rw [hw4]; exact Only.picked _ _ _ _ _
      have hz4 := ho4.size
      obtain ⟨W5, hW5⟩ : ∃ W5, W5 = w4.alloc (.cells #[.int .i64 y, .int .i64 0, .int .i64 99, .int .i64 5, .int .i64 (-1), .int .i64 100] 3) := ⟨_, rfl⟩
      have hs5 : W5.heap.size = w4.heap.size + 1 := by rw [hW5]; simp
      have hb5 : Below w4.heap.size w4 W5 := by rw [hW5]; exact (Below.refl _ _).alloc (Nat.le_refl _) _
      have hk5 : W5.heap[w4.heap.size]? = some (.cells #[.int .i64 y, .int .i64 0, .int .i64 99, .int .i64 5, .int .i64 (-1), .int .i64 100] 3 (0, 0)) := by rw [hW5, new_blk]
      have ho5 : Only w.heap.size r w W5 := (H3.out.2.2.trans (ho4.mono (by omega))).trans (below_only (hb5.mono (by omega)))
      have HN := Lib.hid (num_c W5 B r bs ((p + 1) + 1) w4.heap.size [y, 0, 99, 5, -1, 100] 6 (hr4.later hb5 (by omega)) (by omega) (by omega) (by simp) (by simp) (fun i hi => by
        have hi6 : i < 6 := by simpa using hi
        refine cell_in hk5 ?_
        rcases i with _ | _ | _ | _ | _ | _ | i
        · rfl
        · rfl
        · rfl
        · rfl
        · rfl
        · rfl
        · omega))
      have H5 := Lib.hid (And.intro (hr4.later hb5 (by omega)) ho5)
      have HW5 := Lib.hid hW5
      clear hr4 ho4 hW5 hb5 hk5 ho5 hw4 hy1
      go_wp2_with fail
      rw [← HW5.out]
      refine HN.out.mono ?_
      rintro e w6 ⟨i, m6, hi, rfl, hw6⟩
      obtain ⟨g1, g2⟩ := num_get6k y ⟨hy0, hy100⟩ i (by simpa using hi)
      generalize ([y, 0, 99, 5, -1, 100] : List Int).getD i 0 = key at g1 g2
      have hr6 : Rd w6 B r bs ((p + 1) + 1 + 1) := by rw [hw6]; exact H5.out.1.picked m6
      have ho6 : Only w.heap.size r w w6 := H5.out.2.trans (by rw [hw6]; exact (Only.picked W5.heap.size _ _ _ _).mono (by omega))
      have H6 := Lib.hid (And.intro hr6 ho6)
      clear hr6 ho6 hi hw6
      go_wp2_with fail
      exact bodyPost_ret (v := .int .i64 key) (by simp [results, Try.results71, go_sem]) rfl ⟨key, (p + 1) + 1 + 1, rfl, .inr ⟨g1, g2⟩, H6.out.1, by omega, H6.out.2⟩
  · have hk0' : ¬ ((t.keys.length : Int) > 0) := by omega
    have HP2 := Lib.hid (pick_c w2 B r bs p 100 H2.out.2.1 (by omega) (by omega) (by omega))
    go_wp2_with fail
    refine HP2.out.mono ?_
    rintro e w4 ⟨y, m4, rfl, hy0, hy1, _, hw4⟩
    have hy100 : y < 100 := hy1 (by omega)
    have hr4 : Rd w4 B r bs (p + 1) := by rw [hw4]; exact H2.out.2.1.picked m4
    have ho4 : Only w2.heap.size r w2 w4 := by rw [hw4]; exact Only.picked _ _ _ _ _
    have hz4 := ho4.size
    obtain ⟨W5, hW5⟩ : ∃ W5, W5 = w4.alloc (.cells #[.int .i64 y, .int .i64 0, .int .i64 99, .int .i64 5, .int .i64 (-1), .int .i64 100] 3) := ⟨_, rfl⟩
    have hs5 : W5.heap.size = w4.heap.size + 1 := by rw [hW5]; simp
    have hb5 : Below w4.heap.size w4 W5 := by rw [hW5]; exact (Below.refl _ _).alloc (Nat.le_refl _) _
    have hk5 : W5.heap[w4.heap.size]? = some (.cells #[.int .i64 y, .int .i64 0, .int .i64 99, .int .i64 5, .int .i64 (-1), .int .i64 100] 3 (0, 0)) := by rw [hW5, new_blk]
    have ho5 : Only w.heap.size r w W5 := (H2.out.2.2.trans (ho4.mono (by omega))).trans (below_only (hb5.mono (by omega)))
    have HN := Lib.hid (num_c W5 B r bs (p + 1) w4.heap.size [y, 0, 99, 5, -1, 100] 6 (hr4.later hb5 (by omega)) (by omega) (by omega) (by simp) (by simp) (fun i hi => by
      have hi6 : i < 6 := by simpa using hi
      refine cell_in hk5 ?_
      rcases i with _ | _ | _ | _ | _ | _ | i
      · rfl
      · rfl
      · rfl
      · rfl
      · rfl
      · rfl
      · omega))
    have H5 := Lib.hid (And.intro (hr4.later hb5 (by omega)) ho5)
    have HW5 := Lib.hid hW5
    clear hr4 ho4 hW5 hb5 hk5 ho5 hw4 hy1
    go_wp2_with fail
    rw [← HW5.out]
    refine HN.out.mono ?_
    rintro e w6 ⟨i, m6, hi, rfl, hw6⟩
    obtain ⟨g1, g2⟩ := num_get6k y ⟨hy0, hy100⟩ i (by simpa using hi)
    generalize ([y, 0, 99, 5, -1, 100] : List Int).getD i 0 = key at g1 g2
    have hr6 : Rd w6 B r bs (p + 1 + 1) := by rw [hw6]; exact H5.out.1.picked m6
    have ho6 : Only w.heap.size r w w6 := H5.out.2.trans (by rw [hw6]; exact (Only.picked W5.heap.size _ _ _ _).mono (by omega))
    have H6 := Lib.hid (And.intro hr6 ho6)
    clear hr6 ho6 hi hw6
    go_wp2_with fail
    exact bodyPost_ret (v := .int .i64 key) (by simp [results, Try.results71, go_sem]) rfl ⟨key, p + 1 + 1, rfl, .inr ⟨g1, g2⟩, H6.out.1, by omega, H6.out.2⟩
end Go.Proofs.Ytjnkdbgebkajoaa

/- Two lists that are the same: the laws' own function. -/
namespace Go.Proofs.Ytjnkdbgebkajoaa
open Go.RowKit

set_option maxHeartbeats 1000000 in
theorem ftSame_c (ks : List Int) (v v' : Value) (w : World) (B : Nat) (hB : B ≤ w.heap.size) (hk : IntsIn w B v ks) (hk' : IntsIn w B v' ks) :
    Calls Try.prog 26 #[v, v'] w fun e w' => e = .returned (.bool true) ∧ Below w.heap.size w w' := by
  obtain ⟨a, cap, rfl, h1, h2, _, h3⟩ := hk
  obtain ⟨a', cap', rfl, h1', h2', _, h3'⟩ := hk'
  unfold maxLen at h2 h2'
  have HK := Lib.hid h3
  have HK' := Lib.hid h3'
  clear h3 h3'
  have heq : ((ks.length : Int) == ks.length) = true := by simp
  have hmin : min (ks.length : Int) (ks.length : Int) = (ks.length : Int) := by simp
  go_enter Try.func26, Try.ntmps26
  go_wp2_with fail
  go_loopw [5, 11] (fun s5 i wr => ∃ (j : Nat), j ≤ ks.length ∧ i = .int .i64 j ∧ Below w.heap.size w wr) (fun _ i _ => ks.length - (intOf i).toNat)
  case atStart => exact ⟨0, Nat.zero_le _, rfl, Below.refl _ _⟩
  case round =>
    obtain ⟨j, hj, rfl, hbel⟩ := hrel
    by_cases hlt : j < ks.length
    · rcases HK.out with h | ⟨b, off, rfl, hb, hat⟩
      · simp [h] at hlt
      rcases HK'.out with h | ⟨b', off', rfl, hb', hat'⟩
      · simp [h] at hlt
      have ha1 : wr.cell? ⟨b, off + j, none⟩ = some (.int .i64 (ks.getD j 0)) := by rw [below_cell hbel (by omega)]; exact hat j hlt
      have ha2 : wr.cell? ⟨b', off' + j, none⟩ = some (.int .i64 (ks.getD j 0)) := by rw [below_cell hbel (by omega)]; exact hat' j hlt
      have hne2 : ((ks.getD j 0 : Int) != ks.getD j 0) = false := by simp
      have hjl : (j : Int) < (ks.length : Int) := by omega
      clear hat hat'
      generalize ks.getD j 0 = x at ha1 ha2 hne2
      go_wp2_with fail
      go_quiet (fail)
      go_wp2_with fail
      go_roundw
      case rel => exact ⟨j + 1, by omega, by go_num, below_drewN hbel _⟩
      case measure => simp [intOf]; omega
    · obtain rfl : j = ks.length := by omega
      have hjl : ¬ ((ks.length : Nat) : Int) < (ks.length : Int) := by omega
      go_wp2_with fail
      go_ret
      exact ⟨rfl, hbel⟩
end Go.Proofs.Ytjnkdbgebkajoaa
