/- For every two slices of bytes, the law on what is next returns true and leaves its arguments as they were; no conditions. -/
import Derived.Test.YtngaknljmkadbaaProg
import Derived.Test.YtngaknljmkadbaaBase
import Derived.Test.YtngaknljmkadbaaDrawOpen
import Derived.WalkKit
import Derived.ProofKit
import Derived.OpenShut
import Derived.ChangeOld
import Derived.Below
import Derived.Test.YtngaknljmkadbaaHasSpec
import Derived.Test.YtngaknljmkadbaaNxData
import Derived.Test.YtngaknljmkadbaaImNext
import Derived.Test.YtngaknljmkadbaaImPrev
import Derived.Test.YtngaknljmkadbaaImRange
import Derived.Test.YtngaknljmkadbaaDrawHas
import Derived.Test.YtngaknljmkadbaaRows
import Derived.Test.YtngaknljmkadbaaFacts

/- Bytes that came in, as a slice in memory. -/
namespace Go.Proofs.Ytngaknljmkadbaa
open Go.ChangeShapes Go.WideShapes Go.ChangeAt Go.RowKit
variable {H : Type} {enc : TypeId × Value → H} {w : World} {base : Nat} {spare : Nat → Bool} {held : Bool}

theorem Try.cellsU8 : Try.prog.cellsOf 5 = 1 := by kernel_rfl

theorem bytes_of_trod (fuel : Nat) {a0 : Option Addr} {len cap : Nat} {x : DataW H × List MemPlace} (hs : ∀ b, spare b = true) (h : DataW.trod enc Try.prog w base spare held fuel 22 [.slice a0 len cap] = some x) :
    ∃ bs, BytesIn w w.heap.size (.slice a0 len cap) bs := by
  rcases open_ints Try.underlying22 Try.underlying5 Try.cellsU8 h with ⟨hcs, hx⟩ | ⟨a, len', cap', zs, hcs, _, hl, hm, hz, hx, hcell, hwz⟩
  · simp only [List.cons.injEq, Value.slice.injEq, and_true] at hcs
    obtain ⟨rfl, rfl, rfl⟩ := hcs
    exact ⟨[], none, 0, rfl, Nat.le_refl _, by unfold maxLen; omega, (fun x h => by cases h), .inl rfl⟩
  · simp only [List.cons.injEq, Value.slice.injEq, and_true] at hcs
    obtain ⟨rfl, rfl, rfl⟩ := hcs
    rw [hs, if_pos rfl] at hz
    have hb : ∀ z ∈ zs, 0 ≤ z ∧ z ≤ 255 := fun z hz' => by
      have h5 := hwz z hz'
      have e1 : IntKind.u8.min = 0 := rfl
      have e2 : IntKind.u8.max = 255 := rfl
      simpa [Lit.wf, e1, e2] using h5
    have hlen : ((zs.take len).map Int.toNat).length = len := by simp; omega
    refine ⟨(zs.take len).map Int.toNat, some a, cap, by rw [hlen], by rw [hlen]; exact hl, hm, fun x hx => ?_, ?_⟩
    · obtain ⟨z, hz1, rfl⟩ := List.mem_map.1 hx
      have := hb z (List.mem_of_mem_take hz1)
      omega
    · by_cases h0 : len = 0
      · left; subst h0; simp
      · obtain ⟨b, off, spot⟩ := a
        have hspot : spot = none := by simpa [Addr.add] using World.cell?_spot (hcell 0 (by omega))
        subst hspot
        refine .inr ⟨b, off, rfl, ?_, fun i hi => ?_⟩
        · have h1 := hcell 0 (by omega)
          rw [add_plain] at h1
          exact World.block_lt_of_cell? w _ h1
        · rw [hlen] at hi
          have h1 := hcell i (by omega)
          rw [add_plain] at h1
          rw [h1]
          have hzi := hb zs[i] (List.getElem_mem (by omega))
          have e1 : zs.getD i 0 = zs[i] := by simp [List.getD_eq_getElem?_getD, show i < zs.length by omega]
          have e2 : ((zs.take len).map Int.toNat).getD i 0 = zs[i].toNat := by simp [List.getD_eq_getElem?_getD, hi, show i < zs.length by omega]
          rw [e1, e2]
          congr 2
          omega
end Go.Proofs.Ytngaknljmkadbaa

/- The law on what is next: the walk over the contracts. -/
namespace Go.Proofs.Ytngaknljmkadbaa
open Go.RowKit

set_option maxHeartbeats 1000000 in
set_option maxRecDepth 100000 in
theorem DrawNextKey_c {w : World} {B : Nat} {v : Value} {bs : List Nat} (h : BytesIn w B v bs) (w' : World) (hbw : Below B w w') (hB : B ≤ w'.heap.size) :
    Calls Try.prog 30 #[v] w' (HasDrawn w') := by
  obtain ⟨W1, hW1⟩ : ∃ W1, W1 = w'.alloc (.cells #[.slice none 0 0, .slice none 0 0] 26) := ⟨_, rfl⟩
  have hs1 : W1.heap.size = w'.heap.size + 1 := by rw [hW1]; simp
  have hb1 : Below w'.heap.size w' W1 := by rw [hW1]; exact (Below.refl _ _).alloc (Nat.le_refl _) _
  have hk1 : W1.heap[w'.heap.size]? = some (.cells #[.slice none 0 0, .slice none 0 0] 26 (0, 0)) := by rw [hW1, new_blk]
  have HD := Lib.hid (drawHas_c h W1 (hbw.trans (hb1.mono hB)) (by omega))
  have HW1 := Lib.hid hW1
  have H1 := Lib.hid (And.intro hb1 hk1)
  clear hW1 hb1 hk1 hbw h
  go_enter Try.func30, Try.ntmps30
  go_wp2_with fail
  rw [← HW1.out]
  refine HD.out.mono ?_
  rintro e w2 ⟨kv, cv, t, key, rfl, ht2, hw2, hkey, hb2⟩
  obtain ⟨b1, b2, b3, b4, b5, b6, rfl, rfl⟩ := ht2.slices
  have hs2 := hb2.size
  have hk2 := (hb2.block w'.heap.size (by omega)).trans H1.out.2
  obtain ⟨r1, r2, r3, r4⟩ := box2 hk2
  have H2 := Lib.hid (And.intro ht2 (And.intro hkey (And.intro (H1.out.1.trans (hb2.mono (by omega))) (And.intro hk2 hb2))))
  clear ht2 hkey hb2 hk2
  go_wp2_with fail
  obtain ⟨wf, hwf⟩ : ∃ wf, wf = (w2.setCell ⟨w'.heap.size, 0, none⟩ (.slice b1 b2 b3)).setCell ⟨w'.heap.size, 1, none⟩ (.slice b4 b5 b6) := ⟨_, rfl⟩
  have hfb : wf.heap[w'.heap.size]? = some (.cells #[.slice b1 b2 b3, .slice b4 b5 b6] 26 (0, 0)) := by
    rw [hwf]; exact set_blk (o := 1) _ (set_blk (o := 0) _ H2.out.2.2.2.1)
  obtain ⟨d1, d2, d3, d4⟩ := box2 hfb
  have hsf : wf.heap.size = w2.heap.size := by rw [hwf]; simp
  rw [← hwf]
  refine bodyPost_ret (v := .tuple #[.agg #[.slice b1 b2 b3, .slice b4 b5 b6], .int .i64 key]) (by simp [results, Try.results30, go_sem, d1, d2]) rfl ⟨_, _, t, key, rfl, ?_, hw2, H2.out.2.1, ?_⟩
  · refine H2.out.1.same (fun k hk => ?_) (fun k hk => ⟨by omega, by omega⟩)
    rw [hwf, set_other _ _ _ _ _ (by omega), set_other _ _ _ _ _ (by omega)]
  · rw [hwf]; exact (H2.out.2.2.1.setCell (by show w'.heap.size ≤ w'.heap.size; omega) _).setCell (by show w'.heap.size ≤ w'.heap.size; omega) _

set_option maxHeartbeats 1000000 in
set_option maxRecDepth 100000 in
theorem DrawPrevKey_c {w : World} {B : Nat} {v : Value} {bs : List Nat} (h : BytesIn w B v bs) (w' : World) (hbw : Below B w w') (hB : B ≤ w'.heap.size) :
    Calls Try.prog 33 #[v] w' (HasDrawn w') := by
  obtain ⟨W1, hW1⟩ : ∃ W1, W1 = w'.alloc (.cells #[.slice none 0 0, .slice none 0 0] 26) := ⟨_, rfl⟩
  have hs1 : W1.heap.size = w'.heap.size + 1 := by rw [hW1]; simp
  have hb1 : Below w'.heap.size w' W1 := by rw [hW1]; exact (Below.refl _ _).alloc (Nat.le_refl _) _
  have hk1 : W1.heap[w'.heap.size]? = some (.cells #[.slice none 0 0, .slice none 0 0] 26 (0, 0)) := by rw [hW1, new_blk]
  have HD := Lib.hid (drawHas_c h W1 (hbw.trans (hb1.mono hB)) (by omega))
  have HW1 := Lib.hid hW1
  have H1 := Lib.hid (And.intro hb1 hk1)
  clear hW1 hb1 hk1 hbw h
  go_enter Try.func33, Try.ntmps33
  go_wp2_with fail
  rw [← HW1.out]
  refine HD.out.mono ?_
  rintro e w2 ⟨kv, cv, t, key, rfl, ht2, hw2, hkey, hb2⟩
  obtain ⟨b1, b2, b3, b4, b5, b6, rfl, rfl⟩ := ht2.slices
  have hs2 := hb2.size
  have hk2 := (hb2.block w'.heap.size (by omega)).trans H1.out.2
  obtain ⟨r1, r2, r3, r4⟩ := box2 hk2
  have H2 := Lib.hid (And.intro ht2 (And.intro hkey (And.intro (H1.out.1.trans (hb2.mono (by omega))) (And.intro hk2 hb2))))
  clear ht2 hkey hb2 hk2
  go_wp2_with fail
  obtain ⟨wf, hwf⟩ : ∃ wf, wf = (w2.setCell ⟨w'.heap.size, 0, none⟩ (.slice b1 b2 b3)).setCell ⟨w'.heap.size, 1, none⟩ (.slice b4 b5 b6) := ⟨_, rfl⟩
  have hfb : wf.heap[w'.heap.size]? = some (.cells #[.slice b1 b2 b3, .slice b4 b5 b6] 26 (0, 0)) := by
    rw [hwf]; exact set_blk (o := 1) _ (set_blk (o := 0) _ H2.out.2.2.2.1)
  obtain ⟨d1, d2, d3, d4⟩ := box2 hfb
  have hsf : wf.heap.size = w2.heap.size := by rw [hwf]; simp
  rw [← hwf]
  refine bodyPost_ret (v := .tuple #[.agg #[.slice b1 b2 b3, .slice b4 b5 b6], .int .i64 key]) (by simp [results, Try.results33, go_sem, d1, d2]) rfl ⟨_, _, t, key, rfl, ?_, hw2, H2.out.2.1, ?_⟩
  · refine H2.out.1.same (fun k hk => ?_) (fun k hk => ⟨by omega, by omega⟩)
    rw [hwf, set_other _ _ _ _ _ (by omega), set_other _ _ _ _ _ (by omega)]
  · rw [hwf]; exact (H2.out.2.2.1.setCell (by show w'.heap.size ≤ w'.heap.size; omega) _).setCell (by show w'.heap.size ≤ w'.heap.size; omega) _

end Go.Proofs.Ytngaknljmkadbaa

/- The law on what is next: the walk over the contracts. -/
namespace Go.Proofs.Ytngaknljmkadbaa
open Go.RowKit

set_option maxHeartbeats 4000000 in
set_option maxRecDepth 100000 in
theorem fnNext_c {w : World} {v1 v2 : Value} {bs1 bs2 : List Nat} (h1 : BytesIn w w.heap.size v1 bs1) (h2 : BytesIn w w.heap.size v2 bs2) :
    Calls Try.prog 7 #[v1, v2] w fun e w' => e = .returned (.bool true) ∧ Below w.heap.size w w' := by
  have H1 := Lib.hid h1
  have H2 := Lib.hid h2
  obtain ⟨a1, c1, rfl, -⟩ := h1
  obtain ⟨a2, c2, rfl, -⟩ := h2
  by_cases hc1 : bs1.length ≤ 1048576
  case neg =>
    have hc1' : ((bs1.length : Int) > 1048576) := by omega
    go_enter Try.func7, Try.ntmps7
    go_wp2_with fail
    go_ret
    exact ⟨rfl, Below.refl _ _⟩
  by_cases hc2 : bs2.length ≤ 1048576
  case neg =>
    have hc1' : ¬ ((bs1.length : Int) > 1048576) := by omega
    have hc2' : ((bs2.length : Int) > 1048576) := by omega
    go_enter Try.func7, Try.ntmps7
    go_wp2_with fail
    go_ret
    exact ⟨rfl, Below.refl _ _⟩
  have hc1' : ¬ ((bs1.length : Int) > 1048576) := by omega
  have hc2' : ¬ ((bs2.length : Int) > 1048576) := by omega
  have HD1 := Lib.hid (DrawNextKey_c H1.out w (Below.refl _ _) (Nat.le_refl _))
  go_enter Try.func7, Try.ntmps7
  go_wp2_with fail
  refine HD1.out.mono ?_
  rintro e w2 ⟨k2, d2, t, key, rfl, ht2, hw2, hkey, hb2⟩
  obtain ⟨b1, b2, b3, b4, b5, b6, rfl, rfl⟩ := ht2.slices
  have hs2 := hb2.size
  obtain ⟨W3, hW3⟩ : ∃ W3, W3 = w2.alloc (.cells #[.slice b1 b2 b3, .slice b4 b5 b6] 26) := ⟨_, rfl⟩
  have hs3 : w2.heap.size < W3.heap.size := by rw [hW3]; simp
  have hb3 : Below w2.heap.size w2 W3 := by rw [hW3]; exact (Below.refl _ _).alloc (Nat.le_refl _) _
  have hx3 : W3.heap[w2.heap.size]? = some (.cells #[.slice b1 b2 b3, .slice b4 b5 b6] 26 (0, 0)) := by rw [hW3, new_blk]
  have ht3 : TreeIn W3 w2.heap.size (.slice b1 b2 b3) (.slice b4 b5 b6) t := (ht2.tree (fun k hk => hk.2)).later hb3 (Nat.le_refl _)
  have HI1 := Lib.hid (impl_next ht3 (by omega) key W3 (Below.refl _ _) (by omega))
  have hx3x := hx3
  rw [hW3] at hx3x
  obtain ⟨x1, x2, x3, x4⟩ := box2 hx3x
  have HW3 := Lib.hid hW3
  have HT3 := Lib.hid ht3
  have HK := Lib.hid hkey
  have H3 := Lib.hid (And.intro (hb2.trans (hb3.mono (by omega))) hx3)
  obtain ⟨n1, hn1⟩ : ∃ n1, n1 = (t.nextB key).1 := ⟨_, rfl⟩
  obtain ⟨ok1, hok1⟩ : ∃ ok1, ok1 = (t.nextB key).2 := ⟨_, rfl⟩
  rw [← hn1, ← hok1] at HI1
  have HNX := Lib.hid (show t.nextB key = (n1, ok1) by rw [hn1, hok1])
  have HN1 := Lib.hid hn1
  have HOK1 := Lib.hid hok1
  clear ht2 hkey hb2 hW3 hb3 hx3 hx3x ht3 hn1 hok1
  go_wp2_with fail
  rw [← HW3.out]
  refine HI1.out.mono ?_
  rintro e w4 ⟨rfl, hb4⟩
  have hs4 := hb4.size
  clear x1 x2 x3 x4
  have hx4 := (hb4.block w2.heap.size (by omega)).trans H3.out.2
  obtain ⟨x1, x2, x3, x4⟩ := box2 hx4
  have hsp := specNextKey_c HT3.out (by omega) key w4 (hb4.mono (by omega)) (by omega)
  rw [← HN1.out, ← HOK1.out] at hsp
  have HI2 := Lib.hid hsp
  have H4 := Lib.hid (And.intro hb4 hx4)
  clear hb4 hx4 hsp
  go_wp2_with fail
  refine HI2.out.mono ?_
  rintro e w5 ⟨rfl, hb5⟩
  have hs5 := hb5.size
  have hb35 : Below W3.heap.size W3 w5 := H4.out.1.trans (hb5.mono (by omega))
  have hbw5 : Below w.heap.size w w5 := H3.out.1.trans (hb35.mono (by omega))
  have HD2 := Lib.hid (DrawPrevKey_c H2.out w5 hbw5 (by omega))
  have H5 := Lib.hid (And.intro hb35 hbw5)
  clear hb5 hb35 hbw5 x1 x2 x3 x4
  go_wp2_with fail
  refine HD2.out.mono ?_
  rintro e w6 ⟨k6, d6, u, other, rfl, ht6, hw6, hkey6, hb6⟩
  obtain ⟨p1, p2, p3, p4, p5, p6, rfl, rfl⟩ := ht6.slices
  have hs6 := hb6.size
  obtain ⟨W7, hW7⟩ : ∃ W7, W7 = w6.alloc (.cells #[.slice p1 p2 p3, .slice p4 p5 p6] 26) := ⟨_, rfl⟩
  have hs7 : w6.heap.size < W7.heap.size := by rw [hW7]; simp
  have hb7 : Below w6.heap.size w6 W7 := by rw [hW7]; exact (Below.refl _ _).alloc (Nat.le_refl _) _
  have hx7 : W7.heap[w6.heap.size]? = some (.cells #[.slice p1 p2 p3, .slice p4 p5 p6] 26 (0, 0)) := by rw [hW7, new_blk]
  have ht7 : TreeIn W7 w6.heap.size (.slice p1 p2 p3) (.slice p4 p5 p6) u := (ht6.tree (fun k hk => hk.2)).later hb7 (Nat.le_refl _)
  have HI3 := Lib.hid (impl_prev ht7 (by omega) other W7 (Below.refl _ _) (by omega))
  have hx7x := hx7
  rw [hW7] at hx7x
  obtain ⟨x1, x2, x3, x4⟩ := box2 hx7x
  have HW7 := Lib.hid hW7
  have HT7 := Lib.hid ht7
  have H7 := Lib.hid (And.intro (H5.out.1.trans ((hb6.mono (by omega)).trans (hb7.mono (by omega)))) hx7)
  generalize hq1 : (u.prevB other).1 = q1 at HI3
  generalize hq2 : (u.prevB other).2 = q2 at HI3
  have HQ := Lib.hid (And.intro hq1 hq2)
  clear ht6 hkey6 hb6 hW7 hb7 hx7 hx7x ht7 hq1 hq2
  go_wp2_with fail
  rw [← HW7.out]
  refine HI3.out.mono ?_
  rintro e w8 ⟨rfl, hb8⟩
  have hs8 := hb8.size
  clear x1 x2 x3 x4
  have hx8 := (hb8.block w6.heap.size (by omega)).trans H7.out.2
  obtain ⟨x1, x2, x3, x4⟩ := box2 hx8
  have hsp := specPrevKey_c HT7.out (by omega) other w8 (hb8.mono (by omega)) (by omega)
  rw [HQ.out.1, HQ.out.2] at hsp
  have HI4 := Lib.hid hsp
  have H8 := Lib.hid (H7.out.1.trans (hb8.mono (by omega)))
  clear hb8 hx8 hsp
  go_wp2_with fail
  refine HI4.out.mono ?_
  rintro e w9 ⟨rfl, hb9⟩
  have hs9 := hb9.size
  have hb39 : Below W3.heap.size W3 w9 := H8.out.trans (hb9.mono (by omega))
  have hx9 := (hb39.block w2.heap.size (by omega)).trans H3.out.2
  clear x1 x2 x3 x4
  obtain ⟨x1, x2, x3, x4⟩ := box2 hx9
  have H9 := Lib.hid (And.intro hb39 (H3.out.1.trans (hb39.mono (by omega))))
  clear hb9 hb39 hx9
  have e1 : (n1 != n1) = false := by simp
  have e2 : (n1 == n1) = true := by simp
  have e3 : (q1 != q1) = false := by simp
  have e4 : (q1 == q1) = true := by simp
  have e5 : (q2 != q2) = false := by simp
  have e6 : (q2 == q2) = true := by simp
  cases ok1 with
  | false =>
    go_wp2_with fail
    go_ret
    exact ⟨rfl, H9.out.2⟩
  | true =>
    obtain ⟨hsm, hgt, hn0, hn99, hhas, hpv1, hpv2, hrg⟩ := Tr.next_fact HNX.out
    have hk98 : -1 ≤ key ∧ key ≤ 98 := by
      rcases HK.out with h | h
      · have := Tr.some_keys hsm h; omega
      · omega
    obtain ⟨hk1, hk2⟩ := hk98
    have HI5 := Lib.hid (impl_prev HT3.out (by omega) n1 w9 (H9.out.1.mono (by omega)) (by omega))
    have HF := Lib.hid (And.intro hhas (And.intro hpv1 (And.intro hpv2 hrg)))
    clear hhas hpv1 hpv2 hrg hsm
    go_wp2_with fail
    refine HI5.out.mono ?_
    rintro e w10 ⟨rfl, hb10⟩
    have hs10 := hb10.size
    clear x1 x2 x3 x4
    have hb310 : Below W3.heap.size W3 w10 := H9.out.1.trans (hb10.mono (by omega))
    have hx10 := (hb310.block w2.heap.size (by omega)).trans H3.out.2
    obtain ⟨x1, x2, x3, x4⟩ := box2 hx10
    have hh := impl_has HT3.out (by omega) n1 w10 (hb310.mono (by omega)) (by omega)
    rw [HF.out.1] at hh
    have HI6 := Lib.hid hh
    have H10 := Lib.hid hb310
    generalize hr1 : (t.prevB n1).1 = r1 at *
    generalize hr2 : (t.prevB n1).2 = r2 at *
    clear hb10 hb310 hx10 hh
    go_wp2_with fail
    refine HI6.out.mono ?_
    rintro e w11 ⟨rfl, hb11⟩
    have hs11 := hb11.size
    clear x1 x2 x3 x4
    have hb311 : Below W3.heap.size W3 w11 := H10.out.trans (hb11.mono (by omega))
    have hx11 := (hb311.block w2.heap.size (by omega)).trans H3.out.2
    obtain ⟨x1, x2, x3, x4⟩ := box2 hx11
    have hh := impl_has HT3.out (by omega) key w11 (hb311.mono (by omega)) (by omega)
    obtain ⟨hk, hhk⟩ : ∃ hk, hk = (t.pathB key).2 := ⟨_, rfl⟩
    rw [← hhk] at hh
    have hf1 := HF.out.2.1
    have hf2 := HF.out.2.2.1
    rw [← hhk] at hf2
    have HI7 := Lib.hid hh
    have H11 := Lib.hid hb311
    have hkw1 : -9223372036854775808 ≤ key + 1 := by omega
    have hkw2 : key + 1 ≤ 9223372036854775807 := by omega
    clear hb11 hb311 hx11 hh hhk
    have fin : ∀ (w12 : World), Below w11.heap.size w11 w12 → Below W3.heap.size W3 w12 ∧ w12.heap[w2.heap.size]? = some (.cells #[.slice b1 b2 b3, .slice b4 b5 b6] 26 (0, 0)) ∧ Calls Try.prog 36 #[.agg #[.slice b1 b2 b3, .slice b4 b5 b6], .int .i64 (key + 1), .int .i64 (n1 - 1)] w12 fun e w'' => ∃ v, e = .returned v ∧ (∃ a c, v = .slice a 0 c) ∧ Below w12.heap.size w12 w'' := fun w12 hb => by
      have hb' : Below W3.heap.size W3 w12 := H11.out.trans (hb.mono (by omega))
      have hsz := hb'.size
      refine ⟨hb', (hb'.block w2.heap.size (by omega)).trans H3.out.2, (impl_range HT3.out (by omega) (key + 1) (n1 - 1) w12 (hb'.mono (by omega)) (by omega)).mono ?_⟩
      rintro e w13 ⟨v, rfl, hcut, hb13⟩
      rw [HF.out.2.2.2] at hcut
      obtain ⟨a, c, hv⟩ := hcut.shown
      exact ⟨v, rfl, ⟨a, c, by simpa using hv⟩, hb13⟩
    have HFIN := Lib.hid fin
    clear fin
    cases r2 with
    | false =>
      cases hk with
      | true => exact absurd (hf2 rfl).1 (by simp)
      | false =>
        clear hf1 hf2
        go_wp2_with fail
        refine HI7.out.mono ?_
        rintro e w12 ⟨rfl, hb12⟩
        obtain ⟨g1, g2, g3⟩ := HFIN.out w12 hb12
        clear x1 x2 x3 x4
        obtain ⟨x1, x2, x3, x4⟩ := box2 g2
        have HRC := Lib.hid g3
        have HG1 := Lib.hid g1
        have hsz := g1.size
        clear g1 g2 g3 hb12
        go_wp2_with fail
        refine HRC.out.mono ?_
        rintro e w13 ⟨v, rfl, ⟨ra, rc, rfl⟩, hb13⟩
        have HB := Lib.hid (H3.out.1.trans ((HG1.out.trans (hb13.mono (by omega))).mono (by omega)))
        clear hb13
        go_wp2_with fail
        go_ret
        exact ⟨rfl, HB.out⟩
    | true =>
      have hle := hf1 rfl
      cases hk with
      | true =>
        have hre : r1 = key := (hf2 rfl).2
        subst hre
        clear hf1 hf2
        have e7 : (r1 == r1) = true := by simp
        go_wp2_with fail
        refine HI7.out.mono ?_
        rintro e w12 ⟨rfl, hb12⟩
        obtain ⟨g1, g2, g3⟩ := HFIN.out w12 hb12
        clear x1 x2 x3 x4
        obtain ⟨x1, x2, x3, x4⟩ := box2 g2
        have HRC := Lib.hid g3
        have HG1 := Lib.hid g1
        have hsz := g1.size
        clear g1 g2 g3 hb12
        go_wp2_with fail
        refine HRC.out.mono ?_
        rintro e w13 ⟨v, rfl, ⟨ra, rc, rfl⟩, hb13⟩
        have HB := Lib.hid (H3.out.1.trans ((HG1.out.trans (hb13.mono (by omega))).mono (by omega)))
        clear hb13
        go_wp2_with fail
        go_ret
        exact ⟨rfl, HB.out⟩
      | false =>
        clear hf1 hf2
        go_wp2_with fail
        refine HI7.out.mono ?_
        rintro e w12 ⟨rfl, hb12⟩
        obtain ⟨g1, g2, g3⟩ := HFIN.out w12 hb12
        clear x1 x2 x3 x4
        obtain ⟨x1, x2, x3, x4⟩ := box2 g2
        have HRC := Lib.hid g3
        have HG1 := Lib.hid g1
        have hsz := g1.size
        clear g1 g2 g3 hb12
        go_wp2_with fail
        refine HRC.out.mono ?_
        rintro e w13 ⟨v, rfl, ⟨ra, rc, rfl⟩, hb13⟩
        have HB := Lib.hid (H3.out.1.trans ((HG1.out.trans (hb13.mono (by omega))).mono (by omega)))
        clear hb13
        go_wp2_with fail
        go_ret
        exact ⟨rfl, HB.out⟩
end Go.Proofs.Ytngaknljmkadbaa

/- The statement on what is next, from the walk of its law. -/
namespace Go.Proofs.Ytngaknljmkadbaa.fnNextRowP
open Go.ChangeShapes Go.WideShapes Go.ChangeAt Go.RowKit
set_option linter.unusedVariables false

theorem own : ownKnob Try.prog.godebug = none := by kernel_rfl
theorem laidOut : laidOutB Try.prog = true := by kernel_rfl

set_option maxRecDepth 100000 in
set_option maxHeartbeats 1000000 in
theorem lifted (os : Os) (started : os.Started) (H : Type) (enc : TypeId × Value → H) :
    ReturnsInHanded {} Try.checked os 7 .any (Rows.fnNextSpec.pre6 enc Try.prog Try.f7 Rows.fnNextRow.domain false) (Rows.fnNextSpec.post enc Try.prog Try.f7 false true false false) := by
  refine returnsInHanded_of_change (C := Try.checked) own started (by kernel_rfl) Try.func7
    (ChangeSpec.witness6 (enc := enc) (C := Try.checked) false ⟨#[], #[.slice none 0 0, .slice none 0 0], []⟩ 8 (by kernel_rfl) (by kernel_rfl) (by kernel_rfl) (by kernel_rfl)) ?_
  intro W base args ds gs before hval0 hW hcnd _
  have hval : ∀ (j : Nat) t v, Try.f7.params[j]? = some t → args[j]? = some v → Value.okWide Try.prog W .any base t v := hval0
  have hW' := hW
  obtain ⟨p, q, hA0, hV, rfl, hfz, hnd⟩ := hW
  have hA : DataW.TrodAll enc Try.prog W 0 (fun _ => true) true Try.f7.params.toList args.toList ds p := hA0
  rw [Try.params7] at hA hval
  obtain ⟨v0, vs0, d0, ds0, p0, q0, hargs, rfl, rfl, h0, r0⟩ := trodAll_cons hA
  obtain ⟨v1, vs1, d1, ds1, p1, q1, rfl, rfl, rfl, h1, r1⟩ := trodAll_cons r0
  obtain ⟨rfl, rfl, rfl⟩ := trodAll_nil r1
  obtain rfl : args = #[v0, v1] := by cases args; simp_all
  obtain ⟨rfl, rfl⟩ := trodVars_none hV
  obtain ⟨a0, len0, cap0, rfl⟩ := okWide_slice Try.underlying22 (hval 0 22 v0 rfl rfl)
  obtain ⟨a1, len1, cap1, rfl⟩ := okWide_slice Try.underlying22 (hval 1 22 v1 rfl rfl)
  have k0 := h0
  have k1 := h1
  have lt0 : ∀ x ∈ p0, x.block < W.heap.size := by obtain ⟨m, hm⟩ := k0; exact DataW.trod_lt m _ _ _ hm
  have lt1 : ∀ x ∈ p1, x.block < W.heap.size := by obtain ⟨m, hm⟩ := k1; exact DataW.trod_lt m _ _ _ hm
  obtain ⟨bs0, hb0⟩ : ∃ bs, BytesIn W W.heap.size (.slice a0 len0 cap0) bs := by
    obtain ⟨fuel, hf⟩ := h0
    exact bytes_of_trod fuel (fun _ => rfl) hf
  obtain ⟨bs1, hb1⟩ : ∃ bs, BytesIn W W.heap.size (.slice a1 len1 cap1) bs := by
    obtain ⟨fuel, hf⟩ := h1
    exact bytes_of_trod fuel (fun _ => rfl) hf
  clear hA0 hval0
  refine (fnNext_c hb0 hb1).mono fun e W' ⟨he, bel⟩ => ?_
  subst he
  exact ⟨_, rfl, _, _, _, [], _, [], hW', trodAll_mk1 (shut_bool Try.underlying4 _), (trodAll_cons_mk (Below.trod laidOut (by kernel_rfl) (of_decide_eq_true (by kernel_rfl)) k0 bel lt0) (trodAll_cons_mk (Below.trod laidOut (by kernel_rfl) (of_decide_eq_true (by kernel_rfl)) k1 bel lt1) trodAll_mk0)), rfl, bel.frame _, fun h => by cases h⟩

theorem closed : joinedFacts Try.prog 7 Try.f7 Rows.fnNextSpec Rows.fnNextRow = true := by
  unfold joinedFacts
  exact band (band (band (band (band (band (band (by kernel_rfl) fact_enter) fact_lifts) fact_make) (by kernel_rfl)) (by kernel_rfl)) (by kernel_rfl)) (by kernel_rfl)

theorem over : Rows.fnNextRow.holds Try.pinned (OpenSpec.ofChange Rows.fnNextSpec) :=
  OpenClaim.holds_of_wide 7 Try.f7 rfl rfl rfl rfl rfl rfl rfl ⟨rfl, rfl, rfl, rfl, rfl⟩ rfl rfl rfl rfl rfl (by kernel_rfl) Try.func7 closed
    (of_decide_eq_true (by kernel_rfl)) (by unfold Func.isWrapper; first | (rw [if_pos (by decide +kernel)]; kernel_rfl) | (rw [if_neg (by decide +kernel)]; exact ⟨rfl, rfl⟩))
    (fun os started H enc _ => lifted os started H enc)
end Go.Proofs.Ytngaknljmkadbaa.fnNextRowP

/- For every two slices of bytes, the law on what is next returns true and leaves its arguments as they were; no conditions. -/
namespace Go.Proofs.Ytngaknljmkadbaa

theorem next_said : Rows.FnNextSaid := fnNextRowP.over
end Go.Proofs.Ytngaknljmkadbaa
