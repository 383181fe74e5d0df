/- The model draws a tree alone, and what the laws on cursors draw so. -/
import Derived.Test.YticfkfjijnfcbaaDoorProg
import Derived.Test.YticfkfjijnfcbaaDoorSh0
import Derived.Test.YticfkfjijnfcbaaDoorSh9
import Derived.Test.YticfkfjijnfcbaaDoorSh18
import Derived.Test.YticfkfjijnfcbaaDoorDrawSome
import Derived.Test.YticfkfjijnfcbaaDoorSh19
namespace Go.Proofs.YticfkfjijnfcbaaDoor
open Go.RowKit

/-- What drawing a tree leaves. -/
def TreeAlone (w : World) (e : Ending) (w' : World) : Prop :=
  ∃ (kv cv : Value) (t : Tr), e = .returned (.agg #[kv, cv]) ∧ TreeQ w' (fun k => w.heap.size ≤ k ∧ k < w'.heap.size) kv cv t ∧ t.weight ≤ 400000 ∧ Below w.heap.size w w'

set_option maxHeartbeats 1000000 in
set_option maxRecDepth 100000 in
theorem drawFormatTree_c {w : World} {B : Nat} {v : Value} {bs : List Nat} (h : BytesIn w B v bs) (w' : World) (hbw : Below B w w') (hB : B ≤ w'.heap.size) :
    Calls Tryd.prog 78 #[v] w' (TreeAlone w') := by
  obtain ⟨W1, hW1⟩ : ∃ W1, W1 = w'.alloc (.cells #[.slice none 0 0, .slice none 0 0] 33) := ⟨_, rfl⟩
  obtain ⟨R, hRe⟩ : ∃ R, R = w'.heap.size + 1 := ⟨_, rfl⟩
  have hs1 : W1.heap.size = R := by rw [hW1, hRe]; simp
  have hR1 : w'.heap.size < R := by omega
  have hR2 : R ≤ w'.heap.size + 1 := by omega
  have hb1 : Below w'.heap.size w' W1 := by rw [hW1]; exact (Below.refl _ _).alloc (Nat.le_refl _) _
  have hk1 : W1.heap[w'.heap.size]? = some (.cells #[.slice none 0 0, .slice none 0 0] 33 (0, 0)) := by rw [hW1, new_blk]
  have hop := open_c h W1 (hbw.trans (hb1.mono hB)) (by omega)
  rw [hs1] at hop
  have HO := Lib.hid hop
  clear hop hRe
  obtain ⟨va, vcap, rfl, -⟩ := h
  have HW1 := Lib.hid hW1
  have H1 := Lib.hid (And.intro hb1 hk1)
  clear hW1 hb1 hk1 hbw
  go_enter Tryd.func78, Tryd.ntmps78
  go_wp2_with fail
  rw [← HW1.out]
  refine HO.out.mono ?_
  rintro e w2 ⟨rfl, ⟨bs', hr2⟩, hb2⟩
  have hs2 := hb2.size
  have hrl2 := hr2.lt
  obtain ⟨p0, hp0, hr2⟩ : ∃ p0 : Nat, p0 ≤ 100 ∧ Rd w2 R R bs' p0 := ⟨0, by omega, hr2⟩
  have HS := Lib.hid (some_c w2 _ _ bs' p0 hr2 (by omega))
  have H2 := Lib.hid hb2
  clear hr2 hb2
  go_wp2_with fail
  refine HS.out.mono ?_
  rintro e w3 ⟨k3, c3, t, wide, q, rfl, -, -, ht3, hw3, hr3, hq3, ho3⟩
  obtain ⟨b1, b2, b3, b4, b5, b6, rfl, rfl⟩ := ht3.slices
  have hs3 := ho3.size
  have hk3 := (ho3.block w'.heap.size (by omega) (by omega)).trans ((H2.out.block w'.heap.size (by omega)).trans H1.out.2)
  have hb3 : Below w'.heap.size w' w3 := H1.out.1.trans ((H2.out.mono (by omega)).trans (ho3.below (B := w'.heap.size) (by omega) (by omega)))
  obtain ⟨W4, hW4⟩ : ∃ W4, W4 = w3.alloc (.cells #[.slice b1 b2 b3, .slice b4 b5 b6] 33) := ⟨_, rfl⟩
  have hs4 : W4.heap.size = w3.heap.size + 1 := by rw [hW4]; simp
  have hb4 : Below w3.heap.size w3 W4 := by rw [hW4]; exact (Below.refl _ _).alloc (Nat.le_refl _) _
  have hn4 : W4.heap[w3.heap.size]? = some (.cells #[.slice b1 b2 b3, .slice b4 b5 b6] 33 (0, 0)) := by rw [hW4, new_blk]
  have hk4 := (hb4.block w'.heap.size (by omega)).trans hk3
  obtain ⟨y1, y2, y3, y4⟩ := box2 hk4
  obtain ⟨z1, z2, z3, z4⟩ := box2 hn4
  rw [hW4] at y1 y2 y3 y4 z1 z2 z3 z4
  have H3 := Lib.hid (And.intro (ht3.same (w' := W4) (fun k hk => hb4.block k (by omega)) (fun k hk => hk)) (And.intro hk4 (hb3.trans (hb4.mono (by omega)))))
  have HW4 := Lib.hid hW4
  have HS4 := Lib.hid hs4
  clear ht3 hr3 ho3 hk3 hb3 hW4 hs4 hb4 hn4 hk4
  go_wp2_with fail
  rw [← HW4.out]
  obtain ⟨wf, hwf⟩ : ∃ wf, wf = (W4.setCell ⟨w'.heap.size, 0, none⟩ (.slice b1 b2 b3)).setCell ⟨w'.heap.size, 1, none⟩ (.slice b4 b5 b6) := ⟨_, rfl⟩
  have hfb : wf.heap[w'.heap.size]? = some (.cells #[.slice b1 b2 b3, .slice b4 b5 b6] 33 (0, 0)) := by
    rw [hwf]; exact set_blk (o := 1) _ (set_blk (o := 0) _ H3.out.2.1)
  obtain ⟨d1, d2, d3, d4⟩ := box2 hfb
  have hsf : wf.heap.size = w3.heap.size + 1 := by rw [hwf]; simp [HS4.out]
  rw [← hwf]
  refine bodyPost_ret (v := .agg #[.slice b1 b2 b3, .slice b4 b5 b6]) (by simp [results, Tryd.results78, go_sem, d1, d2]) rfl ⟨_, _, t, rfl, ?_, hw3, ?_⟩
  · refine H3.out.1.same (fun k hk => ?_) (fun k hk => ⟨by omega, by omega⟩)
    rw [hwf, set_other _ _ _ _ _ (by omega), set_other _ _ _ _ _ (by omega)]
  · rw [hwf]; exact (H3.out.2.2.setCell (by show w'.heap.size ≤ w'.heap.size; omega) _).setCell (by show w'.heap.size ≤ w'.heap.size; omega) _

set_option maxHeartbeats 1000000 in
theorem drawFirst_c {w : World} {B : Nat} {v : Value} {bs : List Nat} (h : BytesIn w B v bs) (w' : World) (hbw : Below B w w') (hB : B ≤ w'.heap.size) :
    Calls Tryd.prog 34 #[v] w' (TreeAlone w') := by
  obtain ⟨W1, hW1⟩ : ∃ W1, W1 = w'.alloc (.cells #[.slice none 0 0, .slice none 0 0] 33) := ⟨_, rfl⟩
  have hs1 : W1.heap.size = w'.heap.size + 1 := by rw [hW1]; simp
  have hb1 : Below w'.heap.size w' W1 := by rw [hW1]; exact (Below.refl _ _).alloc (Nat.le_refl _) _
  have hk1 : W1.heap[w'.heap.size]? = some (.cells #[.slice none 0 0, .slice none 0 0] 33 (0, 0)) := by rw [hW1, new_blk]
  have HD := Lib.hid (drawFormatTree_c h W1 (hbw.trans (hb1.mono hB)) (by omega))
  obtain ⟨va, vcap, rfl, -⟩ := h
  have HW1 := Lib.hid hW1
  have H1 := Lib.hid (And.intro hb1 (And.intro hk1 hs1))
  clear hW1 hb1 hk1 hbw hs1
  go_enter Tryd.func34, Tryd.ntmps34
  go_wp2_with fail
  rw [← HW1.out]
  refine HD.out.mono ?_
  rintro e w3 ⟨k3, c3, t, rfl, ht3, hw3, hb3⟩
  obtain ⟨b1, b2, b3, b4, b5, b6, rfl, rfl⟩ := ht3.slices
  have hz1 := H1.out.2.2
  have hs3 := hb3.size
  have hk3 := (hb3.block w'.heap.size (by omega)).trans H1.out.2.1
  obtain ⟨y1, y2, y3, y4⟩ := box2 hk3
  have H3 := Lib.hid (And.intro ht3 (And.intro hk3 (H1.out.1.trans (hb3.mono (by omega)))))
  clear ht3 hk3 hb3 hz1
  go_wp2_with fail
  have hz1 := H1.out.2.2
  obtain ⟨wf, hwf⟩ : ∃ wf, wf = (w3.setCell ⟨w'.heap.size, 0, none⟩ (.slice b1 b2 b3)).setCell ⟨w'.heap.size, 1, none⟩ (.slice b4 b5 b6) := ⟨_, rfl⟩
  have hfb : wf.heap[w'.heap.size]? = some (.cells #[.slice b1 b2 b3, .slice b4 b5 b6] 33 (0, 0)) := by
    rw [hwf]; exact set_blk (o := 1) _ (set_blk (o := 0) _ H3.out.2.1)
  obtain ⟨d1, d2, d3, d4⟩ := box2 hfb
  have hsf : wf.heap.size = w3.heap.size := by rw [hwf]; simp
  rw [← hwf]
  refine bodyPost_ret (v := .agg #[.slice b1 b2 b3, .slice b4 b5 b6]) (by simp [results, Tryd.results34, go_sem, d1, d2]) rfl ⟨_, _, t, rfl, ?_, hw3, ?_⟩
  · refine H3.out.1.same (fun k hk => ?_) (fun k hk => ⟨by omega, by omega⟩)
    rw [hwf, set_other _ _ _ _ _ (by omega), set_other _ _ _ _ _ (by omega)]
  · rw [hwf]; exact (H3.out.2.2.setCell (by show w'.heap.size ≤ w'.heap.size; omega) _).setCell (by show w'.heap.size ≤ w'.heap.size; omega) _

set_option maxHeartbeats 1000000 in
theorem drawLast_c {w : World} {B : Nat} {v : Value} {bs : List Nat} (h : BytesIn w B v bs) (w' : World) (hbw : Below B w w') (hB : B ≤ w'.heap.size) :
    Calls Tryd.prog 49 #[v] w' (TreeAlone w') := by
  obtain ⟨W1, hW1⟩ : ∃ W1, W1 = w'.alloc (.cells #[.slice none 0 0, .slice none 0 0] 33) := ⟨_, rfl⟩
  have hs1 : W1.heap.size = w'.heap.size + 1 := by rw [hW1]; simp
  have hb1 : Below w'.heap.size w' W1 := by rw [hW1]; exact (Below.refl _ _).alloc (Nat.le_refl _) _
  have hk1 : W1.heap[w'.heap.size]? = some (.cells #[.slice none 0 0, .slice none 0 0] 33 (0, 0)) := by rw [hW1, new_blk]
  have HD := Lib.hid (drawFormatTree_c h W1 (hbw.trans (hb1.mono hB)) (by omega))
  obtain ⟨va, vcap, rfl, -⟩ := h
  have HW1 := Lib.hid hW1
  have H1 := Lib.hid (And.intro hb1 (And.intro hk1 hs1))
  clear hW1 hb1 hk1 hbw hs1
  go_enter Tryd.func49, Tryd.ntmps49
  go_wp2_with fail
  rw [← HW1.out]
  refine HD.out.mono ?_
  rintro e w3 ⟨k3, c3, t, rfl, ht3, hw3, hb3⟩
  obtain ⟨b1, b2, b3, b4, b5, b6, rfl, rfl⟩ := ht3.slices
  have hz1 := H1.out.2.2
  have hs3 := hb3.size
  have hk3 := (hb3.block w'.heap.size (by omega)).trans H1.out.2.1
  obtain ⟨y1, y2, y3, y4⟩ := box2 hk3
  have H3 := Lib.hid (And.intro ht3 (And.intro hk3 (H1.out.1.trans (hb3.mono (by omega)))))
  clear ht3 hk3 hb3 hz1
  go_wp2_with fail
  have hz1 := H1.out.2.2
  obtain ⟨wf, hwf⟩ : ∃ wf, wf = (w3.setCell ⟨w'.heap.size, 0, none⟩ (.slice b1 b2 b3)).setCell ⟨w'.heap.size, 1, none⟩ (.slice b4 b5 b6) := ⟨_, rfl⟩
  have hfb : wf.heap[w'.heap.size]? = some (.cells #[.slice b1 b2 b3, .slice b4 b5 b6] 33 (0, 0)) := by
    rw [hwf]; exact set_blk (o := 1) _ (set_blk (o := 0) _ H3.out.2.1)
  obtain ⟨d1, d2, d3, d4⟩ := box2 hfb
  have hsf : wf.heap.size = w3.heap.size := by rw [hwf]; simp
  rw [← hwf]
  refine bodyPost_ret (v := .agg #[.slice b1 b2 b3, .slice b4 b5 b6]) (by simp [results, Tryd.results49, go_sem, d1, d2]) rfl ⟨_, _, t, rfl, ?_, hw3, ?_⟩
  · refine H3.out.1.same (fun k hk => ?_) (fun k hk => ⟨by omega, by omega⟩)
    rw [hwf, set_other _ _ _ _ _ (by omega), set_other _ _ _ _ _ (by omega)]
  · rw [hwf]; exact (H3.out.2.2.setCell (by show w'.heap.size ≤ w'.heap.size; omega) _).setCell (by show w'.heap.size ≤ w'.heap.size; omega) _
end Go.Proofs.YticfkfjijnfcbaaDoor
