/- The model draws a tree and a cursor: the arguments of Forward, Backward, CursorKey. -/
import Derived.Test.YticfkfjijnfcbaaDoorCuS23
namespace Go.Proofs.YticfkfjijnfcbaaDoor
open Go.RowKit
def CursorDrawn (w : World) (e : Ending) (w' : World) : Prop :=
 ∃ (kv cv : Value) (t : Tr) (v : Value) (P : List Int) (A : Int), e = .returned (.tuple #[.agg #[kv, cv], .agg #[v, .int .i64 A]]) ∧ TreeQ w' (fun k => w.heap.size ≤ k ∧ k < w'.heap.size) kv cv t ∧ t.weight ≤ 400000 ∧ IntsOwn w' w.heap.size v P ∧ Below w.heap.size w w'
set_option maxHeartbeats 1000000 in
set_option maxRecDepth 100000 in
theorem drawCursorKey_c {w : World} {B : Nat} {v : Value} {bs : List Nat} (h : BytesIn w B v bs) (w' : World) (hbw : Below B w w') (hB : B ≤ w'.heap.size) :
   Calls Tryd.prog 45 #[v] w' (CursorDrawn w') := by
 obtain ⟨W1, hW1⟩ : ∃ W1, W1 = (w'.alloc (.cells #[.slice none 0 0, .slice none 0 0] 33)).alloc (.cells #[.slice none 0 0, .int .i64 0] 28) := ⟨_, rfl⟩
 obtain ⟨R, hRe⟩ : ∃ R, R = w'.heap.size + 2 := ⟨_, rfl⟩
 have hs1 : W1.heap.size = R := by rw [hW1, hRe]; simp
 have hR1 : w'.heap.size + 1 < R := by omega
 have hR2 : R ≤ w'.heap.size + 2 := by omega
 have hb1 : Below w'.heap.size w' W1 := by rw [hW1]; exact ((Below.refl _ _).alloc (Nat.le_refl _) _).alloc (by simp) _
 have hk1 : W1.heap[w'.heap.size]? = some (.cells #[.slice none 0 0, .slice none 0 0] 33 (0, 0)) := by rw [hW1, old_blk _ _ _ (by simp), new_blk]
 have hc1 : W1.heap[w'.heap.size + 1]? = some (.cells #[.slice none 0 0, .int .i64 0] 28 (0, 0)) := by
   rw [hW1, show w'.heap.size + 1 = (w'.alloc (.cells #[.slice none 0 0, .slice none 0 0] 33)).heap.size by simp, new_blk]
 have hop := open_c h W1 (hbw.trans (hb1.mono hB)) (by omega)
 rw [hs1] at hop
 have HO := Lib.hid hop
 clear hop hRe
 obtain ⟨va, vcap, rfl, -⟩ := h
 have HW1 := Lib.hid hW1
 have H1 := Lib.hid (And.intro hb1 (And.intro hk1 hc1))
 clear hW1 hb1 hk1 hc1 hbw
 go_enter Tryd.func45, Tryd.ntmps45
 go_wp2_with fail
 rw [← HW1.out]
 refine HO.out.mono ?_
 rintro e w2 ⟨rfl, ⟨bs', hr2⟩, hb2⟩
 have hs2 := hb2.size
 have hrl2 := hr2.lt
 obtain ⟨p0, hp0, hr2⟩ : ∃ p0 : Nat, p0 ≤ 100 ∧ Rd w2 R R bs' p0 := ⟨0, by omega, hr2⟩
 have HS := Lib.hid (l8Draw_c w2 R bs' p0 hr2 hp0)
 have H2 := Lib.hid hb2
 clear hr2 hb2
 go_wp2_with fail
 refine HS.out.mono ?_
 rintro e w3 ⟨k3, c3, t, v3, P, A, rfl, ht3, hw3, hp3, ho3⟩
 obtain ⟨b1, b2, b3, b4, b5, b6, rfl, rfl⟩ := ht3.slices
 obtain ⟨va3, vc3, rfl⟩ := IntsOwn.shown hp3
 have hs3 := ho3.size
 have hk3 := (ho3.block w'.heap.size (by omega) (by omega)).trans ((H2.out.block w'.heap.size (by omega)).trans H1.out.2.1)
 have hc3 := (ho3.block (w'.heap.size + 1) (by omega) (by omega)).trans ((H2.out.block (w'.heap.size + 1) (by omega)).trans H1.out.2.2)
 have hb3 : Below w'.heap.size w' w3 := (H1.out.1.trans (H2.out.mono (by omega))).trans (ho3.below (B := w'.heap.size) (by omega) (by omega))
 obtain ⟨y1, y2, y3, y4⟩ := box2 hk3
 obtain ⟨z1, z2, z3, z4⟩ := box2 hc3
 have H3 := Lib.hid (And.intro ht3 (And.intro hk3 (And.intro hc3 (And.intro hp3 hb3))))
 clear ht3 hk3 hc3 hp3 hb3 ho3
 go_wp2_with fail
 obtain ⟨wf, hwf⟩ : ∃ wf, wf = (((w3.setCell ⟨w'.heap.size, 0, none⟩ (.slice b1 b2 b3)).setCell ⟨w'.heap.size, 1, none⟩ (.slice b4 b5 b6)).setCell ⟨w'.heap.size + 1, 0, none⟩ (.slice va3 P.length vc3)).setCell ⟨w'.heap.size + 1, 1, none⟩ (.int .i64 A) := ⟨_, rfl⟩
 have hfk : wf.heap[w'.heap.size]? = some (.cells #[.slice b1 b2 b3, .slice b4 b5 b6] 33 (0, 0)) := by
   rw [hwf, set_other _ _ _ _ _ (by omega), set_other _ _ _ _ _ (by omega)]; exact set_blk (o := 1) _ (set_blk (o := 0) _ H3.out.2.1)
 have hfc : wf.heap[w'.heap.size + 1]? = some (.cells #[.slice va3 P.length vc3, .int .i64 A] 28 (0, 0)) := by
   rw [hwf]
   refine set_blk (o := 1) _ (set_blk (o := 0) (c := #[.slice none 0 0, .int .i64 0]) _ ?_)
   rw [set_other _ _ _ _ _ (by omega), set_other _ _ _ _ _ (by omega)]; exact H3.out.2.2.1
 have hkf : ∀ k, k ≠ w'.heap.size → k ≠ w'.heap.size + 1 → wf.heap[k]? = w3.heap[k]? := fun k h1 h2 => by
   rw [hwf, set_other _ _ _ _ _ h2, set_other _ _ _ _ _ h2, set_other _ _ _ _ _ h1, set_other _ _ _ _ _ h1]
 have hsf : wf.heap.size = w3.heap.size := by rw [hwf]; simp
 have host : wf.os = w3.os ∧ wf.tape = w3.tape ∧ wf.output = w3.output := by rw [hwf]; exact ⟨rfl, rfl, rfl⟩
 rw [← hwf]
 clear hwf y1 y2 y3 y4 z1 z2 z3 z4
 obtain ⟨d1, d2, -, -⟩ := box2 hfc
 obtain ⟨r1, r2, -, -⟩ := box2 hfk
 refine bodyPost_ret (v := .tuple #[.agg #[.slice b1 b2 b3, .slice b4 b5 b6], .agg #[.slice va3 P.length vc3, .int .i64 A]]) (by simp [results, Tryd.results45, go_sem, d1, d2, r1, r2]) rfl ⟨_, _, t, _, P, A, rfl, ?_, hw3, ?_, ?_⟩
 · exact H3.out.1.same (fun k hk => hkf k (by omega) (by omega)) (fun k hk => ⟨by omega, by show k < wf.heap.size; omega⟩)
 · refine IntsOwn.lower (lo := w2.heap.size) (own_else8 H3.out.2.2.2.1 (fun k hk => ?_)) (by omega)
   have h9 := (H3.out.2.2.2.1.lt k hk.symm).1
   exact hkf k (by omega) (by omega)
 · exact H3.out.2.2.2.2.trans ⟨host.1, host.2.1, host.2.2, by show w3.heap.size ≤ wf.heap.size; omega, fun k hk => hkf k (by omega) (by omega)⟩
end Go.Proofs.YticfkfjijnfcbaaDoor
