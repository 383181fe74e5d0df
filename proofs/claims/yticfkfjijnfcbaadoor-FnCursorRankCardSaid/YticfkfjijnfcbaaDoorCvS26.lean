/- The moves of a walker: forward, backward, toLast, and what SeekCursor hands to walk. -/
import Derived.Test.YticfkfjijnfcbaaDoorCvS21
namespace Go.Proofs.YticfkfjijnfcbaaDoor
open Go.RowKit
structure Stood (w : World) (b : Nat) (t : Tr) (ks : List Int) (a : Int) (k : List Int) (V : Value) : Prop where
 valid : t.someB = true
 light : t.weight ≤ 1048576
 low : 0 ≤ a
 high : a < (k.length : Int)
 var : ∀ wx : World, Only w.heap.size b w wx → wx.cell? ⟨1, 0, none⟩ = some V
 at' : ∃ (c : List Tr) (f : Nat → Value × Int) (p lo hi : Nat), Tr.nodeTo ks t = some (.mk k c) ∧ Walker w b f (ks.length + 1) ∧ Joints w lo hi t ks f ks.length ∧ f ks.length = (.pointer (some ⟨p, 0, none⟩), a) ∧ NodeAt w lo hi p (.mk k c) ∧ b < lo ∧ hi ≤ w.heap.size
set_option maxHeartbeats 1000000 in
theorem forward_c {w : World} {b : Nat} {t : Tr} {ks k : List Int} {a : Int} {T : Nat} {s : Addr} (h : Stood w b t ks a k (.iface T (.pointer (some s)))) :
   Calls Tryd.prog 76 #[.pointer (some ⟨b, 0, none⟩)] w (Moved w b (.iface T (.pointer (some s))) (Tr.goF (k.getD a.toNat 0 + 1) t ks)) := by
 have HS := Lib.hid h
 have hlt := h.lt
 obtain ⟨K, hK⟩ : ∃ K, K = k.getD a.toNat 0 := ⟨_, rfl⟩
 have HKEY := Lib.hid h.key
 rw [← hK] at HKEY ⊢
 clear h hK
 go_enter Tryd.func76, Tryd.ntmps76
 go_wp2_with fail
 refine HKEY.out.mono ?_
 rintro e w2 ⟨rfl, hb2⟩
 have H2 := Lib.hid hb2
 have hs2 := hb2.size
 clear hb2
 go_wp2_with fail
 refine (upTo_c K w2).mono ?_
 rintro e w3 ⟨rfl, hw3⟩
 have hb3 : Below w2.heap.size w2 w3 := by rw [hw3]; exact (Below.refl _ _).alloc (Nat.le_refl _) _
 have hq3 : w3.heap[w2.heap.size]? = some (.cells #[.int .i64 K] 3 (0, 0)) := by rw [hw3, new_blk]
 have hb13 := H2.out.trans (hb3.mono hs2)
 have HM := Lib.hid ((HS.out.later hb13).behind (.inr ⟨rfl, rfl⟩) hq3 (by omega))
 have HB := Lib.hid hb13
 clear hb3 hq3 hb13 hw3
 go_wp2_with fail
 refine HM.out.mono ?_
 intro e w4 hm
 have HMM := Lib.hid (hm.from HB.out)
 rcases hm.shown with rfl | rfl
 · clear hm
   go_wp2_with fail
   exact bodyPost_ret (v := .nilIface) (by simp [results, Tryd.results76, go_sem]) rfl HMM.out
 · clear hm
   go_wp2_with fail
   exact bodyPost_ret (v := .iface T (.pointer (some s))) (by simp [results, Tryd.results76, go_sem]) rfl HMM.out
set_option maxHeartbeats 1000000 in
theorem seek1_c {w : World} {b : Nat} {t : Tr} {ks k : List Int} {a : Int} {T : Nat} {s : Addr} (h : Stood w b t ks a k (.iface T (.pointer (some s)))) {kb : Nat} {key : Int} (hkb : w.cell? ⟨kb, 0, none⟩ = some (.int .i64 key)) :
   Calls Tryd.prog 72 #[.pointer (some ⟨b, 0, none⟩), .pointer (some ⟨kb, 0, none⟩)] w (Moved w b (.iface T (.pointer (some s))) (Tr.goF key t ks)) := by
 have HS := Lib.hid h
 have hlt := h.lt
 clear h
 go_enter Tryd.func72, Tryd.ntmps72
 go_wp2_with fail
 refine (less_c key w).mono ?_
 rintro e w3 ⟨rfl, hw3⟩
 have hb3 : Below w.heap.size w w3 := by rw [hw3]; exact (Below.refl _ _).alloc (Nat.le_refl _) _
 have hq3 : w3.heap[w.heap.size]? = some (.cells #[.int .i64 key] 3 (0, 0)) := by rw [hw3, new_blk]
 have HM := Lib.hid ((HS.out.later hb3).behind (.inl ⟨rfl, rfl⟩) hq3 (by omega))
 have HB := Lib.hid hb3
 clear hb3 hq3 hw3
 go_wp2_with fail
 refine HM.out.mono ?_
 intro e w4 hm
 have HMM := Lib.hid (hm.from HB.out)
 rcases hm.shown with rfl | rfl
 · clear hm
   go_wp2_with fail
   exact bodyPost_ret (v := .nilIface) (by simp [results, Tryd.results72, go_sem]) rfl HMM.out
 · clear hm
   go_wp2_with fail
   exact bodyPost_ret (v := .iface T (.pointer (some s))) (by simp [results, Tryd.results72, go_sem]) rfl HMM.out
end Go.Proofs.YticfkfjijnfcbaaDoor
