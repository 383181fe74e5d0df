/- The moves of a walker: forward, backward, toLast, and what SeekCursor hands to walk. -/
import Derived.Test.YticfkfjijnfcbaaDoorCuS21
namespace Go.Proofs.YticfkfjijnfcbaaDoor
open Go.RowKit
theorem below_only_trans {w1 w2 w3 : World} {b : Nat} (h : Below w1.heap.size w1 w2) (h2 : Only w2.heap.size b w2 w3) : Only w1.heap.size b w1 w3 :=
 ⟨h2.os.trans h.os, h2.tape.trans h.tape, h2.output.trans h.output, Nat.le_trans h.size h2.size, fun k h1 hne => (h2.block k (by have := h.size; omega) hne).trans (h.block k h1)⟩
theorem Joints.cut {w : World} {lo hi : Nat} {t : Tr} {ks : List Int} {a : Int} {f : Nat → Value × Int} (h : Joints w lo hi t (ks ++ [a]) f (ks.length + 1)) : Joints w lo hi t ks f ks.length := by
 intro i hi
 obtain ⟨p, u, h1, h2, h3⟩ := h i (by omega)
 rw [Tr.getD_left hi] at h1
 rw [List.take_append_of_le_length (by omega)] at h2
 exact ⟨p, u, h1, h2, h3⟩
structure Stood (w : World) (b : Nat) (t : Tr) (ks : List Int) (a : Int) (k : List Int) (V : Value) : Prop where
 valid : t.someB = true
 light : t.weight ≤ 1048576
 low : 0 ≤ a
 high : a < (k.length : Int)
 var : ∀ wx : World, Only w.heap.size b w wx → wx.cell? ⟨1, 0, none⟩ = some V
 at' : ∃ (c : List Tr) (f : Nat → Value × Int) (p lo hi : Nat), Tr.nodeTo ks t = some (.mk k c) ∧ Walker w b f (ks.length + 1) ∧ Joints w lo hi t ks f ks.length ∧ f ks.length = (.pointer (some ⟨p, 0, none⟩), a) ∧ NodeAt w lo hi p (.mk k c) ∧ b < lo ∧ hi ≤ w.heap.size
theorem Stood.later {w w' : World} {b : Nat} {t : Tr} {ks k : List Int} {a : Int} {V : Value} (h : Stood w b t ks a k V) (hb : Below w.heap.size w w') : Stood w' b t ks a k V := by
 obtain ⟨c, f, p, lo, hi, h1, h2, h3, h4, h5, h6, h7⟩ := h.at'
 have hs := hb.size
 exact ⟨h.valid, h.light, h.low, h.high, fun wx hx => h.var wx (below_only_trans hb hx), c, f, p, lo, hi, h1, h2.blow (hb.block b h2.lt), h3.same (fun k _ h2 => hb.block k (by omega)), h4, h5.same (fun k _ h2 => hb.block k (by omega)), h6, by omega⟩
theorem Stood.behind {w : World} {b : Nat} {t : Tr} {ks k : List Int} {a : Int} {V : Value} (h : Stood w b t ks a k V) {gf q : Nat} {n c : Int} (hg : Ahead gf n c) (hq : w.heap[q]? = some (.cells #[.int .i64 n] 3 (0, 0))) (hqb : q ≠ b) :
   Calls Tryd.prog 73 #[.pointer (some ⟨b, 0, none⟩), .func (.func gf) #[] #[.pointer (some ⟨q, 0, none⟩)]] w (Moved w b V (Tr.goF c t ks)) := by
 obtain ⟨cs, f, p, lo, hi, h1, h2, h3, h4, h5, h6, h7⟩ := h.at'
 rw [Tr.goF_at h1]
 exact toBehind_c h2 h3 h4 h5 h1 (Tr.nodeTo_well ks (Tr.Well.of_some h.valid) h1) (by have := (Tr.nodeTo_small ks h1).1; have := h.light; omega) (Tr.six h.valid h1 c) h6 h7 hg hq hqb h.var
theorem Stood.key {w : World} {b : Nat} {t : Tr} {ks k : List Int} {a : Int} {V : Value} (h : Stood w b t ks a k V) :
   Calls Tryd.prog 82 #[.pointer (some ⟨b, 0, none⟩)] w fun e w' => e = .returned (.int .i64 (k.getD a.toNat 0)) ∧ Below w.heap.size w w' := by
 obtain ⟨cs, f, p, lo, hi, h1, h2, h3, h4, h5, h6, h7⟩ := h.at'
 exact key_c h2 (by have := Tr.nodeTo_few h.valid h1; omega) h4 h5 ⟨h.low, h.high⟩
theorem Stood.lt {w : World} {b : Nat} {t : Tr} {ks k : List Int} {a : Int} {V : Value} (h : Stood w b t ks a k V) : b < w.heap.size := by
 obtain ⟨cs, f, p, lo, hi, h1, h2, -⟩ := h.at'
 exact h2.lt
theorem Moved.from {w1 w2 : World} {b : Nat} {V : Value} {r : List Int × Int × Bool} {e : Ending} {w' : World} (h : Moved w2 b V r e w') (hb : Below w1.heap.size w1 w2) : Moved w1 b V r e w' :=
 ⟨h.1, below_only_trans hb h.2⟩
theorem Moved.shown {w : World} {b : Nat} {T : Nat} {s : Addr} {r : List Int × Int × Bool} {e : Ending} {w' : World} (h : Moved w b (.iface T (.pointer (some s))) r e w') : (e = .returned .nilIface ∨ e = .returned (.iface T (.pointer (some s)))) := by
 rcases h.1 with ⟨_, h, _⟩ | ⟨_, h⟩
 · exact .inl h
 · exact .inr h
set_option maxHeartbeats 1000000 in
theorem forward_c {w : World} {b : Nat} {t : Tr} {ks k : List Int} {a : Int} {T : Nat} {s : Addr} (h : Stood w b t ks a k (.iface T (.pointer (some s)))) :
   Calls Tryd.prog 76 #[.pointer (some ⟨b, 0, none⟩)] w (Moved w b (.iface T (.pointer (some s))) (Tr.goF (k.getD a.toNat 0 + 1) t ks)) := by
 have HS := Lib.hid h
 have hlt := h.lt
 obtain ⟨K, hK⟩ : ∃ K, K = k.getD a.toNat 0 := ⟨_, rfl⟩
 have HKEY := Lib.hid h.key
 rw [← hK] at HKEY ⊢
 clear h hK
 go_enter Tryd.func76, Tryd.ntmps76
 go_wp2_with fail
 refine HKEY.out.mono ?_
 rintro e w2 ⟨rfl, hb2⟩
 have H2 := Lib.hid hb2
 have hs2 := hb2.size
 clear hb2
 go_wp2_with fail
 refine (upTo_c K w2).mono ?_
 rintro e w3 ⟨rfl, hw3⟩
 have hb3 : Below w2.heap.size w2 w3 := by rw [hw3]; exact (Below.refl _ _).alloc (Nat.le_refl _) _
 have hq3 : w3.heap[w2.heap.size]? = some (.cells #[.int .i64 K] 3 (0, 0)) := by rw [hw3, new_blk]
 have hb13 := H2.out.trans (hb3.mono hs2)
 have HM := Lib.hid ((HS.out.later hb13).behind (.inr ⟨rfl, rfl⟩) hq3 (by omega))
 have HB := Lib.hid hb13
 clear hb3 hq3 hb13 hw3
 go_wp2_with fail
 refine HM.out.mono ?_
 intro e w4 hm
 have HMM := Lib.hid (hm.from HB.out)
 rcases hm.shown with rfl | rfl
 · clear hm
   go_wp2_with fail
   exact bodyPost_ret (v := .nilIface) (by simp [results, Tryd.results76, go_sem]) rfl HMM.out
 · clear hm
   go_wp2_with fail
   exact bodyPost_ret (v := .iface T (.pointer (some s))) (by simp [results, Tryd.results76, go_sem]) rfl HMM.out
set_option maxHeartbeats 1000000 in
theorem seek1_c {w : World} {b : Nat} {t : Tr} {ks k : List Int} {a : Int} {T : Nat} {s : Addr} (h : Stood w b t ks a k (.iface T (.pointer (some s)))) {kb : Nat} {key : Int} (hkb : w.cell? ⟨kb, 0, none⟩ = some (.int .i64 key)) :
   Calls Tryd.prog 72 #[.pointer (some ⟨b, 0, none⟩), .pointer (some ⟨kb, 0, none⟩)] w (Moved w b (.iface T (.pointer (some s))) (Tr.goF key t ks)) := by
 have HS := Lib.hid h
 have hlt := h.lt
 clear h
 go_enter Tryd.func72, Tryd.ntmps72
 go_wp2_with fail
 refine (less_c key w).mono ?_
 rintro e w3 ⟨rfl, hw3⟩
 have hb3 : Below w.heap.size w w3 := by rw [hw3]; exact (Below.refl _ _).alloc (Nat.le_refl _) _
 have hq3 : w3.heap[w.heap.size]? = some (.cells #[.int .i64 key] 3 (0, 0)) := by rw [hw3, new_blk]
 have HM := Lib.hid ((HS.out.later hb3).behind (.inl ⟨rfl, rfl⟩) hq3 (by omega))
 have HB := Lib.hid hb3
 clear hb3 hq3 hw3
 go_wp2_with fail
 refine HM.out.mono ?_
 intro e w4 hm
 have HMM := Lib.hid (hm.from HB.out)
 rcases hm.shown with rfl | rfl
 · clear hm
   go_wp2_with fail
   exact bodyPost_ret (v := .nilIface) (by simp [results, Tryd.results72, go_sem]) rfl HMM.out
 · clear hm
   go_wp2_with fail
   exact bodyPost_ret (v := .iface T (.pointer (some s))) (by simp [results, Tryd.results72, go_sem]) rfl HMM.out
end Go.Proofs.YticfkfjijnfcbaaDoor
