/- The model's NextKey, PrevKey, RankOf. -/
import Derived.Test.YticfkfjijnfcbaaDoorCwS23
import Derived.Test.YticfkfjijnfcbaaDoorCwS27
import Derived.Test.YticfkfjijnfcbaaDoorCw19
import Derived.Test.YticfkfjijnfcbaaDoorCwS26
/- What the program and the model answer about cursors is the same: plain data. -/
namespace Go.Proofs.YticfkfjijnfcbaaDoor
open Go.RowKit
namespace Tr
theorem forward_eq (t : Tr) (ks : List Int) (a : Int) : walkB t ks a (fun K => goF (K + 1) t ks) = fromB t ks a (fun N => nextCur t ks N) := by
 unfold fromB
 cases hv : curB t ks a with
 | false => rw [walkB_no hv]; simp
 | true =>
   obtain ⟨uk, uc, hn⟩ : ∃ uk uc, nodeTo ks t = some (.mk uk uc) := by
     cases hn : nodeTo ks t with
     | none => unfold curB at hv; rw [hn] at hv; cases hv
     | some u => obtain ⟨uk, uc⟩ := u; exact ⟨uk, uc, rfl⟩
   obtain ⟨-, ha1, ha2, hsb⟩ := curK_at hv hn
   rw [walkB_at hv hn, if_pos rfl]
   exact goF_next hsb hn (by omega)
theorem backward_eq (t : Tr) (ks : List Int) (a : Int) : walkB t ks a (fun K => goB K t ks) = fromB t ks a (fun N => prevCur t ks N) := by
 unfold fromB
 cases hv : curB t ks a with
 | false => rw [walkB_no hv]; simp
 | true =>
   obtain ⟨uk, uc, hn⟩ : ∃ uk uc, nodeTo ks t = some (.mk uk uc) := by
     cases hn : nodeTo ks t with
     | none => unfold curB at hv; rw [hn] at hv; cases hv
     | some u => obtain ⟨uk, uc⟩ := u; exact ⟨uk, uc, rfl⟩
   obtain ⟨-, ha1, ha2, hsb⟩ := curK_at hv hn
   rw [walkB_at hv hn, if_pos rfl]
   exact goB_prev hsb hn (by omega)
end Tr
end Go.Proofs.YticfkfjijnfcbaaDoor
/- Two lists that are the same: the laws' own function. -/
namespace Go.Proofs.YticfkfjijnfcbaaDoor
open Go.RowKit
set_option maxHeartbeats 1000000 in
theorem ftSame_c (ks : List Int) (v v' : Value) (w : World) (B : Nat) (hB : B ≤ w.heap.size) (hk : IntsIn w B v ks) (hk' : IntsIn w B v' ks) :
   Calls Tryd.prog 53 #[v, v'] w fun e w' => e = .returned (.bool true) ∧ Below w.heap.size w w' := by
 obtain ⟨a, cap, rfl, h1, h2, _, h3⟩ := hk
 obtain ⟨a', cap', rfl, h1', h2', _, h3'⟩ := hk'
 unfold maxLen at h2 h2'
 have HK := Lib.hid h3
 have HK' := Lib.hid h3'
 clear h3 h3'
 have heq : ((ks.length : Int) == ks.length) = true := by simp
 have hmin : min (ks.length : Int) (ks.length : Int) = (ks.length : Int) := by simp
 go_enter Tryd.func53, Tryd.ntmps53
 go_wp2_with fail
 go_loopw [5, 11] (fun s5 i wr => ∃ (j : Nat), j ≤ ks.length ∧ i = .int .i64 j ∧ Below w.heap.size w wr) (fun _ i _ => ks.length - (intOf i).toNat)
 case atStart => exact ⟨0, Nat.zero_le _, rfl, Below.refl _ _⟩
 case round =>
   obtain ⟨j, hj, rfl, hbel⟩ := hrel
   by_cases hlt : j < ks.length
   · rcases HK.out with h | ⟨b, off, rfl, hb, hat⟩
     · simp [h] at hlt
     rcases HK'.out with h | ⟨b', off', rfl, hb', hat'⟩
     · simp [h] at hlt
     have ha1 : wr.cell? ⟨b, off + j, none⟩ = some (.int .i64 (ks.getD j 0)) := by rw [below_cell hbel (by omega)]; exact hat j hlt
     have ha2 : wr.cell? ⟨b', off' + j, none⟩ = some (.int .i64 (ks.getD j 0)) := by rw [below_cell hbel (by omega)]; exact hat' j hlt
     have hne2 : ((ks.getD j 0 : Int) != ks.getD j 0) = false := by simp
     have hjl : (j : Int) < (ks.length : Int) := by omega
     clear hat hat'
     generalize ks.getD j 0 = x at ha1 ha2 hne2
     go_wp2_with fail
     go_quiet (fail)
     go_wp2_with fail
     go_roundw
     case rel => exact ⟨j + 1, by omega, by go_num, below_drewN hbel _⟩
     case measure => simp [intOf]; omega
   · obtain rfl : j = ks.length := by omega
     have hjl : ¬ ((ks.length : Nat) : Int) < (ks.length : Int) := by omega
     go_wp2_with fail
     go_ret
     exact ⟨rfl, hbel⟩
end Go.Proofs.YticfkfjijnfcbaaDoor
/- The laws' own comparing of cursors. -/
namespace Go.Proofs.YticfkfjijnfcbaaDoor
open Go.RowKit
set_option maxHeartbeats 1000000 in
set_option maxRecDepth 100000 in
theorem ftCursor_c (ks : List Int) (v v' : Value) (at' : Int) (w : World) (B : Nat) (hB : B ≤ w.heap.size) (hk : IntsIn w B v ks) (hk' : IntsIn w B v' ks) :
   Calls Tryd.prog 35 #[.agg #[v, .int .i64 at'], .agg #[v', .int .i64 at']] w fun e w' => e = .returned (.bool true) ∧ Below w.heap.size w w' := by
 have HK := Lib.hid hk
 have HK' := Lib.hid hk'
 obtain ⟨va, vcap, rfl, -⟩ := hk
 obtain ⟨vb, vcap', rfl, -⟩ := hk'
 obtain ⟨W2, hW2⟩ : ∃ W2, W2 = ((w.alloc (.cells #[.slice va ks.length vcap, .int .i64 at'] 28)).alloc (.cells #[.slice vb ks.length vcap', .int .i64 at'] 28)) := ⟨_, rfl⟩
 have hb2 : Below w.heap.size w W2 := by rw [hW2]; exact ((Below.refl _ _).alloc (Nat.le_refl _) _).alloc (by simp) _
 have hs2 : W2.heap.size = w.heap.size + 2 := by rw [hW2]; simp
 have k0 : W2.heap[w.heap.size]? = some (.cells #[.slice va ks.length vcap, .int .i64 at'] 28 (0, 0)) := by rw [hW2, old_blk _ _ _ (by simp), new_blk]
 have k1 : W2.heap[w.heap.size + 1]? = some (.cells #[.slice vb ks.length vcap', .int .i64 at'] 28 (0, 0)) := by
   rw [hW2, show w.heap.size + 1 = (w.alloc (.cells #[.slice va ks.length vcap, .int .i64 at'] 28)).heap.size by simp, new_blk]
 have k0x := k0
 have k1x := k1
 rw [hW2] at k0x k1x
 obtain ⟨x1, x2, x3, x4⟩ := box2 k0x
 obtain ⟨y1, y2, y3, y4⟩ := box2 k1x
 have HX := Lib.hid (And.intro hb2 (And.intro hs2 (And.intro k0 k1)))
 have HW2 := Lib.hid hW2
 clear hb2 hs2 k0 k1 k0x k1x hW2
 go_enter Tryd.func35, Tryd.ntmps35
 go_wp2_with fail
 rw [← HW2.out]
 refine (ftSame_c ks _ _ W2 B (by have := HX.out.2.1; omega) (HK.out.later HX.out.1 hB) (HK'.out.later HX.out.1 hB)).mono ?_
 rintro e w3 ⟨rfl, hb3⟩
 have hs2 := HX.out.2.1
 have j0 := (hb3.block w.heap.size (by omega)).trans HX.out.2.2.1
 have j1 := (hb3.block (w.heap.size + 1) (by omega)).trans HX.out.2.2.2
 clear x1 x2 x3 x4 y1 y2 y3 y4
 obtain ⟨x1, x2, x3, x4⟩ := box2 j0
 obtain ⟨y1, y2, y3, y4⟩ := box2 j1
 have heq : (at' == at') = true := by simp
 have H3 := Lib.hid (HX.out.1.trans (hb3.mono (by omega)))
 clear hb3 j0 j1 hs2
 go_wp2_with fail
 go_ret
 exact ⟨rfl, H3.out⟩
end Go.Proofs.YticfkfjijnfcbaaDoor
/- The model's NextKey, PrevKey, RankOf. -/
namespace Go.Proofs.YticfkfjijnfcbaaDoor
open Go.RowKit
-- END
-- END
def Tr.rankB (key : Int) (t : Tr) : Int := if t.someB then (place key t.keys : Int) else -1
end Go.Proofs.YticfkfjijnfcbaaDoor
