/- For every slice of bytes, the law on cursors (FnCursorRank) returns true and leaves its arguments as they were, where the program's errNowhere and errEnd hold what its text lays; the card ties it to that text. -/
import Derived.Test.YticfkfjijnfcbaaDoorCuS24
import Derived.Test.YticfkfjijnfcbaaDoorCuS25
import Derived.Test.YticfkfjijnfcbaaDoorCuS28
import Derived.Test.YticfkfjijnfcbaaDoorCu23
import Derived.ProofKit
import Derived.OpenShut
import Derived.ChangeOld
import Derived.Below
import Derived.Test.YticfkfjijnfcbaaDoorCards
import Derived.Test.YticfkfjijnfcbaaDoorTie
import Derived.Test.YticfkfjijnfcbaaDoorCuS0
import Derived.Lib.LaidTab
import Derived.LaidMore
import Derived.OpenVars
import Derived.Stop.LaidErr
import Derived.Stop.LaidTwo
import Derived.Stop.Joined
/- The law on the steps from the first cursor to one: the walk over the contracts. -/
namespace Go.Proofs.YticfkfjijnfcbaaDoor
open Go.RowKit
set_option maxHeartbeats 4000000 in
set_option maxRecDepth 100000 in
theorem fnCursorRank_c {w : World} {v : Value} {bs : List Nat} (h : BytesIn w w.heap.size v bs) (s s2 : Addr)
   (hV : w.cell? ⟨0, 0, none⟩ = some (.iface 174 (.pointer (some s))) ∧ w.cell? ⟨1, 0, none⟩ = some (.iface 174 (.pointer (some s2)))) (h0 : 1 < w.heap.size) :
   Calls Tryd.prog 13 #[v] w fun e w' => e = .returned (.bool true) ∧ Below w.heap.size w w' := by
 have VAR : Hid (∀ wx : World, Below w.heap.size w wx → wx.cell? ⟨0, 0, none⟩ = some (.iface 174 (.pointer (some s))) ∧ wx.cell? ⟨1, 0, none⟩ = some (.iface 174 (.pointer (some s2)))) :=
   Lib.hid (fun wx hx => ⟨(below_cell hx (by show 0 < _; omega)).trans hV.1, (below_cell hx (by show 1 < _; omega)).trans hV.2⟩)
 have H := Lib.hid h
 obtain ⟨a1, c1, rfl, -⟩ := h
 clear hV
 by_cases hc1 : bs.length ≤ 1048576
 case neg =>
   have hc1' : ((bs.length : Int) > 1048576) := by omega
   go_enter Tryd.func13, Tryd.ntmps13
   go_wp2_with fail
   go_ret
   exact ⟨rfl, Below.refl _ _⟩
 have hc1' : ¬ ((bs.length : Int) > 1048576) := by omega
 have HD := Lib.hid (drawCursorKey_c H.out w (Below.refl _ _) (Nat.le_refl _))
 go_enter Tryd.func13, Tryd.ntmps13
 go_wp2_with fail
 refine HD.out.mono ?_
 rintro e w2 ⟨k2, d2, t, v2, P, A, rfl, ht2, hw2, hp2, hb2⟩
 obtain ⟨b1, b2, b3, b4, b5, b6, rfl, rfl⟩ := ht2.slices
 obtain ⟨va, vc, rfl⟩ := IntsOwn.shown hp2
 have hs2 := hb2.size
 obtain ⟨W3, hW3⟩ : ∃ W3, W3 = (w2.alloc (.cells #[.slice b1 b2 b3, .slice b4 b5 b6] 33)).alloc (.cells #[.slice va P.length vc, .int .i64 A] 28) := ⟨_, rfl⟩
 have hs3 : w2.heap.size + 1 < W3.heap.size := by rw [hW3]; simp
 have hb3 : Below w2.heap.size w2 W3 := by rw [hW3]; exact ((Below.refl _ _).alloc (Nat.le_refl _) _).alloc (by simp) _
 have hx3 : W3.heap[w2.heap.size]? = some (.cells #[.slice b1 b2 b3, .slice b4 b5 b6] 33 (0, 0)) := by rw [hW3, old_blk _ _ _ (by simp), new_blk]
 have hc3 : W3.heap[w2.heap.size + 1]? = some (.cells #[.slice va P.length vc, .int .i64 A] 28 (0, 0)) := by
   rw [hW3, show w2.heap.size + 1 = (w2.alloc (.cells #[.slice b1 b2 b3, .slice b4 b5 b6] 33)).heap.size by simp, new_blk]
 have hti3 : TreeIn W3 W3.heap.size (.slice b1 b2 b3) (.slice b4 b5 b6) t := (ht2.same (w' := W3) (Q := fun k => k < W3.heap.size) (fun k hk => hb3.block k hk.2) (fun k hk => by omega)).tree (fun k hk => hk)
 have hoi3 : IntsOwn W3 w.heap.size (.slice va P.length vc) P := hp2.later hb3 (Nat.le_refl _)
 have hwt : t.weight ≤ 1048576 := by omega
 have HF : Hid (∀ wx : World, Below W3.heap.size W3 wx → Below w.heap.size w wx) := Lib.hid (fun wx hx => (hb2.trans (hb3.mono (by omega))).trans (hx.mono (by omega)))
 have HCK : Hid (∀ (wx : World) (v : Value) (P : List Int) (A : Int), Below W3.heap.size W3 wx → IntsIn wx wx.heap.size v P → Calls Tryd.prog 37 #[.agg #[.slice b1 b2 b3, .slice b4 b5 b6], .agg #[v, .int .i64 A]] wx fun e w'' => e = .returned (.tuple #[.int .i64 (Tr.curK t P A), .bool (Tr.curB t P A)]) ∧ Below wx.heap.size wx w'') :=
   Lib.hid (fun wx v P A hx hi => impl_cursorKey ((hti3.later hx (Nat.le_refl _)).wider hx.size) hwt hi A s wx (Below.refl _ _) (Nat.le_refl _) (fun wy hy => (VAR.out wy (HF.out wy (hx.trans (hy.mono hx.size)))).1))
 have HSK : Hid (∀ (wx : World), Below W3.heap.size W3 wx → Calls Tryd.prog 46 #[.agg #[.slice b1 b2 b3, .slice b4 b5 b6], .agg #[.slice va P.length vc, .int .i64 A]] wx fun e w'' => e = .returned (.tuple #[.int .i64 (Tr.curK t P A), .bool (Tr.curB t P A)]) ∧ Below wx.heap.size wx w'') :=
   Lib.hid (fun wx hx => specCursorKey_c ((hti3.later hx (Nat.le_refl _)).wider hx.size) hwt ((hoi3.later hx (by omega)).in) A wx (Below.refl _ _) (Nat.le_refl _))
 obtain ⟨r1, hr1⟩ : ∃ r, r = Tr.walkB t [] 0 (fun _ => Tr.goF 0 t []) := ⟨_, rfl⟩
 obtain ⟨k, hk⟩ : ∃ k, k = Tr.curK t P A := ⟨_, rfl⟩
 obtain ⟨rk, hrk⟩ : ∃ n, n = Tr.rankB k t := ⟨_, rfl⟩
 have HFC : Hid (∀ (wx : World), Below W3.heap.size W3 wx → Calls Tryd.prog 18 #[.agg #[.slice b1 b2 b3, .slice b4 b5 b6]] wx (Walked wx r1)) :=
   Lib.hid (fun wx hx => by rw [hr1]; exact impl_first_c hti3 hwt s s2 wx hx hx.size (fun wy hy => VAR.out wy (HF.out wy (hx.trans (hy.mono hx.size)))))
 have HFW : Hid (∀ (wx : World) (v : Value) (P : List Int) (A : Int), Below W3.heap.size W3 wx → IntsIn wx wx.heap.size v P → Calls Tryd.prog 31 #[.agg #[.slice b1 b2 b3, .slice b4 b5 b6], .agg #[v, .int .i64 A]] wx (Walked wx (Tr.walkB t P A (fun K => Tr.goF (K + 1) t P)))) :=
   Lib.hid (fun wx v P A hx hi => impl_forward_c ((hti3.later hx (Nat.le_refl _)).wider hx.size) hwt hi A s s2 wx (Below.refl _ _) (Nat.le_refl _) (fun wy hy => VAR.out wy (HF.out wy (hx.trans (hy.mono hx.size)))))
 have HRK : Hid (∀ (wx : World), Below W3.heap.size W3 wx → Calls Tryd.prog 41 #[.agg #[.slice b1 b2 b3, .slice b4 b5 b6], .int .i64 k] wx fun e w'' => e = .returned (.int .i64 rk) ∧ Below wx.heap.size wx w'') :=
   Lib.hid (fun wx hx => by rw [hrk]; exact impl_rank hti3 hwt k wx hx hx.size)
 have HDATA : Hid (Tr.curB t P A = true → ∃ i, i < t.keys.length ∧ i ≤ 99 ∧ Tr.curAt t i = (P, A, true) ∧ rk = (i : Int) ∧ r1 = Tr.curAt t 0 ∧
     ∀ j, j < i → (Tr.curAt t j).2.2 = true ∧ ¬ ((Tr.curAt t j).1 = P ∧ (Tr.curAt t j).2.1 = A) ∧ Tr.walkB t (Tr.curAt t j).1 (Tr.curAt t j).2.1 (fun K => Tr.goF (K + 1) t (Tr.curAt t j).1) = Tr.curAt t (j + 1)) := Lib.hid (fun hc => by
   rw [hrk, hr1, hk]; exact Tr.rank_steps hc)
 have BOX : Hid (∀ wx : World, Below W3.heap.size W3 wx → wx.heap[w2.heap.size]? = some (.cells #[.slice b1 b2 b3, .slice b4 b5 b6] 33 (0, 0)) ∧ wx.heap[w2.heap.size + 1]? = some (.cells #[.slice va P.length vc, .int .i64 A] 28 (0, 0)) ∧ IntsIn wx wx.heap.size (.slice va P.length vc) P) :=
   Lib.hid (fun wx hx => ⟨(hx.block _ (by omega)).trans hx3, (hx.block _ hs3).trans hc3, (hoi3.later hx (by omega)).in⟩)
 have hx3x := hx3
 have hc3x := hc3
 rw [hW3] at hx3x hc3x
 obtain ⟨x1, x2, -, -⟩ := box2 hx3x
 obtain ⟨y1, y2, -, -⟩ := box2 hc3x
 have HW3 := Lib.hid hW3
 obtain ⟨cb, hcb⟩ : ∃ cb, cb = Tr.curB t P A := ⟨_, rfl⟩
 have HCB := Lib.hid hcb
 have HKK := Lib.hid hk
 clear ht2 hb2 hp2 hW3 hb3 hx3 hc3 hx3x hc3x hti3 hoi3 hr1 hrk hcb hk
 go_wp2_with fail
 rw [← HW3.out]
 refine (HCK.out W3 _ P A (Below.refl _ _) (BOX.out W3 (Below.refl _ _)).2.2).mono ?_
 rintro e w4 ⟨rfl, hb4⟩
 rw [← HCB.out, ← HKK.out]
 clear x1 x2 y1 y2
 obtain ⟨hx4, hc4, -⟩ := BOX.out w4 hb4
 obtain ⟨x1, x2, -, -⟩ := box2 hx4
 obtain ⟨y1, y2, -, -⟩ := box2 hc4
 have H4 := Lib.hid hb4
 clear hb4 hx4 hc4
 go_wp2_with fail
 refine (HSK.out w4 H4.out).mono ?_
 rintro e w5 ⟨rfl, hb5⟩
 rw [← HCB.out, ← HKK.out]
 have hb35 : Below W3.heap.size W3 w5 := H4.out.trans (hb5.mono H4.out.size)
 clear x1 x2 y1 y2
 obtain ⟨hx5, hc5, -⟩ := BOX.out w5 hb35
 obtain ⟨x1, x2, -, -⟩ := box2 hx5
 obtain ⟨y1, y2, -, -⟩ := box2 hc5
 have H5 := Lib.hid hb35
 have hne : (cb != cb) = false := by simp
 clear hb5 hb35 hx5 hc5
 cases cb with
 | false =>
   have HE := Lib.hid (HF.out w5 H5.out)
   go_wp2_with fail
   go_ret
   exact ⟨rfl, HE.out⟩
 | true =>
   obtain ⟨i, hil, hi99, hci, rfl, hr1, hsteps⟩ := HDATA.out HCB.out.symm
   obtain ⟨P1, A1, on⟩ := r1
   have hon : on = true := by
     by_cases hi0 : 0 < i
     · have h := (hsteps 0 hi0).1; rw [← hr1] at h; exact h
     · have h := congrArg (fun z => z.2.2) (hr1.trans ((show (0 : Nat) = i by omega) ▸ hci)); exact h
   subst hon
   have HST := Lib.hid hsteps
   have HCI := Lib.hid hci
   have HR1 := Lib.hid hr1
   clear hsteps hci hr1 hil
   go_wp2_with fail
   refine (HFC.out w5 H5.out).mono ?_
   rintro e w6 ⟨v6, rfl, ho6, hb6⟩
   obtain ⟨va6, vc6, rfl⟩ := IntsOwn.shown ho6
   have hs6 := hb6.size
   have hz5 := H5.out.size
   obtain ⟨W6, hW6⟩ : ∃ W6, W6 = w6.alloc (.cells #[.slice va6 P1.length vc6, .int .i64 A1] 28) := ⟨_, rfl⟩
   have hz6 : w6.heap.size < W6.heap.size := by rw [hW6]; simp
   have hbb6 : Below w6.heap.size w6 W6 := by rw [hW6]; exact (Below.refl _ _).alloc (Nat.le_refl _) _
   have kc6 : W6.heap[w6.heap.size]? = some (.cells #[.slice va6 P1.length vc6, .int .i64 A1] 28 (0, 0)) := by rw [hW6, new_blk]
   have hb36 : Below W3.heap.size W3 W6 := H5.out.trans ((hb6.mono hz5).trans (hbb6.mono (by omega)))
   have hn6 : (Value.slice va6 P1.length vc6).ownBlock ≠ some w6.heap.size := fun e => by have := (ho6.lt _ e).2; omega
   have HB6 := Lib.hid (And.intro hb36 (And.intro kc6 (And.intro (IntsOwn.lower (show IntsOwn W6 w5.heap.size (.slice va6 P1.length vc6) P1 from ho6.later hbb6 (Nat.le_refl _)) hz5) hn6)))
   clear x1 x2 y1 y2
   have HW6 := Lib.hid hW6
   clear ho6 hb6 hW6 hbb6 kc6 hb36 hn6
   have hw6l : W3.heap.size ≤ w6.heap.size := by omega
   go_wp2_with fail
   rw [← HW6.out]
   go_loopw [10, 11] (fun s10 s11 wr => ∃ (j : Nat) (P' : List Int) (A' : Int) (va' : Option Addr) (vc' : Nat), s10 = .bool true ∧ s11 = .int .i64 j ∧ j ≤ i ∧ wr.heap[w6.heap.size]? = some (.cells #[.slice va' P'.length vc', .int .i64 A'] 28 (0, 0)) ∧
     Hid (IntsOwn wr W3.heap.size (.slice va' P'.length vc') P') ∧ Hid ((Value.slice va' P'.length vc').ownBlock ≠ some w6.heap.size) ∧ Hid (Tr.curAt t j = (P', A', true)) ∧ Hid (Only W6.heap.size w6.heap.size W6 wr)) (fun _ s11 _ => i - (intOf s11).toNat)
   case atStart => exact ⟨0, P1, A1, va6, vc6, rfl, rfl, Nat.zero_le _, HB6.out.2.1, Lib.hid HB6.out.2.2.1, Lib.hid HB6.out.2.2.2, Lib.hid HR1.out.symm, Lib.hid (Only.refl _ _ _)⟩
   case round =>
     obtain ⟨j, P', A', va', vc', rfl, rfl, hji, hcx, HCI', HCN, HCA, HON⟩ := hrel
     have hrs := HON.out.size
     have h3r : Below W3.heap.size W3 wr := HB6.out.1.trans (HON.out.below (B := W3.heap.size) (by omega) (by omega))
     obtain ⟨hxr, hcr, hir⟩ := BOX.out wr h3r
     obtain ⟨y1, y2, y3, y4⟩ := box2 hcx
     obtain ⟨x3, x4, -, -⟩ := box2 hcr
     have HR := Lib.hid (And.intro h3r (And.intro hcx hir))
     have hj99 : (j : Int) ≤ 100 := by omega
     clear h3r hcx hxr hcr hir
     go_wp2_with fail
     refine (ftCursorG_c P' P _ _ A' A wr wr.heap.size (Nat.le_refl _) HCI'.out.in HR.out.2.2).mono ?_
     rintro e w7 ⟨rfl, hb7⟩
     have hs7 := hb7.size
     clear y1 y2 y3 y4 x3 x4
     have h37 : Below W3.heap.size W3 w7 := HR.out.1.trans (hb7.mono HR.out.1.size)
     have hcx7 : w7.heap[w6.heap.size]? = some (.cells #[.slice va' P'.length vc', .int .i64 A'] 28 (0, 0)) := (hb7.block _ (by omega)).trans HR.out.2.1
     have ho7 := HCI'.out.later hb7 (Nat.le_refl _)
     have hon7 : Only W6.heap.size w6.heap.size W6 w7 := HON.out.trans (below_only (hb7.mono (by omega)))
     obtain ⟨hx7, -, -⟩ := BOX.out w7 h37
     obtain ⟨x1, x2, -, -⟩ := box2 hx7
     obtain ⟨y1, y2, y3, y4⟩ := box2 hcx7
     have H7 := Lib.hid (And.intro h37 (And.intro hcx7 (And.intro ho7 hon7)))
     clear hb7 h37 hcx7 ho7 hon7 hx7
     by_cases hlt : j < i
     · have hst := HST.out j hlt
       rw [HCA.out] at hst
       obtain ⟨-, hne, hwk⟩ := hst
       simp only at hne hwk
       have hd : (decide (P' = P) && A' == A) = false := by
         rw [Bool.and_eq_false_iff]
         by_cases h1 : P' = P
         · right; rw [beq_eq_false_iff_ne]; exact fun h2 => hne ⟨h1, h2⟩
         · left; exact decide_eq_false h1
       rw [hd]
       have HCW := Lib.hid (HFW.out w7 _ P' A' H7.out.1 H7.out.2.2.1.in)
       rw [hwk] at HCW
       obtain ⟨r2, hr2⟩ : ∃ r2, r2 = Tr.curAt t (j + 1) := ⟨_, rfl⟩
       rw [← hr2] at HCW
       obtain ⟨P2, A2, on2⟩ := r2
       have hon2 : on2 = true := by
         by_cases hl : j + 1 < i
         · have h := (HST.out (j + 1) hl).1; rw [← hr2] at h; exact h
         · have h := congrArg (fun z => z.2.2) (hr2.trans ((show i = j + 1 by omega) ▸ HCI.out)); exact h
       subst hon2
       have HR2 := Lib.hid hr2
       clear hr2 hwk hne hd
       go_wp2_with fail
       refine HCW.out.mono ?_
       rintro e w8 ⟨v8, rfl, ho8, hb8⟩
       obtain ⟨va8, vc8, rfl⟩ := IntsOwn.shown ho8
       have hs8 := hb8.size
       have hcx8 : w8.heap[w6.heap.size]? = some (.cells #[.slice va' P'.length vc', .int .i64 A'] 28 (0, 0)) := (hb8.block _ (by omega)).trans H7.out.2.1
       have hn8 : (Value.slice va8 P2.length vc8).ownBlock ≠ some w6.heap.size := fun e => by have := (ho8.lt _ e).1; omega
       clear x1 x2 y1 y2 y3 y4
       obtain ⟨y1, y2, y3, y4⟩ := box2 hcx8
       have H8 := Lib.hid (And.intro hcx8 (And.intro ho8 (And.intro hb8 hn8)))
       clear hcx8 ho8 hb8 hn8
       go_wp2_with fail
       go_roundw
       case rel =>
         refine ⟨j + 1, P2, A2, va8, vc8, rfl, by go_num, by omega, set_blk (o := 1) _ (set_blk (o := 0) _ H8.out.1), Lib.hid ?_, Lib.hid H8.out.2.2.2, Lib.hid HR2.out.symm, Lib.hid ?_⟩
         · exact (H8.out.2.1.only (w' := (w8.setCell ⟨w6.heap.size, 0, none⟩ (.slice va8 P2.length vc8)).setCell ⟨w6.heap.size, 1, none⟩ (.int .i64 A2)) (C := w8.heap.size) (r := w6.heap.size) ⟨rfl, rfl, rfl, by simp, fun k _ hne => by rw [set_other _ _ _ _ _ hne, set_other _ _ _ _ _ hne]⟩ (Nat.le_refl _) (by omega)).lower (by omega)
         · have ho := H7.out.2.2.2
           have hb := H8.out.2.2.1
           exact ⟨hb.os.trans ho.os, hb.tape.trans ho.tape, hb.output.trans ho.output, by have := hb.size; have := ho.size; simp; omega, fun k h1 hne => by
             rw [set_other _ _ _ _ _ hne, set_other _ _ _ _ _ hne]; exact (hb.block k (by omega)).trans (ho.block k h1 hne)⟩
       case measure => simp [intOf]; omega
     · obtain rfl : j = i := by omega
       have he := HCA.out.symm.trans HCI.out
       have hd : (decide (P' = P) && A' == A) = true := by
         have h1 : P' = P := congrArg (fun z => z.1) he
         have h2 : A' = A := congrArg (fun z => z.2.1) he
         simp [h1, h2]
       rw [hd]
       clear he hd
       have hjj : ((j : Int) == (j : Int)) = true := by simp
       go_wp2_with fail
       refine (HRK.out w7 H7.out.1).mono ?_
       rintro e w8 ⟨rfl, hb8⟩
       have HE := Lib.hid (HF.out w8 (H7.out.1.trans (hb8.mono H7.out.1.size)))
       clear hb8 x1 x2 y1 y2 y3 y4
       go_wp2_with fail
       go_ret
       exact ⟨rfl, HE.out⟩
end Go.Proofs.YticfkfjijnfcbaaDoor
/- Bytes that came in, as a slice in memory. -/
namespace Go.Proofs.YticfkfjijnfcbaaDoor
open Go.ChangeShapes Go.WideShapes Go.ChangeAt Go.RowKit
variable {H : Type} {enc : TypeId × Value → H} {w : World} {base : Nat} {spare : Nat → Bool} {held : Bool}
theorem Tryd.cellsU8 : Tryd.prog.cellsOf 5 = 1 := by kernel_rfl
theorem bytes_of_trod (fuel : Nat) {a0 : Option Addr} {len cap : Nat} {x : DataW H × List MemPlace} (hs : ∀ b, spare b = true) (h : DataW.trod enc Tryd.prog w base spare held fuel 47 [.slice a0 len cap] = some x) :
   ∃ bs, BytesIn w w.heap.size (.slice a0 len cap) bs := by
 rcases open_ints Tryd.underlying47 Tryd.underlying5 Tryd.cellsU8 h with ⟨hcs, hx⟩ | ⟨a, len', cap', zs, hcs, _, hl, hm, hz, hx, hcell, hwz⟩
 · simp only [List.cons.injEq, Value.slice.injEq, and_true] at hcs
   obtain ⟨rfl, rfl, rfl⟩ := hcs
   exact ⟨[], none, 0, rfl, Nat.le_refl _, by unfold maxLen; omega, (fun x h => by cases h), .inl rfl⟩
 · simp only [List.cons.injEq, Value.slice.injEq, and_true] at hcs
   obtain ⟨rfl, rfl, rfl⟩ := hcs
   rw [hs, if_pos rfl] at hz
   have hb : ∀ z ∈ zs, 0 ≤ z ∧ z ≤ 255 := fun z hz' => by
     have h5 := hwz z hz'
     have e1 : IntKind.u8.min = 0 := rfl
     have e2 : IntKind.u8.max = 255 := rfl
     simpa [Lit.wf, e1, e2] using h5
   have hlen : ((zs.take len).map Int.toNat).length = len := by simp; omega
   refine ⟨(zs.take len).map Int.toNat, some a, cap, by rw [hlen], by rw [hlen]; exact hl, hm, fun x hx => ?_, ?_⟩
   · obtain ⟨z, hz1, rfl⟩ := List.mem_map.1 hx
     have := hb z (List.mem_of_mem_take hz1)
     omega
   · by_cases h0 : len = 0
     · left; subst h0; simp
     · obtain ⟨b, off, spot⟩ := a
       have hspot : spot = none := by simpa [Addr.add] using World.cell?_spot (hcell 0 (by omega))
       subst hspot
       refine .inr ⟨b, off, rfl, ?_, fun i hi => ?_⟩
       · have h1 := hcell 0 (by omega)
         rw [add_plain] at h1
         exact World.block_lt_of_cell? w _ h1
       · rw [hlen] at hi
         have h1 := hcell i (by omega)
         rw [add_plain] at h1
         rw [h1]
         have hzi := hb zs[i] (List.getElem_mem (by omega))
         have e1 : zs.getD i 0 = zs[i] := by simp [List.getD_eq_getElem?_getD, show i < zs.length by omega]
         have e2 : ((zs.take len).map Int.toNat).getD i 0 = zs[i].toNat := by simp [List.getD_eq_getElem?_getD, hi, show i < zs.length by omega]
         rw [e1, e2]
         congr 2
         omega
end Go.Proofs.YticfkfjijnfcbaaDoor
/- The statement FnCursorRank: the row, and the card that ties it to the program's text. -/
namespace Go.Proofs.YticfkfjijnfcbaaDoor.rowFnCursorRank
open Go.ChangeShapes Go.WideShapes Go.ChangeAt Go.RowKit
set_option linter.unusedVariables false
theorem own : ownKnob Tryd.prog.godebug = none := by kernel_rfl
theorem laidOut : laidOutB Tryd.prog = true := by kernel_rfl
theorem gNo : Tryd.prog.globalNamed "loop.example/fulltrees/impl.errNowhere" = some 0 := by kernel_rfl
theorem gEnd : Tryd.prog.globalNamed "loop.example/fulltrees/impl.errEnd" = some 1 := by kernel_rfl
theorem tNo : (Tryd.prog.globals[0]?).map (·.type) = some 84 := by kernel_rfl
theorem tEnd : (Tryd.prog.globals[1]?).map (·.type) = some 84 := by kernel_rfl
theorem star : "*errors.errorString" = "*" ++ "errors.errorString" := by decide
theorem rowPtr (u : TypeId) (h : Tryd.prog.typeName? 3 u = some "*errors.errorString") : u = 174 :=
 typeName_ptr_named (nm := "errors.errorString") (by rw [← star]; kernel_rfl) (by kernel_rfl) (by decide) u (by rw [← star]; exact h)
def laid3 : List (String × DataW Unit) := [("loop.example/fulltrees/impl.errNowhere", Rows.laid_loop_example_fulltrees_impl_errNowhere), ("loop.example/fulltrees/impl.errEnd", Rows.laid_loop_example_fulltrees_impl_errEnd)]
theorem of_laid {W : World} (h : laidMetH Tryd.prog laid3 W) : ∃ s s2 : Addr, (W.cell? ⟨0, 0, none⟩ = some (.iface 174 (.pointer (some s))) ∧ W.cell? ⟨1, 0, none⟩ = some (.iface 174 (.pointer (some s2)))) ∧ 1 < W.heap.size := by
 rw [MakeChecks.laidMetH_plain _ _ _ (by kernel_rfl)] at h
 obtain ⟨a0, a1, s0, s1, c0, c1, t0, t1, hv0, hv1, -⟩ := laid_sentinels2 h gNo tNo gEnd tEnd Tryd.underlying84 rowPtr Tryd.underlying174 Tryd.underlying202 rfl rfl Tryd.underlying9 (by kernel_rfl) (by kernel_rfl)
 have hc := World.var?_cell gNo hv0 0
 have hc1 := World.var?_cell gEnd hv1 0
 exact ⟨a0, a1, ⟨hc, hc1⟩, World.block_lt_of_cell? W _ hc1⟩
theorem vars_two {H : Type} {enc : TypeId × Value → H} {w : World} {spare : Nat → Bool} {n m : String} {gs : List (DataW H)} {ps : List MemPlace} (h : DataW.TrodVars enc Tryd.prog w spare [n, m] gs ps) : ∃ d e, gs = [d, e] := by
 cases gs with
 | nil => simp [DataW.TrodVars] at h
 | cons d ds =>
   obtain ⟨g, t, cs, fuel, p, q, h1, h2, h3, h4, hs, e⟩ := h
   obtain ⟨_, _, _, _, e, _, rfl, -⟩ := trodVars_one hs
   exact ⟨_, _, rfl⟩
theorem door_met (os : Os) (args : Array Value) : laidMetH Tryd.prog laid3 ((World.doorLaid Tryd.prog 400 os).forCall (fun _ _ => 0) ⟨#[], args, []⟩).memory :=
 laidMetH_of_parts3 (fuel := 8) (laidMet_of_run' 8 (by kernel_rfl) (by kernel_rfl)) (by kernel_rfl) (by kernel_rfl)
set_option maxRecDepth 100000 in
set_option maxHeartbeats 1000000 in
theorem lifted (os : Os) (started : os.Started) (H : Type) (enc : TypeId × Value → H) :
   ReturnsInHanded {} Tryd.checked os 13 .any (fun w args => (Rows.fnCursorRankSpec.pre enc Tryd.prog Tryd.f13 Rows.fnCursorRankRow.domain false w args ∧ laidMetH Tryd.prog laid3 w) ∧ sizedMet enc Tryd.prog Tryd.f13 (OpenSpec.ofChange Rows.fnCursorRankSpec) false w args)
     (Rows.fnCursorRankSpec.post enc Tryd.prog Tryd.f13 false true false false) := by
 refine returnsInHanded_of_change_and (C := Tryd.checked) (X := fun w _ => laidMetH Tryd.prog laid3 w) (fun _ _ _ hh h => h.of_heap hh) own started (by kernel_rfl) Tryd.func13
   (ChangeSpec.witness_shaped (enc := enc) (C := Tryd.checked) (os := os) (X := fun w _ => laidMetH Tryd.prog laid3 w) false (World.doorLaid Tryd.prog 400 os) #[.slice none 0 0] 8 rfl (World.shaped_of_RefB (by kernel_rfl) (by kernel_rfl)) (by kernel_rfl) (by kernel_rfl) (by kernel_rfl) (door_met os _)) ?_
 intro W base args ds gs before hval0 hW _ _ hL _
 have hval : ∀ (j : Nat) t v, Tryd.f13.params[j]? = some t → args[j]? = some v → Value.okWide Tryd.prog W .any base t v := hval0
 have hW' := hW
 obtain ⟨p, q, hA0, hV, rfl, hfz, hnd⟩ := hW
 have hA : DataW.TrodAll enc Tryd.prog W 0 (fun _ => true) true Tryd.f13.params.toList args.toList ds p := hA0
 rw [Tryd.params13] at hA hval
 have hV2 := hV
 obtain ⟨gd, gd2, rfl⟩ := vars_two hV2
 obtain ⟨v0, vs0, d0, ds0, p0, q0, hargs, rfl, rfl, h0, r0⟩ := trodAll_cons hA
 obtain ⟨rfl, rfl, rfl⟩ := trodAll_nil r0
 obtain rfl : args = #[v0] := by cases args; simp_all
 obtain ⟨a0, len0, cap0, rfl⟩ := okWide_slice Tryd.underlying47 (hval 0 47 v0 rfl rfl)
 have k0 := h0
 have lt0 : ∀ x ∈ p0, x.block < W.heap.size := by obtain ⟨m, hm⟩ := k0; exact DataW.trod_lt m _ _ _ hm
 obtain ⟨bs0, hb0⟩ : ∃ bs, BytesIn W W.heap.size (.slice a0 len0 cap0) bs := by
   obtain ⟨fuel, hf⟩ := h0
   exact bytes_of_trod fuel (fun _ => rfl) hf
 clear hA0 hval0
 obtain ⟨s, s2, hs, hz⟩ := of_laid hL
 refine (fnCursorRank_c hb0 s s2 hs hz).mono fun e W' ⟨he, bel⟩ => ?_
 subst he
 exact ⟨_, rfl, _, _, _, [], _, q, hW', trodAll_mk1 (shut_bool Tryd.underlying4 _), (trodAll_cons_mk (Below.trod laidOut (by kernel_rfl) (of_decide_eq_true (by kernel_rfl)) k0 bel lt0) trodAll_mk0), Below.trodVars laidOut bel (by kernel_rfl) hV, bel.frame _, fun h => by cases h⟩
theorem closed : joinedFacts Tryd.prog 13 Tryd.f13 Rows.fnCursorRankSpec Rows.fnCursorRankRow = true := by
 unfold joinedFacts
 exact band (band (band (band (band (band (band (by kernel_rfl) fact_enter) fact_lifts) fact_make) (by kernel_rfl)) (by kernel_rfl)) (by kernel_rfl)) (by kernel_rfl)
theorem over : Rows.fnCursorRankRow.holds Tryd.pinned (OpenSpec.ofChange Rows.fnCursorRankSpec) :=
 OpenClaim.holds_of_wide 13 Tryd.f13 rfl rfl rfl rfl rfl rfl rfl ⟨rfl, rfl, rfl, rfl, rfl⟩ rfl rfl rfl rfl rfl (by kernel_rfl) Tryd.func13 closed
   (of_decide_eq_true (by kernel_rfl)) (by unfold Func.isWrapper; first | (rw [if_pos (by decide +kernel)]; kernel_rfl) | (rw [if_neg (by decide +kernel)]; exact ⟨rfl, rfl⟩))
   (fun os started H enc _ => lifted os started H enc)
theorem card : Rows.FnCursorRankCardSaid :=
 Claim7.holds_tied_plain_at .later [] [.sentinel, .sentinel] true Rows.fnCursorRankCard.stood.harness true
   over (fun _ h => by cases h) (by kernel_rfl) (fun _ h => by cases h) fnCursorRank_row_tie rfl ⟨rfl, rfl⟩ (by kernel_rfl) rfl
   (fun f fn hf hfn => by
     obtain rfl : f = 13 := Option.some.inj ((show Tryd.prog.funcNamed "loop.example/fulltrees/laws.FnCursorRank" = some 13 by kernel_rfl).symm.trans hf) |>.symm
     obtain rfl : fn = Tryd.f13 := (Option.some.inj (Tryd.func13.symm.trans hfn)).symm
     exact ⟨by kernel_rfl, fun j t ht => by
       rw [Tryd.params13] at ht
       have hm : t ∈ [47] := by simpa using Array.mem_of_getElem? ht
       have hall : ([47].all fun u => !Tryd.prog.wantsStandIn u) = true := by kernel_rfl
       exact (show Tryd.prog.wantsStandIn t = false by simpa using List.all_eq_true.1 hall t hm)⟩)
   (by kernel_rfl)
end Go.Proofs.YticfkfjijnfcbaaDoor.rowFnCursorRank
/- For every slice of bytes, the law on cursors (FnCursorRank) returns true and leaves its arguments as they were, where the program's errNowhere and errEnd hold what its text lays; the card ties it to that text. -/
namespace Go.Proofs.YticfkfjijnfcbaaDoor
theorem cursor_rank_said : Rows.FnCursorRankCardSaid := rowFnCursorRank.card
end Go.Proofs.YticfkfjijnfcbaaDoor
