/- The program's CursorKey. -/
import Derived.Test.YtdcifdpkfcgmhaaDoorProg
import Derived.Test.YtdcifdpkfcgmhaaDoorChecked
import Derived.Test.YtdcifdpkfcgmhaaDoorCb0
import Derived.WalkKit
import Derived.LaidEql
import Derived.Stop.Asserts
import Derived.RowKitTokens
import Derived.Test.YtdcifdpkfcgmhaaDoorCb20
import Derived.Test.YtdcifdpkfcgmhaaDoorCbS12
import Derived.Deep.QuietTactic
import Derived.BigQuiet
import Derived.StillTailTactics

/- The library's errors.Is where it is asked of nil, or of the sentinel itself. -/
namespace Go.Proofs.YtdcifdpkfcgmhaaDoor
open Go.RowKit Go.Extern.Stop Go.Stop Go.Extern

theorem isTypeOf (v : Value) (w : World) : (Extern.ReflectliteType.typeOf #[.iface 167 v]).run Tryd.prog w = .ok (.iface 154 (.agg #[.pointer (some ⟨2, 167, none⟩)])) w := by kernel_rfl
def cmpF : Array Value → Sem Value := Extern.ReflectliteType.method fun t => do Go.Extern.Rtype.noPackHeld "Comparable" t; pure (.bool (← typeInfo t).comparable)
theorem isComparable (w : World) : (cmpF #[.agg #[.pointer (some ⟨2, 167, none⟩)]]).run Tryd.prog w = .ok (.bool true) w := by kernel_rfl
theorem isMethodComparable (v : Value) (w : World) : (Go.method 306 154 v "Comparable").run Tryd.prog w = .ok (155, v) w := by kernel_rfl
theorem isComp : (Tryd.prog.info? 167).map (·.comparable) = some true := by kernel_rfl
theorem isSize : (Tryd.prog.info? 193).map (·.size) = some 1 := by kernel_rfl

set_option maxRecDepth 100000 in
theorem is_nil (b : Addr) (w : World) :
    Calls Tryd.prog 81 #[.nilIface, .iface 167 (.pointer (some b))] w fun e w' => e = .returned (.bool false) ∧ w' = w := by
  have hn := run_eql_iface_nil_left (P := Tryd.prog) w 167 (.pointer (some b)) Tryd.underlying84
  go_enter Tryd.func81, Tryd.ntmps81
  go_wp2
  go_ret
  exact ⟨rfl, rfl⟩

set_option maxRecDepth 100000 in
theorem is_same (a : Addr) (w : World) :
    Calls Tryd.prog 81 #[.iface 167 (.pointer (some a)), .iface 167 (.pointer (some a))] w fun e w' => e = .returned (.bool true) ∧ w' = w := by
  obtain ⟨i, hi, hcmp⟩ := Option.map_eq_some_iff.1 isComp
  obtain ⟨j, hj, hjs⟩ := Option.map_eq_some_iff.1 isSize
  have h8 := @run_callFunc_extern Tryd.prog 111 _ Extern.ReflectliteType.typeOf Tryd.func111 (by kernel_rfl) (by kernel_rfl) (by kernel_rfl) (by kernel_rfl)
  have h32 := @run_callFunc_extern Tryd.prog 155 _ cmpF Tryd.func155 (by kernel_rfl) (by kernel_rfl) (by kernel_rfl) (by kernel_rfl)
  have tT := isTypeOf
  have cT := isComparable
  have mR := isMethodComparable
  have heq := run_eql_iface_ptr_same (P := Tryd.prog) w a Tryd.underlying84 Tryd.underlying167 hi hcmp hj
  go_enter Tryd.func81, Tryd.ntmps81
  go_wp2
  refine wp_loop_rounds 1 ?_
  rw [rounds_succ]
  go_wp2
  go_ret
  exact ⟨rfl, rfl⟩
end Go.Proofs.YtdcifdpkfcgmhaaDoor

/- The key at which a walker stands. -/
namespace Go.Proofs.YtdcifdpkfcgmhaaDoor
open Go.RowKit

set_option maxHeartbeats 1000000 in
set_option maxRecDepth 100000 in
theorem lowest_c {w : World} {b D : Nat} {f : Nat → Value × Int} (h : Walker w b f (D + 1)) (hD : D < 6) :
    Calls Tryd.prog 106 #[.pointer (some ⟨b, 0, none⟩)] w fun e w' => e = .returned (.pointer (some ⟨b, D * 2, none⟩)) ∧ Below w.heap.size w w' ∧ w'.heap = w.heap := by
  obtain ⟨C, hx, hC, h12, hat⟩ := h.blk
  have x1 : w.cell? ⟨b, 12, none⟩ = some (.int .i64 ((D : Int) + 1)) := by simp [World.cell?, hx, h12]
  have hDi : (D : Int) < 6 := by omega
  have hD0 : (0 : Int) ≤ (D : Int) := by omega
  have hwr : IntKind.i64.wrap ((D : Int) + 1 - 1) = (D : Int) := by rw [IntKind.wrap_i64]; omega
  have hsub : (D : Int) + 1 - 1 = (D : Int) := by omega
  clear h hx hC h12 hat
  go_enter Tryd.func106, Tryd.ntmps106
  go_wp2_with fail
  go_quiet (fail)
  go_wp2_with fail
  go_ret
  refine ⟨?_, ?_, ?_⟩
  · first | rfl | simp
  · first | exact below_drewN _ _ _ | exact Below.refl _ _
  · rfl

set_option maxHeartbeats 1000000 in
set_option maxRecDepth 100000 in
theorem key_c {w : World} {b D p lo hi : Nat} {f : Nat → Value × Int} {a : Int} {k : List Int} {c : List Tr} (h : Walker w b f (D + 1)) (hD : D < 6) (hf : f D = (.pointer (some ⟨p, 0, none⟩), a)) (hn : NodeAt w lo hi p (.mk k c)) (ha : 0 ≤ a ∧ a < (k.length : Int)) :
    Calls Tryd.prog 82 #[.pointer (some ⟨b, 0, none⟩)] w fun e w' => e = .returned (.int .i64 (k.getD a.toNat 0)) ∧ Below w.heap.size w w' := by
  have HLW := Lib.hid (lowest_c h hD)
  obtain ⟨C, hx, hC, h12, hat⟩ := h.blk
  obtain ⟨N, rfl⟩ : ∃ N : Nat, a = N := ⟨a.toNat, by omega⟩
  rw [Int.toNat_natCast]
  have hN : N < k.length := by omega
  have hd := hat D (by omega)
  rw [hf] at hd
  have hc1 : C[D * 2]? = some (.pointer (some ⟨p, 0, none⟩)) := by rw [show D * 2 = 2 * D by omega]; exact hd.1
  have hc2 : C[D * 2 + 1]? = some (.int .i64 (N : Int)) := by rw [show D * 2 + 1 = 2 * D + 1 by omega]; exact hd.2
  obtain ⟨ukv, ca, ccap, ps, -, -, hbox, hik, -, -, -, -⟩ := hn.parts
  obtain ⟨ka, kcap, rfl, hk1, hk2, -, hk3⟩ := hik
  unfold maxLen at hk2
  rcases hk3 with h0 | ⟨kb, ko, rfl, -, -, hkc⟩
  · simp [h0] at hN
  have hkN := hkc N hN
  have CE : Hid (∀ wx : World, wx.heap = w.heap → wx.cell? ⟨b, D * 2, none⟩ = some (.pointer (some ⟨p, 0, none⟩)) ∧ wx.cell? ⟨b, D * 2 + 1, none⟩ = some (.int .i64 (N : Int)) ∧ wx.cell? ⟨p, 0, none⟩ = some (.slice (some ⟨kb, ko, none⟩) k.length kcap) ∧ wx.cell? ⟨kb, ko + N, none⟩ = some (.int .i64 (k.getD N 0))) :=
    Lib.hid (fun wx he => by
      refine ⟨?_, ?_, ?_, ?_⟩
      · simp [World.cell?, he, hx, hc1]
      · simp [World.cell?, he, hx, hc2]
      · simp [World.cell?, he, hbox]
      · have e : wx.cell? ⟨kb, ko + N, none⟩ = w.cell? ⟨kb, ko + N, none⟩ := by simp [World.cell?, he]
        rw [e]; exact hkN)
  have hNl : (N : Int) < (k.length : Int) := by omega
  clear h hx hC h12 hat hd hc1 hc2 hbox hkc hkN ha hf hn
  obtain ⟨K, hK⟩ : ∃ K, K = k.getD N 0 := ⟨_, rfl⟩
  rw [← hK] at CE ⊢
  clear hK
  go_enter Tryd.func82, Tryd.ntmps82
  go_wp2_with fail
  refine HLW.out.mono ?_
  rintro e w2 ⟨rfl, hb2, hh⟩
  obtain ⟨x1, x2, x3, x4⟩ := CE.out w2 hh
  have H2 := Lib.hid hb2
  clear hb2 hh
  go_wp2_with fail
  go_quiet (fail)
  go_wp2_with fail
  go_ret
  exact ⟨rfl, H2.out.trans (below_drewN _ _ _)⟩
end Go.Proofs.YtdcifdpkfcgmhaaDoor

/- The program's CursorKey. -/
namespace Go.Proofs.YtdcifdpkfcgmhaaDoor
open Go.RowKit

/-- The key at which a cursor stands. -/
def Tr.curK (t : Tr) (ks : List Int) (a : Int) : Int :=
  if Tr.curB t ks a = true then (match Tr.nodeTo ks t with | some (.mk k _) => k.getD a.toNat 0 | none => 0) else 0
theorem curK_no {t : Tr} {ks : List Int} {a : Int} (h : Tr.curB t ks a = false) : Tr.curK t ks a = 0 := by simp [Tr.curK, h]
theorem curK_at {t : Tr} {ks : List Int} {a : Int} {k : List Int} {c : List Tr} (h : Tr.curB t ks a = true) (hn : Tr.nodeTo ks t = some (.mk k c)) : Tr.curK t ks a = k.getD a.toNat 0 ∧ 0 ≤ a ∧ a < (k.length : Int) ∧ t.someB = true := by
  refine ⟨by simp [Tr.curK, h, hn], ?_⟩
  unfold Tr.curB at h
  rw [hn] at h
  simp only [Bool.and_eq_true, inB, decide_eq_true_eq] at h
  exact ⟨h.2.1, by omega, h.1⟩

set_option maxHeartbeats 2000000 in
set_option maxRecDepth 100000 in
theorem impl_cursorKey {w : World} {B : Nat} {kv cv v : Value} {t : Tr} {ks : List Int} (ht : TreeIn w B kv cv t) (hw : t.weight ≤ 1048576) (hk : IntsIn w B v ks) (a : Int) (s : Addr) (w' : World) (hbw : Below B w w') (hB : B ≤ w'.heap.size)
    (hV : ∀ wx, Below w'.heap.size w' wx → wx.cell? ⟨0, 0, none⟩ = some (.iface 167 (.pointer (some s)))) :
    Calls Tryd.prog 37 #[.agg #[kv, cv], .agg #[v, .int .i64 a]] w' fun e w'' => e = .returned (.tuple #[.int .i64 (Tr.curK t ks a), .bool (Tr.curB t ks a)]) ∧ Below w'.heap.size w' w'' := by
  have HT := Lib.hid ht
  have HK := Lib.hid hk
  obtain ⟨g1, g2, g3, g4, g5, g6, rfl, rfl⟩ := ht.slices
  obtain ⟨va, vcap, rfl, -⟩ := hk
  obtain ⟨W2, hW2⟩ : ∃ W2, W2 = (w'.alloc (.cells #[.slice g1 g2 g3, .slice g4 g5 g6] 33)).alloc (.cells #[.slice va ks.length vcap, .int .i64 a] 28) := ⟨_, rfl⟩
  have hb2 : Below w'.heap.size w' W2 := by rw [hW2]; exact ((Below.refl _ _).alloc (Nat.le_refl _) _).alloc (by simp) _
  have hs2 : w'.heap.size ≤ W2.heap.size := hb2.size
  have k0 : W2.heap[w'.heap.size]? = some (.cells #[.slice g1 g2 g3, .slice g4 g5 g6] 33 (0, 0)) := by rw [hW2, old_blk _ _ _ (by simp), new_blk]
  have k1 : W2.heap[w'.heap.size + 1]? = some (.cells #[.slice va ks.length vcap, .int .i64 a] 28 (0, 0)) := by
    rw [hW2, show w'.heap.size + 1 = (w'.alloc (.cells #[.slice g1 g2 g3, .slice g4 g5 g6] 33)).heap.size by simp, new_blk]
  rw [hW2] at k0 k1
  obtain ⟨x1, x2, x3, x4⟩ := box2 k0
  obtain ⟨y1, y2, y3, y4⟩ := box2 k1
  have HWA := Lib.hid (walkerAt_c HT.out hw HK.out a s W2 (hbw.trans (hb2.mono hB)) (by omega) (fun wx hx => hV wx (hb2.trans (hx.mono hs2))))
  have HB2 := Lib.hid (And.intro hb2 hV)
  have HW2 := Lib.hid hW2
  clear ht hbw hW2 hb2 k0 k1 hV
  go_enter Tryd.func37, Tryd.ntmps37
  go_wp2_with fail
  rw [← HW2.out]
  refine HWA.out.mono ?_
  rintro e w3 ⟨hres, hb3⟩
  have H3 := Lib.hid (HB2.out.1.trans (hb3.mono hs2))
  have xv := HB2.out.2 w3 H3.out
  clear hb3 x1 x2 x3 x4 y1 y2 y3 y4
  rcases hres with ⟨hc, rfl⟩ | ⟨hc, b, f, ⟨uk, uc⟩, p, lo, hi, rfl, hwk, hfp, hnode, hnd, -⟩
  · have HC := Lib.hid (And.intro hc (curK_no hc))
    clear hc
    go_wp2_with fail
    refine (is_same s _).mono ?_
    rintro e w4 ⟨rfl, hw4⟩
    have hw4' := hw4.symm
    subst hw4'
    go_wp2_with fail
    exact bodyPost_ret (v := .tuple #[.int .i64 0, .bool false]) (by simp [results, Tryd.results37]) rfl ⟨by rw [HC.out.1, HC.out.2], H3.out⟩
  · obtain ⟨hk1, ha1, ha2, hsb⟩ := curK_at hc hnode
    have hfew := Tr.nodeTo_few hsb hnode
    have HC := Lib.hid (And.intro hc hk1)
    have HKY := Lib.hid (key_c hwk (by omega) hfp hnd ⟨ha1, ha2⟩)
    clear hc hwk hfp hnode hnd hk1 ha1 ha2 hsb hfew
    go_wp2_with fail
    refine (is_nil s _).mono ?_
    rintro e w4 ⟨rfl, hw4⟩
    have hw4' := hw4.symm
    subst hw4'
    go_wp2_with fail
    refine HKY.out.mono ?_
    rintro e w5 ⟨rfl, hb5⟩
    have H5 := Lib.hid (H3.out.trans (hb5.mono H3.out.size))
    obtain ⟨K, hK⟩ : ∃ K, K = uk.getD a.toNat 0 := ⟨_, rfl⟩
    rw [← hK]
    have HKK := Lib.hid hK
    clear hb5 hK
    go_wp2_with fail
    exact bodyPost_ret (v := .tuple #[.int .i64 K, .bool true]) (by simp [results, Tryd.results37]) rfl ⟨by rw [HC.out.1, HC.out.2, HKK.out], H5.out⟩
end Go.Proofs.YtdcifdpkfcgmhaaDoor
