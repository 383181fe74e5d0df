/- Deleting: the key that stands in for one, as plain data. -/
import Derived.Test.YtdcifdpkfcgmhaaDoorProg
import Derived.Test.YtdcifdpkfcgmhaaDoorChecked
import Derived.Test.YtdcifdpkfcgmhaaDoorCr0
import Derived.WalkKit
import Derived.LaidEql
import Derived.Stop.Asserts
import Derived.RowKitTokens
import Derived.Test.YtdcifdpkfcgmhaaDoorCr23
import Derived.Test.YtdcifdpkfcgmhaaDoorCrS15
import Derived.Deep.QuietTactic
import Derived.BigQuiet
import Derived.StillTailTactics
import Derived.Test.YtdcifdpkfcgmhaaDoorCr13
import Derived.Test.YtdcifdpkfcgmhaaDoorCr16

/- The library's errors.Is where it is asked of nil, or of the sentinel itself. -/
namespace Go.Proofs.YtdcifdpkfcgmhaaDoor
open Go.RowKit Go.Extern.Stop Go.Stop Go.Extern

theorem isTypeOf (v : Value) (w : World) : (Extern.ReflectliteType.typeOf #[.iface 167 v]).run Tryd.prog w = .ok (.iface 154 (.agg #[.pointer (some ⟨2, 167, none⟩)])) w := by kernel_rfl
def cmpF : Array Value → Sem Value := Extern.ReflectliteType.method fun t => do Go.Extern.Rtype.noPackHeld "Comparable" t; pure (.bool (← typeInfo t).comparable)
theorem isComparable (w : World) : (cmpF #[.agg #[.pointer (some ⟨2, 167, none⟩)]]).run Tryd.prog w = .ok (.bool true) w := by kernel_rfl
theorem isMethodComparable (v : Value) (w : World) : (Go.method 306 154 v "Comparable").run Tryd.prog w = .ok (155, v) w := by kernel_rfl
theorem isComp : (Tryd.prog.info? 167).map (·.comparable) = some true := by kernel_rfl
theorem isSize : (Tryd.prog.info? 193).map (·.size) = some 1 := by kernel_rfl

set_option maxRecDepth 100000 in
theorem is_nil (b : Addr) (w : World) :
    Calls Tryd.prog 81 #[.nilIface, .iface 167 (.pointer (some b))] w fun e w' => e = .returned (.bool false) ∧ w' = w := by
  have hn := run_eql_iface_nil_left (P := Tryd.prog) w 167 (.pointer (some b)) Tryd.underlying84
  go_enter Tryd.func81, Tryd.ntmps81
  go_wp2
  go_ret
  exact ⟨rfl, rfl⟩

set_option maxRecDepth 100000 in
theorem is_same (a : Addr) (w : World) :
    Calls Tryd.prog 81 #[.iface 167 (.pointer (some a)), .iface 167 (.pointer (some a))] w fun e w' => e = .returned (.bool true) ∧ w' = w := by
  obtain ⟨i, hi, hcmp⟩ := Option.map_eq_some_iff.1 isComp
  obtain ⟨j, hj, hjs⟩ := Option.map_eq_some_iff.1 isSize
  have h8 := @run_callFunc_extern Tryd.prog 111 _ Extern.ReflectliteType.typeOf Tryd.func111 (by kernel_rfl) (by kernel_rfl) (by kernel_rfl) (by kernel_rfl)
  have h32 := @run_callFunc_extern Tryd.prog 155 _ cmpF Tryd.func155 (by kernel_rfl) (by kernel_rfl) (by kernel_rfl) (by kernel_rfl)
  have tT := isTypeOf
  have cT := isComparable
  have mR := isMethodComparable
  have heq := run_eql_iface_ptr_same (P := Tryd.prog) w a Tryd.underlying84 Tryd.underlying167 hi hcmp hj
  go_enter Tryd.func81, Tryd.ntmps81
  go_wp2
  refine wp_loop_rounds 1 ?_
  rw [rounds_succ]
  go_wp2
  go_ret
  exact ⟨rfl, rfl⟩
end Go.Proofs.YtdcifdpkfcgmhaaDoor

/- The key at which a walker stands. -/
namespace Go.Proofs.YtdcifdpkfcgmhaaDoor
open Go.RowKit

set_option maxHeartbeats 1000000 in
set_option maxRecDepth 100000 in
theorem lowest_c {w : World} {b D : Nat} {f : Nat → Value × Int} (h : Walker w b f (D + 1)) (hD : D < 6) :
    Calls Tryd.prog 106 #[.pointer (some ⟨b, 0, none⟩)] w fun e w' => e = .returned (.pointer (some ⟨b, D * 2, none⟩)) ∧ Below w.heap.size w w' ∧ w'.heap = w.heap := by
  obtain ⟨C, hx, hC, h12, hat⟩ := h.blk
  have x1 : w.cell? ⟨b, 12, none⟩ = some (.int .i64 ((D : Int) + 1)) := by simp [World.cell?, hx, h12]
  have hDi : (D : Int) < 6 := by omega
  have hD0 : (0 : Int) ≤ (D : Int) := by omega
  have hwr : IntKind.i64.wrap ((D : Int) + 1 - 1) = (D : Int) := by rw [IntKind.wrap_i64]; omega
  have hsub : (D : Int) + 1 - 1 = (D : Int) := by omega
  clear h hx hC h12 hat
  go_enter Tryd.func106, Tryd.ntmps106
  go_wp2_with fail
  go_quiet (fail)
  go_wp2_with fail
  go_ret
  refine ⟨?_, ?_, ?_⟩
  · first | rfl | simp
  · first | exact below_drewN _ _ _ | exact Below.refl _ _
  · rfl

set_option maxHeartbeats 1000000 in
set_option maxRecDepth 100000 in
theorem key_c {w : World} {b D p lo hi : Nat} {f : Nat → Value × Int} {a : Int} {k : List Int} {c : List Tr} (h : Walker w b f (D + 1)) (hD : D < 6) (hf : f D = (.pointer (some ⟨p, 0, none⟩), a)) (hn : NodeAt w lo hi p (.mk k c)) (ha : 0 ≤ a ∧ a < (k.length : Int)) :
    Calls Tryd.prog 82 #[.pointer (some ⟨b, 0, none⟩)] w fun e w' => e = .returned (.int .i64 (k.getD a.toNat 0)) ∧ Below w.heap.size w w' := by
  have HLW := Lib.hid (lowest_c h hD)
  obtain ⟨C, hx, hC, h12, hat⟩ := h.blk
  obtain ⟨N, rfl⟩ : ∃ N : Nat, a = N := ⟨a.toNat, by omega⟩
  rw [Int.toNat_natCast]
  have hN : N < k.length := by omega
  have hd := hat D (by omega)
  rw [hf] at hd
  have hc1 : C[D * 2]? = some (.pointer (some ⟨p, 0, none⟩)) := by rw [show D * 2 = 2 * D by omega]; exact hd.1
  have hc2 : C[D * 2 + 1]? = some (.int .i64 (N : Int)) := by rw [show D * 2 + 1 = 2 * D + 1 by omega]; exact hd.2
  obtain ⟨ukv, ca, ccap, ps, -, -, hbox, hik, -, -, -, -⟩ := hn.parts
  obtain ⟨ka, kcap, rfl, hk1, hk2, -, hk3⟩ := hik
  unfold maxLen at hk2
  rcases hk3 with h0 | ⟨kb, ko, rfl, -, -, hkc⟩
  · simp [h0] at hN
  have hkN := hkc N hN
  have CE : Hid (∀ wx : World, wx.heap = w.heap → wx.cell? ⟨b, D * 2, none⟩ = some (.pointer (some ⟨p, 0, none⟩)) ∧ wx.cell? ⟨b, D * 2 + 1, none⟩ = some (.int .i64 (N : Int)) ∧ wx.cell? ⟨p, 0, none⟩ = some (.slice (some ⟨kb, ko, none⟩) k.length kcap) ∧ wx.cell? ⟨kb, ko + N, none⟩ = some (.int .i64 (k.getD N 0))) :=
    Lib.hid (fun wx he => by
      refine ⟨?_, ?_, ?_, ?_⟩
      · simp [World.cell?, he, hx, hc1]
      · simp [World.cell?, he, hx, hc2]
      · simp [World.cell?, he, hbox]
      · have e : wx.cell? ⟨kb, ko + N, none⟩ = w.cell? ⟨kb, ko + N, none⟩ := by simp [World.cell?, he]
        rw [e]; exact hkN)
  have hNl : (N : Int) < (k.length : Int) := by omega
  clear h hx hC h12 hat hd hc1 hc2 hbox hkc hkN ha hf hn
  obtain ⟨K, hK⟩ : ∃ K, K = k.getD N 0 := ⟨_, rfl⟩
  rw [← hK] at CE ⊢
  clear hK
  go_enter Tryd.func82, Tryd.ntmps82
  go_wp2_with fail
  refine HLW.out.mono ?_
  rintro e w2 ⟨rfl, hb2, hh⟩
  obtain ⟨x1, x2, x3, x4⟩ := CE.out w2 hh
  have H2 := Lib.hid hb2
  clear hb2 hh
  go_wp2_with fail
  go_quiet (fail)
  go_wp2_with fail
  go_ret
  exact ⟨rfl, H2.out.trans (below_drewN _ _ _)⟩
end Go.Proofs.YtdcifdpkfcgmhaaDoor

/- The program's CursorKey. -/
namespace Go.Proofs.YtdcifdpkfcgmhaaDoor
open Go.RowKit

/-- The key at which a cursor stands. -/
def Tr.curK (t : Tr) (ks : List Int) (a : Int) : Int :=
  if Tr.curB t ks a = true then (match Tr.nodeTo ks t with | some (.mk k _) => k.getD a.toNat 0 | none => 0) else 0
theorem curK_no {t : Tr} {ks : List Int} {a : Int} (h : Tr.curB t ks a = false) : Tr.curK t ks a = 0 := by simp [Tr.curK, h]
theorem curK_at {t : Tr} {ks : List Int} {a : Int} {k : List Int} {c : List Tr} (h : Tr.curB t ks a = true) (hn : Tr.nodeTo ks t = some (.mk k c)) : Tr.curK t ks a = k.getD a.toNat 0 ∧ 0 ≤ a ∧ a < (k.length : Int) ∧ t.someB = true := by
  refine ⟨by simp [Tr.curK, h, hn], ?_⟩
  unfold Tr.curB at h
  rw [hn] at h
  simp only [Bool.and_eq_true, inB, decide_eq_true_eq] at h
  exact ⟨h.2.1, by omega, h.1⟩

set_option maxHeartbeats 2000000 in
set_option maxRecDepth 100000 in
theorem impl_cursorKey {w : World} {B : Nat} {kv cv v : Value} {t : Tr} {ks : List Int} (ht : TreeIn w B kv cv t) (hw : t.weight ≤ 1048576) (hk : IntsIn w B v ks) (a : Int) (s : Addr) (w' : World) (hbw : Below B w w') (hB : B ≤ w'.heap.size)
    (hV : ∀ wx, Below w'.heap.size w' wx → wx.cell? ⟨0, 0, none⟩ = some (.iface 167 (.pointer (some s)))) :
    Calls Tryd.prog 37 #[.agg #[kv, cv], .agg #[v, .int .i64 a]] w' fun e w'' => e = .returned (.tuple #[.int .i64 (Tr.curK t ks a), .bool (Tr.curB t ks a)]) ∧ Below w'.heap.size w' w'' := by
  have HT := Lib.hid ht
  have HK := Lib.hid hk
  obtain ⟨g1, g2, g3, g4, g5, g6, rfl, rfl⟩ := ht.slices
  obtain ⟨va, vcap, rfl, -⟩ := hk
  obtain ⟨W2, hW2⟩ : ∃ W2, W2 = (w'.alloc (.cells #[.slice g1 g2 g3, .slice g4 g5 g6] 33)).alloc (.cells #[.slice va ks.length vcap, .int .i64 a] 28) := ⟨_, rfl⟩
  have hb2 : Below w'.heap.size w' W2 := by rw [hW2]; exact ((Below.refl _ _).alloc (Nat.le_refl _) _).alloc (by simp) _
  have hs2 : w'.heap.size ≤ W2.heap.size := hb2.size
  have k0 : W2.heap[w'.heap.size]? = some (.cells #[.slice g1 g2 g3, .slice g4 g5 g6] 33 (0, 0)) := by rw [hW2, old_blk _ _ _ (by simp), new_blk]
  have k1 : W2.heap[w'.heap.size + 1]? = some (.cells #[.slice va ks.length vcap, .int .i64 a] 28 (0, 0)) := by
    rw [hW2, show w'.heap.size + 1 = (w'.alloc (.cells #[.slice g1 g2 g3, .slice g4 g5 g6] 33)).heap.size by simp, new_blk]
  rw [hW2] at k0 k1
  obtain ⟨x1, x2, x3, x4⟩ := box2 k0
  obtain ⟨y1, y2, y3, y4⟩ := box2 k1
  have HWA := Lib.hid (walkerAt_c HT.out hw HK.out a s W2 (hbw.trans (hb2.mono hB)) (by omega) (fun wx hx => hV wx (hb2.trans (hx.mono hs2))))
  have HB2 := Lib.hid (And.intro hb2 hV)
  have HW2 := Lib.hid hW2
  clear ht hbw hW2 hb2 k0 k1 hV
  go_enter Tryd.func37, Tryd.ntmps37
  go_wp2_with fail
  rw [← HW2.out]
  refine HWA.out.mono ?_
  rintro e w3 ⟨hres, hb3⟩
  have H3 := Lib.hid (HB2.out.1.trans (hb3.mono hs2))
  have xv := HB2.out.2 w3 H3.out
  clear hb3 x1 x2 x3 x4 y1 y2 y3 y4
  rcases hres with ⟨hc, rfl⟩ | ⟨hc, b, f, ⟨uk, uc⟩, p, lo, hi, rfl, hwk, hfp, hnode, hnd, -⟩
  · have HC := Lib.hid (And.intro hc (curK_no hc))
    clear hc
    go_wp2_with fail
    refine (is_same s _).mono ?_
    rintro e w4 ⟨rfl, hw4⟩
    have hw4' := hw4.symm
    subst hw4'
    go_wp2_with fail
    exact bodyPost_ret (v := .tuple #[.int .i64 0, .bool false]) (by simp [results, Tryd.results37]) rfl ⟨by rw [HC.out.1, HC.out.2], H3.out⟩
  · obtain ⟨hk1, ha1, ha2, hsb⟩ := curK_at hc hnode
    have hfew := Tr.nodeTo_few hsb hnode
    have HC := Lib.hid (And.intro hc hk1)
    have HKY := Lib.hid (key_c hwk (by omega) hfp hnd ⟨ha1, ha2⟩)
    clear hc hwk hfp hnode hnd hk1 ha1 ha2 hsb hfew
    go_wp2_with fail
    refine (is_nil s _).mono ?_
    rintro e w4 ⟨rfl, hw4⟩
    have hw4' := hw4.symm
    subst hw4'
    go_wp2_with fail
    refine HKY.out.mono ?_
    rintro e w5 ⟨rfl, hb5⟩
    have H5 := Lib.hid (H3.out.trans (hb5.mono H3.out.size))
    obtain ⟨K, hK⟩ : ∃ K, K = uk.getD a.toNat 0 := ⟨_, rfl⟩
    rw [← hK]
    have HKK := Lib.hid hK
    clear hb5 hK
    go_wp2_with fail
    exact bodyPost_ret (v := .tuple #[.int .i64 K, .bool true]) (by simp [results, Tryd.results37]) rfl ⟨by rw [HC.out.1, HC.out.2, HKK.out], H5.out⟩
end Go.Proofs.YtdcifdpkfcgmhaaDoor

/- Deleting: the key that stands in for one, as plain data. -/
namespace Go.Proofs.YtdcifdpkfcgmhaaDoor
open Go.RowKit

namespace Tr
mutual
/-- The greatest key. -/
def greatest : Tr → Int
  | .mk k cs => if cs.length = 0 then k.getD (k.length - 1) 0 else (greatests cs).getD (cs.length - 1) 0
def greatests : List Tr → List Int
  | [] => []
  | t :: r => greatest t :: greatests r
end
theorem greatests_get (cs : List Tr) (i : Nat) (h : i < cs.length) : (greatests cs).getD i 0 = cs[i].greatest := by
  induction cs generalizing i with
  | nil => simp at h
  | cons t r ih =>
    cases i with
    | zero => simp [greatests]
    | succ i => simpa [greatests] using ih i (by simpa using h)
theorem greatest_leaf {k : List Int} {cs : List Tr} (h : cs.length = 0) : (Tr.mk k cs).greatest = k.getD (k.length - 1) 0 := by
  rw [greatest, if_pos h]
theorem greatest_inner {k : List Int} {cs : List Tr} (h : cs.length - 1 < cs.length) : (Tr.mk k cs).greatest = cs[cs.length - 1].greatest := by
  rw [greatest, if_neg (by omega), greatests_get cs _ h]

mutual
/-- The key that stands in for one, if it is found in a node with kids. -/
def stand (key : Int) : Tr → Int × Bool
  | .mk k cs =>
    if place key k < k.length ∧ k.getD (place key k) 0 = key then (if cs.length = 0 then (0, false) else ((greatests cs).getD (place key k) 0, true))
    else (stands key cs).getD (place key k) (0, false)
def stands (key : Int) : List Tr → List (Int × Bool)
  | [] => []
  | t :: r => stand key t :: stands key r
end
theorem stands_get (key : Int) (cs : List Tr) (i : Nat) (h : i < cs.length) : (stands key cs).getD i (0, false) = cs[i].stand key := by
  induction cs generalizing i with
  | nil => simp at h
  | cons t r ih =>
    cases i with
    | zero => simp [stands]
    | succ i => simpa [stands] using ih i (by simpa using h)
theorem stands_length (key : Int) (cs : List Tr) : (stands key cs).length = cs.length := by
  induction cs with
  | nil => rfl
  | cons t r ih => simp only [stands, List.length_cons, ih]
theorem stand_found {key : Int} {k : List Int} {cs : List Tr} (h : place key k < k.length ∧ k.getD (place key k) 0 = key) (hi : place key k < cs.length) : (Tr.mk k cs).stand key = (cs[place key k].greatest, true) := by
  rw [stand, if_pos h, if_neg (by omega), greatests_get cs _ hi]
theorem stand_leaf {key : Int} {k : List Int} {cs : List Tr} (h : cs.length = 0) : (Tr.mk k cs).stand key = (0, false) := by
  have h2 : (stands key cs).getD (place key k) (0, false) = (0, false) := by
    rw [List.getD_eq_getElem?_getD, List.getElem?_eq_none (by rw [stands_length]; omega)]; rfl
  rw [stand, h2, if_pos h, ite_self]
theorem stand_inner {key : Int} {k : List Int} {cs : List Tr} (h : ¬ (place key k < k.length ∧ k.getD (place key k) 0 = key)) (hi : place key k < cs.length) : (Tr.mk k cs).stand key = cs[place key k].stand key := by
  rw [stand, if_neg h, stands_get key cs _ hi]

/-- The answer to a question that is asked of a tree. -/
def standB (wide key : Int) (t : Tr) : Int × Bool := if t.validB wide = true then t.stand key else (0, false)

/-- A node has a number among its keys, and kids. -/
def hit (key : Int) (t : Tr) : Bool := t.hasAt key && t.inner
theorem way_stand' (key : Int) : ∀ (n : Nat) (t : Tr), t.weight ≤ n → Well t →
    (∀ pre x, pre ++ [x] <+: t.way key → (∀ y ∈ pre, y.hit key = false) → x.hit key = true → t.stand key = x.stand key) ∧
    ((∀ y ∈ t.way key, y.hit key = false) → t.stand key = (0, false)) := by
  intro n
  induction n with
  | zero =>
    rintro ⟨k, cs⟩ hn hw
    simp only [weight] at hn
    have hc : cs.length = 0 := by have := length_le_weights cs; omega
    rw [way_leaf hc]
    refine ⟨fun pre x hp _ _ => ?_, fun _ => stand_leaf hc⟩
    have hxm : x = .mk k cs := by have := hp.subset (by simp : x ∈ pre ++ [x]); simpa using this
    rw [hxm]
  | succ n ih =>
    rintro ⟨k, cs⟩ hn hw
    by_cases hc : cs.length = 0
    · rw [way_leaf hc]
      refine ⟨fun pre x hp _ _ => ?_, fun _ => stand_leaf hc⟩
      have hxm : x = .mk k cs := by have := hp.subset (by simp : x ∈ pre ++ [x]); simpa using this
      rw [hxm]
    · have hcl := Well.inner hw hc
      have hp := place_le key k
      have hi : place key k < cs.length := by omega
      rw [way_inner hi]
      have hwt := weight_get_le cs _ hi
      simp only [weight] at hn
      obtain ⟨ih1, ih2⟩ := ih cs[place key k] (by omega) (Well.kid hw _ hi)
      have hin : inner (.mk k cs) = true := by simp [inner, Tr.cs]; intro h; simp [h] at hc
      have hno : (Tr.mk k cs).hit key = false → ¬ (place key k < k.length ∧ k.getD (place key k) 0 = key) := by
        intro h
        simpa [hit, hin, hasAt, ks] using h
      refine ⟨fun pre x hp hpre hx => ?_, fun h => ?_⟩
      · cases pre with
        | nil =>
          have hxm : x = .mk k cs := by
            obtain ⟨r, hr⟩ := hp
            simp at hr
            exact hr.1
          rw [hxm]
        | cons y pre =>
          obtain ⟨r, hr⟩ := hp
          simp only [List.cons_append, List.cons.injEq] at hr
          obtain ⟨rfl, hr⟩ := hr
          rw [stand_inner (hno (hpre (.mk k cs) (by simp))) hi]
          exact ih1 pre x ⟨r, hr⟩ (fun y hy => hpre y (by simp [hy])) hx
      · rw [stand_inner (hno (h (.mk k cs) (by simp))) hi]
        exact ih2 (fun y hy => h y (by simp [hy]))
theorem way_stand (key : Int) (t : Tr) (hw : Well t) :
    (∀ pre x, pre ++ [x] <+: t.way key → (∀ y ∈ pre, y.hit key = false) → x.hit key = true → t.stand key = x.stand key) ∧
    ((∀ y ∈ t.way key, y.hit key = false) → t.stand key = (0, false)) := way_stand' key t.weight t (Nat.le_refl _) hw

/-- A key that is not found has none. -/
theorem stand_none' (key : Int) : ∀ (n : Nat) (t : Tr), t.weight ≤ n → Well t → (t.path key).2 = false → t.stand key = (0, false) := by
  intro n
  induction n with
  | zero =>
    rintro ⟨k, cs⟩ hn hw _
    simp only [weight] at hn
    exact stand_leaf (by have := length_le_weights cs; omega)
  | succ n ih =>
    rintro ⟨k, cs⟩ hn hw hf
    by_cases hc : cs.length = 0
    · exact stand_leaf hc
    · have hcl := Well.inner hw hc
      have hp := place_le key k
      have hi : place key k < cs.length := by omega
      have hwt := weight_get_le cs _ hi
      simp only [weight] at hn
      by_cases h : place key k < k.length ∧ k.getD (place key k) 0 = key
      · rw [path_found h] at hf; cases hf
      · rw [path_inner h hi] at hf
        rw [stand_inner h hi]
        exact ih _ (by omega) (Well.kid hw _ hi) hf
theorem stand_none (key : Int) (t : Tr) (hw : Well t) (h : (t.path key).2 = false) : t.stand key = (0, false) := stand_none' key t.weight t (Nat.le_refl _) hw h

/-- A step of the path to a key that is found. -/
theorem path_step {key i : Int} {r : List Int} {k : List Int} {cs : List Tr} (h : (Tr.mk k cs).path key = (i :: r, true)) (hw : Well (.mk k cs)) :
    ∃ hi : place key k < cs.length, i = (place key k : Int) ∧ cs[place key k].path key = (r, true) ∧ (Tr.mk k cs).stand key = cs[place key k].stand key := by
  by_cases hf : place key k < k.length ∧ k.getD (place key k) 0 = key
  · rw [path_found hf] at h; simp at h
  · by_cases hc : cs.length = 0
    · rw [path_leaf hf hc] at h; simp at h
    · have hcl := Well.inner hw hc
      have hp := place_le key k
      have hi : place key k < cs.length := by omega
      rw [path_inner hf hi] at h
      simp only [Prod.mk.injEq, List.cons.injEq] at h
      exact ⟨hi, h.1.1.symm, Prod.ext h.1.2 h.2, stand_inner hf hi⟩
/-- Its end. -/
theorem path_end {key : Int} {k : List Int} {cs : List Tr} (h : (Tr.mk k cs).path key = ([], true)) (hw : Well (.mk k cs)) :
    place key k < k.length ∧ k.getD (place key k) 0 = key := by
  by_cases hf : place key k < k.length ∧ k.getD (place key k) 0 = key
  · exact hf
  · by_cases hc : cs.length = 0
    · rw [path_leaf hf hc] at h; simp at h
    · have hcl := Well.inner hw hc
      have hp := place_le key k
      rw [path_inner hf (by omega)] at h
      simp at h

/-- A tree whose nodes are as a valid tree's, with a key at least; one that may be a valid tree's root. -/
def Full (t : Tr) : Prop := ∃ wide least d, 2 ≤ wide ∧ 1 ≤ least ∧ nodesB wide least d t = true
def Tops (t : Tr) : Prop := ∃ wide least d, 2 ≤ wide ∧ nodesB wide least d t = true
theorem Full.tops {t : Tr} (h : Full t) : Tops t := by obtain ⟨w, l, d, h1, _, h3⟩ := h; exact ⟨w, l, d, h1, h3⟩
theorem Tops.kid {k : List Int} {c : List Tr} (h : Tops (.mk k c)) (i : Nat) (hi : i < c.length) : Full c[i] := by
  obtain ⟨w, l, d, h1, hn⟩ := h
  rcases (nodesB_parts hn).2 with ⟨h1, _⟩ | ⟨_, _, _, _, h5⟩
  · omega
  · exact ⟨_, _, _, h1, by omega, h5 i hi⟩
theorem Full.keys {k : List Int} {c : List Tr} (h : Full (.mk k c)) : k.length ≠ 0 := by
  obtain ⟨w, l, d, h1, h2, hn⟩ := h
  have := (nodesB_parts hn).1
  omega
theorem Tops.of_valid {t : Tr} {wide : Int} (h : validB wide t = true) (hw : 2 ≤ wide) : Tops t := by
  unfold validB at h
  simp only [Bool.and_eq_true] at h
  exact ⟨wide, 0, _, hw, h.2.1⟩
theorem someB_valid {t : Tr} {wide : Int} (h : validB wide t = true) : t.someB = true := by
  have h1 : 2 ≤ wide ∧ wide ≤ 6 := by
    have h := h
    unfold validB at h
    simp only [Bool.and_eq_true, inB, decide_eq_true_eq] at h
    exact h.1
  have hq : ((wide.toNat : Nat) : Int) = wide := by omega
  exact (someB_of t).1 wide.toNat (by omega) (by omega) (by rw [hq]; exact h)
theorem way_tops' (c : Int) : ∀ (n : Nat) (t : Tr), t.weight ≤ n → Well t → Tops t → ∀ x ∈ t.way c, Tops x := by
  intro n
  induction n with
  | zero =>
    rintro ⟨k, cs⟩ hn hw ht
    simp only [weight] at hn
    have hc : cs.length = 0 := by have := length_le_weights cs; omega
    rw [way_leaf hc]
    exact fun x hx => by simp at hx; subst hx; exact ht
  | succ n ih =>
    rintro ⟨k, cs⟩ hn hw ht
    by_cases hc : cs.length = 0
    · rw [way_leaf hc]
      exact fun x hx => by simp at hx; subst hx; exact ht
    · have hcl := Well.inner hw hc
      have hp := place_le c k
      have hi : place c k < cs.length := by omega
      rw [way_inner hi]
      have hwt := weight_get_le cs _ hi
      simp only [weight] at hn
      intro x hx
      rcases List.mem_cons.1 hx with rfl | hx
      · exact ht
      · exact ih cs[place c k] (by omega) (Well.kid hw _ hi) (Tops.kid ht _ hi).tops x hx
theorem way_tops (c : Int) (t : Tr) (hw : Well t) (ht : Tops t) : ∀ x ∈ t.way c, Tops x := way_tops' c t.weight t (Nat.le_refl _) hw ht
end Tr
end Go.Proofs.YtdcifdpkfcgmhaaDoor
