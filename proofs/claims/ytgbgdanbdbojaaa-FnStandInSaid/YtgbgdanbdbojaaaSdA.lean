/- The contract of the model's StandIn. -/
import Derived.Test.YtgbgdanbdbojaaaSh0
import Derived.Test.YtgbgdanbdbojaaaSh12
import Derived.Test.YtgbgdanbdbojaaaSh13
import Derived.Test.YtgbgdanbdbojaaaProg
import Derived.Test.YtgbgdanbdbojaaaSh9
import Derived.Test.YtgbgdanbdbojaaaPathSpec
import Derived.Deep.LoopGhost
import Derived.Deep.RegionWith
import Derived.Deep.QuietTactic
import Derived.BigQuiet
import Derived.WalkSmall
import Derived.Test.YtgbgdanbdbojaaaSh15
import Derived.Deep.RegionHeld3

/- Deleting: the key that stands in for one, as plain data. -/
namespace Go.Proofs.Ytgbgdanbdbojaaa
open Go.RowKit

namespace Tr
mutual
/-- The greatest key. -/
def greatest : Tr → Int
  | .mk k cs => if cs.length = 0 then k.getD (k.length - 1) 0 else (greatests cs).getD (cs.length - 1) 0
def greatests : List Tr → List Int
  | [] => []
  | t :: r => greatest t :: greatests r
end
theorem greatests_get (cs : List Tr) (i : Nat) (h : i < cs.length) : (greatests cs).getD i 0 = cs[i].greatest := by
  induction cs generalizing i with
  | nil => simp at h
  | cons t r ih =>
    cases i with
    | zero => simp [greatests]
    | succ i => simpa [greatests] using ih i (by simpa using h)
theorem greatest_leaf {k : List Int} {cs : List Tr} (h : cs.length = 0) : (Tr.mk k cs).greatest = k.getD (k.length - 1) 0 := by
  rw [greatest, if_pos h]
theorem greatest_inner {k : List Int} {cs : List Tr} (h : cs.length - 1 < cs.length) : (Tr.mk k cs).greatest = cs[cs.length - 1].greatest := by
  rw [greatest, if_neg (by omega), greatests_get cs _ h]

mutual
/-- The key that stands in for one, if it is found in a node with kids. -/
def stand (key : Int) : Tr → Int × Bool
  | .mk k cs =>
    if place key k < k.length ∧ k.getD (place key k) 0 = key then (if cs.length = 0 then (0, false) else ((greatests cs).getD (place key k) 0, true))
    else (stands key cs).getD (place key k) (0, false)
def stands (key : Int) : List Tr → List (Int × Bool)
  | [] => []
  | t :: r => stand key t :: stands key r
end
theorem stands_get (key : Int) (cs : List Tr) (i : Nat) (h : i < cs.length) : (stands key cs).getD i (0, false) = cs[i].stand key := by
  induction cs generalizing i with
  | nil => simp at h
  | cons t r ih =>
    cases i with
    | zero => simp [stands]
    | succ i => simpa [stands] using ih i (by simpa using h)
theorem stands_length (key : Int) (cs : List Tr) : (stands key cs).length = cs.length := by
  induction cs with
  | nil => rfl
  | cons t r ih => simp only [stands, List.length_cons, ih]
theorem stand_found {key : Int} {k : List Int} {cs : List Tr} (h : place key k < k.length ∧ k.getD (place key k) 0 = key) (hi : place key k < cs.length) : (Tr.mk k cs).stand key = (cs[place key k].greatest, true) := by
  rw [stand, if_pos h, if_neg (by omega), greatests_get cs _ hi]
theorem stand_leaf {key : Int} {k : List Int} {cs : List Tr} (h : cs.length = 0) : (Tr.mk k cs).stand key = (0, false) := by
  have h2 : (stands key cs).getD (place key k) (0, false) = (0, false) := by
    rw [List.getD_eq_getElem?_getD, List.getElem?_eq_none (by rw [stands_length]; omega)]; rfl
  rw [stand, h2, if_pos h, ite_self]
theorem stand_inner {key : Int} {k : List Int} {cs : List Tr} (h : ¬ (place key k < k.length ∧ k.getD (place key k) 0 = key)) (hi : place key k < cs.length) : (Tr.mk k cs).stand key = cs[place key k].stand key := by
  rw [stand, if_neg h, stands_get key cs _ hi]

/-- The answer to a question that is asked of a tree. -/
def standB (wide key : Int) (t : Tr) : Int × Bool := if t.validB wide = true then t.stand key else (0, false)

/-- A node has a number among its keys, and kids. -/
def hit (key : Int) (t : Tr) : Bool := t.hasAt key && t.inner
theorem way_stand' (key : Int) : ∀ (n : Nat) (t : Tr), t.weight ≤ n → Well t →
    (∀ pre x, pre ++ [x] <+: t.way key → (∀ y ∈ pre, y.hit key = false) → x.hit key = true → t.stand key = x.stand key) ∧
    ((∀ y ∈ t.way key, y.hit key = false) → t.stand key = (0, false)) := by
  intro n
  induction n with
  | zero =>
    rintro ⟨k, cs⟩ hn hw
    simp only [weight] at hn
    have hc : cs.length = 0 := by have := length_le_weights cs; omega
    rw [way_leaf hc]
    refine ⟨fun pre x hp _ _ => ?_, fun _ => stand_leaf hc⟩
    have hxm : x = .mk k cs := by have := hp.subset (by simp : x ∈ pre ++ [x]); simpa using this
    rw [hxm]
  | succ n ih =>
    rintro ⟨k, cs⟩ hn hw
    by_cases hc : cs.length = 0
    · rw [way_leaf hc]
      refine ⟨fun pre x hp _ _ => ?_, fun _ => stand_leaf hc⟩
      have hxm : x = .mk k cs := by have := hp.subset (by simp : x ∈ pre ++ [x]); simpa using this
      rw [hxm]
    · have hcl := Well.inner hw hc
      have hp := place_le key k
      have hi : place key k < cs.length := by omega
      rw [way_inner hi]
      have hwt := weight_get_le cs _ hi
      simp only [weight] at hn
      obtain ⟨ih1, ih2⟩ := ih cs[place key k] (by omega) (Well.kid hw _ hi)
      have hin : inner (.mk k cs) = true := by simp [inner, Tr.cs]; intro h; simp [h] at hc
      have hno : (Tr.mk k cs).hit key = false → ¬ (place key k < k.length ∧ k.getD (place key k) 0 = key) := by
        intro h
        simpa [hit, hin, hasAt, ks] using h
      refine ⟨fun pre x hp hpre hx => ?_, fun h => ?_⟩
      · cases pre with
        | nil =>
          have hxm : x = .mk k cs := by
            obtain ⟨r, hr⟩ := hp
            simp at hr
            exact hr.1
          rw [hxm]
        | cons y pre =>
          obtain ⟨r, hr⟩ := hp
          simp only [List.cons_append, List.cons.injEq] at hr
          obtain ⟨rfl, hr⟩ := hr
          rw [stand_inner (hno (hpre (.mk k cs) (by simp))) hi]
          exact ih1 pre x ⟨r, hr⟩ (fun y hy => hpre y (by simp [hy])) hx
      · rw [stand_inner (hno (h (.mk k cs) (by simp))) hi]
        exact ih2 (fun y hy => h y (by simp [hy]))
theorem way_stand (key : Int) (t : Tr) (hw : Well t) :
    (∀ pre x, pre ++ [x] <+: t.way key → (∀ y ∈ pre, y.hit key = false) → x.hit key = true → t.stand key = x.stand key) ∧
    ((∀ y ∈ t.way key, y.hit key = false) → t.stand key = (0, false)) := way_stand' key t.weight t (Nat.le_refl _) hw

/-- A key that is not found has none. -/
theorem stand_none' (key : Int) : ∀ (n : Nat) (t : Tr), t.weight ≤ n → Well t → (t.path key).2 = false → t.stand key = (0, false) := by
  intro n
  induction n with
  | zero =>
    rintro ⟨k, cs⟩ hn hw _
    simp only [weight] at hn
    exact stand_leaf (by have := length_le_weights cs; omega)
  | succ n ih =>
    rintro ⟨k, cs⟩ hn hw hf
    by_cases hc : cs.length = 0
    · exact stand_leaf hc
    · have hcl := Well.inner hw hc
      have hp := place_le key k
      have hi : place key k < cs.length := by omega
      have hwt := weight_get_le cs _ hi
      simp only [weight] at hn
      by_cases h : place key k < k.length ∧ k.getD (place key k) 0 = key
      · rw [path_found h] at hf; cases hf
      · rw [path_inner h hi] at hf
        rw [stand_inner h hi]
        exact ih _ (by omega) (Well.kid hw _ hi) hf
theorem stand_none (key : Int) (t : Tr) (hw : Well t) (h : (t.path key).2 = false) : t.stand key = (0, false) := stand_none' key t.weight t (Nat.le_refl _) hw h

/-- A step of the path to a key that is found. -/
theorem path_step {key i : Int} {r : List Int} {k : List Int} {cs : List Tr} (h : (Tr.mk k cs).path key = (i :: r, true)) (hw : Well (.mk k cs)) :
    ∃ hi : place key k < cs.length, i = (place key k : Int) ∧ cs[place key k].path key = (r, true) ∧ (Tr.mk k cs).stand key = cs[place key k].stand key := by
  by_cases hf : place key k < k.length ∧ k.getD (place key k) 0 = key
  · rw [path_found hf] at h; simp at h
  · by_cases hc : cs.length = 0
    · rw [path_leaf hf hc] at h; simp at h
    · have hcl := Well.inner hw hc
      have hp := place_le key k
      have hi : place key k < cs.length := by omega
      rw [path_inner hf hi] at h
      simp only [Prod.mk.injEq, List.cons.injEq] at h
      exact ⟨hi, h.1.1.symm, Prod.ext h.1.2 h.2, stand_inner hf hi⟩
/-- Its end. -/
theorem path_end {key : Int} {k : List Int} {cs : List Tr} (h : (Tr.mk k cs).path key = ([], true)) (hw : Well (.mk k cs)) :
    place key k < k.length ∧ k.getD (place key k) 0 = key := by
  by_cases hf : place key k < k.length ∧ k.getD (place key k) 0 = key
  · exact hf
  · by_cases hc : cs.length = 0
    · rw [path_leaf hf hc] at h; simp at h
    · have hcl := Well.inner hw hc
      have hp := place_le key k
      rw [path_inner hf (by omega)] at h
      simp at h

/-- A tree whose nodes are as a valid tree's, with a key at least; one that may be a valid tree's root. -/
def Full (t : Tr) : Prop := ∃ wide least d, 2 ≤ wide ∧ 1 ≤ least ∧ nodesB wide least d t = true
def Tops (t : Tr) : Prop := ∃ wide least d, 2 ≤ wide ∧ nodesB wide least d t = true
theorem Full.tops {t : Tr} (h : Full t) : Tops t := by obtain ⟨w, l, d, h1, _, h3⟩ := h; exact ⟨w, l, d, h1, h3⟩
theorem Tops.kid {k : List Int} {c : List Tr} (h : Tops (.mk k c)) (i : Nat) (hi : i < c.length) : Full c[i] := by
  obtain ⟨w, l, d, h1, hn⟩ := h
  rcases (nodesB_parts hn).2 with ⟨h1, _⟩ | ⟨_, _, _, _, h5⟩
  · omega
  · exact ⟨_, _, _, h1, by omega, h5 i hi⟩
theorem Full.keys {k : List Int} {c : List Tr} (h : Full (.mk k c)) : k.length ≠ 0 := by
  obtain ⟨w, l, d, h1, h2, hn⟩ := h
  have := (nodesB_parts hn).1
  omega
theorem Tops.of_valid {t : Tr} {wide : Int} (h : validB wide t = true) (hw : 2 ≤ wide) : Tops t := by
  unfold validB at h
  simp only [Bool.and_eq_true] at h
  exact ⟨wide, 0, _, hw, h.2.1⟩
theorem someB_valid {t : Tr} {wide : Int} (h : validB wide t = true) : t.someB = true := by
  have h1 : 2 ≤ wide ∧ wide ≤ 6 := by
    have h := h
    unfold validB at h
    simp only [Bool.and_eq_true, inB, decide_eq_true_eq] at h
    exact h.1
  have hq : ((wide.toNat : Nat) : Int) = wide := by omega
  exact (someB_of t).1 wide.toNat (by omega) (by omega) (by rw [hq]; exact h)
theorem way_tops' (c : Int) : ∀ (n : Nat) (t : Tr), t.weight ≤ n → Well t → Tops t → ∀ x ∈ t.way c, Tops x := by
  intro n
  induction n with
  | zero =>
    rintro ⟨k, cs⟩ hn hw ht
    simp only [weight] at hn
    have hc : cs.length = 0 := by have := length_le_weights cs; omega
    rw [way_leaf hc]
    exact fun x hx => by simp at hx; subst hx; exact ht
  | succ n ih =>
    rintro ⟨k, cs⟩ hn hw ht
    by_cases hc : cs.length = 0
    · rw [way_leaf hc]
      exact fun x hx => by simp at hx; subst hx; exact ht
    · have hcl := Well.inner hw hc
      have hp := place_le c k
      have hi : place c k < cs.length := by omega
      rw [way_inner hi]
      have hwt := weight_get_le cs _ hi
      simp only [weight] at hn
      intro x hx
      rcases List.mem_cons.1 hx with rfl | hx
      · exact ht
      · exact ih cs[place c k] (by omega) (Well.kid hw _ hi) (Tops.kid ht _ hi).tops x hx
theorem way_tops (c : Int) (t : Tr) (hw : Well t) (ht : Tops t) : ∀ x ∈ t.way c, Tops x := way_tops' c t.weight t (Nat.le_refl _) hw ht
end Tr
end Go.Proofs.Ytgbgdanbdbojaaa

/- The contract of the model's l4Greatest: the greatest key of a tree. -/
namespace Go.Proofs.Ytgbgdanbdbojaaa
open Go.RowKit

set_option maxRecDepth 100000 in
set_option maxHeartbeats 4000000 in
theorem specGreatest_c {w : World} {B : Nat} {kv cv : Value} {t : Tr} (ht : TreeIn w B kv cv t) (hf : Tr.Full t) (hw : t.weight ≤ 1048576) (w' : World) (hbw : Below B w w') (hB : B ≤ w'.heap.size) :
    Calls Try.prog 63 #[.agg #[kv, cv]] w' fun e w'' => e = .returned (.int .i64 t.greatest) ∧ Below w'.heap.size w' w'' := by
  obtain ⟨a5, n5, m5, a6, n6, m6, rfl, rfl⟩ := ht.slices
  obtain ⟨W1, hW1⟩ : ∃ W1, W1 = w'.alloc (.cells #[.slice a5 n5 m5, .slice a6 n6 m6] 26) := ⟨_, rfl⟩
  have hs1 : W1.heap.size = w'.heap.size + 1 := by rw [hW1]; simp
  have hb1 : Below w'.heap.size w' W1 := by rw [hW1]; exact (Below.refl _ _).alloc (Nat.le_refl _) _
  have kb : W1.heap[w'.heap.size]? = some (.cells #[.slice a5 n5 m5, .slice a6 n6 m6] 26 (0, 0)) := by rw [hW1, new_blk]
  have HT := Lib.hid ht
  have HBW := Lib.hid hbw
  have HW1 := Lib.hid hW1
  have H1 := Lib.hid (And.intro hb1 kb)
  have HF := Lib.hid hf
  clear ht hbw hW1 hb1 kb hf
  go_enter Try.func63, Try.ntmps63
  go_wp2_with fail
  rw [← HW1.out]
  go_loopg [] t.weight (fun k wr => ∃ (tr : Tr) (kvr cvr : Value), wr.heap[w'.heap.size]? = some (.cells #[kvr, cvr] 26 (0, 0)) ∧ TreeIn w B kvr cvr tr ∧ Tr.Full tr ∧
    tr.weight ≤ k ∧ tr.greatest = t.greatest ∧ Below w'.heap.size w' wr ∧ tr.weight ≤ 1048576)
  case atStart => exact ⟨t, _, _, H1.out.2, HT.out, HF.out, Nat.le_refl _, rfl, H1.out.1, hw⟩
  case round =>
    obtain ⟨tr, kvr, cvr, hbox, htr, hfl, hk, hgr, hbel, hwt⟩ := hrel
    cases tr with
    | mk ks cs =>
    obtain ⟨a, cap, kvs, cvs, rfl, hki, hlen, hcap, hat, hkids⟩ := htr.parts
    obtain ⟨ka, kcap, rfl, k1, k2, k3, k4⟩ := hki
    have hsr := hbel.size
    have hlt := (Array.getElem?_eq_some_iff.1 hbox).1
    have hBr : Below B w wr := HBW.out.trans (hbel.mono hB)
    have hkn := hfl.keys
    have hki4 : IntsIn wr B (.slice ka ks.length kcap) ks := IntsIn.later ⟨ka, kcap, rfl, k1, k2, k3, k4⟩ hBr (Nat.le_refl _)
    unfold maxLen at k2 hcap
    have hl0 := Tr.length_le_weights cs
    have hwt' := hwt
    simp only [Tr.weight] at hwt'
    cases hcl : cs.length with
    | zero =>
      obtain ⟨m, hm⟩ : ∃ m, ks.length = m + 1 := ⟨ks.length - 1, by omega⟩
      have hg := Tr.greatest_leaf (k := ks) hcl
      rw [hm, Nat.add_sub_cancel] at hg
      obtain ⟨_, _, hv, _, _, _, h⟩ := hki4
      injection hv with e1 _ e3
      subst e1 e3
      rcases h with h | ⟨b, off, rfl, hb, hat4⟩
      · exact absurd (by rw [h]; rfl) hkn
      have ha' : wr.cell? ⟨b, off + m, none⟩ = some (.int .i64 (ks.getD m 0)) := hat4 m (by omega)
      rw [← hg, hgr] at ha'
      rw [hm, hcl] at hbox
      rw [hm] at k1
      have HBEL := Lib.hid hbel
      obtain ⟨x1, x2, x3, x4⟩ := box2 hbox
      clear hat4 hg hat hkids htr hfl hk hbel hgr hBr hbox k4 hm hkn hwt hwt' hl0 hcl
      go_wp2_with fail
      go_ret
      exact ⟨rfl, HBEL.out⟩
    | succ m =>
      have hic : m < cs.length := by omega
      have hgi := Tr.greatest_inner (k := ks) (cs := cs) (by omega)
      obtain ⟨ka5, kn5, kc5, ca5, cn5, cc5, hkv5, hcv5⟩ := (hkids m hic).slices
      rcases hat with h | ⟨kb5, ko5, rfl, hkb5, hkat5⟩
      · omega
      have hka := (hkat5 m hic).1
      have hkc := (hkat5 m hic).2
      rw [hkv5] at hka
      rw [hcv5] at hkc
      have z1 := (below_cell hBr hkb5).trans hka
      have z2 := (below_cell hBr hkb5).trans hkc
      have hgm : cs[m].greatest = t.greatest := by
        rw [← hgr, hgi]; congr 1; simp [hcl]
      rw [hcl] at hbox hlen
      obtain ⟨x1, x2, x3, x4⟩ := box2 hbox
      have HKV5 := Lib.hid (And.intro hkv5 hcv5)
      have HR := Lib.hid (And.intro hbox (And.intro hkids (And.intro hfl (And.intro hk (And.intro hbel (And.intro hgm hBr))))))
      have HCL := Lib.hid hcl
      clear hka hkc hkat5 hkv5 hcv5 hbox hkids hfl hk hbel hgm hBr hgi hgr htr hki4 k4 hcl
      go_wp2_with fail
      go_roundg cs[m].weight
      case measure => have h := HR.out.2.2.2.1; simp only [Tr.weight] at h; have := Tr.weight_get_le cs m hic; omega
      case rel =>
        refine ⟨cs[m], _, _, set_blk _ (set_blk _ HR.out.1), ?_, Tr.Tops.kid HR.out.2.2.1.tops m hic, Nat.le_refl _, HR.out.2.2.2.2.2.1, ?_, ?_⟩
        · rw [← HKV5.out.1, ← HKV5.out.2]; exact HR.out.2.1 m hic
        · exact (HR.out.2.2.2.2.1.setCell (Nat.le_refl _) _).setCell (Nat.le_refl _) _
        · have := Tr.weight_get_le cs m hic; omega
end Go.Proofs.Ytgbgdanbdbojaaa

/- The contract of the model's StandIn. -/
namespace Go.Proofs.Ytgbgdanbdbojaaa
open Go.RowKit

set_option maxRecDepth 100000 in
set_option maxHeartbeats 1000000 in
theorem l4Asked_c {w : World} {B : Nat} {kv cv : Value} {t : Tr} (ht : TreeIn w B kv cv t) (hw : t.weight ≤ 1048576) (wide key : Int) (w' : World) (hbw : Below B w w') (hB : B ≤ w'.heap.size) :
    Calls Try.prog 61 #[.agg #[kv, cv], .int .i64 wide, .int .i64 key] w' fun e w'' => e = .returned (.bool (t.validB wide && (t.pathB key).2)) ∧ Below w'.heap.size w' w'' := by
  have HBW := Lib.hid hbw
  obtain ⟨a1, n1, c1, a2, n2, c2, rfl, rfl⟩ := ht.slices
  obtain ⟨W1, hW1⟩ : ∃ W1, W1 = w'.alloc (.cells #[.slice a1 n1 c1, .slice a2 n2 c2] 26) := ⟨_, rfl⟩
  have hs1 : W1.heap.size = w'.heap.size + 1 := by rw [hW1]; simp
  have hb1 : Below w'.heap.size w' W1 := by rw [hW1]; exact (Below.refl _ _).alloc (Nat.le_refl _) _
  have kb : W1.heap[w'.heap.size]? = some (.cells #[.slice a1 n1 c1, .slice a2 n2 c2] 26 (0, 0)) := by rw [hW1, new_blk]
  have HW1 := Lib.hid hW1
  have H1 := Lib.hid (And.intro hb1 kb)
  obtain ⟨x1, x2, x3, x4⟩ := box2 kb
  clear hW1 hb1 kb hbw
  go_enter Try.func61, Try.ntmps61
  go_wp2_with fail
  rw [← HW1.out]
  refine (specTreeValid_c ht hw wide W1 (HBW.out.trans (H1.out.1.mono hB)) (by omega)).mono ?_
  rintro e w2 ⟨rfl, hb2⟩
  have hs2 := hb2.size
  clear x1 x2 x3 x4
  have j0 := (hb2.block _ (by omega)).trans H1.out.2
  obtain ⟨x1, x2, x3, x4⟩ := box2 j0
  have H2 := Lib.hid (H1.out.1.trans (hb2.mono (by omega)))
  clear hb2 j0
  cases hv : t.validB wide with
  | false =>
    have HV := Lib.hid hv
    clear hv
    go_wp2_with fail
    go_ret
    exact ⟨ret_bool (by rw [HV.out]; rfl), H2.out⟩
  | true =>
    have HV := Lib.hid hv
    clear hv
    go_wp2_with fail
    refine (specHasKey_c ht hw key w2 (HBW.out.trans (H2.out.mono hB)) (by omega)).mono ?_
    rintro e w3 ⟨rfl, hb3⟩
    have H3 := Lib.hid (H2.out.trans (hb3.mono (by omega)))
    clear hb3
    go_wp2_with fail
    go_ret
    exact ⟨ret_bool (by rw [HV.out, Bool.true_and]), H3.out⟩

theorem ret_sb {a a' : Int} {b b' : Bool} (h : a = a') (h2 : b = b') : Ending.returned (.tuple #[.int .i64 a, .bool b]) = .returned (.tuple #[.int .i64 a', .bool b']) := by rw [h, h2]

set_option maxRecDepth 100000 in
set_option maxHeartbeats 4000000 in
theorem specStandIn_c {w : World} {B : Nat} {kv cv : Value} {t : Tr} (ht : TreeIn w B kv cv t) (hw : t.weight ≤ 1048576) (wide key : Int) (w' : World) (hbw : Below B w w') (hB : B ≤ w'.heap.size) :
    Calls Try.prog 29 #[.agg #[kv, cv], .int .i64 wide, .int .i64 key] w' fun e w'' => e = .returned (.tuple #[.int .i64 (t.standB wide key).1, .bool (t.standB wide key).2]) ∧ Below w'.heap.size w' w'' := by
  have HBW := Lib.hid hbw
  obtain ⟨a1, n1, c1, a2, n2, c2, rfl, rfl⟩ := ht.slices
  obtain ⟨W1, hW1⟩ : ∃ W1, W1 = w'.alloc (.cells #[.slice a1 n1 c1, .slice a2 n2 c2] 26) := ⟨_, rfl⟩
  have hs1 : W1.heap.size = w'.heap.size + 1 := by rw [hW1]; simp
  have hb1 : Below w'.heap.size w' W1 := by rw [hW1]; exact (Below.refl _ _).alloc (Nat.le_refl _) _
  have kb : W1.heap[w'.heap.size]? = some (.cells #[.slice a1 n1 c1, .slice a2 n2 c2] 26 (0, 0)) := by rw [hW1, new_blk]
  have HW1 := Lib.hid hW1
  have H1 := Lib.hid (And.intro hb1 kb)
  have HT := Lib.hid ht
  obtain ⟨x1, x2, x3, x4⟩ := box2 kb
  clear hW1 hb1 kb hbw ht
  go_enter Try.func29, Try.ntmps29
  go_wp2_with fail
  rw [← HW1.out]
  refine (l4Asked_c HT.out hw wide key W1 (HBW.out.trans (H1.out.1.mono hB)) (by omega)).mono ?_
  rintro e w2 ⟨rfl, hb2⟩
  have hs2 := hb2.size
  clear x1 x2 x3 x4
  have j0 := (hb2.block _ (by omega)).trans H1.out.2
  obtain ⟨x1, x2, x3, x4⟩ := box2 j0
  have H2 := Lib.hid (And.intro (H1.out.1.trans (hb2.mono (by omega))) j0)
  clear hb2 j0
  have hno : (t.validB wide && (t.pathB key).2) = false → t.standB wide key = (0, false) := by
    intro h
    unfold Tr.standB
    split
    · next hv =>
      rw [hv, Bool.true_and] at h
      have hsome := Tr.someB_valid hv
      rw [(someB_path key t).1 hsome] at h
      exact Tr.stand_none key t (Tr.Well.of_some hsome) h
    · rfl
  cases hv : (t.validB wide && (t.pathB key).2) with
  | false =>
    have HP := Lib.hid (hno hv)
    clear hno hv
    go_wp2_with fail
    go_ret2
    exact ⟨ret_sb (by rw [HP.out]) (by rw [HP.out]), H2.out.1⟩
  | true =>
    clear hno
    rw [Bool.and_eq_true] at hv
    obtain ⟨hv1, hv2⟩ := hv
    have hsome := Tr.someB_valid hv1
    have hpath := (someB_path key t).1 hsome
    rw [hpath] at hv2
    have hstd : t.standB wide key = t.stand key := by unfold Tr.standB; rw [if_pos hv1]
    have hw2 : 2 ≤ wide := by
      have h := hv1
      unfold Tr.validB at h
      simp only [Bool.and_eq_true, inB, decide_eq_true_eq] at h
      exact h.1.1
    have htop := Tr.Tops.of_valid hv1 hw2
    have hwell := Tr.Well.of_some hsome
    obtain ⟨P, hP⟩ : ∃ P, P = (t.path key).1 := ⟨_, rfl⟩
    have hpt : t.path key = (P, true) := Prod.ext hP.symm hv2
    have hpl := Tr.path_len key t
    rw [← hP] at hpl
    have HPATH := Lib.hid (And.intro hpath hpt)
    have HSTD := Lib.hid hstd
    have HTW := Lib.hid (And.intro htop hwell)
    clear hv1 hv2 hsome hpath hstd htop hwell hpt hP hw2
    go_wp2_with fail
    refine (specPathOf_c HT.out hw key w2 (HBW.out.trans (H2.out.1.mono hB)) (by omega)).mono ?_
    rintro e w3 ⟨v, rfl, hown, hb3⟩
    rw [HPATH.out.1, HPATH.out.2] at hown
    dsimp only at hown
    obtain ⟨va, vc, rfl⟩ := IntsOwn.shown hown
    have hs3 := hb3.size
    have j0 := (hb3.block _ (by omega)).trans H2.out.2
    have H3 := Lib.hid (And.intro (H2.out.1.trans (hb3.mono (by omega))) (And.intro j0 hown))
    clear x1 x2 x3 x4 hb3 j0 hown
    go_wp2_with fail
    go_loopw [11, 25] (fun s11 i wr => ∃ (j : Nat) (tr : Tr) (kvr cvr : Value), j ≤ P.length ∧ i = .int .i64 j ∧ wr.heap[w'.heap.size]? = some (.cells #[kvr, cvr] 26 (0, 0)) ∧ TreeIn w B kvr cvr tr ∧ Tr.Well tr ∧ Tr.Tops tr ∧ tr.weight ≤ 1048576 ∧
      tr.path key = (P.drop j, true) ∧ tr.stand key = t.stand key ∧ Below w'.heap.size w' wr ∧ IntsOwn wr w2.heap.size (.slice va P.length vc) P) (fun _ i _ => P.length - (intOf i).toNat)
    case atStart => exact ⟨0, t, _, _, Nat.zero_le _, rfl, H3.out.2.1, HT.out, HTW.out.2, HTW.out.1, hw, HPATH.out.2, rfl, H3.out.1, H3.out.2.2⟩
    case round =>
      obtain ⟨j, tr, kvr, cvr, hj, rfl, hbox, htr, hwl, htp, hwt, hpt, hst, hbel, hown⟩ := hrel
      cases tr with
      | mk ks cs =>
      obtain ⟨a, cap, kvs, cvs, rfl, hki, hlen, hcap, hat, hkids⟩ := htr.parts
      have hsr := hbel.size
      have hlt := (Array.getElem?_eq_some_iff.1 hbox).1
      have hBr : Below B w wr := HBW.out.trans (hbel.mono hB)
      by_cases hjl : j < P.length
      · rw [List.drop_eq_getElem_cons hjl] at hpt
        obtain ⟨hi, hpj, hpt2, hst2⟩ := Tr.path_step hpt hwl
        have hin := IntsOwn.in hown
        obtain ⟨_, _, hv, _, _, _, h⟩ := hin
        injection hv with e1 _ e3
        subst e1 e3
        rcases h with h | ⟨pb, po, rfl, hb, hat4⟩
        · rw [h] at hjl; simp at hjl
        have ha' : wr.cell? ⟨pb, po + j, none⟩ = some (.int .i64 (P.getD j 0)) := hat4 j hjl
        rw [List.getD_eq_getElem?_getD, List.getElem?_eq_getElem hjl, Option.getD_some, hpj] at ha'
        obtain ⟨i, hie⟩ : ∃ i, i = place key ks := ⟨_, rfl⟩
        rw [← hie] at ha'
        have hic : i < cs.length := by omega
        obtain ⟨ka5, kn5, kc5, ca5, cn5, cc5, hkv5, hcv5⟩ := (hkids i hic).slices
        rcases hat with h | ⟨kb5, ko5, rfl, hkb5, hkat5⟩
        · omega
        have hka := (hkat5 i hic).1
        have hkc := (hkat5 i hic).2
        rw [hkv5] at hka
        rw [hcv5] at hkc
        have z1 := (below_cell hBr hkb5).trans hka
        have z2 := (below_cell hBr hkb5).trans hkc
        obtain ⟨x1, x2, x3, x4⟩ := box2 hbox
        have hic' : (i : Int) < (cs.length : Int) := by omega
        have hjl' : (j : Int) < (P.length : Int) := by omega
        have hwk := Tr.weight_get_le cs i hic
        simp only [Tr.weight] at hwt
        have hpt3 : cs[i].path key = (P.drop (j + 1), true) := by subst hie; exact hpt2
        have hst3 : cs[i].stand key = t.stand key := by subst hie; rw [← hst2, hst]
        have HR := Lib.hid (And.intro hbox (And.intro (And.intro hkv5 hcv5) (And.intro (hkids i hic) (And.intro (Tr.Well.kid hwl i hic) (And.intro (Tr.Tops.kid htp i hic).tops (And.intro hpt3 (And.intro hst3 (And.intro hbel hown))))))))
        clear hat4 hka hkc hkat5 hkv5 hcv5 hbox hkids hwl htp hpt3 hst3 hbel hown hpt hpt2 hst hst2 hpj htr hki hBr hb hie
        unfold maxLen at hcap
        go_wp2_with fail
        go_roundw
        case measure => simp [intOf]; omega
        case rel =>
          refine ⟨j + 1, cs[i], _, _, by omega, by simp, set_blk _ (set_blk _ HR.out.1), ?_, HR.out.2.2.2.1, HR.out.2.2.2.2.1, by omega, HR.out.2.2.2.2.2.1, HR.out.2.2.2.2.2.2.1, ?_, ?_⟩
          · rw [← HR.out.2.1.1, ← HR.out.2.1.2]; exact HR.out.2.2.1
          · exact (HR.out.2.2.2.2.2.2.2.1.setCell (Nat.le_refl _) _).setCell (Nat.le_refl _) _
          · exact ownsRow_same HR.out.2.2.2.2.2.2.2.2 (fun k _ h => by rw [set_other _ _ _ _ _ (by omega), set_other _ _ _ _ _ (by omega)])
      · have hje : j = P.length := by omega
        rw [hje, List.drop_length] at hpt
        have hfd := Tr.path_end hpt hwl
        have hjl' : ¬ (j : Int) < (P.length : Int) := by omega
        cases hcl : cs.length with
        | zero =>
          have hsl := Tr.stand_leaf (key := key) (k := ks) hcl
          rw [hst] at hsl
          rw [hcl] at hbox
          obtain ⟨x1, x2, x3, x4⟩ := box2 hbox
          have HR := Lib.hid (And.intro hbel hsl)
          clear hbel hsl hbox hst hfd hpt hown hkids hat htp hwl htr hki hBr hcl
          go_wp2_with fail
          go_ret2
          exact ⟨ret_sb (by rw [HSTD.out, HR.out.2]) (by rw [HSTD.out, HR.out.2]), HR.out.1⟩
        | succ m =>
          have hcl2 := Tr.Well.inner hwl (by omega)
          obtain ⟨x1, x2, x3, x4⟩ := box2 hbox
          obtain ⟨i, hie⟩ : ∃ i, i = place key ks := ⟨_, rfl⟩
          have hic : i < cs.length := by omega
          have hsf := Tr.stand_found (key := key) (k := ks) (cs := cs) hfd (by omega)
          have hsi : t.stand key = (cs[i].greatest, true) := by subst hie; rw [← hst, hsf]
          obtain ⟨ka5, kn5, kc5, ca5, cn5, cc5, hkv5, hcv5⟩ := (hkids i hic).slices
          rcases hat with h | ⟨kb5, ko5, rfl, hkb5, hkat5⟩
          · omega
          have hka := (hkat5 i hic).1
          have hkc := (hkat5 i hic).2
          rw [hkv5] at hka
          rw [hcv5] at hkc
          have hki4 := hki.later hBr (Nat.le_refl _)
          have hkid := hkids i hic
          rw [hkv5, hcv5] at hkid
          have hwk := Tr.weight_get_le cs i hic
          simp only [Tr.weight] at hwt
          have hic' : (i : Int) < (cs.length : Int) := by omega
          have hne : ((cs.length : Int) == 0) = false := by rw [beq_eq_false_iff_ne]; omega
          have HR := Lib.hid (And.intro hbox (And.intro hbel (And.intro hsi (And.intro hki4 (And.intro hkid (And.intro (Tr.Tops.kid htp i hic) (And.intro hBr (And.intro hka (And.intro hkc (And.intro hkb5 hie))))))))))
          obtain ⟨kva, kvc, rfl, k1, k2, k3, k4⟩ := hki
          clear hka hkc hkat5 hkv5 hcv5 hbox hkids hbel hsi hki4 hkid htp hBr hie hst hsf hfd hpt hown hwl htr k4 hcl
          unfold maxLen at hcap k2
          go_wp2_with fail
          have hwn : cs[i].weight ≤ 1048576 := by omega
          have hi0 : (0 : Int) ≤ (i : Int) := by omega
          have z1 := (below_cell HR.out.2.2.2.2.2.2.1 HR.out.2.2.2.2.2.2.2.2.2.1).trans HR.out.2.2.2.2.2.2.2.1
          have z2 := (below_cell HR.out.2.2.2.2.2.2.1 HR.out.2.2.2.2.2.2.2.2.2.1).trans HR.out.2.2.2.2.2.2.2.2.1
          go_region_with
            (first
            | (go_at_call 64; refine (l2Place_c _ B (HR.out.2.2.2.1.later (C := w'.heap.size) ((Below.refl _ _).drew) (by omega)) key).mono ?_; rintro e w8 ⟨rfl, hb8⟩; rw [← HR.out.2.2.2.2.2.2.2.2.2.2]; have hs8 := hb8.size; have y0 := (hb8.block w'.heap.size (by simp; omega)).trans HR.out.1; obtain ⟨y1, y2, y3, y4⟩ := box2 y0; have hb8' := HR.out.2.1.drew.trans (hb8.mono (by simp; omega)); have hB8 : Below B w w8 := HBW.out.trans (hb8'.mono hB); have v1 := (below_cell hB8 HR.out.2.2.2.2.2.2.2.2.2.1).trans HR.out.2.2.2.2.2.2.2.1; have v2 := (below_cell hB8 HR.out.2.2.2.2.2.2.2.2.2.1).trans HR.out.2.2.2.2.2.2.2.2.1; have HS8 : Hid (w'.heap.size + 1 ≤ w8.heap.size) := Lib.hid (by simp at hs8; omega); have H8 := Lib.hid (And.intro hb8' (And.intro hB8 y0)); clear hb8 hb8' hB8 y0 hs8)
            | (go_at_call 63; refine (specGreatest_c HR.out.2.2.2.2.1 HR.out.2.2.2.2.2.1 hwn _ H8.out.2.1 (by have := HS8.out; omega)).mono ?_; rintro e w9 ⟨rfl, hb9⟩; obtain ⟨u1, u2, u3, u4⟩ := box2 ((hb9.block w'.heap.size (by have := HS8.out; omega)).trans H8.out.2.2); have hB9 : Below B w _ := H8.out.2.1.trans (hb9.mono (by have := HS8.out; omega)); have v3 := (below_cell hB9 HR.out.2.2.2.2.2.2.2.2.2.1).trans HR.out.2.2.2.2.2.2.2.1; have v4 := (below_cell hB9 HR.out.2.2.2.2.2.2.2.2.2.1).trans HR.out.2.2.2.2.2.2.2.2.1; have H9 := Lib.hid (H8.out.1.trans (hb9.mono (by have := HS8.out; omega))); clear hb9))
          all_goals (
            go_wp2_with fail
            go_ret2
            exact ⟨ret_sb (by rw [HSTD.out, HR.out.2.2.1]) (by rw [HSTD.out, HR.out.2.2.1]), H9.out⟩)
end Go.Proofs.Ytgbgdanbdbojaaa
