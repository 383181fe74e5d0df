/- The model's l3Cut. -/
import Derived.Test.YtananonjomfpkaaQf22
import Derived.Deep.RegionLawGrows
namespace Go.Proofs.Ytananonjomfpkaa
open Go.RowKit
def SplitIn (w : World) (Q : Nat → Prop) (v : Value) (wide : Int) (u : Tr) (n : Nat) : Prop :=
 ∃ (lk lc rk rc : Value) (mid : Int) (cnt : Nat), v = splitV lk lc mid rk rc (decide (wide < (u.ks.length : Int))) cnt ∧ (∃ a n c a' n' c', lk = .slice a n c ∧ lc = .slice a' n' c') ∧ (∃ a n c a' n' c', rk = .slice a n c ∧ rc = .slice a' n' c') ∧
   (wide < (u.ks.length : Int) → TreeP w Q lk lc u.leftOf ∧ TreeP w Q rk rc u.rightOf ∧ mid = u.midOf ∧ cnt = n + 1) ∧ (¬ wide < (u.ks.length : Int) → TreeP w Q lk lc u ∧ cnt = n)
def sl4 (i : Nat) : Nat := if i = 11 then 8 else if i = 12 then 9 else 22 + i
theorem sl4_inj (i j : Nat) (hi : i < 13) (hj : j < 13) (h : sl4 i = sl4 j) : i = j := by
 unfold sl4 at h
 split at h <;> split at h <;> (try split at h) <;> (try split at h) <;> omega
def LeafJ (s1 : Nat) (ks : List Int) (v : Value) (W : World) : Prop := ∃ (a : Option Addr) (n c g : Nat), v = .agg #[.slice a n c, .slice (some ⟨g, 0, none⟩) 0 0] ∧ IntsR W s1 W.heap.size (.slice a n c) ks ∧ W.heap[g]? = some (.cells #[] 26 (0, 0))
theorem LeafJ.mono {s1 : Nat} {ks : List Int} {v : Value} {W W' : World} (h : LeafJ s1 ks v W) (hb : Below W.heap.size W W') : LeafJ s1 ks v W' := by
 obtain ⟨a, n, c, g, h1, h2, h3⟩ := h
 exact ⟨a, n, c, g, h1, (h2.same (fun k _ h => hb.block k h)).widen (Nat.le_refl _) hb.size, (hb.block _ (Array.getElem?_eq_some_iff.1 h3).1).trans h3⟩
def J4 (bt s1 : Nat) (k : List Int) (m : Nat) (ka : Option Addr) (kcap kb ko : Nat) (j : Nat) (v : Value) (W : World) : Prop :=
 match j with
 | 0 => v = .pointer (some ⟨bt, 0, none⟩)
 | 1 => v = .slice ka k.length kcap
 | 2 => v = .int .i64 (m : Int)
 | 3 => v = .slice ka m kcap
 | 4 => LeafJ s1 (k.take m) v W
 | 5 => v = .pointer (some ⟨bt, 0, none⟩)
 | 6 => v = .slice ka k.length kcap
 | 7 => v = .int .i64 (m : Int)
 | 8 => v = .int .i64 ((m : Int) + 1)
 | 9 => v = .slice (some ⟨kb, ko + (m + 1), none⟩) (k.length - (m + 1)) (kcap - (m + 1))
 | 10 => LeafJ s1 (k.drop (m + 1)) v W
 | 11 => ∃ p, v = .pointer (some ⟨p, 0, none⟩) ∧ W.heap[p]? = some (.cells #[.slice none 0 0, .slice none 0 0] 26 (0, 0)) ∧ s1 ≤ p
 | 12 => ∃ p, v = .pointer (some ⟨p, 0, none⟩) ∧ W.heap[p]? = some (.cells #[.slice none 0 0, .slice none 0 0] 26 (0, 0)) ∧ s1 ≤ p
 | _ => True
theorem J4_mono {bt s1 : Nat} {k : List Int} {m : Nat} {ka : Option Addr} {kcap kb ko : Nat} (j : Nat) (v : Value) (W W' : World) (h : J4 bt s1 k m ka kcap kb ko j v W) (hb : Below W.heap.size W W') : J4 bt s1 k m ka kcap kb ko j v W' := by
 unfold J4 at h ⊢
 split at h
 all_goals first
   | exact h
   | exact h.mono hb
   | (obtain ⟨p, h1, h2, h3⟩ := h; exact ⟨p, h1, (hb.block _ (Array.getElem?_eq_some_iff.1 h2).1).trans h2, h3⟩)
   | trivial
theorem IntsR.beside {W W' : World} {lo B bl br : Nat} {v : Value} {ks : List Int} {x1 x2 y1 y2 : Option Addr} {n1 c1 n2 c2 n3 c3 n4 c4 : Nat} {t : TypeId} (h : IntsR W lo B v ks)
   (hbl : W.heap[bl]? = some (.cells #[.slice x1 n1 c1, .slice x2 n2 c2] t (0, 0))) (hbr : W.heap[br]? = some (.cells #[.slice y1 n3 c3, .slice y2 n4 c4] t (0, 0)))
   (ho : ∀ q, lo ≤ q → q < B → q ≠ bl → q ≠ br → W'.heap[q]? = W.heap[q]?) : IntsR W' lo B v ks := by
 obtain ⟨a, cap, hv, h1, h2, h3, h4⟩ := h
 refine ⟨a, cap, hv, h1, h2, h3, ?_⟩
 rcases h4 with h4 | ⟨b, o, e, h45, h5, h6⟩
 · exact .inl h4
 · by_cases hk : ks = []
   · exact .inl hk
   · have h0 := h6 0 (by cases ks <;> simp_all)
     have no : ∀ {p : Nat} {u1 u2 : Option Addr} {m1 d1 m2 d2 : Nat}, W.heap[p]? = some (.cells #[.slice u1 m1 d1, .slice u2 m2 d2] t (0, 0)) → b ≠ p := fun hp e => by
       subst e
       simp only [World.cell?, hp] at h0
       rcases Nat.lt_or_ge (o + 0) 2 with hlt | hge
       · have e : o = 0 ∨ o = 1 := by omega
         rcases e with rfl | rfl <;> simp at h0
       · simp at h0
         rw [List.getElem?_eq_none (by simp; omega)] at h0
         cases h0
     exact .inr ⟨b, o, e, h45, h5, fun i hi => by
       have : W'.heap[b]? = W.heap[b]? := ho b h45 h5 (no hbl) (no hbr)
       rw [World.cell?_of_block (w := W) (a := ⟨b, o + i, none⟩) this]; exact h6 i hi⟩
def Cut (w : World) (P : Nat → Prop) (wide : Int) (r : Tr × Nat) (e : Ending) (w' : World) : Prop := ∃ v, e = .returned v ∧ SplitIn w' (fun q => P q ∨ (w.heap.size + 2 ≤ q ∧ q < w'.heap.size)) v wide r.1 r.2 ∧ Below w.heap.size w w'
theorem IntsR.p {w : World} {Q : Nat → Prop} {lo hi : Nat} {v : Value} {ks : List Int} (h : IntsR w lo hi v ks) (hq : ∀ k, lo ≤ k → k < hi → Q k) : IntsP w Q v ks := by
 obtain ⟨a, cap, hv, h1, h2, hnl, h3⟩ := h
 refine ⟨a, cap, hv, h1, h2, hnl, ?_⟩
 rcases h3 with h3 | ⟨b, o, h3, h4, h5, h6⟩
 · exact .inl h3
 · exact .inr ⟨b, o, h3, hq b h4 h5, h6⟩
theorem drew_heap (W : World) : W.drew.heap = W.heap := rfl
theorem seven {w : World} {b : Nat} {o0 o1 o2 o3 o4 o5 o6 : Value} {t : TypeId} (h : w.heap[b]? = some (.cells #[o0, o1, o2, o3, o4, o5, o6] t (0, 0))) (v0 v1 v2 v3 v4 v5 v6 : Value) :
   (((((((w.setCell ⟨b, 0, none⟩ v0).setCell ⟨b, 1, none⟩ v1).setCell ⟨b, 2, none⟩ v2).setCell ⟨b, 3, none⟩ v3).setCell ⟨b, 4, none⟩ v4).setCell ⟨b, 5, none⟩ v5).setCell ⟨b, 6, none⟩ v6).drew.heap[b]? = some (.cells #[v0, v1, v2, v3, v4, v5, v6] t (0, 0)) := by
 have e0 : (w.setCell ⟨b, 0, none⟩ v0).heap[b]? = some (.cells #[v0, o1, o2, o3, o4, o5, o6] t (0, 0)) := set_blk (o := 0) v0 h
 have e1 : ((w.setCell ⟨b, 0, none⟩ v0).setCell ⟨b, 1, none⟩ v1).heap[b]? = some (.cells #[v0, v1, o2, o3, o4, o5, o6] t (0, 0)) := set_blk (o := 1) v1 e0
 have e2 : (((w.setCell ⟨b, 0, none⟩ v0).setCell ⟨b, 1, none⟩ v1).setCell ⟨b, 2, none⟩ v2).heap[b]? = some (.cells #[v0, v1, v2, o3, o4, o5, o6] t (0, 0)) := set_blk (o := 2) v2 e1
 have e3 : ((((w.setCell ⟨b, 0, none⟩ v0).setCell ⟨b, 1, none⟩ v1).setCell ⟨b, 2, none⟩ v2).setCell ⟨b, 3, none⟩ v3).heap[b]? = some (.cells #[v0, v1, v2, v3, o4, o5, o6] t (0, 0)) := set_blk (o := 3) v3 e2
 have e4 : (((((w.setCell ⟨b, 0, none⟩ v0).setCell ⟨b, 1, none⟩ v1).setCell ⟨b, 2, none⟩ v2).setCell ⟨b, 3, none⟩ v3).setCell ⟨b, 4, none⟩ v4).heap[b]? = some (.cells #[v0, v1, v2, v3, v4, o5, o6] t (0, 0)) := set_blk (o := 4) v4 e3
 have e5 : ((((((w.setCell ⟨b, 0, none⟩ v0).setCell ⟨b, 1, none⟩ v1).setCell ⟨b, 2, none⟩ v2).setCell ⟨b, 3, none⟩ v3).setCell ⟨b, 4, none⟩ v4).setCell ⟨b, 5, none⟩ v5).heap[b]? = some (.cells #[v0, v1, v2, v3, v4, v5, o6] t (0, 0)) := set_blk (o := 5) v5 e4
 have e6 : (((((((w.setCell ⟨b, 0, none⟩ v0).setCell ⟨b, 1, none⟩ v1).setCell ⟨b, 2, none⟩ v2).setCell ⟨b, 3, none⟩ v3).setCell ⟨b, 4, none⟩ v4).setCell ⟨b, 5, none⟩ v5).setCell ⟨b, 6, none⟩ v6).heap[b]? = some (.cells #[v0, v1, v2, v3, v4, v5, v6] t (0, 0)) := set_blk (o := 6) v6 e5
 rw [drew_heap]
 exact e6
theorem seven_other {w : World} {b : Nat} (v0 v1 v2 v3 v4 v5 v6 : Value) : ∀ q, q ≠ b →
   (((((((w.setCell ⟨b, 0, none⟩ v0).setCell ⟨b, 1, none⟩ v1).setCell ⟨b, 2, none⟩ v2).setCell ⟨b, 3, none⟩ v3).setCell ⟨b, 4, none⟩ v4).setCell ⟨b, 5, none⟩ v5).setCell ⟨b, 6, none⟩ v6).drew.heap[q]? = w.heap[q]? := fun q h => by
 rw [drew_heap]
 exact (set_other _ _ _ _ _ h).trans ((set_other _ _ _ _ _ h).trans ((set_other _ _ _ _ _ h).trans ((set_other _ _ _ _ _ h).trans ((set_other _ _ _ _ _ h).trans ((set_other _ _ _ _ _ h).trans (set_other _ _ _ _ _ h))))))
theorem seven_below {w0 w : World} {B b : Nat} (h : Below B w0 w) (hb : B ≤ b) (v0 v1 v2 v3 v4 v5 v6 : Value) :
   Below B w0 (((((((w.setCell ⟨b, 0, none⟩ v0).setCell ⟨b, 1, none⟩ v1).setCell ⟨b, 2, none⟩ v2).setCell ⟨b, 3, none⟩ v3).setCell ⟨b, 4, none⟩ v4).setCell ⟨b, 5, none⟩ v5).setCell ⟨b, 6, none⟩ v6).drew :=
 (((((((h.setCell (p := ⟨b, 0, none⟩) hb _).setCell (p := ⟨b, 1, none⟩) hb _).setCell (p := ⟨b, 2, none⟩) hb _).setCell (p := ⟨b, 3, none⟩) hb _).setCell (p := ⟨b, 4, none⟩) hb _).setCell (p := ⟨b, 5, none⟩) hb _).setCell (p := ⟨b, 6, none⟩) hb _).drew
theorem cut_two {w W : World} {P : Nat → Prop} {k : List Int} {c : List Tr} {wide mid : Int} {n : Nat} {a1 a2 a3 a4 : Option Addr} {n1 c1 n2 c2 n3 c3 n4 c4 : Nat} (hbig : wide < (k.length : Int))
   (hl : TreeP W (fun q => P q ∨ (w.heap.size + 2 ≤ q ∧ q < W.heap.size)) (.slice a1 n1 c1) (.slice a2 n2 c2) (Tr.mk k c).leftOf) (hr : TreeP W (fun q => P q ∨ (w.heap.size + 2 ≤ q ∧ q < W.heap.size)) (.slice a3 n3 c3) (.slice a4 n4 c4) (Tr.mk k c).rightOf) (hm : mid = (Tr.mk k c).midOf) (hb : Below w.heap.size w W) :
   Cut w P wide (.mk k c, n) (.returned (splitV (.slice a1 n1 c1) (.slice a2 n2 c2) mid (.slice a3 n3 c3) (.slice a4 n4 c4) true ((n : Int) + 1))) W := by
 refine ⟨_, rfl, ⟨_, _, _, _, mid, n + 1, ?_, ⟨_, _, _, _, _, _, rfl, rfl⟩, ⟨_, _, _, _, _, _, rfl, rfl⟩, fun _ => ⟨hl, hr, hm, rfl⟩, fun h => absurd hbig h⟩, hb⟩
 have e : decide (wide < ((Tr.mk k c).ks.length : Int)) = true := decide_eq_true hbig
 rw [e]
 rfl
set_option maxRecDepth 100000 in
set_option maxHeartbeats 4000000 in
theorem l3Cut_c (w : World) (P : Nat → Prop) (hP : ∀ q, P q → q < w.heap.size) (kv cv : Value) (k : List Int) (c : List Tr) (wide : Int) (n : Nat) (htp : TreeP w P kv cv (.mk k c)) (hwide : 2 ≤ wide ∧ wide ≤ 6) (hn : n ≤ 100000000) (hkn : k.length ≤ 1000000) (hcn : c.length ≤ 1000000) (hcl : c.length = 0 ∨ c.length = k.length + 1) :
   Calls Try.prog 135 #[.agg #[kv, cv], .int .i64 wide, .int .i64 n] w (Cut w P wide (.mk k c, n)) := by
 obtain ⟨B, hBe⟩ : ∃ B, B = w.heap.size := ⟨_, rfl⟩
 have hB : B ≤ w.heap.size := Nat.le_of_eq hBe
 obtain ⟨ca, ccap, kvs, cvs, rfl, hkP, hlen, hcap, hatP, hkidsP⟩ := htp.parts
 have hPB : ∀ q, P q → q < B := fun q h => by rw [hBe]; exact hP q h
 have ht := htp.tree hPB
 have hk := hkP.in hPB
 have hat := hatP.in hPB
 have hkids : ∀ i (h : i < c.length), TreeIn w B (kvs i) (cvs i) c[i] := fun i h => (hkidsP i h).tree hPB
 have HPP := Lib.hid (And.intro hP (And.intro htp hkidsP))
 clear hPB hBe hkP hatP hkidsP htp hP
 obtain ⟨ka, kcap, rfl, k1, k2, k3, k4⟩ := id hk
 unfold maxLen at k2 hcap
 obtain ⟨W1, hW1⟩ : ∃ W1, W1 = (w.alloc (.cells #[.slice ka k.length kcap, .slice ca c.length ccap] 26)).alloc (.cells #[.slice none 0 0, .slice none 0 0, .int .i64 0, .slice none 0 0, .slice none 0 0, .bool false, .int .i64 0] 146) := ⟨_, rfl⟩
 have hs1 : W1.heap.size = w.heap.size + 2 := by rw [hW1]; simp
 have hb1 : Below w.heap.size w W1 := by rw [hW1]; exact ((Below.refl _ _).alloc (Nat.le_refl _) _).alloc (by simp) _
 have kt : W1.heap[w.heap.size]? = some (.cells #[.slice ka k.length kcap, .slice ca c.length ccap] 26 (0, 0)) := by rw [hW1, old_blk _ _ _ (by simp), new_blk]
 have kr : W1.heap[w.heap.size + 1]? = some (.cells #[.slice none 0 0, .slice none 0 0, .int .i64 0, .slice none 0 0, .slice none 0 0, .bool false, .int .i64 0] 146 (0, 0)) := by
   rw [hW1, show w.heap.size + 1 = (w.alloc (.cells #[.slice ka k.length kcap, .slice ca c.length ccap] 26)).heap.size by simp, new_blk]
 obtain ⟨x1, x2, x3, x4⟩ := box2 kt
 have HT := Lib.hid ht
 have HP := Lib.hid (And.intro hk (And.intro hat hkids))
 have HK4 := Lib.hid k4
 have HW1 := Lib.hid hW1
 have H1 := Lib.hid (And.intro hb1 (And.intro kt (And.intro kr hs1)))
 have HCL := Lib.hid hcl
 clear ht hk hat hkids k4 hW1 hb1 kt kr hs1 hcl
 by_cases hbig : wide < (k.length : Int)
 · have hbig' : ¬ (k.length : Int) ≤ wide := by omega
   go_enter Try.func135, Try.ntmps135
   go_upto_region 1 with (fail)
   rw [← HW1.out]
   obtain ⟨m, hm⟩ : ∃ m, m = k.length / 2 := ⟨_, rfl⟩
   have hdiv : (k.length : Int) / 2 = (m : Int) := by omega
   have hm2 : m + 2 ≤ k.length := by omega
   have hm1 : 1 ≤ m := by omega
   have HM := Lib.hid (And.intro hm hdiv)
   clear hm hdiv
   rcases HK4.out with hh | ⟨kb, ko, rfl, hkb, hkc⟩
   · subst hh; simp at hm2
   have HKC := Lib.hid (And.intro hkb hkc)
   clear hkb hkc
   go_upto_region 4 with (fail)
   rw [HM.out.2]
   go_cut [8, 9] from 22 to 33 (fun s8 s9 wc => ∃ (bl br gl gr : Nat) (aL aR : Option Addr) (nL cL nR cR : Nat), s8 = .pointer (some ⟨bl, 0, none⟩) ∧ s9 = .pointer (some ⟨br, 0, none⟩) ∧ bl ≠ br ∧ W1.heap.size ≤ bl ∧ W1.heap.size ≤ br ∧ wc.heap[bl]? = some (.cells #[.slice aL nL cL, .slice (some ⟨gl, 0, none⟩) 0 0] 26 (0, 0)) ∧ wc.heap[br]? = some (.cells #[.slice aR nR cR, .slice (some ⟨gr, 0, none⟩) 0 0] 26 (0, 0)) ∧ IntsR wc W1.heap.size wc.heap.size (.slice aL nL cL) (k.take m) ∧ IntsR wc W1.heap.size wc.heap.size (.slice aR nR cR) (k.drop (m + 1)) ∧ Below W1.heap.size W1 wc)
   case first =>
     refine wp_region_head (n := 13) (by kernel_rfl) (by kernel_rfl) (by kernel_rfl) (by decide) (by kernel_rfl) sl4 sl4_inj
       (fun w w' => Below w.heap.size w w') (fun w => Below.refl _ _) (fun a b c h1 h2 => h1.trans (h2.mono h1.size)) (fun a b h => h.size) (fun i => i == 11 || i == 12) ?ha0 (J4 w.heap.size W1.heap.size k m (some ⟨kb, ko, none⟩) kcap kb ko) J4_mono ?hg ?hstep ?htail
     case ha0 => intro j hj h; have h' : j = 11 ∨ j = 12 := by simpa using h
                 rcases h' with rfl | rfl <;> rfl
     case hg =>
       intro i oi hi ho
       have hc : i = 0 ∨ i = 1 ∨ i = 2 ∨ i = 3 ∨ i = 4 ∨ i = 5 ∨ i = 6 ∨ i = 7 ∨ i = 8 ∨ i = 9 ∨ i = 10 ∨ i = 11 ∨ i = 12 := by omega
       rcases hc with rfl | rfl | rfl | rfl | rfl | rfl | rfl | rfl | rfl | rfl | rfl | rfl | rfl
       all_goals (
         have ho' := Option.some.inj ho
         subst ho'
         exact ⟨rfl, rfl⟩)
     case hstep =>
       have hwr : IntKind.i64.wrap ((m : Int) + 1) = (m : Int) + 1 := IntWalk.i64_in _ (by omega)
       have hne : ¬ kcap = m + 1 := by omega
       have hl1 : (m : Int) ≤ (kcap : Int) := by omega
       have hl2 : (m : Int) + 1 ≤ (k.length : Int) := by omega
       have hfront : ∀ w', Below w.heap.size w w' → IntsAt w' (.slice (some ⟨kb, ko, none⟩) m kcap) (k.take m) := fun w' hb => by
         have h := IntsAt.part (w := w') (b := kb) (o := ko) (n := m) (ks := k) (fun j hj => by rw [below_cell hb (by have := HKC.out.1; omega)]; exact HKC.out.2 j hj) 0 m kcap (by omega) (by omega) (by omega)
         simpa using h
       have hback : ∀ w', Below w.heap.size w w' → IntsAt w' (.slice (some ⟨kb, ko + (m + 1), none⟩) (k.length - (m + 1)) (kcap - (m + 1))) (k.drop (m + 1)) := fun w' hb => by
         have h := IntsAt.part (w := w') (b := kb) (o := ko) (n := k.length - (m + 1)) (ks := k) (fun j hj => by rw [below_cell hb (by have := HKC.out.1; omega)]; exact HKC.out.2 j hj) (m + 1) k.length (kcap - (m + 1)) (by omega) (Nat.le_refl _) rfl
         rwa [List.take_of_length_le (by simp)] at h
       intro i oi hi ho a W hag hR hpre
       have hc : i = 0 ∨ i = 1 ∨ i = 2 ∨ i = 3 ∨ i = 4 ∨ i = 5 ∨ i = 6 ∨ i = 7 ∨ i = 8 ∨ i = 9 ∨ i = 10 ∨ i = 11 ∨ i = 12 := by omega
       have HSZ := Lib.hid (show a.tmps.size = 65 from hag.size.trans rfl)
       have hbt := (hR.block w.heap.size (by show w.heap.size < W1.heap.size; have := H1.out.2.2.2; omega)).trans H1.out.2.1
       clear x1 x2 x3 x4
       obtain ⟨x1, x2, x3, x4⟩ := box2 hbt
       have hR1 : Below W1.heap.size W1 W := ⟨hR.os, hR.tape, hR.output, hR.size, hR.block⟩
       have hsR := hR1.size
       have hs1 := H1.out.2.2.2
       have hall : ∀ w', Below W.heap.size W w' → Below w.heap.size w w' := fun w' hb => H1.out.1.trans ((hR1.mono (by omega)).trans (hb.mono (by omega)))
       have HALL := Lib.hid hall
       have HFR := Lib.hid (And.intro hfront hback)
       clear hs1 hall hfront hback hbt
       have t7 : a.tmps[7]? = some (.int .i64 (m : Int)) := hag.other 7 (fun i hi => by unfold sl4; split <;> (try split) <;> omega)
       have t3 : a.tmps[3]? = some (.pointer (some ⟨w.heap.size, 0, none⟩)) := hag.other 3 (fun i hi => by unfold sl4; split <;> (try split) <;> omega)
       rcases hc with rfl | rfl | rfl | rfl | rfl | rfl | rfl | rfl | rfl | rfl | rfl | rfl | rfl
       · have ho' := Option.some.inj ho
         subst ho'
         go_simp
         exact ⟨_, rfl, by rw [HSZ.out]; decide, rfl, Below.refl _ _⟩
       · have ho' := Option.some.inj ho
         subst ho'
         have p0 : a.tmps[22]?.getD undef = .pointer (some ⟨w.heap.size, 0, none⟩) := hpre { on := 0, ground := Ground.data } (by simp) rfl
         go_simp
         exact ⟨_, rfl, by rw [HSZ.out]; decide, rfl, Below.refl _ _⟩
       · have ho' := Option.some.inj ho
         subst ho'
         go_simp
         exact ⟨_, rfl, by rw [HSZ.out]; decide, rfl, Below.refl _ _⟩
       · have ho' := Option.some.inj ho
         subst ho'
         have p1 : a.tmps[23]?.getD undef = .slice (some ⟨kb, ko, none⟩) k.length kcap := hpre { on := 1, ground := Ground.data } (by simp) rfl
         have p2 : a.tmps[24]?.getD undef = .int .i64 (m : Int) := hpre { on := 2, ground := Ground.data } (by simp) rfl
         go_simp
         exact ⟨_, rfl, by rw [HSZ.out]; decide, rfl, Below.refl _ _⟩
       · have ho' := Option.some.inj ho
         subst ho'
         have p3 : a.tmps[25]?.getD undef = .slice (some ⟨kb, ko, none⟩) m kcap := hpre { on := 3, ground := Ground.data } (by simp) rfl
         go_simp
         refine (leaf_c W _ (k.take m) (fun w' hb => ?_) ?_).mono ?_
         · exact HFR.out.1 w' (HALL.out w' hb)
         · simp; omega
         · rintro e w' ⟨kvx, g, rfl, hown, _, _, hgb, hbl⟩
           have hin := (IntsOwn.inR hown).widen (lo' := W1.heap.size) (by omega) (Nat.le_refl _)
           obtain ⟨va, vc, rfl⟩ := IntsOwn.shown hown
           exact ⟨_, rfl, by rw [HSZ.out]; decide, ⟨_, _, _, _, rfl, hin, hgb⟩, hbl⟩
       · have ho' := Option.some.inj ho
         subst ho'
         go_simp
         exact ⟨_, rfl, by rw [HSZ.out]; decide, rfl, Below.refl _ _⟩
       · have ho' := Option.some.inj ho
         subst ho'
         have p5 : a.tmps[27]?.getD undef = .pointer (some ⟨w.heap.size, 0, none⟩) := hpre { on := 5, ground := Ground.data } (by simp) rfl
         go_simp
         exact ⟨_, rfl, by rw [HSZ.out]; decide, rfl, Below.refl _ _⟩
       · have ho' := Option.some.inj ho
         subst ho'
         go_simp
         exact ⟨_, rfl, by rw [HSZ.out]; decide, rfl, Below.refl _ _⟩
       · have ho' := Option.some.inj ho
         subst ho'
         have p7 : a.tmps[29]?.getD undef = .int .i64 (m : Int) := hpre { on := 7, ground := Ground.data } (by simp) rfl
         go_simp
         exact ⟨_, rfl, by rw [HSZ.out]; decide, rfl, Below.refl _ _⟩
       · have ho' := Option.some.inj ho
         subst ho'
         have p6 : a.tmps[28]?.getD undef = .slice (some ⟨kb, ko, none⟩) k.length kcap := hpre { on := 6, ground := Ground.data } (by simp) rfl
         have p8 : a.tmps[30]?.getD undef = .int .i64 ((m : Int) + 1) := hpre { on := 8, ground := Ground.data } (by simp) rfl
         go_simp
         exact ⟨_, rfl, by rw [HSZ.out]; decide, rfl, Below.refl _ _⟩
       · have ho' := Option.some.inj ho
         subst ho'
         have p9 : a.tmps[31]?.getD undef = .slice (some ⟨kb, ko + (m + 1), none⟩) (k.length - (m + 1)) (kcap - (m + 1)) := hpre { on := 9, ground := Ground.data } (by simp) rfl
         go_simp
         refine (leaf_c W _ (k.drop (m + 1)) (fun w' hb => ?_) ?_).mono ?_
         · exact HFR.out.2 w' (HALL.out w' hb)
         · simp; omega
         · rintro e w' ⟨kvx, g, rfl, hown, _, _, hgb, hbl⟩
           have hin := (IntsOwn.inR hown).widen (lo' := W1.heap.size) (by omega) (Nat.le_refl _)
           obtain ⟨va, vc, rfl⟩ := IntsOwn.shown hown
           exact ⟨_, rfl, by rw [HSZ.out]; decide, ⟨_, _, _, _, rfl, hin, hgb⟩, hbl⟩
       · have ho' := Option.some.inj ho
         subst ho'
         go_simp
         exact ⟨_, rfl, by rw [HSZ.out]; decide, ⟨_, rfl, new_blk W _, hsR⟩, (Below.refl _ _).alloc (Nat.le_refl _) _, rfl⟩
       · have ho' := Option.some.inj ho
         subst ho'
         go_simp
         exact ⟨_, rfl, by rw [HSZ.out]; decide, ⟨_, rfl, new_blk W _, hsR⟩, (Below.refl _ _).alloc (Nat.le_refl _) _, rfl⟩
     case htail =>
       intro a W hag hR hnews hj
       have j0 := hj 0 (by omega)
       have j1 := hj 1 (by omega)
       have j2 := hj 2 (by omega)
       have j3 := hj 3 (by omega)
       have j4 := hj 4 (by omega)
       have j5 := hj 5 (by omega)
       have j6 := hj 6 (by omega)
       have j7 := hj 7 (by omega)
       have j8 := hj 8 (by omega)
       have j9 := hj 9 (by omega)
       have j10 := hj 10 (by omega)
       have j11 := hj 11 (by omega)
       have j12 := hj 12 (by omega)
       have hap := hnews.apart 11 12 (by omega) (by omega) (by omega) rfl rfl
       have ha := hag.eq
       rw [show List.range 13 = [0, 1, 2, 3, 4, 5, 6, 7, 8, 9, 10, 11, 12] from rfl] at ha
       simp only [List.foldl_cons, List.foldl_nil] at ha
       clear hj hnews hag
       generalize a.tmps[sl4 0]?.getD undef = v0 at ha j0
       generalize a.tmps[sl4 1]?.getD undef = v1 at ha j1
       generalize a.tmps[sl4 2]?.getD undef = v2 at ha j2
       generalize a.tmps[sl4 3]?.getD undef = v3 at ha j3
       generalize a.tmps[sl4 4]?.getD undef = v4 at ha j4
       generalize a.tmps[sl4 5]?.getD undef = v5 at ha j5
       generalize a.tmps[sl4 6]?.getD undef = v6 at ha j6
       generalize a.tmps[sl4 7]?.getD undef = v7 at ha j7
       generalize a.tmps[sl4 8]?.getD undef = v8 at ha j8
       generalize a.tmps[sl4 9]?.getD undef = v9 at ha j9
       generalize a.tmps[sl4 10]?.getD undef = v10 at ha j10
       generalize a.tmps[sl4 11]?.getD undef = v11 at ha j11 hap
       generalize a.tmps[sl4 12]?.getD undef = v12 at ha j12 hap
       subst ha
       obtain rfl : v0 = _ := j0
       obtain rfl : v1 = _ := j1
       obtain rfl : v2 = _ := j2
       obtain rfl : v3 = _ := j3
       obtain rfl : v5 = _ := j5
       obtain rfl : v6 = _ := j6
       obtain rfl : v7 = _ := j7
       obtain rfl : v8 = _ := j8
       obtain rfl : v9 = _ := j9
       obtain ⟨aL, nL, cL, gL, rfl, hinL, hgL⟩ := j4
       obtain ⟨aR, nR, cR, gR, rfl, hinR, hgR⟩ := j10
       obtain ⟨bl, rfl, hbl, hbl1⟩ := j11
       obtain ⟨br, rfl, hbr, hbr1⟩ := j12
       have hblr : bl ≠ br := fun e => hap bl rfl (by rw [e])
       have hR1 : Below W1.heap.size W1 W := ⟨hR.os, hR.tape, hR.output, hR.size, hR.block⟩
       obtain ⟨y1, y2, y3, y4⟩ := box2 hbl
       obtain ⟨z1, z2, z3, z4⟩ := box2 hbr
       have HX := Lib.hid (And.intro hinL (And.intro hgL (And.intro hinR (And.intro hgR (And.intro hbl (And.intro hbr hR1))))))
       clear hinL hgL hinR hgR hbl hbr hR1 hR hap
       simp only [show sl4 0 = 22 from rfl, show sl4 1 = 23 from rfl, show sl4 2 = 24 from rfl, show sl4 3 = 25 from rfl, show sl4 4 = 26 from rfl, show sl4 5 = 27 from rfl, show sl4 6 = 28 from rfl, show sl4 7 = 29 from rfl, show sl4 8 = 30 from rfl, show sl4 9 = 31 from rfl, show sl4 10 = 32 from rfl, show sl4 11 = 8 from rfl, show sl4 12 = 9 from rfl]
       change wpAny _ _ _ _ 2 _ _ _
       simp only [List.setIfInBounds_toArray, List.set_cons_succ, List.set_cons_zero]
       refine wpAny_ready (rs := [13]) (by kernel_rfl) (by simp) (AllReady.cons rfl (fun K hK => ?_) AllReady.nil)
       go_simp
       refine hK _ _ ?_
       clear hK K
       refine wpAny_ready (rs := [14]) (by kernel_rfl) (by simp) (AllReady.cons rfl (fun K hK => ?_) AllReady.nil)
       go_simp
       refine hK _ _ ?_
       clear hK K
       refine wpAny_done (by kernel_rfl) ?_ _
       go_wp2_with fail
       go_meet
       obtain ⟨hinL, hgL, hinR, hgR, hbl, hbr, hR1⟩ := HX.out
       obtain ⟨W5, hW5⟩ : ∃ W5, W5 = (((W.setCell ⟨bl, 0, none⟩ (.slice aL nL cL)).setCell ⟨bl, 1, none⟩ (.slice (some ⟨gL, 0, none⟩) 0 0)).setCell ⟨br, 0, none⟩ (.slice aR nR cR)).setCell ⟨br, 1, none⟩ (.slice (some ⟨gR, 0, none⟩) 0 0) := ⟨_, rfl⟩
       rw [← hW5]
       have hs5 : W5.heap.size = W.heap.size := by rw [hW5]; simp
       have hbl5 : W5.heap[bl]? = some (.cells #[.slice aL nL cL, .slice (some ⟨gL, 0, none⟩) 0 0] 26 (0, 0)) := by
         rw [hW5, set_other _ _ _ _ _ hblr, set_other _ _ _ _ _ hblr]
         exact set_blk (o := 1) _ (set_blk (o := 0) _ hbl)
       have hbr5 : W5.heap[br]? = some (.cells #[.slice aR nR cR, .slice (some ⟨gR, 0, none⟩) 0 0] 26 (0, 0)) := by
         rw [hW5]
         have e0 : ((W.setCell ⟨bl, 0, none⟩ (.slice aL nL cL)).setCell ⟨bl, 1, none⟩ (.slice (some ⟨gL, 0, none⟩) 0 0)).heap[br]? = some (.cells #[.slice none 0 0, .slice none 0 0] 26 (0, 0)) := by
           rw [set_other _ _ _ _ _ (Ne.symm hblr), set_other _ _ _ _ _ (Ne.symm hblr)]; exact hbr
         have e1 := set_blk (o := 0) (.slice aR nR cR) e0
         exact set_blk (o := 1) _ e1
       have hb5 : Below W1.heap.size W1 W5 := by
         rw [hW5]
         exact (((hR1.setCell (by show W1.heap.size ≤ bl; omega) _).setCell (by show W1.heap.size ≤ bl; omega) _).setCell (by show W1.heap.size ≤ br; omega) _).setCell (by show W1.heap.size ≤ br; omega) _
       have hoth : ∀ q, q ≠ bl → q ≠ br → W5.heap[q]? = W.heap[q]? := fun q h1 h2 => by
         rw [hW5, set_other _ _ _ _ _ h2, set_other _ _ _ _ _ h2, set_other _ _ _ _ _ h1, set_other _ _ _ _ _ h1]
       exact ⟨bl, br, gL, gR, aL, aR, nL, cL, nR, cR, rfl, rfl, hblr, hbl1, hbr1, hbl5, hbr5, by rw [hs5]; exact hinL.beside hbl hbr (fun q _ _ => hoth q), by rw [hs5]; exact hinR.beside hbl hbr (fun q _ _ => hoth q), hb5⟩
   case rest =>
     obtain ⟨bl, br, gl, gr, aL, aR, nL, cL, nR, cR, rfl, rfl, hblr, hbl1, hbr1, hbl, hbr, hinL, hinR, hbc⟩ := hcut
     have hs1 := H1.out.2.2.2
     have hsc := hbc.size
     have htc := (hbc.block w.heap.size (by omega)).trans H1.out.2.1
     have hrc := (hbc.block (w.heap.size + 1) (by omega)).trans H1.out.2.2.1
     have hbw : Below w.heap.size w wc := H1.out.1.trans (hbc.mono (by omega))
     clear x1 x2 x3 x4
     obtain ⟨x1, x2, x3, x4⟩ := box2 htc
     obtain ⟨y1, y2, y3, y4⟩ := box2 hbl
     obtain ⟨z1, z2, z3, z4⟩ := box2 hbr
     have hmid : wc.cell? ⟨kb, ko + m, none⟩ = some (.int .i64 (k.getD m 0)) := by
       rw [below_cell hbw (by have := HKC.out.1; omega)]; exact HKC.out.2 m (by omega)
     obtain ⟨mid, hmd⟩ : ∃ z, z = k.getD m 0 := ⟨_, rfl⟩
     rw [← hmd] at hmid
     have HMID := Lib.hid (And.intro hmid hmd)
     have H4 := Lib.hid (And.intro hbl (And.intro hbr (And.intro hinL (And.intro hinR (And.intro hbc (And.intro hbw (And.intro htc hrc)))))))
     clear hmid hmd hbl hbr hinL hinR hbc hbw htc hrc hs1
     have hwn : IntKind.i64.wrap ((n : Int) + 1) = (n : Int) + 1 := IntWalk.i64_in _ (by omega)
     have hmi : (m : Int) < (k.length : Int) := by omega
     by_cases hleaf : c.length = 0
     · have hl' : ¬ (c.length : Int) > 0 := by omega
       go_upto_region 8 with (fail)
       have hmid := HMID.out.1
       obtain ⟨q0, q1, q2, q3, q4, q5, q6⟩ := box7 H4.out.2.2.2.2.2.2.2
       have hfz : ∀ j, wc.frozen? ⟨w.heap.size + 1, j, none⟩ = false := fun j => by simp [World.frozen?, H4.out.2.2.2.2.2.2.2]
       go_region
       go_wp2_with fail
       obtain ⟨hbl, hbr, hinL, hinR, hbc, hbw, htc, hrc⟩ := H4.out
       have hs1 := H1.out.2.2.2
       have f1 := seven hrc (.slice aL nL cL) (.slice (some ⟨gl, 0, none⟩) 0 0) (.int .i64 mid) (.slice aR nR cR) (.slice (some ⟨gr, 0, none⟩) 0 0) (.bool true) (.int .i64 ((n : Int) + 1))
       have f2 := seven_other (w := wc) (b := w.heap.size + 1) (.slice aL nL cL) (.slice (some ⟨gl, 0, none⟩) 0 0) (.int .i64 mid) (.slice aR nR cR) (.slice (some ⟨gr, 0, none⟩) 0 0) (.bool true) (.int .i64 ((n : Int) + 1))
       have f3 := seven_below hbw (show w.heap.size ≤ w.heap.size + 1 by omega) (.slice aL nL cL) (.slice (some ⟨gl, 0, none⟩) 0 0) (.int .i64 mid) (.slice aR nR cR) (.slice (some ⟨gr, 0, none⟩) 0 0) (.bool true) (.int .i64 ((n : Int) + 1))
       generalize hW8 : World.drew _ = W8 at f1 f2 f3 ⊢
       have hs8 : W8.heap.size = wc.heap.size := by rw [← hW8]; simp [World.drew]
       obtain ⟨Q8, hQe⟩ : ∃ Q8 : Nat → Prop, Q8 = fun q => P q ∨ (w.heap.size + 2 ≤ q ∧ q < W8.heap.size) := ⟨_, rfl⟩
       have hQ8 : ∀ q, w.heap.size + 2 ≤ q → q < W8.heap.size → Q8 q := fun q h1 h2 => by rw [hQe]; exact .inr ⟨h1, h2⟩
       obtain ⟨q0, q1, q2, q3, q4, q5, q6⟩ := box7 f1
       have hc0 : c = [] := List.length_eq_zero_iff.1 hleaf
       subst hc0
       have hL : TreeP W8 Q8 (.slice aL nL cL) (.slice (some ⟨gl, 0, none⟩) 0 0) (Tr.mk k []).leftOf := by
         have e : (Tr.mk k []).leftOf = .mk (k.take m) [] := by rw [Tr.leftOf, ← HM.out.1]; simp
         rw [e]
         exact ((hinL.same (fun q h1 h2 => f2 q (by omega))).p (fun q h1 h2 => hQ8 q (by omega) (by omega))).leaf
       have hR : TreeP W8 Q8 (.slice aR nR cR) (.slice (some ⟨gr, 0, none⟩) 0 0) (Tr.mk k []).rightOf := by
         have e : (Tr.mk k []).rightOf = .mk (k.drop (m + 1)) [] := by rw [Tr.rightOf, ← HM.out.1]; simp
         rw [e]
         exact ((hinR.same (fun q h1 h2 => f2 q (by omega))).p (fun q h1 h2 => hQ8 q (by omega) (by omega))).leaf
       refine bodyPost_ret (v := splitV (.slice aL nL cL) (.slice (some ⟨gl, 0, none⟩) 0 0) mid (.slice aR nR cR) (.slice (some ⟨gr, 0, none⟩) 0 0) true ((n : Int) + 1)) (by simp [results, Try.results135, go_sem, splitV, q0, q1, q2, q3, q4, q5, q6]) rfl ?_
       subst hQe
       exact cut_two hbig hL hR (by rw [HMID.out.2, Tr.midOf, ← HM.out.1]) f3
     · have hpos : 0 < c.length := by omega
       have hl' : decide (0 < c.length) = true := by simp [hpos]
       have hcl : c.length = k.length + 1 := HCL.out.resolve_left hleaf
       rcases HP.out.2.1 with hh | ⟨cb, co, rfl, hcb, hcc⟩
       · exact absurd hh hleaf
       obtain ⟨K, hK⟩ : ∃ K, K = (List.range c.length).map (fun i => (kvs i, cvs i)) := ⟨_, rfl⟩
       have hKl : K.length = c.length := by rw [hK]; simp
       have hraw : ∀ w', Below w.heap.size w w' → ∀ j u, (flatT K)[j]? = some u → w'.cell? ⟨cb, co + j, none⟩ = some u := fun w' hb j u hj => by
         have hin : KidsIn w' B (some ⟨cb, co, none⟩) c.length kvs cvs := KidsIn.later (.inr ⟨cb, co, rfl, hcb, hcc⟩) hb hB
         obtain ⟨a0, cap0, hv, _, hat⟩ := KidsIn.at (cap := ccap) hin (fun h => by cases h)
         rcases hat with hat | ⟨b', o', e, hat⟩
         · rw [← hK] at hat; rw [hat] at hj; simp [flatT] at hj
         · simp only [Value.slice.injEq] at hv
           obtain ⟨rfl, _, _⟩ := hv
           simp only [Option.some.injEq, Addr.mk.injEq, and_true] at e
           obtain ⟨rfl, rfl⟩ := e
           rw [← hK] at hat
           exact hat j u hj
       have hone : ∀ u, u ∈ flatT K → u.oneCell' = true := fun u hu => by
         rw [hK] at hu
         simp only [flatT, List.mem_flatMap, List.mem_map, List.mem_range] at hu
         obtain ⟨q, ⟨i, hi, rfl⟩, hu⟩ := hu
         obtain ⟨a1, n1, c1, a2, n2, c2, e1, e2⟩ := (HP.out.2.2 i hi).slices
         simp only [List.mem_cons, List.not_mem_nil, or_false] at hu
         rcases hu with rfl | rfl
         · rw [e1]; rfl
         · rw [e2]; rfl
       have HKS := Lib.hid (And.intro hraw (And.intro hone (And.intro hKl hK)))
       have HCC := Lib.hid hcl
       have hmc : (m : Int) + 1 ≤ (c.length : Int) := by omega
       have hmc2 : m + 1 < c.length := by omega
       have hmc3 : (m : Int) + 1 ≤ (ccap : Int) := by omega
       have hmc4 : (0 : Int) ≤ (m : Int) + 1 := by omega
       have hwm1 : IntKind.i64.wrap ((m : Int) + 1) = (m : Int) + 1 := IntWalk.i64_in _ (by omega)
       have hnc : ¬ ccap = m + 1 := by omega
       have HTL := Lib.hid (show (K.take (m + 1)).length = m + 1 by rw [List.length_take]; have := HKS.out.2.2.1; omega)
       have HDL := Lib.hid (show (K.drop (m + 1)).length = c.length - (m + 1) by rw [List.length_drop]; have := HKS.out.2.2.1; omega)
       obtain ⟨i0, hi0, hz0, hz1, hz2⟩ := info_parts Try.infoTree
       have HI0 := Lib.hid (And.intro hi0 (And.intro hz0 (And.intro hz1 hz2)))
       clear hraw hone hKl hK hcl hcb hcc hi0 hz0 hz1 hz2
       go_upto_region 6 with (fail)
       go_cut [] from 37 to 46 (fun w6 => ∃ (a6 : Option Addr) (c6 : Nat), w6.heap[bl]? = some (.cells #[.slice aL nL cL, .slice a6 (m + 1) c6] 26 (0, 0)) ∧ TreesOwn w6 wc.heap.size (.slice a6 (m + 1) c6) (K.take (m + 1)) ∧ wc.heap.size ≤ w6.heap.size ∧ (∀ q, q < wc.heap.size → q ≠ bl → w6.heap[q]? = wc.heap[q]?) ∧ Below W1.heap.size wc w6)
       case first =>
         go_region_law (refine step_append_grows rfl (.tmp 38) (.tmp 43) 24 rfl 26 i0 _ 2 48 Try.underlying24 HI0.out.1 HI0.out.2.1 HI0.out.2.2.1 HI0.out.2.2.2 rfl (by decide) (some ⟨gl, 0, none⟩) 0 0 [] (by go_simp) (fun h => by cases h) rfl (fun _ _ j u hj => by simp at hj) ⟨cb, co, none⟩ (m + 1) ccap (flatT (K.take (m + 1))) (by go_simp) (by rw [flatT_length, List.length_take]; have := HKS.out.2.2.1; omega) (fun j u hj => by rw [Addr.add_lit]; rw [flatT_take, List.getElem?_take] at hj; split at hj; exact HKS.out.1 _ H4.out.2.2.2.2.2.1 j u hj; cases hj) (fun u hu => HKS.out.2.1 u (by rw [flatT_take] at hu; exact List.mem_of_mem_take hu)) (by omega) (by unfold maxLen; omega) (by omega) ?_; intro v6 w6 hown6 hg6; have hown6' : TreesOwn w6 wc.heap.size v6 (K.take (m + 1)) := (by unfold TreesOwn; rw [HTL.out]; simpa using hown6); obtain ⟨a6, c6, e6⟩ := TreesOwn.shown hown6'; rw [HTL.out] at e6; subst e6; have hb6 := hg6.block bl (by have := (Array.getElem?_eq_some_iff.1 H4.out.1).1; exact this) (by simp); have hbl6 := hb6.trans H4.out.1; obtain ⟨t1, t2, t3, t4⟩ := box2 hbl6; have HO6 := Lib.hid (And.intro hown6' (And.intro hg6 hbl6)); clear hown6 hown6' hg6 hb6 hbl6)
         all_goals (
           go_wp2_with fail
           go_meet
           have hsz6 : wc.heap.size ≤ w6.heap.size := HO6.out.2.1.size
           have hob := HO6.out.1.lt
           have hbll := (Array.getElem?_eq_some_iff.1 H4.out.1).1
           refine ⟨a6, c6, set_blk (o := 1) _ HO6.out.2.2, ownsRow_held HO6.out.1 (fun q e => set_other _ _ _ _ _ (by have := (hob q e).1; omega)), by simpa using hsz6, fun q h1 h2 => (set_other _ _ _ _ _ h2).trans (HO6.out.2.1.block q h1 (by simp)), ?_⟩
           exact (Below.mk HO6.out.2.1.os HO6.out.2.1.tape HO6.out.2.1.output HO6.out.2.1.size (fun q hq => HO6.out.2.1.block q (by have e : wc.drew.heap.size = wc.heap.size := rfl; omega) (by simp)) : Below W1.heap.size wc w6).setCell (by show W1.heap.size ≤ bl; omega) _)
       case rest =>
         rename World => w6
         obtain ⟨a6, c6, hbl6, hown6, hs6, hoth6, hb6⟩ := hcut
         have hs1 := H1.out.2.2.2
         have hbll := (Array.getElem?_eq_some_iff.1 H4.out.1).1
         have hbrl := (Array.getElem?_eq_some_iff.1 H4.out.2.1).1
         have htc6 := (hoth6 w.heap.size (by omega) (by omega)).trans H4.out.2.2.2.2.2.2.1
         have hrc6 := (hoth6 (w.heap.size + 1) (by omega) (by omega)).trans H4.out.2.2.2.2.2.2.2
         have hbr6 := (hoth6 br hbrl (Ne.symm hblr)).trans H4.out.2.1
         have hbw6 : Below w.heap.size w w6 := H4.out.2.2.2.2.2.1.trans (hb6.mono (by omega))
         clear x1 x2 x3 x4 y1 y2 y3 y4 z1 z2 z3 z4
         obtain ⟨x1, x2, x3, x4⟩ := box2 htc6
         obtain ⟨z1, z2, z3, z4⟩ := box2 hbr6
         have hd1 : 0 < c.length - (m + 1) := by omega
         have hd2 : c.length - (m + 1) ≤ 1000000 := by omega
         have H6 := Lib.hid (And.intro hbl6 (And.intro hown6 (And.intro hoth6 (And.intro hb6 (And.intro htc6 (And.intro hrc6 (And.intro hbr6 hbw6)))))))
         clear hbl6 hown6 hoth6 hb6 htc6 hrc6 hbr6 hbw6 hs1
         go_upto_region 7 with (fail)
         go_cut [] from 46 to 55 (fun w7 => ∃ (a7 : Option Addr) (c7 : Nat), w7.heap[br]? = some (.cells #[.slice aR nR cR, .slice a7 (c.length - (m + 1)) c7] 26 (0, 0)) ∧ TreesOwn w7 w6.heap.size (.slice a7 (c.length - (m + 1)) c7) (K.drop (m + 1)) ∧ w6.heap.size ≤ w7.heap.size ∧ (∀ q, q < w6.heap.size → q ≠ br → w7.heap[q]? = w6.heap[q]?) ∧ Below W1.heap.size w6 w7)
         case first =>
           go_region_law (refine step_append_grows rfl (.tmp 47) (.tmp 52) 24 rfl 26 i0 _ 2 48 Try.underlying24 HI0.out.1 HI0.out.2.1 HI0.out.2.2.1 HI0.out.2.2.2 rfl (by decide) (some ⟨gr, 0, none⟩) 0 0 [] (by go_simp) (fun h => by cases h) rfl (fun _ _ j u hj => by simp at hj) ⟨cb, co + (m + 1) * 2, none⟩ (c.length - (m + 1)) (ccap - (m + 1)) (flatT (K.drop (m + 1))) (by go_simp) (by rw [flatT_length, HDL.out]) (fun j u hj => by rw [Addr.add_lit, Nat.add_assoc]; rw [flatT_drop, List.getElem?_drop] at hj; exact HKS.out.1 _ H6.out.2.2.2.2.2.2.2 _ u hj) (fun u hu => HKS.out.2.1 u (by rw [flatT_drop] at hu; exact List.mem_of_mem_drop hu)) (by omega) (by unfold maxLen; omega) (by omega) ?_; intro v7 w7 hown7 hg7; have hown7' : TreesOwn w7 w6.heap.size v7 (K.drop (m + 1)) := (by unfold TreesOwn; rw [HDL.out]; simpa using hown7); obtain ⟨a7, c7, e7⟩ := TreesOwn.shown hown7'; rw [HDL.out] at e7; subst e7; have hb7 := hg7.block br (by have := (Array.getElem?_eq_some_iff.1 H6.out.2.2.2.2.2.2.1).1; exact this) (by simp); have hbr7 := hb7.trans H6.out.2.2.2.2.2.2.1; obtain ⟨t1, t2, t3, t4⟩ := box2 hbr7; have HO7 := Lib.hid (And.intro hown7' (And.intro hg7 hbr7)); clear hown7 hown7' hg7 hb7 hbr7)
           all_goals (
             go_wp2_with fail
             go_meet
             have hsz7 : w6.heap.size ≤ w7.heap.size := HO7.out.2.1.size
             have hob := HO7.out.1.lt
             have hbrl6 := (Array.getElem?_eq_some_iff.1 H6.out.2.2.2.2.2.2.1).1
             refine ⟨a7, c7, set_blk (o := 1) _ HO7.out.2.2, ownsRow_held HO7.out.1 (fun q e => set_other _ _ _ _ _ (by have := (hob q e).1; omega)), by simpa using hsz7, fun q h1 h2 => (set_other _ _ _ _ _ h2).trans (HO7.out.2.1.block q h1 (by simp)), ?_⟩
             exact (Below.mk HO7.out.2.1.os HO7.out.2.1.tape HO7.out.2.1.output HO7.out.2.1.size (fun q hq => HO7.out.2.1.block q (by have e : w6.drew.heap.size = w6.heap.size := rfl; omega) (by simp)) : Below W1.heap.size w6 w7).setCell (by show W1.heap.size ≤ br; omega) _)
         case rest =>
           rename World => w7
           obtain ⟨a7, c7, hbr7, hown7, hs7, hoth7, hb7⟩ := hcut
           obtain ⟨hbl6, hown6, hoth6, hb6, htc6, hrc6, hbr6, hbw6⟩ := H6.out
           have hs1 := H1.out.2.2.2
           have hbll := (Array.getElem?_eq_some_iff.1 hbl6).1
           have htc7 := (hoth7 w.heap.size (by omega) (by omega)).trans htc6
           have hrc7 := (hoth7 (w.heap.size + 1) (by omega) (by omega)).trans hrc6
           have hbl7 := (hoth7 bl hbll hblr).trans hbl6
           have hbw7 : Below w.heap.size w w7 := hbw6.trans (hb7.mono (by omega))
           have hmid : w7.cell? ⟨kb, ko + m, none⟩ = some (.int .i64 mid) := by
             rw [below_cell hbw7 (by have := HKC.out.1; omega), HMID.out.2]; exact HKC.out.2 m (by omega)
           clear x1 x2 x3 x4 z1 z2 z3 z4
           obtain ⟨x1, x2, x3, x4⟩ := box2 htc7
           obtain ⟨y1, y2, y3, y4⟩ := box2 hbl7
           obtain ⟨z1, z2, z3, z4⟩ := box2 hbr7
           obtain ⟨q0, q1, q2, q3, q4, q5, q6⟩ := box7 hrc7
           have hfz : ∀ j, w7.frozen? ⟨w.heap.size + 1, j, none⟩ = false := fun j => by simp [World.frozen?, hrc7]
           have H7 := Lib.hid (And.intro hrc7 (And.intro hbw7 (And.intro hown7 hoth7)))
           clear hrc7 hbw7 hown7 hoth7 hbl7 htc7 hbr7 hb7 hbl6 hown6 hoth6 hb6 htc6 hrc6 hbr6 hbw6 hs1
           go_upto_region 8 with (fail)
           go_region
           go_wp2_with fail
           obtain ⟨hrc7, hbw7, hown7, hoth7⟩ := H7.out
           obtain ⟨hbl6, hown6, hoth6, hb6, htc6, hrc6, hbr6, hbw6⟩ := H6.out
           obtain ⟨hbl, hbr, hinL, hinR, hbc, hbw, htc, hrc⟩ := H4.out
           have hs1 := H1.out.2.2.2
           have f1 := seven hrc7 (.slice aL nL cL) (.slice a6 (m + 1) c6) (.int .i64 mid) (.slice aR nR cR) (.slice a7 (c.length - (m + 1)) c7) (.bool true) (.int .i64 ((n : Int) + 1))
           have f2 := seven_other (w := w7) (b := w.heap.size + 1) (.slice aL nL cL) (.slice a6 (m + 1) c6) (.int .i64 mid) (.slice aR nR cR) (.slice a7 (c.length - (m + 1)) c7) (.bool true) (.int .i64 ((n : Int) + 1))
           have f3 := seven_below hbw7 (show w.heap.size ≤ w.heap.size + 1 by omega) (.slice aL nL cL) (.slice a6 (m + 1) c6) (.int .i64 mid) (.slice aR nR cR) (.slice a7 (c.length - (m + 1)) c7) (.bool true) (.int .i64 ((n : Int) + 1))
           generalize hW8 : World.drew _ = W8 at f1 f2 f3 ⊢
           have hs8 : W8.heap.size = w7.heap.size := by rw [← hW8]; simp [World.drew]
           obtain ⟨Q8, hQe⟩ : ∃ Q8 : Nat → Prop, Q8 = fun q => P q ∨ (w.heap.size + 2 ≤ q ∧ q < W8.heap.size) := ⟨_, rfl⟩
           have hQ8 : ∀ q, w.heap.size + 2 ≤ q → q < W8.heap.size → Q8 q := fun q h1 h2 => by rw [hQe]; exact .inr ⟨h1, h2⟩
           clear q0 q1 q2 q3 q4 q5 q6
           obtain ⟨q0, q1, q2, q3, q4, q5, q6⟩ := box7 f1
           have hints : ∀ {v : Value} {ks : List Int}, IntsR wc W1.heap.size wc.heap.size v ks → IntsP W8 Q8 v ks := fun h =>
             (h.beside hbl hbr (fun q h1 h2 h3 h4 => (f2 q (by omega)).trans ((hoth7 q (by omega) h4).trans (hoth6 q h2 h3)))).p (fun q h1 h2 => hQ8 q (by omega) (by omega))
           have hrow6 : TreesOwn W8 wc.heap.size (.slice a6 (m + 1) c6) (K.take (m + 1)) := by
             have hbrl := (Array.getElem?_eq_some_iff.1 hbr).1
             exact ownsRow_held hown6 (fun q e => by
               have := hown6.lt q e
               exact (f2 q (by omega)).trans (hoth7 q this.2 (by omega)))
           have hrow7 : TreesOwn W8 w6.heap.size (.slice a7 (c.length - (m + 1)) c7) (K.drop (m + 1)) :=
             ownsRow_held hown7 (fun q e => by have := hown7.lt q e; exact f2 q (by omega))
           have hkid : ∀ i (hi : i < c.length), TreeP W8 Q8 (kvs i) (cvs i) c[i] := fun i hi => (HPP.out.2.2 i hi).same (fun q hq => f3.block q (HPP.out.1 q hq)) (fun q h => by rw [hQe]; exact .inl h)
           have hgetK : ∀ i, i < c.length → K[i]? = some (kvs i, cvs i) := fun i hi => by rw [HKS.out.2.2.2]; simp [hi]
           have hL : TreeP W8 Q8 (.slice aL nL cL) (.slice a6 (m + 1) c6) (Tr.mk k c).leftOf := by
             rw [Tr.leftOf, ← HM.out.1]
             refine treeP_row (hints hinL) hrow6 (fun q h1 h2 => hQ8 q (by omega) h2) (by rw [HTL.out, List.length_take]; omega) (fun i hi => ?_)
             have hi' : i < m + 1 := by rw [List.length_take] at hi; omega
             have hic : i < c.length := by omega
             rw [List.getD_eq_getElem?_getD, List.getElem?_take, if_pos hi', hgetK i hic, List.getElem_take]
             exact hkid i hic
           have hR : TreeP W8 Q8 (.slice aR nR cR) (.slice a7 (c.length - (m + 1)) c7) (Tr.mk k c).rightOf := by
             rw [Tr.rightOf, ← HM.out.1]
             refine treeP_row (hints hinR) hrow7 (fun q h1 h2 => hQ8 q (by omega) h2) (by rw [HDL.out, List.length_drop]) (fun i hi => ?_)
             have hic : m + 1 + i < c.length := by rw [List.length_drop] at hi; omega
             rw [List.getD_eq_getElem?_getD, List.getElem?_drop, hgetK _ hic, List.getElem_drop]
             exact hkid _ hic
           refine bodyPost_ret (v := splitV (.slice aL nL cL) (.slice a6 (m + 1) c6) mid (.slice aR nR cR) (.slice a7 (c.length - (m + 1)) c7) true ((n : Int) + 1)) (by simp [results, Try.results135, go_sem, splitV, q0, q1, q2, q3, q4, q5, q6]) rfl ?_
           subst hQe
           exact cut_two hbig hL hR (by rw [HMID.out.2, Tr.midOf, ← HM.out.1]) f3
 · have hbig' : (k.length : Int) ≤ wide := by omega
   go_enter Try.func135, Try.ntmps135
   go_wp2_with fail
   obtain ⟨W8, hW8⟩ : ∃ W8, W8 = (w.alloc (.cells #[.slice ka k.length kcap, .slice ca c.length ccap] 26)).alloc (.cells #[.slice ka k.length kcap, .slice ca c.length ccap, .int .i64 0, .slice none 0 0, .slice none 0 0, .bool false, .int .i64 (n : Int)] 146) := ⟨_, rfl⟩
   rw [← hW8]
   have hb8 : Below w.heap.size w W8 := by rw [hW8]; exact ((Below.refl _ _).alloc (Nat.le_refl _) _).alloc (by simp) _
   have k8 : W8.heap[w.heap.size + 1]? = some (.cells #[.slice ka k.length kcap, .slice ca c.length ccap, .int .i64 0, .slice none 0 0, .slice none 0 0, .bool false, .int .i64 (n : Int)] 146 (0, 0)) := by
     rw [hW8, show w.heap.size + 1 = (w.alloc (.cells #[.slice ka k.length kcap, .slice ca c.length ccap] 26)).heap.size by simp, new_blk]
   obtain ⟨q0, q1, q2, q3, q4, q5, q6⟩ := box7 k8
   refine bodyPost_ret (v := splitV (.slice ka k.length kcap) (.slice ca c.length ccap) 0 (.slice none 0 0) (.slice none 0 0) false (n : Int)) (by simp [results, Try.results135, go_sem, splitV, q0, q1, q2, q3, q4, q5, q6]) rfl ?_
   have e : decide (wide < ((Tr.mk k c).ks.length : Int)) = false := decide_eq_false (by show ¬ wide < (k.length : Int); omega)
   have htt : TreeP W8 (fun q => P q ∨ (w.heap.size + 2 ≤ q ∧ q < W8.heap.size)) (.slice ka k.length kcap) (.slice ca c.length ccap) (.mk k c) := HPP.out.2.1.same (fun q hq => hb8.block q (HPP.out.1 q hq)) (fun q h => .inl h)
   have hsi : SplitIn W8 (fun q => P q ∨ (w.heap.size + 2 ≤ q ∧ q < W8.heap.size)) (splitV (.slice ka k.length kcap) (.slice ca c.length ccap) 0 (.slice none 0 0) (.slice none 0 0) false (n : Int)) wide (.mk k c) n :=
     ⟨.slice ka k.length kcap, .slice ca c.length ccap, .slice none 0 0, .slice none 0 0, 0, n, by rw [e], ⟨_, _, _, _, _, _, rfl, rfl⟩, ⟨_, _, _, _, _, _, rfl, rfl⟩, fun h => absurd h (by show ¬ wide < (k.length : Int); omega), fun _ => ⟨htt, rfl⟩⟩
   exact ⟨_, rfl, hsi, hb8⟩
end Go.Proofs.Ytananonjomfpkaa
