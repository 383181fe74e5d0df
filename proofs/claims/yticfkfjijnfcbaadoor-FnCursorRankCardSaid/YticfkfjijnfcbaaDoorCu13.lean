/- A walker's stack: isIndex and push. -/
import Derived.Test.YticfkfjijnfcbaaDoorCuS13
import Derived.Test.YticfkfjijnfcbaaDoorCu1
/- Cursors that go on: what they come to is what the model comes to: plain data. -/
namespace Go.Proofs.YticfkfjijnfcbaaDoor
open Go.RowKit
namespace Tr
theorem some_key {t : Tr} (h : t.someB = true) {x : Int} (hx : x ∈ t.keys) : 0 ≤ x ∧ x ≤ 99 := by
 obtain ⟨w, hv⟩ : ∃ w : Int, validB w t = true := by
   unfold someB at h
   simp only [Bool.or_eq_true] at h
   rcases h with (((h | h) | h) | h) | h
   all_goals exact ⟨_, h⟩
 unfold validB at hv
 simp only [Bool.and_eq_true] at hv
 obtain ⟨i, hi, rfl⟩ := List.getElem_of_mem hx
 have := sorted_ge hv.2.2 i hi
 rw [List.getD_eq_getElem?_getD, List.getElem?_eq_getElem hi] at this
 simp only [Option.getD_some] at this
 omega
theorem goF_at {c : Int} {t u : Tr} {ks : List Int} (h : nodeTo ks t = some u) : goF c t ks = upF t (ks ++ sink c u) := by unfold goF; rw [h]
def nextCur (t : Tr) (ks : List Int) (N : Nat) : List Int × Int × Bool :=
 match nodeTo ks t with
 | some (.mk k cs) => if h : N + 1 < cs.length then (ks ++ ((N + 1 : Nat) : Int) :: downF cs[N + 1].weight cs[N + 1], 0, true) else if N + 1 < k.length then (ks, ((N + 1 : Nat) : Int), true) else upF t ks
 | none => ([], 0, false)
def prevCur (t : Tr) (ks : List Int) (N : Nat) : List Int × Int × Bool :=
 match nodeTo ks t with
 | some (.mk _ cs) => if h : N < cs.length then (ks ++ (N : Int) :: (downL cs[N].weight cs[N]).1, ((downL cs[N].weight cs[N]).2 : Int) - 1, true) else if 0 < N then (ks, (N : Int) - 1, true) else upB ks
 | none => ([], 0, false)
def seekCur (t : Tr) (key : Int) : List Int × Int × Bool :=
 match nodeTo (t.path key).1 t with
 | some (.mk k _) => if place key k < k.length then ((t.path key).1, (place key k : Int), true) else upF t (t.path key).1
 | none => ([], 0, false)
theorem path_sink (key : Int) : ∀ (n : Nat) (t : Tr), t.weight ≤ n → Well t → ∃ uk uc M, nodeTo (t.path key).1 t = some (.mk uk uc) ∧ Well (.mk uk uc) ∧ sink key t = (t.path key).1 ++ (place key uk : Int) :: M ∧
   (M = [] ∨ ∃ (h : place key uk < uc.length), place key uk < uk.length ∧ M = sink key uc[place key uk] ∧ ∀ x ∈ uc[place key uk].keys, x < key)
 | n, .mk k cs, hn, hw => by
   by_cases hf : place key k < k.length ∧ k.getD (place key k) 0 = key
   · rw [path_found hf]
     by_cases h0 : cs.length = 0
     · exact ⟨_, _, [], rfl, hw, by rw [sink_leaf h0]; rfl, .inl rfl⟩
     · have hcl := Well.inner hw h0
       have hi : place key k < cs.length := by omega
       exact ⟨_, _, _, rfl, hw, by rw [sink_inner hi]; rfl, .inr ⟨hi, hf.1, rfl, fun x hx => by
         have := (kid_sides hw (place key k) hi hx).2 hf.1; rw [hf.2] at this; exact this⟩⟩
   · by_cases h0 : cs.length = 0
     · rw [path_leaf hf h0]
       exact ⟨_, _, [], rfl, hw, by rw [sink_leaf h0]; rfl, .inl rfl⟩
     · have hcl := Well.inner hw h0
       have hp := place_le key k
       have hi : place key k < cs.length := by omega
       have hwt := weight_get_le cs _ hi
       simp only [weight] at hn
       cases n with
       | zero => have := length_le_weights cs; omega
       | succ n =>
         obtain ⟨uk, uc, M, h1, h2, h3, h4⟩ := path_sink key n cs[place key k] (by omega) (hw.kid _ hi)
         rw [path_inner hf hi]
         refine ⟨uk, uc, M, ?_, h2, ?_, h4⟩
         · rw [nodeTo, if_pos ⟨by omega, by omega⟩, Int.toNat_natCast, List.getD_eq_getElem?_getD, List.getElem?_eq_getElem hi]
           exact h1
         · rw [sink_inner hi, h3]; rfl
theorem sink_pos (c : Int) (u : Tr) : 1 ≤ (sink c u).length := by obtain ⟨k, cs⟩ := u; unfold sink; rw [way]; simp
theorem six {t u : Tr} {ks : List Int} (hs : someB t = true) (hn : nodeTo ks t = some u) (c : Int) : (ks ++ sink c u).length ≤ 6 := by
 have hw := nodeTo_well ks (Well.of_some hs) hn
 have hl : (sink c u).length = (u.way c).length := by unfold sink; simp
 have hp := sink_pos c u
 have h := way_node (c := c) u.weight u (Nat.le_refl _) hw ((u.way c).length - 1) (by omega)
 have h2 : nodeTo (ks ++ (sink c u).take ((u.way c).length - 1)) t = some (u.way c)[(u.way c).length - 1] := by rw [nodeTo_append, hn]; exact h
 have := nodeTo_few hs h2
 rw [List.length_append, List.length_take] at this
 rw [List.length_append]
 omega
theorem nodeTo_small : ∀ (p : List Int) {t u : Tr}, nodeTo p t = some u → u.weight ≤ t.weight ∧ ∀ i, i < p.length → p.getD i 0 ≤ (t.weight : Int)
 | [], t, u, hn => by simp only [nodeTo, Option.some.injEq] at hn; exact ⟨by rw [hn]; exact Nat.le_refl _, fun i h => absurd h (Nat.not_lt_zero i)⟩
 | x :: p, .mk k c, u, hn => by
   simp only [nodeTo] at hn
   split at hn
   · rename_i hx
     have hN : x.toNat < c.length := by omega
     rw [List.getD_eq_getElem?_getD, List.getElem?_eq_getElem hN] at hn
     obtain ⟨h1, h2⟩ := nodeTo_small p hn
     have hwt := weight_get_le c _ hN
     simp only [Option.getD_some] at h1 h2
     simp only [weight]
     refine ⟨by omega, fun i hi => ?_⟩
     cases i with
     | zero => simp; omega
     | succ i => have := h2 i (by simpa using hi); simp only [List.getD_cons_succ]; omega
   · cases hn
end Tr
end Go.Proofs.YticfkfjijnfcbaaDoor
/- A walker's stack: isIndex and push. -/
namespace Go.Proofs.YticfkfjijnfcbaaDoor
open Go.RowKit
theorem isIndex_c (n : Int) (c : Nat) (w : World) :
   Calls Tryd.prog 112 #[.int .i64 n, .int .i64 c] w fun e w' => e = .returned (.bool (inB n 0 ((c : Int) - 1))) ∧ w' = w := by
 obtain ⟨C, hC⟩ : ∃ C : Int, C = c := ⟨_, rfl⟩
 rw [← hC]
 clear hC
 by_cases h0 : 0 ≤ n
 · by_cases h1 : n < C
   · have HE := Lib.hid (inB_true h0 (show n ≤ C - 1 by omega))
     go_enter Tryd.func112, Tryd.ntmps112
     go_wp2_with fail
     go_ret
     exact ⟨by rw [HE.out]; rfl, rfl⟩
   · have HE := Lib.hid (inB_false (n := n) (lo := 0) (hi := C - 1) (by omega))
     go_enter Tryd.func112, Tryd.ntmps112
     go_wp2_with fail
     go_ret
     exact ⟨by rw [HE.out]; rfl, rfl⟩
 · have HE := Lib.hid (inB_false (n := n) (lo := 0) (hi := C - 1) (by omega))
   go_enter Tryd.func112, Tryd.ntmps112
   go_wp2_with fail
   go_ret
   exact ⟨by rw [HE.out]; rfl, rfl⟩
structure Walker (w : World) (b : Nat) (f : Nat → Value × Int) (D : Nat) : Prop where
 blk : ∃ C : Array Value, w.heap[b]? = some (.cells C 127 (0, 0)) ∧ C.size = 13 ∧ C[12]? = some (.int .i64 D) ∧ ∀ i, i < D → C[2 * i]? = some (f i).1 ∧ C[2 * i + 1]? = some (.int .i64 (f i).2)
set_option maxHeartbeats 1000000 in
set_option maxRecDepth 100000 in
theorem push_c {w : World} {b D : Nat} {f : Nat → Value × Int} (h : Walker w b f D) (hD : D < 6) (p : Addr) (a : Int) :
   Calls Tryd.prog 113 #[.pointer (some ⟨b, 0, none⟩), .pointer (some p), .int .i64 a] w fun e w' => e = .returned (.tuple #[]) ∧ Walker w' b (fun i => if i = D then (.pointer (some p), a) else f i) (D + 1) ∧ Only w.heap.size b w w' := by
 obtain ⟨C, hx, hC, h12, hat⟩ := h.blk
 have hlt : b < w.heap.size := (Array.getElem?_eq_some_iff.1 hx).1
 have x1 : w.cell? ⟨b, 12, none⟩ = some (.int .i64 D) := by simp [World.cell?, hx, h12]
 obtain ⟨v1, hv1⟩ : ∃ v, C[D * 2]? = some v := ⟨C[D * 2], by simp⟩
 obtain ⟨v2, hv2⟩ : ∃ v, C[D * 2 + 1]? = some v := ⟨C[D * 2 + 1], by simp⟩
 have x2 : w.cell? ⟨b, D * 2, none⟩ = some v1 := by simp [World.cell?, hx, hv1]
 have x3 : w.cell? ⟨b, D * 2 + 1, none⟩ = some v2 := by simp [World.cell?, hx, hv2]
 have x4 : w.frozen? ⟨b, D * 2, none⟩ = false := by simp [World.frozen?, hx]
 have x5 : w.frozen? ⟨b, D * 2 + 1, none⟩ = false := by simp [World.frozen?, hx]
 have x6 : w.frozen? ⟨b, 12, none⟩ = false := by simp [World.frozen?, hx]
 have hDi : (D : Int) < 6 := by omega
 have hD0 : (0 : Int) ≤ (D : Int) := by omega
 have HH := Lib.hid (And.intro hx (And.intro hC (And.intro h12 hat)))
 clear h hx hC h12 hat hv1 hv2
 go_enter Tryd.func113, Tryd.ntmps113
 go_wp2_with fail
 go_region
 obtain ⟨W1, hW1⟩ : ∃ W1, W1 = ((w.setCell ⟨b, D * 2, none⟩ (.pointer (some p))).setCell ⟨b, D * 2 + 1, none⟩ (.int .i64 a)).drew := ⟨_, rfl⟩
 rw [← hW1]
 have hx := HH.out.1
 have hC := HH.out.2.1
 have hx1 : W1.heap[b]? = some (.cells ((C.setIfInBounds (D * 2) (.pointer (some p))).setIfInBounds (D * 2 + 1) (.int .i64 a)) 127 (0, 0)) := by
   rw [hW1]; exact set_blk (o := D * 2 + 1) _ (set_blk (o := D * 2) _ hx)
 have ho1 : Only w.heap.size b w W1 := by
   rw [hW1]
   exact ⟨rfl, rfl, rfl, by simp [World.drew], fun k _ hne => by show (((w.setCell _ _).setCell _ _)).heap[k]? = _; rw [set_other _ _ _ _ _ hne, set_other _ _ _ _ _ hne]⟩
 obtain ⟨C1, hC1⟩ : ∃ C1, C1 = (C.setIfInBounds (D * 2) (.pointer (some p))).setIfInBounds (D * 2 + 1) (.int .i64 a) := ⟨_, rfl⟩
 rw [← hC1] at hx1
 have h12 : C1[12]? = some (.int .i64 D) := by
   rw [hC1, Array.getElem?_setIfInBounds_ne (by omega), Array.getElem?_setIfInBounds_ne (by omega)]; exact HH.out.2.2.1
 have y1 : W1.cell? ⟨b, 12, none⟩ = some (.int .i64 D) := by simp [World.cell?, hx1, h12]
 have y2 : W1.frozen? ⟨b, 12, none⟩ = false := by simp [World.frozen?, hx1]
 have hwr : IntKind.i64.wrap ((D : Int) + 1) = (D : Int) + 1 := by rw [IntKind.wrap_i64]; omega
 have HX := Lib.hid (And.intro hx1 (And.intro hC1 (And.intro ho1 hC)))
 clear hW1 hx1 hC1 ho1 hx hC h12 x1 x2 x3 x4 x5 x6
 go_wp2_with fail
 refine bodyPost_end (v := .tuple #[]) (by simp [results, Tryd.results113, go_sem]) rfl ⟨rfl, ⟨⟨_, set_blk (o := 12) (.int .i64 ((D : Int) + 1)) HX.out.1, ?_, ?_, ?_⟩⟩, ?_⟩
 · rw [HX.out.2.1]; simp [HX.out.2.2.2]
 · have hs : 12 < C1.size := by rw [HX.out.2.1]; simp [HX.out.2.2.2]
   rw [Array.getElem?_setIfInBounds_self_of_lt hs]
   simp
 · intro i hi
   rw [Array.getElem?_setIfInBounds_ne (by omega), Array.getElem?_setIfInBounds_ne (by omega), HX.out.2.1]
   have hCs := HX.out.2.2.2
   by_cases e : i = D
   · subst e
     rw [if_pos rfl]
     constructor
     · rw [Array.getElem?_setIfInBounds_ne (by omega), show 2 * i = i * 2 by omega, Array.getElem?_setIfInBounds_self_of_lt (by omega)]
     · rw [show 2 * i + 1 = i * 2 + 1 by omega, Array.getElem?_setIfInBounds_self_of_lt (by simp; omega)]
   · rw [if_neg e, Array.getElem?_setIfInBounds_ne (by omega), Array.getElem?_setIfInBounds_ne (by omega), Array.getElem?_setIfInBounds_ne (by omega), Array.getElem?_setIfInBounds_ne (by omega)]
     exact HH.out.2.2.2 i (by omega)
 · have ho := HX.out.2.2.1
   exact ⟨ho.os, ho.tape, ho.output, by have := ho.size; simp; omega, fun k h1 hne => by rw [set_other _ _ _ _ _ hne]; exact ho.block k h1 hne⟩
end Go.Proofs.YticfkfjijnfcbaaDoor
