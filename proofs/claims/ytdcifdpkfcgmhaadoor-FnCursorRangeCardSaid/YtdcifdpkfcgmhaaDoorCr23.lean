/- A walker's stack: isIndex and push. -/
import Derived.Test.YtdcifdpkfcgmhaaDoorCr0
import Derived.Test.YtdcifdpkfcgmhaaDoorCr5
import Derived.Test.YtdcifdpkfcgmhaaDoorCr12
import Derived.Test.YtdcifdpkfcgmhaaDoorCr13
import Derived.Test.YtdcifdpkfcgmhaaDoorCr22
import Derived.Test.YtdcifdpkfcgmhaaDoorCrS2
import Derived.Test.YtdcifdpkfcgmhaaDoorCr11
import Derived.Test.YtdcifdpkfcgmhaaDoorProg
import Derived.Test.YtdcifdpkfcgmhaaDoorCr4
import Derived.Test.YtdcifdpkfcgmhaaDoorCr2
import Derived.Deep.RegionHeld3
import Derived.Deep.QuietTactic
import Derived.BigQuiet
import Derived.StillTailTactics

/- Inserting: a tree whose nodes are as a valid tree's keeps such nodes. -/
namespace Go.Proofs.YtdcifdpkfcgmhaaDoor
open Go.RowKit

namespace Tr
/-- A node as a valid tree's, but for one key too many. -/
def Over (wide least d : Int) : Tr → Prop
  | .mk k c => (least ≤ (k.length : Int) ∧ (k.length : Int) ≤ wide + 1) ∧ ((c.length = 0 ∧ d = 1) ∨ (c.length ≠ 0 ∧ d ≠ 1 ∧ c.length = k.length + 1 ∧ k.length ≠ 0 ∧ ∀ x ∈ c, nodesB wide (wide / 2) (d - 1) x = true))
theorem nodes_mem {wide least d : Int} {k : List Int} {c : List Tr} (h : nodesB wide least d (.mk k c) = true) :
    (least ≤ (k.length : Int) ∧ (k.length : Int) ≤ wide) ∧ ((c.length = 0 ∧ d = 1) ∨ (c.length ≠ 0 ∧ d ≠ 1 ∧ c.length = k.length + 1 ∧ k.length ≠ 0 ∧ ∀ x ∈ c, nodesB wide (wide / 2) (d - 1) x = true)) := by
  obtain ⟨h1, h2⟩ := nodesB_parts h
  refine ⟨h1, h2.imp id (fun ⟨a, b, c', e, f⟩ => ⟨a, b, c', e, fun x hx => ?_⟩)⟩
  obtain ⟨i, hi, rfl⟩ := List.getElem_of_mem hx
  exact f i hi
theorem nodes_of {wide least d : Int} {k : List Int} {c : List Tr} (h : (least ≤ (k.length : Int) ∧ (k.length : Int) ≤ wide) ∧ ((c.length = 0 ∧ d = 1) ∨ (c.length ≠ 0 ∧ d ≠ 1 ∧ c.length = k.length + 1 ∧ k.length ≠ 0 ∧ ∀ x ∈ c, nodesB wide (wide / 2) (d - 1) x = true))) :
    nodesB wide least d (.mk k c) = true := by
  obtain ⟨⟨h1, h2⟩, ⟨h3, rfl⟩ | ⟨h3, h4, h5, h6, h7⟩⟩ := h
  · exact nodesB_leaf h1 h2 h3
  · exact nodesB_inner h1 h2 h4 h5 h6 (fun i hi => h7 _ (List.getElem_mem hi))
theorem Over.fits {wide least d : Int} {t : Tr} (h : Over wide least d t) (hl : (t.ks.length : Int) ≤ wide) : nodesB wide least d t = true := by
  cases t with
  | mk k c => exact nodes_of ⟨⟨h.1.1, hl⟩, h.2⟩
theorem Over.left {wide least d : Int} {t : Tr} (hw : 2 ≤ wide) (h : Over wide least d t) (hl : wide < (t.ks.length : Int)) : nodesB wide (wide / 2) d t.leftOf = true := by
  cases t with
  | mk k c =>
    obtain ⟨⟨h1, h2⟩, h3⟩ := h
    simp only [ks] at hl
    refine nodes_of ⟨⟨by simp; omega, by simp; omega⟩, ?_⟩
    rcases h3 with ⟨h3, h4⟩ | ⟨h3, h4, h5, h6, h7⟩
    · exact .inl ⟨by simp [h3], h4⟩
    · exact .inr ⟨by rw [List.length_take]; omega, h4, by rw [List.length_take, List.length_take]; omega, by rw [List.length_take]; omega, fun x hx => h7 x (List.mem_of_mem_take hx)⟩
theorem Over.right {wide least d : Int} {t : Tr} (hw : 2 ≤ wide) (h : Over wide least d t) (hl : wide < (t.ks.length : Int)) : nodesB wide (wide / 2) d t.rightOf = true := by
  cases t with
  | mk k c =>
    obtain ⟨⟨h1, h2⟩, h3⟩ := h
    simp only [ks] at hl
    refine nodes_of ⟨⟨by simp; omega, by simp; omega⟩, ?_⟩
    rcases h3 with ⟨h3, h4⟩ | ⟨h3, h4, h5, h6, h7⟩
    · exact .inl ⟨by simp [h3], h4⟩
    · exact .inr ⟨by simp; omega, h4, by simp; omega, by simp; omega, fun x hx => h7 x (List.mem_of_mem_drop hx)⟩

/-- A key more in a node as a valid tree's makes at most one too many. -/
theorem grow_over {wide : Int} (hw : 2 ≤ wide) (key : Int) : ∀ (n : Nat) (least d : Int) (t : Tr), t.weight ≤ n → nodesB wide least d t = true → Over wide least d (grow wide key t).1 := by
  intro n
  induction n with
  | zero =>
    rintro least d ⟨k, c⟩ hn h
    simp only [weight] at hn
    have hc : c.length = 0 := by have := length_le_weights c; omega
    obtain ⟨⟨h1, h2⟩, h3⟩ := nodes_mem h
    rw [grow_leaf hc]
    have hl := putAt_length (x := key) (place_le key k)
    refine ⟨⟨by rw [hl]; omega, by rw [hl]; omega⟩, .inl ⟨rfl, ?_⟩⟩
    rcases h3 with h3 | h3
    · exact h3.2
    · exact absurd hc h3.1
  | succ n ih =>
    rintro least d ⟨k, c⟩ hn h
    obtain ⟨⟨h1, h2⟩, h3⟩ := nodes_mem h
    have hl := fun x : Int => putAt_length (x := x) (place_le key k)
    rcases h3 with ⟨hc, hd⟩ | ⟨hc, hd, h5, h6, h7⟩
    · rw [grow_leaf hc]
      exact ⟨⟨by rw [hl]; omega, by rw [hl]; omega⟩, .inl ⟨rfl, hd⟩⟩
    · have hp := place_le key k
      have hi : place key k < c.length := by omega
      rw [grow_inner hi]
      have hwt := weight_get_le c _ hi
      simp only [weight] at hn
      have hu := ih (wide / 2) (d - 1) c[place key k] (by omega) (h7 _ (List.getElem_mem hi))
      generalize (grow wide key c[place key k]) = r at hu ⊢
      generalize place key k = i at *
      unfold growStep
      by_cases hs : wide < (r.1.ks.length : Int)
      · rw [if_pos hs]
        have hL := hu.left hw hs
        have hR := hu.right hw hs
        refine ⟨⟨by rw [hl]; omega, by rw [hl]; omega⟩, .inr ⟨by simp, hd, ?_, by rw [hl]; omega, fun x hx => ?_⟩⟩
        · rw [hl]; simp; omega
        · rcases List.mem_append.1 hx with hx | hx
          · exact h7 x (List.mem_of_mem_take hx)
          · rcases List.mem_cons.1 hx with rfl | hx
            · exact hL
            · rcases List.mem_cons.1 hx with rfl | hx
              · exact hR
              · exact h7 x (List.mem_of_mem_drop hx)
      · rw [if_neg hs]
        have hF := hu.fits (by omega)
        refine ⟨⟨h1, by omega⟩, .inr ⟨by simp [setKid], hd, by rw [setKid_length hi]; exact h5, h6, fun x hx => ?_⟩⟩
        rcases List.mem_append.1 hx with hx | hx
        · exact h7 x (List.mem_of_mem_take hx)
        · rcases List.mem_cons.1 hx with rfl | hx
          · exact hF
          · exact h7 x (List.mem_of_mem_drop hx)

/-- The tree that a key makes has nodes as a valid tree's. -/
theorem insT_nodes {wide : Int} (hw : 2 ≤ wide) (key : Int) {d : Int} {t : Tr} (h : nodesB wide 0 d t = true) : nodesB wide 0 (if insG wide key t then d + 1 else d) (insT wide key t) = true := by
  have hu := grow_over hw key t.weight 0 d t (Nat.le_refl _) h
  unfold insG insT
  dsimp only
  by_cases hs : wide < ((grow wide key t).1.ks.length : Int)
  · rw [if_pos hs, if_pos (by simpa using hs)]
    refine nodes_of ⟨⟨by simp, by simp; omega⟩, .inr ⟨by simp, ?_, by simp, by simp, fun x hx => ?_⟩⟩
    · have := nodesB_pos wide t.weight 0 d t (Nat.le_refl _) h
      omega
    · rw [show d + 1 - 1 = d by omega]
      simp only [List.mem_cons, List.not_mem_nil, or_false] at hx
      rcases hx with rfl | rfl
      · exact hu.left hw hs
      · exact hu.right hw hs
  · rw [if_neg hs, if_neg (by simpa using hs)]
    exact hu.fits (by omega)
/-- A tree with such nodes is as deep as told. -/
theorem nodes_depth (wide : Int) : ∀ (n : Nat) (least d : Int) (t : Tr), t.weight ≤ n → nodesB wide least d t = true → (t.depth : Int) = d := by
  intro n
  induction n with
  | zero =>
    rintro least d ⟨k, c⟩ hn h
    simp only [weight] at hn
    have hc : c.length = 0 := by have := length_le_weights c; omega
    obtain ⟨_, h3⟩ := nodesB_parts h
    rcases h3 with h3 | h3
    · rw [List.length_eq_zero_iff.1 hc, h3.2]; rfl
    · exact absurd hc h3.1
  | succ n ih =>
    rintro least d ⟨k, c⟩ hn h
    obtain ⟨_, h3⟩ := nodesB_parts h
    rcases h3 with ⟨hc, hd⟩ | ⟨hc, hd, h5, h6, h7⟩
    · rw [List.length_eq_zero_iff.1 hc, hd]; rfl
    · simp only [weight] at hn
      have hk : ∀ i (hi : i < c.length), (c[i].depth : Int) = d - 1 := fun i hi => by
        have := weight_get_le c i hi
        exact ih _ _ _ (by omega) (h7 i hi)
      have h0 := hk 0 (by omega)
      have hs := depths_same (D := (d - 1).toNat) hc (fun i hi => by have := hk i hi; omega)
      rw [depth, hs]
      omega
/-- The tree that a key makes of a valid one has a valid one's nodes, and the depth that is asked. -/
theorem insT_depth {wide : Int} (hw : 2 ≤ wide) (key : Int) {t : Tr} (h : nodesB wide 0 t.depth t = true) : nodesB wide 0 (insT wide key t).depth (insT wide key t) = true := by
  have h1 := insT_nodes hw key h
  have h2 := nodes_depth wide _ _ _ _ (Nat.le_refl _) h1
  rw [← h2] at h1
  exact h1
end Tr
end Go.Proofs.YtdcifdpkfcgmhaaDoor

/- Paths that lead to nodes: plain data. -/
namespace Go.Proofs.YtdcifdpkfcgmhaaDoor
open Go.RowKit
namespace Tr

theorem nodeTo_append : ∀ (p q : List Int) (t : Tr), nodeTo (p ++ q) t = (nodeTo p t).bind (nodeTo q)
  | [], q, t => rfl
  | i :: p, q, .mk k c => by
    show nodeTo (i :: (p ++ q)) (.mk k c) = _
    simp only [nodeTo]
    split
    · exact nodeTo_append p q _
    · rfl

theorem nodeTo_nodes {wide : Int} : ∀ (ks : List Int) (t u : Tr) (least d : Int), nodesB wide least d t = true → nodeTo ks t = some u → ∃ l, nodesB wide l (d - ks.length) u = true
  | [], t, u, least, d, h, hn => by
    simp only [nodeTo, Option.some.injEq] at hn
    subst hn
    exact ⟨least, by simpa using h⟩
  | i :: p, .mk k c, u, least, d, h, hn => by
    simp only [nodeTo] at hn
    split at hn
    · rename_i hi
      obtain ⟨N, rfl⟩ : ∃ N : Nat, i = N := ⟨i.toNat, by omega⟩
      have hN : N < c.length := by omega
      rw [Int.toNat_natCast] at hn
      have hge : c.getD N (.mk [] []) = c[N] := by rw [List.getD_eq_getElem?_getD, List.getElem?_eq_getElem hN]; rfl
      rw [hge] at hn
      obtain ⟨-, hsh⟩ := nodes_mem h
      rcases hsh with ⟨h0, _⟩ | ⟨_, _, _, _, hk⟩
      · omega
      obtain ⟨l, hl⟩ := nodeTo_nodes p c[N] u _ _ (hk _ (List.getElem_mem hN)) hn
      refine ⟨l, ?_⟩
      rw [show d - ((N : Int) :: p).length = d - 1 - p.length by simp; omega]
      exact hl
    · cases hn

theorem nodeTo_few {ks : List Int} {t u : Tr} (hs : t.someB = true) (h : nodeTo ks t = some u) : ks.length ≤ 5 := by
  obtain ⟨wide, hw1, hw2, hv⟩ : ∃ q : Nat, 2 ≤ q ∧ q ≤ 6 ∧ validB q t = true := by
    refine Classical.byContradiction fun hno => ?_
    have := (someB_of t).2 (fun q h1 h2 => by
      cases hq : validB q t
      · rfl
      · exact absurd ⟨q, h1, h2, hq⟩ hno)
    rw [this] at hs
    cases hs
  have hk := sorted_len (valid_keys hv)
  have h' := hv
  simp only [validB, Bool.and_eq_true] at h'
  have hn := h'.2.1
  obtain ⟨l, hl⟩ := nodeTo_nodes ks t u _ _ hn h
  have hpos := nodesB_pos wide u.weight _ _ u (Nat.le_refl _) hl
  obtain ⟨e, he⟩ : ∃ e, t.depth = e + 1 := ⟨t.depth - 1, by omega⟩
  rw [he] at hn
  by_cases h6 : e ≤ 5
  · omega
  · exfalso
    have := nodes_keys wide (by omega) e 0 _ t rfl (.inr (by omega)) (by simpa using hn)
    have h2 : 2 ^ 7 ≤ 2 ^ (e + 1) := Nat.pow_le_pow_right (by omega) (by omega)
    omega
end Tr
end Go.Proofs.YtdcifdpkfcgmhaaDoor

/- A walker's stack: isIndex and push. -/
namespace Go.Proofs.YtdcifdpkfcgmhaaDoor
open Go.RowKit

theorem isIndex_c (n : Int) (c : Nat) (w : World) :
    Calls Tryd.prog 109 #[.int .i64 n, .int .i64 c] w fun e w' => e = .returned (.bool (inB n 0 ((c : Int) - 1))) ∧ w' = w := by
  obtain ⟨C, hC⟩ : ∃ C : Int, C = c := ⟨_, rfl⟩
  rw [← hC]
  clear hC
  by_cases h0 : 0 ≤ n
  · by_cases h1 : n < C
    · have HE := Lib.hid (inB_true h0 (show n ≤ C - 1 by omega))
      go_enter Tryd.func109, Tryd.ntmps109
      go_wp2_with fail
      go_ret
      exact ⟨by rw [HE.out]; rfl, rfl⟩
    · have HE := Lib.hid (inB_false (n := n) (lo := 0) (hi := C - 1) (by omega))
      go_enter Tryd.func109, Tryd.ntmps109
      go_wp2_with fail
      go_ret
      exact ⟨by rw [HE.out]; rfl, rfl⟩
  · have HE := Lib.hid (inB_false (n := n) (lo := 0) (hi := C - 1) (by omega))
    go_enter Tryd.func109, Tryd.ntmps109
    go_wp2_with fail
    go_ret
    exact ⟨by rw [HE.out]; rfl, rfl⟩

/-- A walker: its six joints and how deep it stands. -/
structure Walker (w : World) (b : Nat) (f : Nat → Value × Int) (D : Nat) : Prop where
  blk : ∃ C : Array Value, w.heap[b]? = some (.cells C 125 (0, 0)) ∧ C.size = 13 ∧ C[12]? = some (.int .i64 D) ∧ ∀ i, i < D → C[2 * i]? = some (f i).1 ∧ C[2 * i + 1]? = some (.int .i64 (f i).2)

set_option maxHeartbeats 1000000 in
set_option maxRecDepth 100000 in
theorem push_c {w : World} {b D : Nat} {f : Nat → Value × Int} (h : Walker w b f D) (hD : D < 6) (p : Addr) (a : Int) :
    Calls Tryd.prog 110 #[.pointer (some ⟨b, 0, none⟩), .pointer (some p), .int .i64 a] w fun e w' => e = .returned (.tuple #[]) ∧ Walker w' b (fun i => if i = D then (.pointer (some p), a) else f i) (D + 1) ∧ Only w.heap.size b w w' := by
  obtain ⟨C, hx, hC, h12, hat⟩ := h.blk
  have hlt : b < w.heap.size := (Array.getElem?_eq_some_iff.1 hx).1
  have x1 : w.cell? ⟨b, 12, none⟩ = some (.int .i64 D) := by simp [World.cell?, hx, h12]
  obtain ⟨v1, hv1⟩ : ∃ v, C[D * 2]? = some v := ⟨C[D * 2], by simp⟩
  obtain ⟨v2, hv2⟩ : ∃ v, C[D * 2 + 1]? = some v := ⟨C[D * 2 + 1], by simp⟩
  have x2 : w.cell? ⟨b, D * 2, none⟩ = some v1 := by simp [World.cell?, hx, hv1]
  have x3 : w.cell? ⟨b, D * 2 + 1, none⟩ = some v2 := by simp [World.cell?, hx, hv2]
  have x4 : w.frozen? ⟨b, D * 2, none⟩ = false := by simp [World.frozen?, hx]
  have x5 : w.frozen? ⟨b, D * 2 + 1, none⟩ = false := by simp [World.frozen?, hx]
  have x6 : w.frozen? ⟨b, 12, none⟩ = false := by simp [World.frozen?, hx]
  have hDi : (D : Int) < 6 := by omega
  have hD0 : (0 : Int) ≤ (D : Int) := by omega
  have HH := Lib.hid (And.intro hx (And.intro hC (And.intro h12 hat)))
  clear h hx hC h12 hat hv1 hv2
  go_enter Tryd.func110, Tryd.ntmps110
  go_wp2_with fail
  go_region
  obtain ⟨W1, hW1⟩ : ∃ W1, W1 = ((w.setCell ⟨b, D * 2, none⟩ (.pointer (some p))).setCell ⟨b, D * 2 + 1, none⟩ (.int .i64 a)).drew := ⟨_, rfl⟩
  rw [← hW1]
  have hx := HH.out.1
  have hC := HH.out.2.1
  have hx1 : W1.heap[b]? = some (.cells ((C.setIfInBounds (D * 2) (.pointer (some p))).setIfInBounds (D * 2 + 1) (.int .i64 a)) 125 (0, 0)) := by
    rw [hW1]; exact set_blk (o := D * 2 + 1) _ (set_blk (o := D * 2) _ hx)
  have ho1 : Only w.heap.size b w W1 := by
    rw [hW1]
    exact ⟨rfl, rfl, rfl, by simp [World.drew], fun k _ hne => by show (((w.setCell _ _).setCell _ _)).heap[k]? = _; rw [set_other _ _ _ _ _ hne, set_other _ _ _ _ _ hne]⟩
  obtain ⟨C1, hC1⟩ : ∃ C1, C1 = (C.setIfInBounds (D * 2) (.pointer (some p))).setIfInBounds (D * 2 + 1) (.int .i64 a) := ⟨_, rfl⟩
  rw [← hC1] at hx1
  have h12 : C1[12]? = some (.int .i64 D) := by
    rw [hC1, Array.getElem?_setIfInBounds_ne (by omega), Array.getElem?_setIfInBounds_ne (by omega)]; exact HH.out.2.2.1
  have y1 : W1.cell? ⟨b, 12, none⟩ = some (.int .i64 D) := by simp [World.cell?, hx1, h12]
  have y2 : W1.frozen? ⟨b, 12, none⟩ = false := by simp [World.frozen?, hx1]
  have hwr : IntKind.i64.wrap ((D : Int) + 1) = (D : Int) + 1 := by rw [IntKind.wrap_i64]; omega
  have HX := Lib.hid (And.intro hx1 (And.intro hC1 (And.intro ho1 hC)))
  clear hW1 hx1 hC1 ho1 hx hC h12 x1 x2 x3 x4 x5 x6
  go_wp2_with fail
  refine bodyPost_end (v := .tuple #[]) (by simp [results, Tryd.results110, go_sem]) rfl ⟨rfl, ⟨⟨_, set_blk (o := 12) (.int .i64 ((D : Int) + 1)) HX.out.1, ?_, ?_, ?_⟩⟩, ?_⟩
  · rw [HX.out.2.1]; simp [HX.out.2.2.2]
  · have hs : 12 < C1.size := by rw [HX.out.2.1]; simp [HX.out.2.2.2]
    rw [Array.getElem?_setIfInBounds_self_of_lt hs]
    simp
  · intro i hi
    rw [Array.getElem?_setIfInBounds_ne (by omega), Array.getElem?_setIfInBounds_ne (by omega), HX.out.2.1]
    have hCs := HX.out.2.2.2
    by_cases e : i = D
    · subst e
      rw [if_pos rfl]
      constructor
      · rw [Array.getElem?_setIfInBounds_ne (by omega), show 2 * i = i * 2 by omega, Array.getElem?_setIfInBounds_self_of_lt (by omega)]
      · rw [show 2 * i + 1 = i * 2 + 1 by omega, Array.getElem?_setIfInBounds_self_of_lt (by simp; omega)]
    · rw [if_neg e, Array.getElem?_setIfInBounds_ne (by omega), Array.getElem?_setIfInBounds_ne (by omega), Array.getElem?_setIfInBounds_ne (by omega), Array.getElem?_setIfInBounds_ne (by omega)]
      exact HH.out.2.2.2 i (by omega)
  · have ho := HX.out.2.2.1
    exact ⟨ho.os, ho.tape, ho.output, by have := ho.size; simp; omega, fun k h1 hne => by rw [set_other _ _ _ _ _ hne]; exact ho.block k h1 hne⟩
end Go.Proofs.YtdcifdpkfcgmhaaDoor
