/- For every slice of bytes, the law on the key that stands in returns true and leaves its arguments as they were; no conditions. -/
import Derived.Test.YtgbgdanbdbojaaaSh0
import Derived.Test.YtgbgdanbdbojaaaSdA
import Derived.Test.YtgbgdanbdbojaaaSh21
import Derived.Test.YtgbgdanbdbojaaaSh23
import Derived.Test.YtgbgdanbdbojaaaSh19
import Derived.Test.YtgbgdanbdbojaaaSh15
import Derived.Test.YtgbgdanbdbojaaaProg
import Derived.Test.YtgbgdanbdbojaaaSh2
import Derived.Test.YtgbgdanbdbojaaaSh3
import Derived.Test.YtgbgdanbdbojaaaDepthA
import Derived.Test.YtgbgdanbdbojaaaSh26
import Derived.Test.YtgbgdanbdbojaaaSdB
import Derived.Test.YtgbgdanbdbojaaaSh12
import Derived.Deep.RegionHeld3
import Derived.Deep.DeepCutAuto
import Derived.Deep.QuietTactic
import Derived.BigQuiet
import Derived.WalkSmall
import Derived.Test.YtgbgdanbdbojaaaRows
import Derived.Test.YtgbgdanbdbojaaaFacts
import Derived.Test.YtgbgdanbdbojaaaSh1
import Derived.WalkKit
import Derived.ProofKit
import Derived.OpenShut
import Derived.ChangeOld
import Derived.Below

/- Deleting: the key that stands in for one is the key ahead, and lies in a leaf: plain data. -/
namespace Go.Proofs.Ytgbgdanbdbojaaa
open Go.RowKit
namespace Tr

theorem upto_own (kss : List (List Int)) (k : List Int) (j : Nat) (hj : j < k.length) : ∀ i, j < i → k.getD j 0 ∈ upto kss k i := by
  intro i
  induction i with
  | zero => intro h; omega
  | succ i ih =>
    intro h
    rw [upto_succ]
    by_cases hji : j < i
    · exact List.mem_append_left _ (ih hji)
    · obtain rfl : j = i := by omega
      refine List.mem_append_right _ ?_
      unfold part
      refine List.mem_append_right _ ?_
      simp [hj, List.getD_eq_getElem?_getD]

/-- A key of a kid belongs at that kid's place, and is not one of the node's own. -/
theorem kid_place {k : List Int} {cs : List Tr} (h : Well (.mk k cs)) (i : Nat) (hi : i < cs.length) {x : Int} (hx : x ∈ cs[i].keys) :
    place x k = i ∧ ¬ (place x k < k.length ∧ k.getD (place x k) 0 = x) := by
  have hcl := Well.inner h (by omega)
  obtain ⟨R, h1, -⟩ := upto_pre (keyss cs) k (i + 1) (max k.length cs.length) (by omega)
  have hk : (Tr.mk k cs).keys = upto (keyss cs) k i ++ (cs[i].keys ++ ((k[i]?).toList ++ R)) := by
    rw [Tr.keys, h1, upto_succ, part, keyss_get cs _ hi]; simp
  have hs := h.2
  rw [hk] at hs
  obtain ⟨-, s2, s3⟩ := List.pairwise_append.1 hs
  obtain ⟨-, -, s4⟩ := List.pairwise_append.1 s2
  have hlt : ∀ j, j < i → k.getD j 0 < x := fun j hj => s3 _ (upto_own _ _ j (by omega) i hj) x (List.mem_append_left _ hx)
  have hgt : i < k.length → x < k.getD i 0 := fun hik => s4 x hx _ (List.mem_append_left _ (by simp [hik, List.getD_eq_getElem?_getD]))
  have hp : place x k = i := place_eq (by omega) hlt (fun hik => by have := hgt hik; omega)
  refine ⟨hp, fun ⟨h1, h2⟩ => ?_⟩
  rw [hp] at h1 h2
  have := hgt h1
  omega

theorem kid_path {k : List Int} {cs : List Tr} (h : Well (.mk k cs)) (i : Nat) (hi : i < cs.length) {x : Int} (hx : x ∈ cs[i].keys) :
    (Tr.mk k cs).path x = ((i : Int) :: (cs[i].path x).1, (cs[i].path x).2) := by
  obtain ⟨hp, hn⟩ := kid_place h i hi hx
  subst hp
  exact path_inner hn hi

theorem kid_depth {k : List Int} {cs : List Tr} (h : Tops (.mk k cs)) (i : Nat) (hi : i < cs.length) : cs[i].depth + 1 = (Tr.mk k cs).depth := by
  obtain ⟨w, l, d, -, hn⟩ := h
  have h1 := nodes_depth w _ l d _ (Nat.le_refl _) hn
  rcases (nodesB_parts hn).2 with ⟨h2, _⟩ | ⟨_, _, _, _, h5⟩
  · omega
  · have h3 := nodes_depth w _ _ _ _ (Nat.le_refl _) (h5 i hi)
    omega

theorem depth_leaf {k : List Int} {cs : List Tr} (h : cs.length = 0) : (Tr.mk k cs).depth = 1 := by
  rw [List.length_eq_zero_iff.1 h]; rfl

/-- The greatest key is the last, and lies in a leaf. -/
theorem greatest_facts : ∀ (n : Nat) (t : Tr), t.weight ≤ n → Well t → Full t →
    (∃ A, t.keys = A ++ [t.greatest]) ∧ (t.path t.greatest).2 = true ∧ (t.path t.greatest).1.length + 1 = t.depth := by
  intro n
  have hleaf : ∀ (k : List Int) (cs : List Tr), cs.length = 0 → Well (.mk k cs) → Full (.mk k cs) →
      (∃ A, (Tr.mk k cs).keys = A ++ [(Tr.mk k cs).greatest]) ∧ ((Tr.mk k cs).path (Tr.mk k cs).greatest).2 = true ∧ ((Tr.mk k cs).path (Tr.mk k cs).greatest).1.length + 1 = (Tr.mk k cs).depth := by
    intro k cs hc hw hf
    have hk0 := Full.keys hf
    have hne : k ≠ [] := fun e => hk0 (by rw [e]; rfl)
    have hg : (Tr.mk k cs).greatest = k.getLast hne := by
      rw [greatest_leaf hc, List.getLast_eq_getElem, List.getD_eq_getElem?_getD, List.getElem?_eq_getElem (by omega)]; rfl
    have hm : (Tr.mk k cs).greatest ∈ k := by rw [hg]; exact List.getLast_mem hne
    refine ⟨⟨k.dropLast, by rw [keys_leaf hc, hg]; exact (List.dropLast_concat_getLast hne).symm⟩, ?_⟩
    rw [path_found (place_mem hw.keys hm), depth_leaf hc]
    exact ⟨rfl, rfl⟩
  induction n with
  | zero =>
    rintro ⟨k, cs⟩ hn
    simp only [weight] at hn
    exact hleaf k cs (by have := length_le_weights cs; omega)
  | succ n ih =>
    rintro ⟨k, cs⟩ hn hw hf
    by_cases hc : cs.length = 0
    · exact hleaf k cs hc hw hf
    · have hcl := Well.inner hw hc
      have hi : cs.length - 1 < cs.length := by omega
      have hwt := weight_get_le cs _ hi
      simp only [weight] at hn
      obtain ⟨⟨A, hA⟩, h2, h3⟩ := ih cs[cs.length - 1] (by omega) (Well.kid hw _ hi) (Tops.kid hf.tops _ hi)
      have hg := greatest_inner (k := k) hi
      have hmem : cs[cs.length - 1].greatest ∈ cs[cs.length - 1].keys := by rw [hA]; simp
      rw [hg]
      have hp := kid_path hw _ hi hmem
      refine ⟨⟨upto (keyss cs) k (cs.length - 1) ++ A, ?_⟩, by rw [hp]; exact h2, ?_⟩
      · have hm : max k.length cs.length = cs.length - 1 + 1 := by omega
        have hkn : k[cs.length - 1]? = none := List.getElem?_eq_none (by omega)
        rw [Tr.keys, hm, upto_succ, part, keyss_get cs _ hi, hkn]
        simp [hA]
      · rw [hp, ← kid_depth hf.tops _ hi]
        simp only [List.length_cons]
        omega

/-- The key that stands in. -/
theorem stand_facts (key : Int) : ∀ (n : Nat) (t : Tr), t.weight ≤ n → Well t → Tops t → (t.path key).2 = true →
    (t.path key).1.length + 1 ≤ t.depth ∧ ((t.stand key).2 = true ↔ (t.path key).1.length + 1 < t.depth) ∧
    ((t.stand key).2 = true → (∃ A B, t.keys = A ++ (t.stand key).1 :: key :: B) ∧ (t.path (t.stand key).1).2 = true ∧ (t.path (t.stand key).1).1.length + 1 = t.depth) := by
  intro n
  have hleaf : ∀ (k : List Int) (cs : List Tr), cs.length = 0 → ((Tr.mk k cs).path key).2 = true →
      ((Tr.mk k cs).path key).1.length + 1 ≤ (Tr.mk k cs).depth ∧ (((Tr.mk k cs).stand key).2 = true ↔ ((Tr.mk k cs).path key).1.length + 1 < (Tr.mk k cs).depth) ∧
      (((Tr.mk k cs).stand key).2 = true → (∃ A B, (Tr.mk k cs).keys = A ++ ((Tr.mk k cs).stand key).1 :: key :: B) ∧ ((Tr.mk k cs).path ((Tr.mk k cs).stand key).1).2 = true ∧ ((Tr.mk k cs).path ((Tr.mk k cs).stand key).1).1.length + 1 = (Tr.mk k cs).depth) := by
    intro k cs hc hp
    by_cases hf : place key k < k.length ∧ k.getD (place key k) 0 = key
    · rw [stand_leaf hc, path_found hf, depth_leaf hc]
      simp
    · rw [path_leaf hf hc] at hp
      cases hp
  induction n with
  | zero =>
    rintro ⟨k, cs⟩ hn _ _
    simp only [weight] at hn
    exact hleaf k cs (by have := length_le_weights cs; omega)
  | succ n ih =>
    rintro ⟨k, cs⟩ hn hw ht hp
    by_cases hc : cs.length = 0
    · exact hleaf k cs hc hp
    · have hcl := Well.inner hw hc
      have hpl := place_le key k
      have hi : place key k < cs.length := by omega
      have hwt := weight_get_le cs _ hi
      simp only [weight] at hn
      obtain ⟨R, hk, -, -⟩ := Well.split hw hc key hi
      have hkd := kid_depth ht _ hi
      by_cases hf : place key k < k.length ∧ k.getD (place key k) 0 = key
      · obtain ⟨⟨A, hA⟩, h2, h3⟩ := greatest_facts _ cs[place key k] (Nat.le_refl _) (Well.kid hw _ hi) (Tops.kid ht _ hi)
        have hmem : cs[place key k].greatest ∈ cs[place key k].keys := by rw [hA]; simp
        have hkp := kid_path hw _ hi hmem
        rw [stand_found hf hi, path_found hf]
        refine ⟨by simp; omega, ⟨fun _ => by simp; omega, fun _ => rfl⟩, fun _ => ⟨⟨upto (keyss cs) k (place key k) ++ A, R, ?_⟩, by rw [hkp]; exact h2, by rw [hkp, ← hkd]; simp only [List.length_cons]; omega⟩⟩
        rw [hk, hA]
        have hke : (k[place key k]?).toList = [key] := by
          have := hf.2
          rw [List.getD_eq_getElem?_getD, List.getElem?_eq_getElem hf.1] at this
          rw [List.getElem?_eq_getElem hf.1]
          simpa using this
        rw [hke]
        simp
      · rw [path_inner hf hi] at hp ⊢
        rw [stand_inner hf hi]
        obtain ⟨h0, h1, h2⟩ := ih cs[place key k] (by omega) (Well.kid hw _ hi) (Tops.kid ht _ hi).tops hp
        refine ⟨by simp only [List.length_cons]; omega, h1.trans ⟨fun h => by simp only [List.length_cons]; omega, fun h => by simp only [List.length_cons] at h; omega⟩, fun h => ?_⟩
        obtain ⟨⟨A, B, hAB⟩, h4, h5⟩ := h2 h
        have hmem : (cs[place key k].stand key).1 ∈ cs[place key k].keys := by rw [hAB]; simp
        have hkp := kid_path hw _ hi hmem
        refine ⟨⟨upto (keyss cs) k (place key k) ++ A, B ++ ((k[place key k]?).toList ++ R), ?_⟩, by rw [hkp]; exact h4, by rw [hkp, ← hkd]; simp only [List.length_cons]; omega⟩
        rw [hk, hAB]
        simp

/-- What the law on the key that stands in asks. -/
theorem stand_law (wide key : Int) (t : Tr) :
    (standB wide key t).2 = ((validB wide t && (t.pathB key).2) && decide (t.visitsB key < (t.depth : Int))) ∧
    ((standB wide key t).2 = true → validB wide t = true ∧ (t.pathB key).2 = true ∧ t.prevB key = ((standB wide key t).1, true) ∧ t.visitsB (standB wide key t).1 = (t.depth : Int)) := by
  by_cases hv : validB wide t = true
  case neg =>
    have hv' : validB wide t = false := by simpa using hv
    have e : standB wide key t = (0, false) := by rw [standB, if_neg hv]
    rw [e, hv']
    simp
  have hw := Well.of_some (someB_valid hv)
  have hs := someB_valid hv
  have ht := Tops.of_valid hv (valid_wide hv).1
  have e : standB wide key t = t.stand key := by rw [standB, if_pos hv]
  have hpb : t.pathB key = t.path key := (someB_path key t).1 hs
  have hvis : ∀ x, t.visitsB x = ((t.pathB x).1.length : Int) + 1 := fun x => (visitsB_is x t).1 hs
  rw [e, hpb, hv, hvis key, hpb]
  by_cases hp : (t.path key).2 = true
  case neg =>
    have hp' : (t.path key).2 = false := by simpa using hp
    rw [stand_none key t hw hp', hp']
    simp
  obtain ⟨h0, h1, h2⟩ := stand_facts key _ t (Nat.le_refl _) hw ht hp
  rw [hp]
  constructor
  · rw [Bool.eq_iff_iff, h1]
    simp
    omega
  · intro h
    obtain ⟨⟨A, B, hAB⟩, h4, h5⟩ := h2 h
    refine ⟨rfl, rfl, ?_, ?_⟩
    · rw [(prevB_is key t).1 hs, prevOf]
      have hsrt := hw.2
      rw [hAB, show A ++ (t.stand key).1 :: key :: B = (A ++ [(t.stand key).1]) ++ (key :: B) by simp] at hsrt ⊢
      have hlt : ∀ x ∈ A ++ [(t.stand key).1], x < key := fun x hx => (List.pairwise_append.1 hsrt).2.2 x hx key (by simp)
      have hpk : place key (key :: B) = 0 := by simp [place]
      rw [place_append_lt hlt, hpk]
      simp
    · rw [hvis, (someB_path _ t).1 hs]
      omega
end Tr
end Go.Proofs.Ytgbgdanbdbojaaa

/- The law on the key that stands in: the walk over the contracts. -/
namespace Go.Proofs.Ytgbgdanbdbojaaa
open Go.RowKit

set_option maxHeartbeats 2000000 in
set_option maxRecDepth 100000 in
theorem fnStandIn_c {w : World} {v : Value} {bs : List Nat} (h : BytesIn w w.heap.size v bs) :
    Calls Try.prog 6 #[v] w fun e w' => e = .returned (.bool true) ∧ Below w.heap.size w w' := by
  have H := Lib.hid h
  obtain ⟨a1, c1, rfl, -⟩ := h
  by_cases hc1 : bs.length ≤ 1048576
  case neg =>
    have hc1' : ((bs.length : Int) > 1048576) := by omega
    go_enter Try.func6, Try.ntmps6
    go_wp2_with fail
    go_ret
    exact ⟨rfl, Below.refl _ _⟩
  have hc1' : ¬ ((bs.length : Int) > 1048576) := by omega
  have HD := Lib.hid (DrawStandIn_c H.out w (Below.refl _ _) (Nat.le_refl _))
  go_enter Try.func6, Try.ntmps6
  go_wp2_with fail
  refine HD.out.mono ?_
  rintro e w2 ⟨k2, d2, t, wide, key, rfl, ⟨hwd1, hwd2⟩, ht2, hw2, hkey, hb2⟩
  obtain ⟨b1, b2, b3, b4, b5, b6, rfl, rfl⟩ := ht2.slices
  have hs2 := hb2.size
  obtain ⟨W3, hW3⟩ : ∃ W3, W3 = w2.alloc (.cells #[.slice b1 b2 b3, .slice b4 b5 b6] 26) := ⟨_, rfl⟩
  have hs3 : w2.heap.size < W3.heap.size := by rw [hW3]; simp
  have hb3 : Below w2.heap.size w2 W3 := by rw [hW3]; exact (Below.refl _ _).alloc (Nat.le_refl _) _
  have hx3 : W3.heap[w2.heap.size]? = some (.cells #[.slice b1 b2 b3, .slice b4 b5 b6] 26 (0, 0)) := by rw [hW3, new_blk]
  have hta3 : TreeA W3 (.slice b1 b2 b3) (.slice b4 b5 b6) t := (ht2.a (fun k hk => hk.2)).later hb3 (Nat.le_refl _)
  have hwt : t.weight ≤ 1048576 := by omega
  have hdl := Tr.depth_le t
  have hct := Tr.count_le t
  obtain ⟨S, hS⟩ : ∃ S, S = (t.standB wide key).1 := ⟨_, rfl⟩
  obtain ⟨O, hO⟩ : ∃ O, O = (t.standB wide key).2 := ⟨_, rfl⟩
  obtain ⟨PV, hPV⟩ : ∃ PV, PV = (t.prevB key).1 := ⟨_, rfl⟩
  obtain ⟨PO, hPO⟩ : ∃ PO, PO = (t.prevB key).2 := ⟨_, rfl⟩
  obtain ⟨V, hV⟩ : ∃ V, V = Tr.validB wide t := ⟨_, rfl⟩
  obtain ⟨Hk, hHk⟩ : ∃ Hk, Hk = (t.pathB key).2 := ⟨_, rfl⟩
  obtain ⟨N1, hN1⟩ : ∃ N1, N1 = t.visitsB key := ⟨_, rfl⟩
  obtain ⟨N2, hN2⟩ : ∃ N2, N2 = t.visitsB S := ⟨_, rfl⟩
  obtain ⟨D, hD⟩ : ∃ D, D = t.depth := ⟨_, rfl⟩
  have C1 := fun (wx : World) (hx : Below W3.heap.size W3 wx) => impl_stand hta3.tree hwt wide key (by omega) (by omega) wx hx hx.size
  have C2 := fun (wx : World) (hx : Below W3.heap.size W3 wx) => specStandIn_c hta3.tree hwt wide key wx hx hx.size
  have C3 := fun (wx : World) (hx : Below W3.heap.size W3 wx) => impl_prev hta3.tree hwt key wx hx hx.size
  have C4 := fun (wx : World) (hx : Below W3.heap.size W3 wx) => impl_valid _ _ _ _ _ wide hta3.tree hwt (by omega) (by omega) wx hx hx.size
  have C5 := fun (wx : World) (hx : Below W3.heap.size W3 wx) => impl_has hta3.tree hwt key wx hx hx.size
  have C6 := fun (wx : World) (hx : Below W3.heap.size W3 wx) => impl_visits hta3.tree hwt key wx hx hx.size
  have C7 := fun (wx : World) (hx : Below W3.heap.size W3 wx) => impl_depth_a (hta3.later hx (Nat.le_refl _)) hwt
  have C8 := fun (wx : World) (hx : Below W3.heap.size W3 wx) => impl_visits hta3.tree hwt S wx hx hx.size
  obtain ⟨l1, l2⟩ := Tr.stand_law wide key t
  rw [← hS, ← hO] at C1 C2
  rw [← hPV, ← hPO] at C3
  rw [← hV] at C4
  rw [← hHk] at C5
  rw [← hN1] at C6
  rw [← hD] at C7 hdl
  rw [← hN2] at C8
  rw [← hO, ← hV, ← hHk, ← hN1, ← hD] at l1
  rw [← hO, ← hS, ← hV, ← hHk, ← hD, ← hN2] at l2
  have l2' : O = true → PV = S ∧ PO = true ∧ N2 = (D : Int) := fun h => by
    obtain ⟨-, -, h3, h4⟩ := l2 h
    exact ⟨by rw [hPV, h3], by rw [hPO, h3], h4⟩
  have HC1 := Lib.hid C1
  have HC2 := Lib.hid C2
  have HC3 := Lib.hid C3
  have HC4 := Lib.hid C4
  have HC5 := Lib.hid C5
  have HC6 := Lib.hid C6
  have HC7 := Lib.hid C7
  have HC8 := Lib.hid C8
  have BOX : Hid (∀ wx : World, Below W3.heap.size W3 wx → wx.heap[w2.heap.size]? = some (.cells #[.slice b1 b2 b3, .slice b4 b5 b6] 26 (0, 0))) := Lib.hid (fun wx hx => (hx.block _ (by omega)).trans hx3)
  have HF := Lib.hid (hb2.trans (hb3.mono (by omega)))
  have hx3x := hx3
  rw [hW3] at hx3x
  obtain ⟨x1, x2, x3, x4⟩ := box2 hx3x
  have HW3 := Lib.hid hW3
  have hneb : (O != O) = false := by simp
  have hnes : (S != S) = false := by simp
  have L1 := Lib.hid l1
  have L2 := Lib.hid l2'
  clear ht2 hb2 hW3 hb3 hx3 hx3x hta3 hkey C1 C2 C3 C4 C5 C6 C7 C8 l1 l2 l2' hS hO hPV hPO hV hHk hN1 hN2 hD
  go_wp2_with fail
  rw [← HW3.out]
  clear x1 x2 x3 x4
  refine (HC1.out W3 (Below.refl _ _)).mono ?_
  rintro e w4 ⟨rfl, hb4⟩
  have hz4 := hb4.size
  have HB4 := Lib.hid hb4
  clear hb4
  obtain ⟨x1, x2, -⟩ := box2 (BOX.out w4 HB4.out)
  go_wp2_with fail
  refine (HC2.out w4 HB4.out).mono ?_
  rintro e w5 ⟨rfl, hb5⟩
  have HB5 := Lib.hid (HB4.out.trans (hb5.mono hz4))
  have hz5 := HB5.out.size
  clear hb5 x1 x2
  obtain ⟨x1, x2, -⟩ := box2 (BOX.out w5 HB5.out)
  go_wp2_with fail
  refine (HC3.out w5 HB5.out).mono ?_
  rintro e w6 ⟨rfl, hb6⟩
  have HB6 := Lib.hid (HB5.out.trans (hb6.mono hz5))
  have hz6 := HB6.out.size
  clear hb6 x1 x2
  obtain ⟨x1, x2, -⟩ := box2 (BOX.out w6 HB6.out)
  go_upto_region 9 with (fail)
  go_cut [12] (fun s12 wx => s12 = .bool (V && Hk) ∧ Below W3.heap.size W3 wx)
  case first =>
    go_wp2_with fail
    refine (HC4.out w6 HB6.out).mono ?_
    rintro e w7 ⟨rfl, hb7⟩
    have HB7 := Lib.hid (HB6.out.trans (hb7.mono hz6))
    have hz7 := HB7.out.size
    clear hb7 x1 x2
    obtain ⟨x1, x2, -⟩ := box2 (BOX.out w7 HB7.out)
    cases V with
    | false =>
      go_wp2_with fail
      go_meet
      exact ⟨rfl, HB7.out⟩
    | true =>
      go_wp2_with fail
      refine (HC5.out w7 HB7.out).mono ?_
      rintro e w8 ⟨rfl, hb8⟩
      have HB8 := Lib.hid (HB7.out.trans (hb8.mono hz7))
      clear hb8 x1 x2
      go_wp2_with fail
      go_meet
      exact ⟨by simp, HB8.out⟩
  case rest =>
    obtain ⟨rfl, hwc⟩ := hcut
    have HB8 := Lib.hid hwc
    have hz8 := HB8.out.size
    clear hwc x1 x2
    obtain ⟨x1, x2, -⟩ := box2 (BOX.out wc HB8.out)
    have hL := L1.out
    generalize (V && Hk) = VH at hL ⊢
    have HL := Lib.hid hL
    clear hL
    go_upto_region 10 with (fail)
    go_cut [13] (fun s13 wx => s13 = .bool O ∧ Below W3.heap.size W3 wx)
    case first =>
      have hL := HL.out
      cases VH with
      | false =>
        obtain rfl : O = false := by simpa using hL
        clear hL
        go_quiet (fail)
        go_wp2_with fail
        go_meet
        exact ⟨rfl, below_drewN HB8.out _⟩
      | true =>
        by_cases hlt : N1 < (D : Int)
        · obtain rfl : O = true := by simpa [hlt] using hL
          clear hL
          go_region_held3 (fun x => x.cell? ⟨w2.heap.size, 0, none⟩ = some (.slice b1 b2 b3) ∧ x.cell? ⟨w2.heap.size, 1, none⟩ = some (.slice b4 b5 b6))
            (first | exact ⟨x1, x2⟩ | exact ⟨z1, z2⟩ | exact ⟨q1, q2⟩ | go_keep)
            (first
            | (go_at_call 16; refine (HC7.out _ HB21.out).mono ?_; rintro e w22 ⟨rfl, hb22⟩; have hB22 : Below W3.heap.size W3 w22 := HB21.out.trans (hb22.mono (by have := HB21.out.size; omega)); obtain ⟨q1, q2, -⟩ := box2 (BOX.out w22 hB22); have HB22 := Lib.hid hB22; clear hb22 hB22)
            | (go_at_call 33; refine (HC6.out _ HB8.out.drew).mono ?_; rintro e w21 ⟨rfl, hb21⟩; have hB21 : Below W3.heap.size W3 w21 := HB8.out.drew.trans (hb21.mono (by have := HB8.out.size; simp; omega)); obtain ⟨z1, z2, -⟩ := box2 (BOX.out w21 hB21); have HB21 := Lib.hid hB21; clear hb21 hB21))
          go_wp2_with fail
          go_meet
          exact ⟨rfl, HB22.out⟩
        · obtain rfl : O = false := by simpa [hlt] using hL
          have hdn : decide (N1 < (D : Int)) = false := by simp [hlt]
          clear hL
          go_region_held3 (fun x => x.cell? ⟨w2.heap.size, 0, none⟩ = some (.slice b1 b2 b3) ∧ x.cell? ⟨w2.heap.size, 1, none⟩ = some (.slice b4 b5 b6))
            (first | exact ⟨x1, x2⟩ | exact ⟨z1, z2⟩ | exact ⟨q1, q2⟩ | go_keep)
            (first
            | (go_at_call 16; refine (HC7.out _ HB21.out).mono ?_; rintro e w22 ⟨rfl, hb22⟩; have hB22 : Below W3.heap.size W3 w22 := HB21.out.trans (hb22.mono (by have := HB21.out.size; omega)); obtain ⟨q1, q2, -⟩ := box2 (BOX.out w22 hB22); have HB22 := Lib.hid hB22; clear hb22 hB22)
            | (go_at_call 33; refine (HC6.out _ HB8.out.drew).mono ?_; rintro e w21 ⟨rfl, hb21⟩; have hB21 : Below W3.heap.size W3 w21 := HB8.out.drew.trans (hb21.mono (by have := HB8.out.size; simp; omega)); obtain ⟨z1, z2, -⟩ := box2 (BOX.out w21 hB21); have HB21 := Lib.hid hB21; clear hb21 hB21))
          go_wp2_with fail
          go_meet
          first | exact ⟨rfl, HB22.out⟩ | exact ⟨by rw [hdn], HB22.out⟩ | exact ⟨by simp [hdn], HB22.out⟩
    case rest =>
      obtain ⟨rfl, hwc2⟩ := hcut
      have HB9 := Lib.hid hwc2
      have hz9 := HB9.out.size
      clear hwc2 x1 x2
      obtain ⟨x1, x2, -⟩ := box2 (BOX.out _ HB9.out)
      go_upto_region 11 with (fail)
      cases O with
      | false =>
        go_quiet (fail)
        go_wp2_with fail
        go_ret
        exact ⟨rfl, HF.out.trans ((below_drewN HB9.out _).mono (by have := HF.out.size; omega))⟩
      | true =>
        obtain ⟨rfl, rfl, rfl⟩ := L2.out rfl
        have he1 : ((PV : Int) == PV) = true := by simp
        have he2 : ((D : Int) == (D : Int)) = true := by simp
        go_region_held3 (fun x => x.cell? ⟨w2.heap.size, 0, none⟩ = some (.slice b1 b2 b3) ∧ x.cell? ⟨w2.heap.size, 1, none⟩ = some (.slice b4 b5 b6))
          (first | exact ⟨x1, x2⟩ | exact ⟨z1, z2⟩ | exact ⟨q1, q2⟩ | go_keep)
          (first
            | (go_at_call 16; refine (HC7.out _ HB31.out).mono ?_; rintro e w32 ⟨rfl, hb32⟩; have hB32 : Below W3.heap.size W3 w32 := HB31.out.trans (hb32.mono (by have := HB31.out.size; omega)); obtain ⟨q1, q2, -⟩ := box2 (BOX.out w32 hB32); have HB32 := Lib.hid hB32; clear hb32 hB32)
            | (go_at_call 33; refine (HC8.out _ HB9.out.drew).mono ?_; rintro e w31 ⟨rfl, hb31⟩; have hB31 : Below W3.heap.size W3 w31 := HB9.out.drew.trans (hb31.mono (by have := HB9.out.size; simp; omega)); obtain ⟨z1, z2, -⟩ := box2 (BOX.out w31 hB31); have HB31 := Lib.hid hB31; clear hb31 hB31))
        go_wp2_with fail
        go_ret
        first
          | exact ⟨rfl, HF.out.trans (HB32.out.mono (by have := HF.out.size; omega))⟩
          | exact ⟨ret_bool (by simp), HF.out.trans (HB32.out.mono (by have := HF.out.size; omega))⟩
end Go.Proofs.Ytgbgdanbdbojaaa

/- The statement on the key that stands in, from the walk of its law. -/
namespace Go.Proofs.Ytgbgdanbdbojaaa.fnStandInRowP
open Go.ChangeShapes Go.WideShapes Go.ChangeAt Go.RowKit
set_option linter.unusedVariables false

theorem own : ownKnob Try.prog.godebug = none := by kernel_rfl
theorem laidOut : laidOutB Try.prog = true := by kernel_rfl

set_option maxRecDepth 100000 in
set_option maxHeartbeats 1000000 in
theorem lifted (os : Os) (started : os.Started) (H : Type) (enc : TypeId × Value → H) :
    ReturnsInHanded {} Try.checked os 6 .any (Rows.fnStandInSpec.pre6 enc Try.prog Try.f6 Rows.fnStandInRow.domain false) (Rows.fnStandInSpec.post enc Try.prog Try.f6 false true false false) := by
  refine returnsInHanded_of_change (C := Try.checked) own started (by kernel_rfl) Try.func6
    (ChangeSpec.witness6 (enc := enc) (C := Try.checked) false ⟨#[], #[.slice none 0 0], []⟩ 8 (by kernel_rfl) (by kernel_rfl) (by kernel_rfl) (by kernel_rfl)) ?_
  intro W base args ds gs before hval0 hW hcnd _
  have hval : ∀ (j : Nat) t v, Try.f6.params[j]? = some t → args[j]? = some v → Value.okWide Try.prog W .any base t v := hval0
  have hW' := hW
  obtain ⟨p, q, hA0, hV, rfl, hfz, hnd⟩ := hW
  have hA : DataW.TrodAll enc Try.prog W 0 (fun _ => true) true Try.f6.params.toList args.toList ds p := hA0
  rw [Try.params6] at hA hval
  obtain ⟨v0, vs0, d0, ds0, p0, q0, hargs, rfl, rfl, h0, r0⟩ := trodAll_cons hA
  obtain ⟨rfl, rfl, rfl⟩ := trodAll_nil r0
  obtain rfl : args = #[v0] := by cases args; simp_all
  obtain ⟨rfl, rfl⟩ := trodVars_none hV
  obtain ⟨a0, len0, cap0, rfl⟩ := okWide_slice Try.underlying22 (hval 0 22 v0 rfl rfl)
  have k0 := h0
  have lt0 : ∀ x ∈ p0, x.block < W.heap.size := by obtain ⟨m, hm⟩ := k0; exact DataW.trod_lt m _ _ _ hm
  obtain ⟨bs0, hb0⟩ : ∃ bs, BytesIn W W.heap.size (.slice a0 len0 cap0) bs := by
    obtain ⟨fuel, hf⟩ := h0
    exact bytes_of_trod fuel (fun _ => rfl) hf
  clear hA0 hval0
  refine (fnStandIn_c hb0).mono fun e W' ⟨he, bel⟩ => ?_
  subst he
  exact ⟨_, rfl, _, _, _, [], _, [], hW', trodAll_mk1 (shut_bool Try.underlying4 _), (trodAll_cons_mk (Below.trod laidOut (by kernel_rfl) (of_decide_eq_true (by kernel_rfl)) k0 bel lt0) trodAll_mk0), rfl, bel.frame _, fun h => by cases h⟩

theorem closed : joinedFacts Try.prog 6 Try.f6 Rows.fnStandInSpec Rows.fnStandInRow = true := by
  unfold joinedFacts
  exact band (band (band (band (band (band (band (by kernel_rfl) fact_enter) fact_lifts) fact_make) (by kernel_rfl)) (by kernel_rfl)) (by kernel_rfl)) (by kernel_rfl)

theorem over : Rows.fnStandInRow.holds Try.pinned (OpenSpec.ofChange Rows.fnStandInSpec) :=
  OpenClaim.holds_of_wide 6 Try.f6 rfl rfl rfl rfl rfl rfl rfl ⟨rfl, rfl, rfl, rfl, rfl⟩ rfl rfl rfl rfl rfl (by kernel_rfl) Try.func6 closed
    (of_decide_eq_true (by kernel_rfl)) (by unfold Func.isWrapper; first | (rw [if_pos (by decide +kernel)]; kernel_rfl) | (rw [if_neg (by decide +kernel)]; exact ⟨rfl, rfl⟩))
    (fun os started H enc _ => lifted os started H enc)
end Go.Proofs.Ytgbgdanbdbojaaa.fnStandInRowP

/- For every slice of bytes, the law on the key that stands in returns true and leaves its arguments as they were; no conditions. -/
namespace Go.Proofs.Ytgbgdanbdbojaaa

theorem standInLaw_said : Rows.FnStandInSaid := fnStandInRowP.over
end Go.Proofs.Ytgbgdanbdbojaaa
