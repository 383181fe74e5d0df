/- What is asked of a node below which a key is deleted, and the shape of what is left. Plain data. -/
import Derived.Test.YtananonjomfpkaaProg
import Derived.Test.YtananonjomfpkaaQb0
import Derived.Test.YtananonjomfpkaaQb3
import Derived.Test.YtananonjomfpkaaQb13
import Derived.Test.YtananonjomfpkaaQb23
import Derived.Test.YtananonjomfpkaaQb10
import Derived.Test.YtananonjomfpkaaQb11
import Derived.Test.YtananonjomfpkaaQbS10
import Derived.Test.YtananonjomfpkaaQb19
import Derived.Test.YtananonjomfpkaaQb15
import Derived.Test.YtananonjomfpkaaQb18
import Derived.Test.YtananonjomfpkaaQb20
import Derived.Test.YtananonjomfpkaaQbS7

/- The contract of the program's PathOf. -/
namespace Go.Proofs.Ytananonjomfpkaa
open Go.RowKit

end Go.Proofs.Ytananonjomfpkaa

/- The model's HasKey and VisitsOf, and the program's, over PathOf. -/
namespace Go.Proofs.Ytananonjomfpkaa
open Go.RowKit

set_option maxHeartbeats 1000000 in
theorem specHasKey_c {w : World} {B : Nat} {kv cv : Value} {t : Tr} (ht : TreeIn w B kv cv t) (hw : t.weight ≤ 1048576) (key : Int) (w' : World) (hbw : Below B w w') (hB : B ≤ w'.heap.size) :
    Calls Try.prog 98 #[.agg #[kv, cv], .int .i64 key] w' fun e w'' => e = .returned (.bool (t.pathB key).2) ∧ Below w'.heap.size w' w'' := by
  have HB := Lib.hid hbw
  have hb1 : Below w'.heap.size w' (w'.alloc (.cells #[kv, cv] 26)) := (Below.refl _ _).alloc (Nat.le_refl _) _
  clear hbw
  go_enter Try.func98, Try.ntmps98
  go_wp2_with fail
  refine (specPathOf_c ht hw key _ (HB.out.trans (hb1.mono hB)) (by simp; omega)).mono ?_
  rintro e w1 ⟨v, rfl, hv, hb2⟩
  obtain ⟨va, vc, rfl⟩ := IntsOwn.shown hv
  have HX := Lib.hid (hb1.trans (hb2.mono (by simp)))
  clear hb1 hb2 hv
  go_wp2_with fail
  go_ret
  exact ⟨rfl, HX.out⟩

def Tr.visitsB (key : Int) (t : Tr) : Int := if t.someB then ((t.pathB key).1.length : Int) + 1 else -1
-- END


end Go.Proofs.Ytananonjomfpkaa

/- Deleting: the key that stands in for one is the key ahead, and lies in a leaf: plain data. -/
namespace Go.Proofs.Ytananonjomfpkaa
open Go.RowKit
namespace Tr

theorem upto_own (kss : List (List Int)) (k : List Int) (j : Nat) (hj : j < k.length) : ∀ i, j < i → k.getD j 0 ∈ upto kss k i := by
  intro i
  induction i with
  | zero => intro h; omega
  | succ i ih =>
    intro h
    rw [upto_succ]
    by_cases hji : j < i
    · exact List.mem_append_left _ (ih hji)
    · obtain rfl : j = i := by omega
      refine List.mem_append_right _ ?_
      unfold part
      refine List.mem_append_right _ ?_
      simp [hj, List.getD_eq_getElem?_getD]

theorem kid_place {k : List Int} {cs : List Tr} (h : Well (.mk k cs)) (i : Nat) (hi : i < cs.length) {x : Int} (hx : x ∈ cs[i].keys) :
    place x k = i ∧ ¬ (place x k < k.length ∧ k.getD (place x k) 0 = x) := by
  have hcl := Well.inner h (by omega)
  obtain ⟨R, h1, -⟩ := upto_pre (keyss cs) k (i + 1) (max k.length cs.length) (by omega)
  have hk : (Tr.mk k cs).keys = upto (keyss cs) k i ++ (cs[i].keys ++ ((k[i]?).toList ++ R)) := by
    rw [Tr.keys, h1, upto_succ, part, keyss_get cs _ hi]; simp
  have hs := h.2
  rw [hk] at hs
  obtain ⟨-, s2, s3⟩ := List.pairwise_append.1 hs
  obtain ⟨-, -, s4⟩ := List.pairwise_append.1 s2
  have hlt : ∀ j, j < i → k.getD j 0 < x := fun j hj => s3 _ (upto_own _ _ j (by omega) i hj) x (List.mem_append_left _ hx)
  have hgt : i < k.length → x < k.getD i 0 := fun hik => s4 x hx _ (List.mem_append_left _ (by simp [hik, List.getD_eq_getElem?_getD]))
  have hp : place x k = i := place_eq (by omega) hlt (fun hik => by have := hgt hik; omega)
  refine ⟨hp, fun ⟨h1, h2⟩ => ?_⟩
  rw [hp] at h1 h2
  have := hgt h1
  omega

theorem kid_path {k : List Int} {cs : List Tr} (h : Well (.mk k cs)) (i : Nat) (hi : i < cs.length) {x : Int} (hx : x ∈ cs[i].keys) :
    (Tr.mk k cs).path x = ((i : Int) :: (cs[i].path x).1, (cs[i].path x).2) := by
  obtain ⟨hp, hn⟩ := kid_place h i hi hx
  subst hp
  exact path_inner hn hi

theorem kid_depth {k : List Int} {cs : List Tr} (h : Tops (.mk k cs)) (i : Nat) (hi : i < cs.length) : cs[i].depth + 1 = (Tr.mk k cs).depth := by
  obtain ⟨w, l, d, -, hn⟩ := h
  have h1 := nodes_depth w _ l d _ (Nat.le_refl _) hn
  rcases (nodesB_parts hn).2 with ⟨h2, _⟩ | ⟨_, _, _, _, h5⟩
  · omega
  · have h3 := nodes_depth w _ _ _ _ (Nat.le_refl _) (h5 i hi)
    omega

theorem depth_leaf {k : List Int} {cs : List Tr} (h : cs.length = 0) : (Tr.mk k cs).depth = 1 := by
  rw [List.length_eq_zero_iff.1 h]; rfl

theorem greatest_facts : ∀ (n : Nat) (t : Tr), t.weight ≤ n → Well t → Full t →
    (∃ A, t.keys = A ++ [t.greatest]) ∧ (t.path t.greatest).2 = true ∧ (t.path t.greatest).1.length + 1 = t.depth := by
  intro n
  have hleaf : ∀ (k : List Int) (cs : List Tr), cs.length = 0 → Well (.mk k cs) → Full (.mk k cs) →
      (∃ A, (Tr.mk k cs).keys = A ++ [(Tr.mk k cs).greatest]) ∧ ((Tr.mk k cs).path (Tr.mk k cs).greatest).2 = true ∧ ((Tr.mk k cs).path (Tr.mk k cs).greatest).1.length + 1 = (Tr.mk k cs).depth := by
    intro k cs hc hw hf
    have hk0 := Full.keys hf
    have hne : k ≠ [] := fun e => hk0 (by rw [e]; rfl)
    have hg : (Tr.mk k cs).greatest = k.getLast hne := by
      rw [greatest_leaf hc, List.getLast_eq_getElem, List.getD_eq_getElem?_getD, List.getElem?_eq_getElem (by omega)]; rfl
    have hm : (Tr.mk k cs).greatest ∈ k := by rw [hg]; exact List.getLast_mem hne
    refine ⟨⟨k.dropLast, by rw [keys_leaf hc, hg]; exact (List.dropLast_concat_getLast hne).symm⟩, ?_⟩
    rw [path_found (place_mem hw.keys hm), depth_leaf hc]
    exact ⟨rfl, rfl⟩
  induction n with
  | zero =>
    rintro ⟨k, cs⟩ hn
    simp only [weight] at hn
    exact hleaf k cs (by have := length_le_weights cs; omega)
  | succ n ih =>
    rintro ⟨k, cs⟩ hn hw hf
    by_cases hc : cs.length = 0
    · exact hleaf k cs hc hw hf
    · have hcl := Well.inner hw hc
      have hi : cs.length - 1 < cs.length := by omega
      have hwt := weight_get_le cs _ hi
      simp only [weight] at hn
      obtain ⟨⟨A, hA⟩, h2, h3⟩ := ih cs[cs.length - 1] (by omega) (Well.kid hw _ hi) (Tops.kid hf.tops _ hi)
      have hg := greatest_inner (k := k) hi
      have hmem : cs[cs.length - 1].greatest ∈ cs[cs.length - 1].keys := by rw [hA]; simp
      rw [hg]
      have hp := kid_path hw _ hi hmem
      refine ⟨⟨upto (keyss cs) k (cs.length - 1) ++ A, ?_⟩, by rw [hp]; exact h2, ?_⟩
      · have hm : max k.length cs.length = cs.length - 1 + 1 := by omega
        have hkn : k[cs.length - 1]? = none := List.getElem?_eq_none (by omega)
        rw [Tr.keys, hm, upto_succ, part, keyss_get cs _ hi, hkn]
        simp [hA]
      · rw [hp, ← kid_depth hf.tops _ hi]
        simp only [List.length_cons]
        omega

end Tr
end Go.Proofs.Ytananonjomfpkaa

/- What is asked of a node below which a key is deleted, and the shape of what is left. Plain data. -/
namespace Go.Proofs.Ytananonjomfpkaa
open Go.RowKit

namespace Tr
def Lacks (key : Int) (t : Tr) : Prop := Well t ∧ Full t ∧ (t.path key).2 = true

theorem Lacks.leaf {key : Int} {k : List Int} {c : List Tr} (h : Lacks key (.mk k c)) (h0 : c.length = 0) : place key k < k.length := by
  obtain ⟨hw, hf, hp⟩ := h
  by_cases ho : place key k < k.length ∧ k.getD (place key k) 0 = key
  · exact ho.1
  · rw [path_leaf ho h0] at hp; cases hp
theorem Lacks.kid {key : Int} {k : List Int} {c : List Tr} (h : Lacks key (.mk k c)) (h0 : c.length ≠ 0) :
    c.length = k.length + 1 ∧ 1 ≤ k.length ∧ place key k < c.length ∧ Lacks (if ownKey key k then (kidAt c (place key k)).greatest else key) (kidAt c (place key k)) := by
  obtain ⟨hw, hf, hp⟩ := h
  have hcl := Well.inner hw h0
  have hk := Full.keys hf
  have hle := place_le key k
  have hi : place key k < c.length := by omega
  refine ⟨hcl, by omega, hi, ?_⟩
  rw [kidAt_get hi]
  have hwk := Well.kid hw _ hi
  have hfk := Tops.kid hf.tops _ hi
  refine ⟨hwk, hfk, ?_⟩
  by_cases ho : ownKey key k
  · rw [if_pos ho]
    exact (greatest_facts _ _ (Nat.le_refl _) hwk hfk).2.1
  · rw [if_neg ho]
    have ho' : ¬ (place key k < k.length ∧ k.getD (place key k) 0 = key) := ho
    rw [path_inner ho' hi] at hp
    exact hp

def Less (t : Tr) (k : List Int) (c : List Tr) : Prop := Shaped t ∧ t.ks.length ≤ k.length ∧ t.cs.length ≤ c.length

theorem less_mk {k k' : List Int} {c c' : List Tr} (h1 : k'.length = k.length) (h2 : c'.length = c.length) (hc : c.length = k.length + 1) : Less (.mk k' c') k c :=
  ⟨.inr (by simp only [Tr.cs, Tr.ks]; omega), by simp only [Tr.ks]; omega, by simp only [Tr.cs]; omega⟩
theorem mended_less {half : Int} {k : List Int} {c : List Tr} {i : Nat} (hc : c.length = k.length + 1) (hk : 1 ≤ k.length) (hi : i < c.length) : Less (mended (mend half c i) k c i) k c := by
  have hah : ∀ j, j + 1 < c.length → Less (ahead k c j) k c := fun j hj => by
    unfold ahead; exact less_mk (by simp) (setTwo_length hj) hc
  have hbe : ∀ j, j + 1 < c.length → Less (behind k c j) k c := fun j hj => by
    unfold behind; exact less_mk (by simp) (setTwo_length hj) hc
  have hjo : ∀ j, j + 1 < c.length → Less (joined k c j) k c := fun j hj => by
    unfold joined
    have h1 := takeAt_length (k := k) (i := j) (by omega)
    dsimp only
    generalize Tr.mk ((kidAt c j).ks ++ k.getD j 0 :: (kidAt c (j + 1)).ks) ((kidAt c j).cs ++ (kidAt c (j + 1)).cs) = u
    have h2 := setOne_length (c := c) (i := j) (x := u) hj
    exact ⟨.inr (by show (setOne c j u).length = (takeAt k j).length + 1; omega), by show (takeAt k j).length ≤ _; omega, by show (setOne c j u).length ≤ _; omega⟩
  unfold mend
  split
  · rename_i h; exact hah _ (by omega)
  · split
    · rename_i h; exact hbe _ h.1
    · split
      · exact hjo _ (by omega)
      · exact hjo _ (by omega)

theorem repair_less {half : Int} {k : List Int} {c : List Tr} {i b j : Nat} (hc : c.length = k.length + 1) (hk : 1 ≤ k.length) (hi : i < c.length) : Less (repair half k c i b j).t k c := by
  by_cases h : ((kidAt c i).ks.length : Int) < half
  · rw [repair_eq h]; exact mended_less hc hk hi
  · rw [repair_none h]; exact less_mk rfl rfl hc

theorem del_less {half : Int} : ∀ (n : Nat) (key : Int) (k : List Int) (c : List Tr), Lacks key (.mk k c) → Less (del half (n + 1) key (.mk k c)).t k c := by
  intro n key k c h
  by_cases h0 : c.length = 0
  · rw [del_leaf h0]
    have h1 := takeAt_length (h.leaf h0)
    exact ⟨.inl (by simp [Tr.cs]), by simp only [Tr.ks]; omega, by simp [Tr.cs]⟩
  · obtain ⟨hc, hk, hi, -⟩ := h.kid h0
    have hless : ∀ {k' : List Int} {c' : List Tr} {t : Tr}, k'.length = k.length → c'.length = c.length → Less t k' c' → Less t k c := fun e1 e2 ⟨a1, a2, a3⟩ => ⟨a1, by omega, by omega⟩
    by_cases ho : ownKey key k
    · rw [del_hit h0 ho]
      exact hless (by simp) (setKid_length hi) (repair_less (by rw [setKid_length hi]; simp [hc]) (by simpa using hk) (by rw [setKid_length hi]; exact hi))
    · rw [del_miss h0 ho]
      exact hless rfl (setKid_length hi) (repair_less (by rw [setKid_length hi]; exact hc) hk (by rw [setKid_length hi]; exact hi))

theorem del_count {half : Int} : ∀ (n : Nat) (key : Int) (t : Tr), (del half n key t).b + (del half n key t).j ≤ n := by
  intro n
  induction n with
  | zero => intro key t; cases t; simp [del]
  | succ n ih =>
    rintro key ⟨k, c⟩
    have hr : ∀ (k' : List Int) (c' : List Tr) (i b j : Nat), b + j ≤ n → (repair half k' c' i b j).b + (repair half k' c' i b j).j ≤ n + 1 := fun k' c' i b j h => by
      by_cases hh : ((kidAt c' i).ks.length : Int) < half
      · rw [repair_eq hh]
        show b + (if mend half c' i < 2 then 1 else 0) + (j + (if mend half c' i < 2 then 0 else 1)) ≤ n + 1
        split <;> omega
      · rw [repair_none hh]; show b + j ≤ n + 1; omega
    by_cases h0 : c.length = 0
    · rw [del_leaf h0]; show 0 + 0 ≤ n + 1; omega
    · by_cases ho : ownKey key k
      · rw [del_hit h0 ho]; exact hr _ _ _ _ _ (ih _ _)
      · rw [del_miss h0 ho]; exact hr _ _ _ _ _ (ih _ _)
end Tr
end Go.Proofs.Ytananonjomfpkaa
