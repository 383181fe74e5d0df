/- A list of keys inserted one behind the other: plain data. -/
import Derived.Test.YtananonjomfpkaaQf33
import Derived.Test.YtananonjomfpkaaQf22
/- Inserting: a key comes to its place among the keys of a tree. -/
namespace Go.Proofs.Ytananonjomfpkaa
open Go.RowKit
theorem putAt_within {α : Type} (P K S : List α) (q : Nat) (x : α) (h : q ≤ K.length) : putAt (P ++ (K ++ S)) (P.length + q) x = P ++ (putAt K q x ++ S) := by
 unfold putAt
 rw [List.take_length_add_append, List.drop_length_add_append, List.take_append_of_le_length h, List.drop_append_of_le_length h]
 simp
namespace Tr
theorem Well.of_valid {t : Tr} {wide : Int} (h : validB wide t = true) : Well t := by
 unfold validB at h
 simp only [Bool.and_eq_true] at h
 exact ⟨⟨wide, 0, _, h.2.1⟩, pairwise_of_sorted h.2.2⟩
theorem keys_ahead {k : List Int} {c : List Tr} {j : Nat} (hj : j < k.length) (hc : c.length = k.length + 1) :
   weave (c.take (j + 1)) (k.take (j + 1)) = weave (c.take j) (k.take j) ++ (c[j].keys ++ [k[j]]) := by
 rw [List.take_succ_eq_append_getElem (by omega : j < c.length), List.take_succ_eq_append_getElem hj, weave_append _ _ _ _ (by simp; omega)]
 rfl
theorem grow_keys {wide : Int} (hw : 0 ≤ wide) (key : Int) : ∀ (n : Nat) (t : Tr), t.weight ≤ n → Well t → (grow wide key t).1.keys = putAt t.keys (place key t.keys) key := by
 intro n
 induction n with
 | zero =>
   rintro ⟨k, c⟩ hn _
   simp only [weight] at hn
   have hc : c.length = 0 := by have := length_le_weights c; omega
   rw [grow_leaf hc, List.length_eq_zero_iff.1 hc, keys_weave, keys_weave]; rfl
 | succ n ih =>
   rintro ⟨k, c⟩ hn hwell
   by_cases hc : c.length = 0
   · rw [grow_leaf hc, List.length_eq_zero_iff.1 hc, keys_weave, keys_weave]; rfl
   · have hcl := Well.inner hwell hc
     have hp := place_le key k
     have hi : place key k < c.length := by omega
     have hlt := fun j => place_lt (c := key) (k := k) (i := j)
     have hge := place_ge (c := key) (k := k)
     rw [grow_inner hi]
     have hwt := weight_get_le c _ hi
     simp only [weight] at hn
     have hkid := Well.kid hwell _ hi
     have hu := ih c[place key k] (by omega) hkid
     have hsh := grow_shaped wide key c[place key k] hkid.fits
     have hso := hwell.2
     generalize (grow wide key c[place key k]) = r at hu hsh ⊢
     generalize place key k = i at *
     rw [keys_around hi hcl] at hso ⊢
     have hP : ∀ x ∈ weave (c.take i) (k.take i), x < key := by
       cases i with
       | zero => intro x hx; simp [weave] at hx
       | succ j =>
         have hj : j < k.length := by omega
         have h1 := hlt j (by omega)
         rw [List.getD_eq_getElem?_getD, List.getElem?_eq_getElem hj, Option.getD_some] at h1
         rw [keys_ahead hj hcl] at hso ⊢
         have h2 := (List.pairwise_append.1 hso).1
         intro x hx
         rw [← List.append_assoc] at h2 hx
         rcases List.mem_append.1 hx with hx | hx
         · have := (List.pairwise_append.1 h2).2.2 x hx k[j] (by simp)
           omega
         · simp at hx; omega
     have hS : ∀ x r, tailW (c.drop (i + 1)) (k.drop i) = x :: r → key ≤ x := by
       intro x r hx
       by_cases h : i < k.length
       · have h1 := hge h
         rw [List.getD_eq_getElem?_getD, List.getElem?_eq_getElem h, Option.getD_some] at h1
         rw [List.drop_eq_getElem_cons h] at hx
         simp only [tailW, List.cons.injEq] at hx
         omega
       · rw [List.drop_of_length_le (by omega), List.drop_of_length_le (by omega)] at hx
         simp [tailW, weave] at hx
     rw [place_append_lt hP, place_append_ge hS, putAt_within _ _ _ _ _ (place_le key _), ← hu]
     unfold growStep
     by_cases hs : wide < (r.1.ks.length : Int)
     · rw [if_pos hs]
       dsimp only
       rw [keys_splitKid _ hi hcl, keys_halves (u := r.1) (by omega) hsh]
       simp
     · rw [if_neg hs]
       exact keys_setKid _ hi hcl
theorem insT_keys {wide : Int} (hw : 0 ≤ wide) (key : Int) {t : Tr} (h : Well t) : (insT wide key t).keys = putAt t.keys (place key t.keys) key := by
 have hu := grow_keys hw key t.weight t (Nat.le_refl _) h
 have hsh := grow_shaped wide key t h.fits
 unfold insT
 dsimp only
 by_cases hs : wide < ((grow wide key t).1.ks.length : Int)
 · rw [if_pos hs, ← hu, keys_halves (by omega) hsh, keys_weave]
   simp [weave, keys_weave]
 · rw [if_neg hs, hu]
theorem sorted_of {ks : List Int} (h : ks.Pairwise (· < ·)) (hr : ∀ x ∈ ks, 0 ≤ x ∧ x ≤ 99) : sortedB ks = true := by
 refine sortedB_of fun i hi => ?_
 have e1 : ks.getD i 0 = ks[i] := by rw [List.getD_eq_getElem?_getD, List.getElem?_eq_getElem hi, Option.getD_some]
 have h1 := hr ks[i] (List.getElem_mem hi)
 unfold okAt inB
 rw [e1]
 cases i with
 | zero => simp; omega
 | succ j =>
   have hj : j < ks.length := by omega
   have e2 : ks.getD j 0 = ks[j] := by rw [List.getD_eq_getElem?_getD, List.getElem?_eq_getElem hj, Option.getD_some]
   have h2 := List.pairwise_iff_getElem.1 h j (j + 1) hj hi (by omega)
   rw [Nat.add_sub_cancel, e2]
   simp [h2]; omega
theorem put_sorted {ks : List Int} (h : ks.Pairwise (· < ·)) {key : Int} (hk : key ∉ ks) : (putAt ks (place key ks) key).Pairwise (· < ·) := by
 have h0 := h
 rw [← List.take_append_drop (place key ks) ks] at h0
 obtain ⟨h1, h2, h3⟩ := List.pairwise_append.1 h0
 have ha : ∀ x ∈ ks.take (place key ks), x < key := fun x hx => by
   obtain ⟨i, hi, rfl⟩ := List.getElem_of_mem hx
   have hi' : i < place key ks := by simp at hi; omega
   have hl : i < ks.length := by simp at hi; omega
   have := place_lt hi'
   rw [List.getD_eq_getElem?_getD, List.getElem?_eq_getElem hl, Option.getD_some] at this
   simpa using this
 have hb : ∀ x ∈ ks.drop (place key ks), key < x := fun x hx => by
   by_cases hp : place key ks < ks.length
   · have h4 := place_ge hp
     rw [List.getD_eq_getElem?_getD, List.getElem?_eq_getElem hp, Option.getD_some] at h4
     have h5 : ks[place key ks] ≤ x := by
       rw [List.drop_eq_getElem_cons hp] at hx h2
       rcases List.mem_cons.1 hx with rfl | hx
       · exact Int.le_refl _
       · exact Int.le_of_lt ((List.pairwise_cons.1 h2).1 x hx)
     have h6 : x ≠ key := fun e => hk (e ▸ List.mem_of_mem_drop hx)
     omega
   · rw [List.drop_of_length_le (by omega)] at hx
     simp at hx
 unfold putAt
 refine List.pairwise_append.2 ⟨h1, List.pairwise_cons.2 ⟨hb, h2⟩, fun x hx y hy => ?_⟩
 rcases List.mem_cons.1 hy with rfl | hy
 · exact ha x hx
 · have := ha x hx
   have := hb y hy
   omega
theorem insT_valid {wide key : Int} {t : Tr} (h : validB wide t = true) (h0 : 0 ≤ key) (h9 : key ≤ 99) (hk : key ∉ t.keys) : validB wide (insT wide key t) = true := by
 have hw := Well.of_valid h
 unfold validB at h ⊢
 simp only [Bool.and_eq_true] at h ⊢
 have hwide : 2 ≤ wide ∧ wide ≤ 6 := by simpa [inB] using h.1
 refine ⟨h.1, insT_depth hwide.1 key h.2.1, ?_⟩
 rw [insT_keys (by omega) key hw]
 refine sorted_of (put_sorted hw.2 hk) fun x hx => ?_
 unfold putAt at hx
 have hin : ∀ y ∈ t.keys, 0 ≤ y ∧ y ≤ 99 := fun y hy => by
   obtain ⟨i, hi, rfl⟩ := List.getElem_of_mem hy
   have := sorted_ge h.2.2 i hi
   rw [List.getD_eq_getElem?_getD, List.getElem?_eq_getElem hi, Option.getD_some] at this
   omega
 rcases List.mem_append.1 hx with hx | hx
 · exact hin x (List.mem_of_mem_take hx)
 · rcases List.mem_cons.1 hx with rfl | hx
   · exact ⟨h0, h9⟩
   · exact hin x (List.mem_of_mem_drop hx)
end Tr
end Go.Proofs.Ytananonjomfpkaa
/- Two keys inserted in either order: plain data. -/
namespace Go.Proofs.Ytananonjomfpkaa
open Go.RowKit
theorem mem_putAt {α : Type} {K : List α} {p : Nat} {k x : α} : x ∈ putAt K p k ↔ x = k ∨ x ∈ K := by
 unfold putAt
 constructor
 · intro h
   simp only [List.mem_append, List.mem_cons] at h
   rcases h with h | h | h
   · exact .inr (List.mem_of_mem_take h)
   · exact .inl h
   · exact .inr (List.mem_of_mem_drop h)
 · intro h
   simp only [List.mem_append, List.mem_cons]
   rcases h with h | h
   · exact .inr (.inl h)
   · rw [← List.take_append_drop p K] at h
     rcases List.mem_append.1 h with h | h
     · exact .inl h
     · exact .inr (.inr h)
theorem sorted_ext : ∀ (l m : List Int), l.Pairwise (· < ·) → m.Pairwise (· < ·) → (∀ x, x ∈ l ↔ x ∈ m) → l = m
 | [], [], _, _, _ => rfl
 | [], b :: m, _, _, h => by have := (h b).2 (by simp); cases this
 | a :: l, [], _, _, h => by have := (h a).1 (by simp); cases this
 | a :: l, b :: m, hl, hm, h => by
   obtain ⟨l1, l2⟩ := List.pairwise_cons.1 hl
   obtain ⟨m1, m2⟩ := List.pairwise_cons.1 hm
   have hab : a = b := by
     have h1 := (h a).1 (by simp)
     have h2 := (h b).2 (by simp)
     rcases List.mem_cons.1 h1 with h1 | h1
     · exact h1
     · rcases List.mem_cons.1 h2 with h2 | h2
       · exact h2.symm
       · have := m1 a h1; have := l1 b h2; omega
   subst hab
   rw [sorted_ext l m l2 m2 (fun x => ?_)]
   constructor
   · intro hx
     rcases List.mem_cons.1 ((h x).1 (by simp [hx])) with h3 | h3
     · have := l1 x hx; omega
     · exact h3
   · intro hx
     rcases List.mem_cons.1 ((h x).2 (by simp [hx])) with h3 | h3
     · have := m1 x hx; omega
     · exact h3
namespace Tr
theorem asked_iff {wide key : Int} {t : Tr} (h : validB wide t = true) : askedB wide key t = true ↔ (0 ≤ key ∧ key ≤ 99) ∧ key ∉ t.keys := by
 have hb := hasB_iff key t (valid_some h)
 unfold askedB
 rw [h]
 simp only [Bool.true_and, Bool.and_eq_true, Bool.not_eq_true', inB, decide_eq_true_eq]
 rw [← hb]
 simp
theorem ins_more {wide key : Int} {t : Tr} (h : askedB wide key t = true) : validB wide (insT wide key t) = true ∧ ∀ x, x ∈ (insT wide key t).keys ↔ x = key ∨ x ∈ t.keys := by
 have hv := (asked_path h).1
 obtain ⟨⟨h0, h9⟩, hn⟩ := (asked_iff hv).1 h
 refine ⟨insT_valid hv h0 h9 hn, fun x => ?_⟩
 rw [insT_keys (by have := valid_wide hv; omega) key (valid_well hv)]
 exact mem_putAt
end Tr
end Go.Proofs.Ytananonjomfpkaa
/- Whether the numbers of a list are keys, and not too many: the contracts of the model's l3Keys and the program's areKeys. -/
namespace Go.Proofs.Ytananonjomfpkaa
open Go.RowKit
def keysOk (ks : List Int) : Bool := (List.range ks.length).all (fun i => inB (ks.getD i 0) 0 99) && decide (ks.length ≤ 200)
end Go.Proofs.Ytananonjomfpkaa
/- A list of keys inserted one behind the other: plain data. -/
namespace Go.Proofs.Ytananonjomfpkaa
open Go.RowKit
namespace Tr
def putKey (wide : Int) (s : Tr × Nat) (k : Int) : Tr × Nat := if (s.1.path k).2 then s else (insT wide k s.1, s.2 + insN wide k s.1)
def allIn (wide : Int) (ks : List Int) : Tr × Nat := ks.foldl (putKey wide) (.mk [] [], 0)
theorem path_has {wide k : Int} {t : Tr} (h : validB wide t = true) : (t.path k).2 = true ↔ k ∈ t.keys := by
 rw [← (someB_path k t).1 (valid_some h)]
 exact hasB_iff k t (valid_some h)
def allOk (wide : Int) (ks : List Int) : Bool := inB wide 2 6 && keysOk ks
def insAllT (wide : Int) (ks : List Int) : Tr := if allOk wide ks then (allIn wide ks).1 else .mk [] []
def splitsOfB (wide : Int) (ks : List Int) : Int := if allOk wide ks then ((allIn wide ks).2 : Int) else -1
end Tr
end Go.Proofs.Ytananonjomfpkaa
