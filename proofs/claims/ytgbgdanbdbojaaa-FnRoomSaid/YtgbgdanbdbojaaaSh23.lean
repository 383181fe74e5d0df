/- Two lists that are the same: the laws' own function. -/
import Derived.Test.YtgbgdanbdbojaaaProg
import Derived.Test.YtgbgdanbdbojaaaSh0
import Derived.Test.YtgbgdanbdbojaaaSh7
import Derived.Test.YtgbgdanbdbojaaaValid
import Derived.Test.YtgbgdanbdbojaaaSh9
import Derived.Test.YtgbgdanbdbojaaaSh12
import Derived.Test.YtgbgdanbdbojaaaSh21
import Derived.Test.YtgbgdanbdbojaaaNextSpec
import Derived.Test.YtgbgdanbdbojaaaSh15
import Derived.Test.YtgbgdanbdbojaaaSh22
import Derived.Test.YtgbgdanbdbojaaaSh17
import Derived.Deep.QuietTactic
import Derived.BigQuiet
import Derived.WalkSmall

/- The model's KeyAt. -/
namespace Go.Proofs.Ytgbgdanbdbojaaa
open Go.RowKit

/-- The key with so many less ones. -/
def keyL (keys : List Int) (r : Int) : Int × Bool := if 0 ≤ r ∧ r < (keys.length : Int) then (keys.getD r.toNat 0, true) else (0, false)
def Tr.keyAtB (r : Int) (t : Tr) : Int × Bool := if t.someB then keyL t.keys r else (0, false)
theorem keyAtB_is (r : Int) (t : Tr) : (t.someB = true → t.keyAtB r = keyL t.keys r) ∧ (t.someB = false → t.keyAtB r = (0, false)) := by
  unfold Tr.keyAtB; constructor <;> intro h <;> simp [h]


-- END

end Go.Proofs.Ytgbgdanbdbojaaa

/- Finding: a key is found where it is among the keys in order; plain data. -/
namespace Go.Proofs.Ytgbgdanbdbojaaa
open Go.RowKit

theorem sorted_get {ks : List Int} (h : ks.Pairwise (· < ·)) {i j : Nat} (hij : i < j) (hj : j < ks.length) : ks.getD i 0 < ks.getD j 0 := by
  have := List.pairwise_iff_getElem.1 h i j (by omega) hj hij
  simpa [List.getD_eq_getElem?_getD, hj, show i < ks.length by omega] using this

/-- The place of a key is its index. -/
theorem place_get {ks : List Int} (h : ks.Pairwise (· < ·)) {i : Nat} (hi : i < ks.length) : place (ks.getD i 0) ks = i :=
  place_eq (by omega) (fun j hj => sorted_get h hj hi) (fun _ => by omega)

theorem place_mem {ks : List Int} (h : ks.Pairwise (· < ·)) {x : Int} (hx : x ∈ ks) : place x ks < ks.length ∧ ks.getD (place x ks) 0 = x := by
  obtain ⟨i, hi, rfl⟩ := List.mem_iff_getElem.1 hx
  have e : ks[i] = ks.getD i 0 := by simp [List.getD_eq_getElem?_getD, hi]
  rw [e, place_get h hi]
  exact ⟨hi, rfl⟩

namespace Tr
theorem path_mem (key : Int) : ∀ (n : Nat) (t : Tr), t.weight ≤ n → Well t → (t.path key).2 = true → key ∈ t.keys := by
  intro n
  induction n with
  | zero =>
    rintro ⟨k, cs⟩ hn hw hp
    simp only [weight] at hn
    have hc : cs.length = 0 := by have := length_le_weights cs; omega
    by_cases hf : place key k < k.length ∧ k.getD (place key k) 0 = key
    · have := hf.1
      omega
    · rw [path_leaf hf hc] at hp
      cases hp
  | succ n ih =>
    rintro ⟨k, cs⟩ hn hw hp
    by_cases hf : place key k < k.length ∧ k.getD (place key k) 0 = key
    · refine (own_sub k cs).subset ?_
      have : k[place key k] = key := by have h := hf.2; simpa [List.getD_eq_getElem?_getD, hf.1] using h
      rw [← this]
      exact List.getElem_mem hf.1
    · by_cases hc : cs.length = 0
      · rw [path_leaf hf hc] at hp
        cases hp
      · have hcl := Well.inner hw hc
        have hpl := place_le key k
        have hi : place key k < cs.length := by omega
        rw [path_inner hf hi] at hp
        have hwt := weight_get_le cs _ hi
        simp only [weight] at hn
        exact (kid_sub _ hi).subset (ih _ (by omega) (Well.kid hw _ hi) hp)

theorem mem_path (key : Int) : ∀ (n : Nat) (t : Tr), t.weight ≤ n → Well t → key ∈ t.keys → (t.path key).2 = true := by
  intro n
  induction n with
  | zero =>
    rintro ⟨k, cs⟩ hn hw hm
    simp only [weight] at hn
    have hc : cs.length = 0 := by have := length_le_weights cs; omega
    rw [keys_leaf hc] at hm
    have hk : k = [] := List.length_eq_zero_iff.1 (by omega)
    rw [hk] at hm
    cases hm
  | succ n ih =>
    rintro ⟨k, cs⟩ hn hw hm
    by_cases hf : place key k < k.length ∧ k.getD (place key k) 0 = key
    · rw [path_found hf]
    · by_cases hc : cs.length = 0
      · rw [keys_leaf hc] at hm
        exact absurd (place_mem hw.keys hm) hf
      · have hcl := Well.inner hw hc
        have hpl := place_le key k
        have hi : place key k < cs.length := by omega
        rw [path_inner hf hi]
        have hwt := weight_get_le cs _ hi
        simp only [weight] at hn
        refine ih _ (by omega) (Well.kid hw _ hi) ?_
        obtain ⟨R, hk, hA, hR⟩ := Well.split hw hc key hi
        have hs := hw.2
        rw [hk] at hm hs
        rcases List.mem_append.1 hm with h | h
        · have := hA key h; omega
        rcases List.mem_append.1 h with h | h
        · exact h
        exfalso
        by_cases hpe : place key k = k.length
        · rw [hR hpe, hpe] at h
          simp at h
        · have hlt : place key k < k.length := by omega
          rw [List.getElem?_eq_getElem hlt] at h hs
          simp only [Option.toList_some, List.cons_append, List.nil_append, List.mem_cons] at h hs
          have hge := place_ge hlt
          have hne : ¬ k.getD (place key k) 0 = key := fun e => hf ⟨hlt, e⟩
          have e : k.getD (place key k) 0 = k[place key k] := by simp [List.getD_eq_getElem?_getD, hlt]
          rw [e] at hge hne
          rcases h with h | h
          · omega
          · have h2 := (List.pairwise_append.1 (List.pairwise_append.1 hs).2.1).2.1
            have := (List.pairwise_cons.1 h2).1 key h
            omega

/-- A key is found if it is one of the keys in order. -/
theorem path_iff (key : Int) (t : Tr) (hw : Well t) : (t.path key).2 = true ↔ key ∈ t.keys :=
  ⟨path_mem key t.weight t (Nat.le_refl _) hw, mem_path key t.weight t (Nat.le_refl _) hw⟩

theorem hasB_iff (key : Int) (t : Tr) (hs : t.someB = true) : (t.pathB key).2 = true ↔ key ∈ t.keys := by
  rw [(someB_path key t).1 hs]
  exact path_iff key t (Well.of_some hs)
end Tr
end Go.Proofs.Ytgbgdanbdbojaaa

/- Two keys inserted in either order: plain data. -/
namespace Go.Proofs.Ytgbgdanbdbojaaa
open Go.RowKit

theorem mem_putAt {α : Type} {K : List α} {p : Nat} {k x : α} : x ∈ putAt K p k ↔ x = k ∨ x ∈ K := by
  unfold putAt
  constructor
  · intro h
    simp only [List.mem_append, List.mem_cons] at h
    rcases h with h | h | h
    · exact .inr (List.mem_of_mem_take h)
    · exact .inl h
    · exact .inr (List.mem_of_mem_drop h)
  · intro h
    simp only [List.mem_append, List.mem_cons]
    rcases h with h | h
    · exact .inr (.inl h)
    · rw [← List.take_append_drop p K] at h
      rcases List.mem_append.1 h with h | h
      · exact .inl h
      · exact .inr (.inr h)

theorem sorted_ext : ∀ (l m : List Int), l.Pairwise (· < ·) → m.Pairwise (· < ·) → (∀ x, x ∈ l ↔ x ∈ m) → l = m
  | [], [], _, _, _ => rfl
  | [], b :: m, _, _, h => by have := (h b).2 (by simp); cases this
  | a :: l, [], _, _, h => by have := (h a).1 (by simp); cases this
  | a :: l, b :: m, hl, hm, h => by
    obtain ⟨l1, l2⟩ := List.pairwise_cons.1 hl
    obtain ⟨m1, m2⟩ := List.pairwise_cons.1 hm
    have hab : a = b := by
      have h1 := (h a).1 (by simp)
      have h2 := (h b).2 (by simp)
      rcases List.mem_cons.1 h1 with h1 | h1
      · exact h1
      · rcases List.mem_cons.1 h2 with h2 | h2
        · exact h2.symm
        · have := m1 a h1; have := l1 b h2; omega
    subst hab
    rw [sorted_ext l m l2 m2 (fun x => ?_)]
    constructor
    · intro hx
      rcases List.mem_cons.1 ((h x).1 (by simp [hx])) with h3 | h3
      · have := l1 x hx; omega
      · exact h3
    · intro hx
      rcases List.mem_cons.1 ((h x).2 (by simp [hx])) with h3 | h3
      · have := m1 x hx; omega
      · exact h3

namespace Tr
theorem asked_iff {wide key : Int} {t : Tr} (h : validB wide t = true) : askedB wide key t = true ↔ (0 ≤ key ∧ key ≤ 99) ∧ key ∉ t.keys := by
  have hb := hasB_iff key t (valid_some h)
  unfold askedB
  rw [h]
  simp only [Bool.true_and, Bool.and_eq_true, Bool.not_eq_true', inB, decide_eq_true_eq]
  rw [← hb]
  simp

theorem ins_more {wide key : Int} {t : Tr} (h : askedB wide key t = true) : validB wide (insT wide key t) = true ∧ ∀ x, x ∈ (insT wide key t).keys ↔ x = key ∨ x ∈ t.keys := by
  have hv := (asked_path h).1
  obtain ⟨⟨h0, h9⟩, hn⟩ := (asked_iff hv).1 h
  refine ⟨insT_valid hv h0 h9 hn, fun x => ?_⟩
  rw [insT_keys (by have := valid_wide hv; omega) key (valid_well hv)]
  exact mem_putAt

/-- What the law on two insertions asks. -/
theorem two_facts {wide key other : Int} {t : Tr} (h1 : askedB wide key t = true) (h3 : askedB wide other t = true) (hne : key ≠ other) :
    askedB wide other (insT wide key t) = true ∧ askedB wide key (insT wide other t) = true ∧ (insT wide other (insT wide key t)).keys = (insT wide key (insT wide other t)).keys := by
  have hv := (asked_path h1).1
  obtain ⟨a1, a2⟩ := (asked_iff hv).1 h1
  obtain ⟨b1, b2⟩ := (asked_iff hv).1 h3
  obtain ⟨v1, m1⟩ := ins_more h1
  obtain ⟨v3, m3⟩ := ins_more h3
  have hq1 : askedB wide other (insT wide key t) = true := (asked_iff v1).2 ⟨b1, fun h => ((m1 other).1 h).elim (fun h => hne h.symm) b2⟩
  have hq3 : askedB wide key (insT wide other t) = true := (asked_iff v3).2 ⟨a1, fun h => ((m3 key).1 h).elim hne a2⟩
  obtain ⟨v2, m2⟩ := ins_more hq1
  obtain ⟨v4, m4⟩ := ins_more hq3
  refine ⟨hq1, hq3, sorted_ext _ _ (pairwise_of_sorted (valid_keys v2)) (pairwise_of_sorted (valid_keys v4)) (fun x => ?_)⟩
  rw [m2 x, m4 x, m1 x, m3 x]
  constructor
  · rintro (h | h | h)
    · exact .inr (.inl h)
    · exact .inl h
    · exact .inr (.inr h)
  · rintro (h | h | h)
    · exact .inr (.inl h)
    · exact .inl h
    · exact .inr (.inr h)
end Tr
end Go.Proofs.Ytgbgdanbdbojaaa

/- Two lists that are the same: the laws' own function. -/
namespace Go.Proofs.Ytgbgdanbdbojaaa
open Go.RowKit

set_option maxHeartbeats 1000000 in
theorem ftSame_c (ks : List Int) (v v' : Value) (w : World) (B : Nat) (hB : B ≤ w.heap.size) (hk : IntsIn w B v ks) (hk' : IntsIn w B v' ks) :
    Calls Try.prog 21 #[v, v'] w fun e w' => e = .returned (.bool true) ∧ Below w.heap.size w w' := by
  obtain ⟨a, cap, rfl, h1, h2, _, h3⟩ := hk
  obtain ⟨a', cap', rfl, h1', h2', _, h3'⟩ := hk'
  unfold maxLen at h2 h2'
  have HK := Lib.hid h3
  have HK' := Lib.hid h3'
  clear h3 h3'
  have heq : ((ks.length : Int) == ks.length) = true := by simp
  have hmin : min (ks.length : Int) (ks.length : Int) = (ks.length : Int) := by simp
  go_enter Try.func21, Try.ntmps21
  go_wp2_with fail
  go_loopw [5, 11] (fun s5 i wr => ∃ (j : Nat), j ≤ ks.length ∧ i = .int .i64 j ∧ Below w.heap.size w wr) (fun _ i _ => ks.length - (intOf i).toNat)
  case atStart => exact ⟨0, Nat.zero_le _, rfl, Below.refl _ _⟩
  case round =>
    obtain ⟨j, hj, rfl, hbel⟩ := hrel
    by_cases hlt : j < ks.length
    · rcases HK.out with h | ⟨b, off, rfl, hb, hat⟩
      · simp [h] at hlt
      rcases HK'.out with h | ⟨b', off', rfl, hb', hat'⟩
      · simp [h] at hlt
      have ha1 : wr.cell? ⟨b, off + j, none⟩ = some (.int .i64 (ks.getD j 0)) := by rw [below_cell hbel (by omega)]; exact hat j hlt
      have ha2 : wr.cell? ⟨b', off' + j, none⟩ = some (.int .i64 (ks.getD j 0)) := by rw [below_cell hbel (by omega)]; exact hat' j hlt
      have hne2 : ((ks.getD j 0 : Int) != ks.getD j 0) = false := by simp
      have hjl : (j : Int) < (ks.length : Int) := by omega
      clear hat hat'
      generalize ks.getD j 0 = x at ha1 ha2 hne2
      go_wp2_with fail
      go_quiet (fail)
      go_wp2_with fail
      go_roundw
      case rel => exact ⟨j + 1, by omega, by go_num, below_drewN hbel _⟩
      case measure => simp [intOf]; omega
    · obtain rfl : j = ks.length := by omega
      have hjl : ¬ ((ks.length : Nat) : Int) < (ks.length : Int) := by omega
      go_wp2_with fail
      go_ret
      exact ⟨rfl, hbel⟩
end Go.Proofs.Ytgbgdanbdbojaaa
