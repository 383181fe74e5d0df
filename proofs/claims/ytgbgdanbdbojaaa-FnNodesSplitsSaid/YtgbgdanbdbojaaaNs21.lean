/- Whether the numbers of a list are keys, and not too many: the contracts of the model's l3Keys and the program's areKeys. -/
import Derived.Test.YtgbgdanbdbojaaaProg
import Derived.Test.YtgbgdanbdbojaaaNs0
import Derived.Test.YtgbgdanbdbojaaaKeys
import Derived.Test.YtgbgdanbdbojaaaValid
import Derived.Test.YtgbgdanbdbojaaaNs11
import Derived.Test.YtgbgdanbdbojaaaNs14
import Derived.Test.YtgbgdanbdbojaaaNs18
import Derived.Test.YtgbgdanbdbojaaaNextSpec
import Derived.Test.YtgbgdanbdbojaaaNs13

/- The model's KeyAt. -/
namespace Go.Proofs.Ytgbgdanbdbojaaa
open Go.RowKit

/-- The key with so many less ones. -/
def keyL (keys : List Int) (r : Int) : Int × Bool := if 0 ≤ r ∧ r < (keys.length : Int) then (keys.getD r.toNat 0, true) else (0, false)
def Tr.keyAtB (r : Int) (t : Tr) : Int × Bool := if t.someB then keyL t.keys r else (0, false)
theorem keyAtB_is (r : Int) (t : Tr) : (t.someB = true → t.keyAtB r = keyL t.keys r) ∧ (t.someB = false → t.keyAtB r = (0, false)) := by
  unfold Tr.keyAtB; constructor <;> intro h <;> simp [h]


-- END

end Go.Proofs.Ytgbgdanbdbojaaa

/- Finding: a key is found where it is among the keys in order; plain data. -/
namespace Go.Proofs.Ytgbgdanbdbojaaa
open Go.RowKit

theorem sorted_get {ks : List Int} (h : ks.Pairwise (· < ·)) {i j : Nat} (hij : i < j) (hj : j < ks.length) : ks.getD i 0 < ks.getD j 0 := by
  have := List.pairwise_iff_getElem.1 h i j (by omega) hj hij
  simpa [List.getD_eq_getElem?_getD, hj, show i < ks.length by omega] using this

/-- The place of a key is its index. -/
theorem place_get {ks : List Int} (h : ks.Pairwise (· < ·)) {i : Nat} (hi : i < ks.length) : place (ks.getD i 0) ks = i :=
  place_eq (by omega) (fun j hj => sorted_get h hj hi) (fun _ => by omega)

theorem place_mem {ks : List Int} (h : ks.Pairwise (· < ·)) {x : Int} (hx : x ∈ ks) : place x ks < ks.length ∧ ks.getD (place x ks) 0 = x := by
  obtain ⟨i, hi, rfl⟩ := List.mem_iff_getElem.1 hx
  have e : ks[i] = ks.getD i 0 := by simp [List.getD_eq_getElem?_getD, hi]
  rw [e, place_get h hi]
  exact ⟨hi, rfl⟩

namespace Tr
theorem path_mem (key : Int) : ∀ (n : Nat) (t : Tr), t.weight ≤ n → Well t → (t.path key).2 = true → key ∈ t.keys := by
  intro n
  induction n with
  | zero =>
    rintro ⟨k, cs⟩ hn hw hp
    simp only [weight] at hn
    have hc : cs.length = 0 := by have := length_le_weights cs; omega
    by_cases hf : place key k < k.length ∧ k.getD (place key k) 0 = key
    · have := hf.1
      omega
    · rw [path_leaf hf hc] at hp
      cases hp
  | succ n ih =>
    rintro ⟨k, cs⟩ hn hw hp
    by_cases hf : place key k < k.length ∧ k.getD (place key k) 0 = key
    · refine (own_sub k cs).subset ?_
      have : k[place key k] = key := by have h := hf.2; simpa [List.getD_eq_getElem?_getD, hf.1] using h
      rw [← this]
      exact List.getElem_mem hf.1
    · by_cases hc : cs.length = 0
      · rw [path_leaf hf hc] at hp
        cases hp
      · have hcl := Well.inner hw hc
        have hpl := place_le key k
        have hi : place key k < cs.length := by omega
        rw [path_inner hf hi] at hp
        have hwt := weight_get_le cs _ hi
        simp only [weight] at hn
        exact (kid_sub _ hi).subset (ih _ (by omega) (Well.kid hw _ hi) hp)

theorem mem_path (key : Int) : ∀ (n : Nat) (t : Tr), t.weight ≤ n → Well t → key ∈ t.keys → (t.path key).2 = true := by
  intro n
  induction n with
  | zero =>
    rintro ⟨k, cs⟩ hn hw hm
    simp only [weight] at hn
    have hc : cs.length = 0 := by have := length_le_weights cs; omega
    rw [keys_leaf hc] at hm
    have hk : k = [] := List.length_eq_zero_iff.1 (by omega)
    rw [hk] at hm
    cases hm
  | succ n ih =>
    rintro ⟨k, cs⟩ hn hw hm
    by_cases hf : place key k < k.length ∧ k.getD (place key k) 0 = key
    · rw [path_found hf]
    · by_cases hc : cs.length = 0
      · rw [keys_leaf hc] at hm
        exact absurd (place_mem hw.keys hm) hf
      · have hcl := Well.inner hw hc
        have hpl := place_le key k
        have hi : place key k < cs.length := by omega
        rw [path_inner hf hi]
        have hwt := weight_get_le cs _ hi
        simp only [weight] at hn
        refine ih _ (by omega) (Well.kid hw _ hi) ?_
        obtain ⟨R, hk, hA, hR⟩ := Well.split hw hc key hi
        have hs := hw.2
        rw [hk] at hm hs
        rcases List.mem_append.1 hm with h | h
        · have := hA key h; omega
        rcases List.mem_append.1 h with h | h
        · exact h
        exfalso
        by_cases hpe : place key k = k.length
        · rw [hR hpe, hpe] at h
          simp at h
        · have hlt : place key k < k.length := by omega
          rw [List.getElem?_eq_getElem hlt] at h hs
          simp only [Option.toList_some, List.cons_append, List.nil_append, List.mem_cons] at h hs
          have hge := place_ge hlt
          have hne : ¬ k.getD (place key k) 0 = key := fun e => hf ⟨hlt, e⟩
          have e : k.getD (place key k) 0 = k[place key k] := by simp [List.getD_eq_getElem?_getD, hlt]
          rw [e] at hge hne
          rcases h with h | h
          · omega
          · have h2 := (List.pairwise_append.1 (List.pairwise_append.1 hs).2.1).2.1
            have := (List.pairwise_cons.1 h2).1 key h
            omega

/-- A key is found if it is one of the keys in order. -/
theorem path_iff (key : Int) (t : Tr) (hw : Well t) : (t.path key).2 = true ↔ key ∈ t.keys :=
  ⟨path_mem key t.weight t (Nat.le_refl _) hw, mem_path key t.weight t (Nat.le_refl _) hw⟩

theorem hasB_iff (key : Int) (t : Tr) (hs : t.someB = true) : (t.pathB key).2 = true ↔ key ∈ t.keys := by
  rw [(someB_path key t).1 hs]
  exact path_iff key t (Well.of_some hs)
end Tr
end Go.Proofs.Ytgbgdanbdbojaaa

/- Whether the numbers of a list are keys, and not too many: the contracts of the model's l3Keys and the program's areKeys. -/
namespace Go.Proofs.Ytgbgdanbdbojaaa
open Go.RowKit

def keysOk (ks : List Int) : Bool := (List.range ks.length).all (fun i => inB (ks.getD i 0) 0 99) && decide (ks.length ≤ 200)
theorem keysOk_not {ks : List Int} (i : Nat) (hi : i < ks.length) (h : inB (ks.getD i 0) 0 99 = false) : keysOk ks = false := by
  have h1 : (List.range ks.length).all (fun i => inB (ks.getD i 0) 0 99) = false := by
    rw [List.all_eq_false]
    exact ⟨i, List.mem_range.2 hi, by rw [h]; simp⟩
  unfold keysOk
  rw [h1, Bool.false_and]
theorem keysOk_of {ks : List Int} (h : ∀ i, i < ks.length → inB (ks.getD i 0) 0 99 = true) : keysOk ks = decide (ks.length ≤ 200) := by
  have h1 : (List.range ks.length).all (fun i => inB (ks.getD i 0) 0 99) = true := by
    rw [List.all_eq_true]
    exact fun i hi => h i (List.mem_range.1 hi)
  unfold keysOk
  rw [h1, Bool.true_and]

set_option maxRecDepth 100000 in
set_option maxHeartbeats 1000000 in
theorem l3Keys_c {v : Value} {ks : List Int} (w : World) (B : Nat) (hk : IntsIn w B v ks) :
    Calls Try.prog 52 #[v] w fun e w' => e = .returned (.bool (keysOk ks)) ∧ w' = w := by
  obtain ⟨a, cap, rfl, h1, h2, _, h3⟩ := hk
  unfold maxLen at h2
  have HK := Lib.hid h3
  clear h3
  go_enter Try.func52, Try.ntmps52
  go_wp2_with fail
  go_loopw [4, 7] (fun s4 i wr => ∃ (j : Nat), j ≤ ks.length ∧ i = .int .i64 j ∧ (∀ q, q < j → inB (ks.getD q 0) 0 99 = true) ∧ wr = w) (fun _ i _ => ks.length - (intOf i).toNat)
  case atStart => exact ⟨0, Nat.zero_le _, rfl, fun q h => by omega, rfl⟩
  case round =>
    obtain ⟨j, hj, rfl, hall, rfl⟩ := hrel
    have HALL := Lib.hid hall
    clear hall
    by_cases hlt : j < ks.length
    · rcases HK.out with h | ⟨b, off, rfl, hb, hat⟩
      · simp [h] at hlt
      have ha' := hat j hlt
      obtain ⟨x, hx⟩ : ∃ x, x = ks.getD j 0 := ⟨_, rfl⟩
      rw [← hx] at ha'
      have hjl : (j : Int) < (ks.length : Int) := by omega
      have HX := Lib.hid hx
      clear hx hat
      go_wp2_with fail
      refine (l1In_c x 0 99 _).mono ?_
      rintro e w5 ⟨rfl, rfl⟩
      cases hin : inB x 0 99 with
      | false =>
        have HNO := Lib.hid (keysOk_not j hlt (by rw [← HX.out]; exact hin))
        clear hin
        go_wp2_with fail
        go_ret
        exact ⟨ret_bool (by rw [HNO.out]), rfl⟩
      | true =>
        have HIN := Lib.hid hin
        clear hin
        go_wp2_with fail
        go_roundw
        case rel =>
          refine ⟨j + 1, by omega, by go_num, fun q hq => ?_, trivial⟩
          by_cases hqj : q = j
          · rw [hqj, ← HX.out]; exact HIN.out
          · exact HALL.out q (by omega)
        case measure => simp [intOf]; omega
    · have hje : j = ks.length := by omega
      have HOK := Lib.hid (keysOk_of (ks := ks) (fun q h => HALL.out q (by omega)))
      have hjl : ¬ (j : Int) < (ks.length : Int) := by omega
      clear hje
      go_wp2_with fail
      go_ret
      refine ⟨ret_bool ?_, rfl⟩
      rw [HOK.out]
      simp
      omega

set_option maxRecDepth 100000 in
set_option maxHeartbeats 1000000 in
theorem areKeys_c {v : Value} {ks : List Int} (w : World) (B : Nat) (hk : IntsIn w B v ks) :
    Calls Try.prog 86 #[v] w fun e w' => e = .returned (.bool (keysOk ks)) ∧ w' = w := by
  obtain ⟨a, cap, rfl, h1, h2, _, h3⟩ := hk
  unfold maxLen at h2
  have HK := Lib.hid h3
  clear h3
  go_enter Try.func86, Try.ntmps86
  by_cases hbig : ks.length ≤ 200
  · have hb' : ¬ ((ks.length : Int) > 200) := by omega
    have HBIG := Lib.hid hbig
    clear hbig
    go_wp2_with fail
    go_loopw [4, 10] (fun s4 i wr => ∃ (j : Nat), j ≤ ks.length ∧ i = .int .i64 j ∧ (∀ q, q < j → inB (ks.getD q 0) 0 99 = true) ∧ wr = w) (fun _ i _ => ks.length - (intOf i).toNat)
    case atStart => exact ⟨0, Nat.zero_le _, rfl, fun q h => by omega, rfl⟩
    case round =>
      obtain ⟨j, hj, rfl, hall, rfl⟩ := hrel
      have HALL := Lib.hid hall
      clear hall
      by_cases hlt : j < ks.length
      · rcases HK.out with h | ⟨b, off, rfl, hb, hat⟩
        · simp [h] at hlt
        have ha' := hat j hlt
        obtain ⟨x, hx⟩ : ∃ x, x = ks.getD j 0 := ⟨_, rfl⟩
        rw [← hx] at ha'
        have hjl : (j : Int) < (ks.length : Int) := by omega
        have HX := Lib.hid hx
        clear hx hat
        go_wp2_with fail
        refine (isKey_c x _).mono ?_
        rintro e w5 ⟨rfl, rfl⟩
        cases hin : inB x 0 99 with
        | false =>
          have HNO := Lib.hid (keysOk_not j hlt (by rw [← HX.out]; exact hin))
          clear hin
          go_wp2_with fail
          go_ret
          exact ⟨ret_bool (by rw [HNO.out]), rfl⟩
        | true =>
          have HIN := Lib.hid hin
          clear hin
          go_wp2_with fail
          go_roundw
          case rel =>
            refine ⟨j + 1, by omega, by go_num, fun q hq => ?_, trivial⟩
            by_cases hqj : q = j
            · rw [hqj, ← HX.out]; exact HIN.out
            · exact HALL.out q (by omega)
          case measure => simp [intOf]; omega
      · have HOK := Lib.hid (keysOk_of (ks := ks) (fun q h => HALL.out q (by omega)))
        have hjl : ¬ (j : Int) < (ks.length : Int) := by omega
        go_wp2_with fail
        go_ret
        exact ⟨ret_bool (by rw [HOK.out]; exact (decide_eq_true HBIG.out).symm), rfl⟩
  · have hb' : ((ks.length : Int) > 200) := by omega
    have HNO : Hid (keysOk ks = false) := Lib.hid (by unfold keysOk; rw [decide_eq_false hbig, Bool.and_false])
    clear hbig
    go_wp2_with fail
    go_ret
    exact ⟨ret_bool (by rw [HNO.out]), rfl⟩
end Go.Proofs.Ytgbgdanbdbojaaa
