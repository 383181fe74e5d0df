/- The contracts of the functions that mark a result and look whether the marks held. -/
import Derived.Test.YthiohdbcclbgkaaProg
import Derived.Test.YthiohdbcclbgkaaBase
import Derived.Test.YthiohdbcclbgkaaNa0
import Derived.Test.YthiohdbcclbgkaaKeys
import Derived.Test.YthiohdbcclbgkaaValid
import Derived.Test.YthiohdbcclbgkaaNa7
import Derived.Test.YthiohdbcclbgkaaPathData
import Derived.Test.YthiohdbcclbgkaaFindData
import Derived.Test.YthiohdbcclbgkaaNextSpec
import Derived.Test.YthiohdbcclbgkaaTo

/- The model's KeyAt. -/
namespace Go.Proofs.Ythiohdbcclbgkaa
open Go.RowKit

/-- The key with so many less ones. -/
def keyL (keys : List Int) (r : Int) : Int × Bool := if 0 ≤ r ∧ r < (keys.length : Int) then (keys.getD r.toNat 0, true) else (0, false)
def Tr.keyAtB (r : Int) (t : Tr) : Int × Bool := if t.someB then keyL t.keys r else (0, false)
theorem keyAtB_is (r : Int) (t : Tr) : (t.someB = true → t.keyAtB r = keyL t.keys r) ∧ (t.someB = false → t.keyAtB r = (0, false)) := by
  unfold Tr.keyAtB; constructor <;> intro h <;> simp [h]


-- END

end Go.Proofs.Ythiohdbcclbgkaa

/- Finding: a key is found where it is among the keys in order; plain data. -/
namespace Go.Proofs.Ythiohdbcclbgkaa
open Go.RowKit

theorem sorted_get {ks : List Int} (h : ks.Pairwise (· < ·)) {i j : Nat} (hij : i < j) (hj : j < ks.length) : ks.getD i 0 < ks.getD j 0 := by
  have := List.pairwise_iff_getElem.1 h i j (by omega) hj hij
  simpa [List.getD_eq_getElem?_getD, hj, show i < ks.length by omega] using this

/-- The place of a key is its index. -/
theorem place_get {ks : List Int} (h : ks.Pairwise (· < ·)) {i : Nat} (hi : i < ks.length) : place (ks.getD i 0) ks = i :=
  place_eq (by omega) (fun j hj => sorted_get h hj hi) (fun _ => by omega)

theorem place_mem {ks : List Int} (h : ks.Pairwise (· < ·)) {x : Int} (hx : x ∈ ks) : place x ks < ks.length ∧ ks.getD (place x ks) 0 = x := by
  obtain ⟨i, hi, rfl⟩ := List.mem_iff_getElem.1 hx
  have e : ks[i] = ks.getD i 0 := by simp [List.getD_eq_getElem?_getD, hi]
  rw [e, place_get h hi]
  exact ⟨hi, rfl⟩

namespace Tr
theorem path_mem (key : Int) : ∀ (n : Nat) (t : Tr), t.weight ≤ n → Well t → (t.path key).2 = true → key ∈ t.keys := by
  intro n
  induction n with
  | zero =>
    rintro ⟨k, cs⟩ hn hw hp
    simp only [weight] at hn
    have hc : cs.length = 0 := by have := length_le_weights cs; omega
    by_cases hf : place key k < k.length ∧ k.getD (place key k) 0 = key
    · have := hf.1
      omega
    · rw [path_leaf hf hc] at hp
      cases hp
  | succ n ih =>
    rintro ⟨k, cs⟩ hn hw hp
    by_cases hf : place key k < k.length ∧ k.getD (place key k) 0 = key
    · refine (own_sub k cs).subset ?_
      have : k[place key k] = key := by have h := hf.2; simpa [List.getD_eq_getElem?_getD, hf.1] using h
      rw [← this]
      exact List.getElem_mem hf.1
    · by_cases hc : cs.length = 0
      · rw [path_leaf hf hc] at hp
        cases hp
      · have hcl := Well.inner hw hc
        have hpl := place_le key k
        have hi : place key k < cs.length := by omega
        rw [path_inner hf hi] at hp
        have hwt := weight_get_le cs _ hi
        simp only [weight] at hn
        exact (kid_sub _ hi).subset (ih _ (by omega) (Well.kid hw _ hi) hp)

theorem mem_path (key : Int) : ∀ (n : Nat) (t : Tr), t.weight ≤ n → Well t → key ∈ t.keys → (t.path key).2 = true := by
  intro n
  induction n with
  | zero =>
    rintro ⟨k, cs⟩ hn hw hm
    simp only [weight] at hn
    have hc : cs.length = 0 := by have := length_le_weights cs; omega
    rw [keys_leaf hc] at hm
    have hk : k = [] := List.length_eq_zero_iff.1 (by omega)
    rw [hk] at hm
    cases hm
  | succ n ih =>
    rintro ⟨k, cs⟩ hn hw hm
    by_cases hf : place key k < k.length ∧ k.getD (place key k) 0 = key
    · rw [path_found hf]
    · by_cases hc : cs.length = 0
      · rw [keys_leaf hc] at hm
        exact absurd (place_mem hw.keys hm) hf
      · have hcl := Well.inner hw hc
        have hpl := place_le key k
        have hi : place key k < cs.length := by omega
        rw [path_inner hf hi]
        have hwt := weight_get_le cs _ hi
        simp only [weight] at hn
        refine ih _ (by omega) (Well.kid hw _ hi) ?_
        obtain ⟨R, hk, hA, hR⟩ := Well.split hw hc key hi
        have hs := hw.2
        rw [hk] at hm hs
        rcases List.mem_append.1 hm with h | h
        · have := hA key h; omega
        rcases List.mem_append.1 h with h | h
        · exact h
        exfalso
        by_cases hpe : place key k = k.length
        · rw [hR hpe, hpe] at h
          simp at h
        · have hlt : place key k < k.length := by omega
          rw [List.getElem?_eq_getElem hlt] at h hs
          simp only [Option.toList_some, List.cons_append, List.nil_append, List.mem_cons] at h hs
          have hge := place_ge hlt
          have hne : ¬ k.getD (place key k) 0 = key := fun e => hf ⟨hlt, e⟩
          have e : k.getD (place key k) 0 = k[place key k] := by simp [List.getD_eq_getElem?_getD, hlt]
          rw [e] at hge hne
          rcases h with h | h
          · omega
          · have h2 := (List.pairwise_append.1 (List.pairwise_append.1 hs).2.1).2.1
            have := (List.pairwise_cons.1 h2).1 key h
            omega

/-- A key is found if it is one of the keys in order. -/
theorem path_iff (key : Int) (t : Tr) (hw : Well t) : (t.path key).2 = true ↔ key ∈ t.keys :=
  ⟨path_mem key t.weight t (Nat.le_refl _) hw, mem_path key t.weight t (Nat.le_refl _) hw⟩

theorem hasB_iff (key : Int) (t : Tr) (hs : t.someB = true) : (t.pathB key).2 = true ↔ key ∈ t.keys := by
  rw [(someB_path key t).1 hs]
  exact path_iff key t (Well.of_some hs)
end Tr
end Go.Proofs.Ythiohdbcclbgkaa

/- Ranks tell keys, and keys tell ranks; plain data. -/
namespace Go.Proofs.Ythiohdbcclbgkaa
open Go.RowKit

namespace Tr
theorem at_fact {t : Tr} {r k : Int} (h : t.keyAtB r = (k, true)) : t.rankB k = r ∧ (t.pathB k).2 = true := by
  have hs : t.someB = true := by
    cases hs : t.someB with
    | true => rfl
    | false => rw [(keyAtB_is r t).2 hs] at h; simp at h
  have hw := (Well.of_some hs).2
  rw [(keyAtB_is r t).1 hs, keyL] at h
  split at h
  · rename_i hr
    simp only [Prod.mk.injEq, and_true] at h
    have hlt : r.toNat < t.keys.length := by omega
    subst h
    refine ⟨?_, (hasB_iff _ t hs).2 ?_⟩
    · rw [(rankB_is _ t).1 hs, place_get hw hlt]
      omega
    · rw [List.getD_eq_getElem?_getD, List.getElem?_eq_getElem hlt]
      exact List.getElem_mem hlt
  · simp at h
theorem has_fact {t : Tr} {key : Int} (hs : t.someB = true) (h : (t.pathB key).2 = true) : t.keyAtB (t.rankB key) = (key, true) := by
  have hw := (Well.of_some hs).2
  obtain ⟨h1, h2⟩ := place_mem hw ((hasB_iff key t hs).1 h)
  rw [(rankB_is key t).1 hs, (keyAtB_is _ t).1 hs, keyL, if_pos ⟨by omega, by omega⟩]
  simp only [Int.toNat_natCast, h2]
theorem rank_some {t : Tr} {key : Int} (h : 0 ≤ t.rankB key) : t.someB = true := by
  cases hs : t.someB with
  | true => rfl
  | false => rw [(rankB_is key t).2 hs] at h; omega
theorem rank_le {t : Tr} {key : Int} : -1 ≤ t.rankB key ∧ t.rankB key ≤ t.weight := by
  cases hs : t.someB with
  | true =>
    rw [(rankB_is key t).1 hs]
    have := place_le key t.keys
    have := keys_length_le t
    omega
  | false => rw [(rankB_is key t).2 hs]; omega
end Tr
end Go.Proofs.Ythiohdbcclbgkaa

/- Finding: plain data: the keys of a range. -/
namespace Go.Proofs.Ythiohdbcclbgkaa
open Go.RowKit

/-- The keys from a number to a number. -/
def rangeL (low high : Int) (keys : List Int) : List Int := keys.filter (fun k => inB k low high)
theorem rangeL_snoc (low high : Int) (a : List Int) (x : Int) : rangeL low high (a ++ [x]) = if inB x low high = true then rangeL low high a ++ [x] else rangeL low high a := by
  unfold rangeL
  rw [List.filter_append]
  cases h : inB x low high with
  | true => simp [h]
  | false => simp [h]
theorem rangeL_len (low high : Int) (a : List Int) : (rangeL low high a).length ≤ a.length := List.length_filter_le _ _
theorem rangeL_none {low high : Int} (h : ¬ low ≤ high) (keys : List Int) : rangeL low high keys = [] := by
  unfold rangeL
  rw [List.filter_eq_nil_iff]
  intro x _
  simp only [inB, Bool.and_eq_true, decide_eq_true_eq]
  omega
theorem filter_all {p : Int → Bool} : ∀ {l : List Int}, (∀ x ∈ l, p x = true) → l.filter p = l
  | [], _ => rfl
  | x :: r, h => by rw [List.filter_cons, if_pos (h x (by simp)), filter_all (fun y hy => h y (by simp [hy]))]

/-- In a list that ascends, they are what lies between two places. -/
theorem rangeL_cut {low high : Int} (hlh : low ≤ high) {keys : List Int} (hs : keys.Pairwise (· < ·)) : rangeL low high keys = (keys.drop (place low keys)).take (place (high + 1) keys - place low keys) := by
  induction keys with
  | nil => rfl
  | cons x r ih =>
    have hr := List.pairwise_cons.1 hs
    have ih := ih hr.2
    unfold rangeL at ih ⊢
    rw [List.filter_cons]
    simp only [place]
    by_cases h1 : x < low
    · have hin : inB x low high = false := inB_false (by omega)
      rw [hin, if_pos h1, if_pos (show x < high + 1 by omega)]
      simp only [Bool.false_eq_true, if_false, List.drop_succ_cons]
      rw [ih]
      congr 1; omega
    · rw [if_neg h1]
      have hp0 : place low r = 0 := by
        cases r with
        | nil => rfl
        | cons y r' =>
          have := hr.1 y (by simp)
          simp only [place]; rw [if_neg (by omega)]
      rw [hp0] at ih
      simp only [List.drop_zero, Nat.sub_zero] at ih ⊢
      by_cases h2 : x < high + 1
      · have hin : inB x low high = true := inB_true (by omega) (by omega)
        rw [hin, if_pos h2, if_pos rfl, ih]; rfl
      · have hin : inB x low high = false := inB_false (by omega)
        have hp1 : place (high + 1) r = 0 := by
          cases r with
          | nil => rfl
          | cons y r' =>
            have := hr.1 y (by simp)
            simp only [place]; rw [if_neg (by omega)]
        rw [hin, if_neg h2, ih, hp1]; rfl

def Tr.rangeB (low high : Int) (t : Tr) : List Int := if t.someB then rangeL low high t.keys else []
theorem rangeB_is (low high : Int) (t : Tr) : (t.someB = true → t.rangeB low high = rangeL low high t.keys) ∧ (t.someB = false → t.rangeB low high = []) := by
  unfold Tr.rangeB; constructor <;> intro h <;> simp [h]
theorem rangeB_len (low high : Int) (t : Tr) : (t.rangeB low high).length ≤ t.weight := by
  have h1 := Tr.keys_length_le t
  have h2 := rangeL_len low high t.keys
  unfold Tr.rangeB
  split
  · omega
  · simp
end Go.Proofs.Ythiohdbcclbgkaa

/- The contracts of the functions that mark a result and look whether the marks held. -/
namespace Go.Proofs.Ythiohdbcclbgkaa
open Go.RowKit

/-- n numbers from k on. -/
def marks (k : Int) (n : Nat) : List Int := (List.range n).map (fun (i : Nat) => k + (i : Int))
theorem marks_length (k : Int) (n : Nat) : (marks k n).length = n := by simp [marks]
theorem marks_get (k : Int) (n i : Nat) (h : i < n) : (marks k n).getD i 0 = k + i := by simp [marks, h]

/-- Marking a row of ints: block g. -/
theorem markRow_c (g n cap : Nat) (k : Int) (c : Array Value) (w : World) (hc : w.heap[g]? = some (.cells c 3 (0, 0))) (hn : n ≤ c.size) (hcap : n ≤ 1048576) (hi : ∀ i, i < n → ∃ x : Int, c[i]? = some (.int .i64 x)) (h0 : 0 ≤ k) (h1 : k ≤ 1099511627776) :
    Calls Try.prog 20 #[.slice (some ⟨g, 0, none⟩) n cap, .int .i64 k] w fun e w' => e = .returned (.int .i64 (k + n)) ∧
      ∃ c' : Array Value, w'.heap[g]? = some (.cells c' 3 (0, 0)) ∧ c'.size = c.size ∧ (∀ i, i < n → c'[i]? = some (.int .i64 (k + (i : Int)))) ∧ w.grownBy w' (some g) := by
  have HC := Lib.hid hc
  have HI := Lib.hid hi
  clear hc hi
  go_enter Try.func20, Try.ntmps20
  go_wp2_with fail
  go_loopw [1, 5] (fun l i wr => ∃ (j : Nat) (c' : Array Value), j ≤ n ∧ i = .int .i64 j ∧ l = .int .i64 (k + j) ∧ wr.heap[g]? = some (.cells c' 3 (0, 0)) ∧ c'.size = c.size ∧ (∀ i, i < j → c'[i]? = some (.int .i64 (k + (i : Int)))) ∧ (∀ i, i < n → ∃ x : Int, c'[i]? = some (.int .i64 x)) ∧ w.grownBy wr (some g)) (fun _ i _ => n - (intOf i).toNat)
  case atStart => exact ⟨0, c, Nat.zero_le _, rfl, by simp, HC.out, rfl, fun i h => by omega, HI.out, World.grownBy.refl _ _⟩
  case round =>
    obtain ⟨j, c', hj, rfl, rfl, hblk, hsz, hdone, hints, hgr⟩ := hrel
    by_cases hlt : j < n
    · obtain ⟨x, hx⟩ := hints j hlt
      have ha : wr.cell? ⟨g, j, none⟩ = some (.int .i64 x) := by simp [World.cell?, hblk, hx]
      have hf : wr.frozen? ⟨g, j, none⟩ = false := by simp [World.frozen?, hblk]
      have hgl : g < wr.heap.size := (Array.getElem?_eq_some_iff.1 hblk).1
      have HD := Lib.hid (And.intro hblk (And.intro hsz (And.intro hdone (And.intro hints hgr))))
      clear hblk hsz hdone hints hgr hx
      go_wp2_with fail
      go_roundw
      case rel =>
        obtain ⟨hblk, hsz, hdone, hints, hgr⟩ := HD.out
        refine ⟨j + 1, c'.setIfInBounds j (.int .i64 (k + j)), by omega, by go_num, by go_num, set_blk _ hblk, by simpa using hsz, fun i hi => ?_, fun i hi => ?_, ?_⟩
        · rw [Array.getElem?_setIfInBounds]
          by_cases e : j = i
          · subst e; rw [if_pos rfl, if_pos (by omega)]
          · rw [if_neg e]; exact hdone i (by omega)
        · rw [Array.getElem?_setIfInBounds]
          by_cases e : j = i
          · subst e; exact ⟨_, by rw [if_pos rfl, if_pos (by omega)]⟩
          · rw [if_neg e]; exact hints i hi
        · refine ⟨hgr.os, hgr.tape, hgr.output, by simpa using hgr.size, fun b hb hne => ?_⟩
          rw [set_other _ _ _ _ _ (fun e => hne (by rw [e]))]
          exact hgr.block b hb hne
      case measure => simp [intOf]; omega
    · obtain rfl : j = n := by omega
      have HD := Lib.hid (And.intro hblk (And.intro hsz (And.intro hdone hgr)))
      clear hblk hsz hdone hints hgr
      go_wp2_with fail
      go_ret
      obtain ⟨hblk, hsz, hdone, hgr⟩ := HD.out
      exact ⟨rfl, c', hblk, hsz, hdone, hgr⟩

theorem markNone_c (a : Option Addr) (cap : Nat) (k : Int) (w : World) :
    Calls Try.prog 20 #[.slice a 0 cap, .int .i64 k] w fun e w' => e = .returned (.int .i64 k) ∧ w = w' := by
  go_enter Try.func20, Try.ntmps20
  go_wp2_with fail
  refine wp_loop_rounds 1 ?_
  rw [rounds_succ]
  go_wp2_with fail
  go_ret
  exact ⟨rfl, rfl⟩

/-- Marking a slice of ints of the call's own. -/
theorem markOwn_c {w : World} {lo : Nat} {v : Value} {ks : List Int} (h : IntsOwn w lo v ks) (hl : lo ≤ w.heap.size) (hn : ks.length ≤ 1048576) (k : Int) (h0 : 0 ≤ k) (h1 : k ≤ 1099511627776) :
    Calls Try.prog 20 #[v, .int .i64 k] w fun e w' => e = .returned (.int .i64 (k + ks.length)) ∧ IntsOwn w' lo v (marks k ks.length) ∧ Below lo w w' := by
  obtain ⟨hlen, ⟨hv, hz⟩ | ⟨g, cap, cur, hv, hb, hg, hnc, hm, hs, ht⟩⟩ := h
  · subst hv
    rw [hz]
    refine (markNone_c none 0 k w).mono ?_
    rintro e w' ⟨rfl, rfl⟩
    exact ⟨by simp, World.ownsRow_nil w lo _ _, Below.refl _ _⟩
  · subst hv
    rw [Nat.mul_one] at hs ht
    refine (markRow_c g ks.length cap k cur w hg (by omega) hn (fun i hi => ⟨ks[i], ?_⟩) h0 h1).mono ?_
    · have : (cur.toList.take ks.length)[i]? = some (.int .i64 ks[i]) := by rw [ht]; simp [hi]
      rw [List.getElem?_take_of_lt hi] at this
      simpa using this
    · rintro e w' ⟨rfl, c', hg', hsz, hd, hgr⟩
      refine ⟨rfl, ⟨by simp [marks], .inr ⟨g, cap, c', by rw [marks_length], hb, hg', by rw [marks_length]; exact hnc, hm, by omega, ?_⟩⟩, (Below.refl lo w).grown hgr hl (fun b e => by cases e; exact hb)⟩
      apply List.ext_getElem?
      intro i
      rw [marks_length, Nat.mul_one]
      by_cases hi : i < ks.length
      · rw [List.getElem?_take_of_lt hi]
        have := hd i hi
        simp [marks, hi, this]
      · rw [List.getElem?_eq_none (by simp; omega), List.getElem?_eq_none (by simp [marks]; omega)]

/-- Looking whether the marks held. -/
theorem held_c (n : Nat) (v : Value) (k : Int) (w : World) (h : IntsAt w v (marks k n)) (hn : n ≤ 1048576) (h0 : 0 ≤ k) (h1 : k ≤ 1099511627776) :
    Calls Try.prog 73 #[v, .int .i64 k] w fun e w' => e = .returned (.int .i64 (k + n)) ∧ w = w' := by
  obtain ⟨a, cap, rfl, _, hat⟩ := h
  rw [marks_length] at hat ⊢
  have HAT := Lib.hid hat
  clear hat
  go_enter Try.func73, Try.ntmps73
  go_wp2_with fail
  go_loop [1, 5] (fun l i => ∃ (j : Nat), j ≤ n ∧ i = .int .i64 j ∧ l = .int .i64 (k + j)) (fun _ i => n - (intOf i).toNat)
  case atStart => exact ⟨0, Nat.zero_le _, rfl, by simp⟩
  case round =>
    obtain ⟨j, hj, rfl, rfl⟩ := hrel
    by_cases hlt : j < n
    · rcases HAT.out with h | ⟨b, o, rfl, hat⟩
      · have := congrArg List.length h; rw [marks_length] at this; simp at this; omega
      have ha := hat j hlt
      rw [marks_get k n j hlt] at ha
      have hne : ((k + (j : Int)) != k + (j : Int)) = false := by simp
      clear hat
      go_wp2_with fail
      go_round
      case rel => exact ⟨j + 1, by omega, by go_num, by go_num⟩
      case measure => simp [intOf]; omega
    · obtain rfl : j = n := by omega
      go_wp2_with fail
      go_ret
      exact ⟨rfl, rfl⟩

end Go.Proofs.Ythiohdbcclbgkaa
