/- Maps of pointers to counts. -/
import Derived.Test.YtjnkdbgebkajoaaProg
import Derived.Test.YtjnkdbgebkajoaaSq0
import Derived.Test.YtjnkdbgebkajoaaKeys
import Derived.Test.YtjnkdbgebkajoaaValid
import Derived.Test.YtjnkdbgebkajoaaSq6
import Derived.Test.YtjnkdbgebkajoaaSq10
import Derived.Test.YtjnkdbgebkajoaaFindData
import Derived.Test.YtjnkdbgebkajoaaNextSpec
import Derived.Test.YtjnkdbgebkajoaaSq2
import Derived.Test.YtjnkdbgebkajoaaSq4
import Derived.Test.YtjnkdbgebkajoaaIter

/- The model's KeyAt. -/
namespace Go.Proofs.Ytjnkdbgebkajoaa
open Go.RowKit

/-- The key with so many less ones. -/
def keyL (keys : List Int) (r : Int) : Int × Bool := if 0 ≤ r ∧ r < (keys.length : Int) then (keys.getD r.toNat 0, true) else (0, false)
def Tr.keyAtB (r : Int) (t : Tr) : Int × Bool := if t.someB then keyL t.keys r else (0, false)
theorem keyAtB_is (r : Int) (t : Tr) : (t.someB = true → t.keyAtB r = keyL t.keys r) ∧ (t.someB = false → t.keyAtB r = (0, false)) := by
  unfold Tr.keyAtB; constructor <;> intro h <;> simp [h]


-- END

end Go.Proofs.Ytjnkdbgebkajoaa

/- Finding: a key is found where it is among the keys in order; plain data. -/
namespace Go.Proofs.Ytjnkdbgebkajoaa
open Go.RowKit

theorem sorted_get {ks : List Int} (h : ks.Pairwise (· < ·)) {i j : Nat} (hij : i < j) (hj : j < ks.length) : ks.getD i 0 < ks.getD j 0 := by
  have := List.pairwise_iff_getElem.1 h i j (by omega) hj hij
  simpa [List.getD_eq_getElem?_getD, hj, show i < ks.length by omega] using this

/-- The place of a key is its index. -/
theorem place_get {ks : List Int} (h : ks.Pairwise (· < ·)) {i : Nat} (hi : i < ks.length) : place (ks.getD i 0) ks = i :=
  place_eq (by omega) (fun j hj => sorted_get h hj hi) (fun _ => by omega)

theorem place_mem {ks : List Int} (h : ks.Pairwise (· < ·)) {x : Int} (hx : x ∈ ks) : place x ks < ks.length ∧ ks.getD (place x ks) 0 = x := by
  obtain ⟨i, hi, rfl⟩ := List.mem_iff_getElem.1 hx
  have e : ks[i] = ks.getD i 0 := by simp [List.getD_eq_getElem?_getD, hi]
  rw [e, place_get h hi]
  exact ⟨hi, rfl⟩

namespace Tr
theorem path_mem (key : Int) : ∀ (n : Nat) (t : Tr), t.weight ≤ n → Well t → (t.path key).2 = true → key ∈ t.keys := by
  intro n
  induction n with
  | zero =>
    rintro ⟨k, cs⟩ hn hw hp
    simp only [weight] at hn
    have hc : cs.length = 0 := by have := length_le_weights cs; omega
    by_cases hf : place key k < k.length ∧ k.getD (place key k) 0 = key
    · have := hf.1
      omega
    · rw [path_leaf hf hc] at hp
      cases hp
  | succ n ih =>
    rintro ⟨k, cs⟩ hn hw hp
    by_cases hf : place key k < k.length ∧ k.getD (place key k) 0 = key
    · refine (own_sub k cs).subset ?_
      have : k[place key k] = key := by have h := hf.2; simpa [List.getD_eq_getElem?_getD, hf.1] using h
      rw [← this]
      exact List.getElem_mem hf.1
    · by_cases hc : cs.length = 0
      · rw [path_leaf hf hc] at hp
        cases hp
      · have hcl := Well.inner hw hc
        have hpl := place_le key k
        have hi : place key k < cs.length := by omega
        rw [path_inner hf hi] at hp
        have hwt := weight_get_le cs _ hi
        simp only [weight] at hn
        exact (kid_sub _ hi).subset (ih _ (by omega) (Well.kid hw _ hi) hp)

theorem mem_path (key : Int) : ∀ (n : Nat) (t : Tr), t.weight ≤ n → Well t → key ∈ t.keys → (t.path key).2 = true := by
  intro n
  induction n with
  | zero =>
    rintro ⟨k, cs⟩ hn hw hm
    simp only [weight] at hn
    have hc : cs.length = 0 := by have := length_le_weights cs; omega
    rw [keys_leaf hc] at hm
    have hk : k = [] := List.length_eq_zero_iff.1 (by omega)
    rw [hk] at hm
    cases hm
  | succ n ih =>
    rintro ⟨k, cs⟩ hn hw hm
    by_cases hf : place key k < k.length ∧ k.getD (place key k) 0 = key
    · rw [path_found hf]
    · by_cases hc : cs.length = 0
      · rw [keys_leaf hc] at hm
        exact absurd (place_mem hw.keys hm) hf
      · have hcl := Well.inner hw hc
        have hpl := place_le key k
        have hi : place key k < cs.length := by omega
        rw [path_inner hf hi]
        have hwt := weight_get_le cs _ hi
        simp only [weight] at hn
        refine ih _ (by omega) (Well.kid hw _ hi) ?_
        obtain ⟨R, hk, hA, hR⟩ := Well.split hw hc key hi
        have hs := hw.2
        rw [hk] at hm hs
        rcases List.mem_append.1 hm with h | h
        · have := hA key h; omega
        rcases List.mem_append.1 h with h | h
        · exact h
        exfalso
        by_cases hpe : place key k = k.length
        · rw [hR hpe, hpe] at h
          simp at h
        · have hlt : place key k < k.length := by omega
          rw [List.getElem?_eq_getElem hlt] at h hs
          simp only [Option.toList_some, List.cons_append, List.nil_append, List.mem_cons] at h hs
          have hge := place_ge hlt
          have hne : ¬ k.getD (place key k) 0 = key := fun e => hf ⟨hlt, e⟩
          have e : k.getD (place key k) 0 = k[place key k] := by simp [List.getD_eq_getElem?_getD, hlt]
          rw [e] at hge hne
          rcases h with h | h
          · omega
          · have h2 := (List.pairwise_append.1 (List.pairwise_append.1 hs).2.1).2.1
            have := (List.pairwise_cons.1 h2).1 key h
            omega

/-- A key is found if it is one of the keys in order. -/
theorem path_iff (key : Int) (t : Tr) (hw : Well t) : (t.path key).2 = true ↔ key ∈ t.keys :=
  ⟨path_mem key t.weight t (Nat.le_refl _) hw, mem_path key t.weight t (Nat.le_refl _) hw⟩

theorem hasB_iff (key : Int) (t : Tr) (hs : t.someB = true) : (t.pathB key).2 = true ↔ key ∈ t.keys := by
  rw [(someB_path key t).1 hs]
  exact path_iff key t (Well.of_some hs)
end Tr
end Go.Proofs.Ytjnkdbgebkajoaa

/- Maps of pointers to counts. -/
namespace Go.Proofs.Ytjnkdbgebkajoaa
open Go.RowKit

/-- The map at block b: its keys are the starts of the blocks of which K tells a count, and its values these counts. -/
def CMap (w : World) (b : Nat) (K : Nat → Option Nat) : Prop :=
  ∃ L clock, PMapIs w b L clock ∧ (∀ e ∈ L, PAddr w e.1 ∧ ∃ k n : Nat, e.1 = ⟨k, 0, none⟩ ∧ e.2.1 = .int .i64 n ∧ K k = some n) ∧ ∀ k n, K k = some n → ∃ e ∈ L, e.1 = ⟨k, 0, none⟩

theorem CMap.kept {w w' : World} {b : Nat} {K : Nat → Option Nat} (h : CMap w b K) (hk : ∀ k, k < w.heap.size → w'.heap[k]? = w.heap[k]?) : CMap w' b K := by
  obtain ⟨L, clock, h1, h2, h3⟩ := h
  have hlt : b < w.heap.size := (Array.getElem?_eq_some_iff.1 h1).1
  exact ⟨L, clock, (hk b hlt).trans h1, fun e he => ⟨(h2 e he).1.kept (fun k hlt _ => hk k hlt), (h2 e he).2⟩, h3⟩

theorem CMap.lt {w : World} {b : Nat} {K : Nat → Option Nat} (h : CMap w b K) : b < w.heap.size := by
  obtain ⟨L, clock, h1, _⟩ := h
  exact (Array.getElem?_eq_some_iff.1 h1).1

/-- No block of cells is the map's block. -/
theorem CMap.ne {w : World} {b k : Nat} {K : Nat → Option Nat} {c : Array Value} {t : TypeId} (h : CMap w b K) (hk : w.heap[k]? = some (.cells c t (0, 0))) : k ≠ b := by
  obtain ⟨L, clock, h1, _⟩ := h
  unfold PMapIs at h1
  intro e
  rw [e, h1] at hk
  cases hk

/-- Kept where every block of cells is kept and the map. -/
theorem CMap.held {w w' : World} {b : Nat} {K : Nat → Option Nat} (h : CMap w b K) (hb : w'.heap[b]? = w.heap[b]?) (hp : ∀ k n, K k = some n → w'.heap[k]? = w.heap[k]?) : CMap w' b K := by
  obtain ⟨L, clock, h1, h2, h3⟩ := h
  refine ⟨L, clock, hb.trans h1, fun e he => ?_, h3⟩
  obtain ⟨hpa, k, n, e1, e2, e3⟩ := h2 e he
  exact ⟨hpa.kept (fun q _ hq => by rw [hq, e1]; exact hp k n e3), k, n, e1, e2, e3⟩

section
variable {P : Program} {T K E V : TypeId} {j jv : TypeInfo}

theorem cmap_new (w : World) : CMap (w.alloc (.map #[] 0)) w.heap.size (fun _ => none) :=
  ⟨[], 0, by unfold PMapIs; rw [show (w.alloc (.map #[] 0)).heap[w.heap.size]? = some (.map #[] 0) from World.alloc_heap_new w _]; rfl, by simp, by simp⟩

theorem cmap_lookup (w : World) (hT : P.underlying T = some (.map K V)) (hk : P.underlying K = some (.pointer E)) (hE : P.info? E = some j) (hsz : j.size ≠ 0) {z : Value} (hV : P.info? V = some jv) (hz : jv.zero = some z)
    {b : Nat} {M : Nat → Option Nat} (hm : CMap w b M) {q n : Nat} (hq : PAddr w ⟨q, 0, none⟩) (hn : M q = some n) :
    (Instr.lookup T (.map (some b)) (.pointer (some ⟨q, 0, none⟩)) false).run P w = .ok (.int .i64 n) w := by
  obtain ⟨L, clock, h1, h2, h3⟩ := hm
  rw [run_lookup_ptr w hT hk hE hsz hV hz h1 hq (fun e he => (h2 e he).1)]
  obtain ⟨e, he, e1⟩ := h3 q n hn
  cases hp : pfind ⟨q, 0, none⟩ L 0 with
  | none => exact absurd e1.symm (pfind_not hp e he)
  | some r =>
    obtain ⟨i, v⟩ := r
    obtain ⟨_, hi, e2, e3⟩ := pfind_some hp
    obtain ⟨_, k, m, e4, e5, e6⟩ := h2 _ (List.getElem_mem hi)
    rw [e2] at e4
    cases e4
    rw [e3] at e5
    rw [hn] at e6
    cases e6
    simp [e5]

theorem cmap_update (w : World) (hT : P.underlying T = some (.map K V)) (hk : P.underlying K = some (.pointer E)) (hE : P.info? E = some j) (hsz : j.size ≠ 0)
    {b : Nat} {M : Nat → Option Nat} (hm : CMap w b M) {q : Nat} (hq : PAddr w ⟨q, 0, none⟩) (hn : M q = none) (n : Nat) :
    ∃ o : Obj, (Instr.mapUpdate T (.map (some b)) (.pointer (some ⟨q, 0, none⟩)) (.int .i64 n)).run P w = .ok () (w.putObj b o) ∧ CMap (w.putObj b o) b (fun k => if k = q then some n else M k) := by
  obtain ⟨L, clock, h1, h2, h3⟩ := hm
  have hlt : b < w.heap.size := (Array.getElem?_eq_some_iff.1 h1).1
  have hne : ∀ a, PAddr w a → a.block ≠ b := fun a ⟨c, t, h⟩ e => by unfold PMapIs at h1; rw [e, h1] at h; cases h
  have hput : ∀ (o : Obj) a, PAddr w a → PAddr (w.putObj b o) a := fun o a h => h.kept (fun k _ e => World.putObj_heap_other (by rw [e]; exact hne a h))
  have hno : ∀ e ∈ L, (⟨q, 0, none⟩ : Addr) ≠ e.1 := fun e he hqe => by
    obtain ⟨_, k, m, e4, _, e6⟩ := h2 e he
    rw [e4] at hqe
    cases hqe
    rw [hn] at e6
    cases e6
  have hrun := run_mapUpdate_new w hT hk hE hsz h1 hq (fun e he => (h2 e he).1) hno (.int .i64 n)
  refine ⟨.map ((L ++ [((⟨q, 0, none⟩ : Addr), Value.int .i64 n, clock)]).map mkEntry).toArray (clock + 1), by rw [hrun]; rfl, ?_⟩
  refine ⟨L ++ [((⟨q, 0, none⟩ : Addr), Value.int .i64 n, clock)], clock + 1, (by unfold PMapIs; exact World.putObj_heap_same hlt), fun e he => ?_, fun k m hkm => ?_⟩
  · rcases List.mem_append.1 he with he | he
    · obtain ⟨hp, k, m, e4, e5, e6⟩ := h2 e he
      refine ⟨hput _ _ hp, k, m, e4, e5, ?_⟩
      by_cases hkq : k = q
      · rw [hkq, hn] at e6; cases e6
      · show (if k = q then some n else M k) = some m
        rw [if_neg hkq]; exact e6
    · obtain rfl : e = ((⟨q, 0, none⟩ : Addr), Value.int .i64 n, clock) := by simpa using he
      exact ⟨hput _ _ hq, q, n, rfl, rfl, by simp⟩
  · by_cases hkq : k = q
    · subst hkq
      exact ⟨((⟨k, 0, none⟩ : Addr), Value.int .i64 n, clock), by simp, rfl⟩
    · have hkm' : M k = some m := by
        have h : (if k = q then some n else M k) = some m := hkm
        rwa [if_neg hkq] at h
      obtain ⟨e, he, e1⟩ := h3 k m hkm'
      exact ⟨e, by simp [he], e1⟩
end
end Go.Proofs.Ytjnkdbgebkajoaa
