/- Maps of pointers to counts. -/
import Derived.Test.YtngaknljmkadbaaBase
import Derived.Test.YtngaknljmkadbaaPMap
import Derived.Test.YtngaknljmkadbaaBMap
import Derived.Test.YtngaknljmkadbaaIter
namespace Go.Proofs.Ytngaknljmkadbaa
open Go.RowKit

/-- The map at block b: its keys are the starts of the blocks of which K tells a count, and its values these counts. -/
def CMap (w : World) (b : Nat) (K : Nat → Option Nat) : Prop :=
  ∃ L clock, PMapIs w b L clock ∧ (∀ e ∈ L, PAddr w e.1 ∧ ∃ k n : Nat, e.1 = ⟨k, 0, none⟩ ∧ e.2.1 = .int .i64 n ∧ K k = some n) ∧ ∀ k n, K k = some n → ∃ e ∈ L, e.1 = ⟨k, 0, none⟩

theorem CMap.kept {w w' : World} {b : Nat} {K : Nat → Option Nat} (h : CMap w b K) (hk : ∀ k, k < w.heap.size → w'.heap[k]? = w.heap[k]?) : CMap w' b K := by
  obtain ⟨L, clock, h1, h2, h3⟩ := h
  have hlt : b < w.heap.size := (Array.getElem?_eq_some_iff.1 h1).1
  exact ⟨L, clock, (hk b hlt).trans h1, fun e he => ⟨(h2 e he).1.kept (fun k hlt _ => hk k hlt), (h2 e he).2⟩, h3⟩

theorem CMap.lt {w : World} {b : Nat} {K : Nat → Option Nat} (h : CMap w b K) : b < w.heap.size := by
  obtain ⟨L, clock, h1, _⟩ := h
  exact (Array.getElem?_eq_some_iff.1 h1).1

/-- No block of cells is the map's block. -/
theorem CMap.ne {w : World} {b k : Nat} {K : Nat → Option Nat} {c : Array Value} {t : TypeId} (h : CMap w b K) (hk : w.heap[k]? = some (.cells c t (0, 0))) : k ≠ b := by
  obtain ⟨L, clock, h1, _⟩ := h
  unfold PMapIs at h1
  intro e
  rw [e, h1] at hk
  cases hk

/-- Kept where every block of cells is kept and the map. -/
theorem CMap.held {w w' : World} {b : Nat} {K : Nat → Option Nat} (h : CMap w b K) (hb : w'.heap[b]? = w.heap[b]?) (hp : ∀ k n, K k = some n → w'.heap[k]? = w.heap[k]?) : CMap w' b K := by
  obtain ⟨L, clock, h1, h2, h3⟩ := h
  refine ⟨L, clock, hb.trans h1, fun e he => ?_, h3⟩
  obtain ⟨hpa, k, n, e1, e2, e3⟩ := h2 e he
  exact ⟨hpa.kept (fun q _ hq => by rw [hq, e1]; exact hp k n e3), k, n, e1, e2, e3⟩

section
variable {P : Program} {T K E V : TypeId} {j jv : TypeInfo}

theorem cmap_new (w : World) : CMap (w.alloc (.map #[] 0)) w.heap.size (fun _ => none) :=
  ⟨[], 0, by unfold PMapIs; rw [show (w.alloc (.map #[] 0)).heap[w.heap.size]? = some (.map #[] 0) from World.alloc_heap_new w _]; rfl, by simp, by simp⟩

theorem cmap_lookup (w : World) (hT : P.underlying T = some (.map K V)) (hk : P.underlying K = some (.pointer E)) (hE : P.info? E = some j) (hsz : j.size ≠ 0) {z : Value} (hV : P.info? V = some jv) (hz : jv.zero = some z)
    {b : Nat} {M : Nat → Option Nat} (hm : CMap w b M) {q n : Nat} (hq : PAddr w ⟨q, 0, none⟩) (hn : M q = some n) :
    (Instr.lookup T (.map (some b)) (.pointer (some ⟨q, 0, none⟩)) false).run P w = .ok (.int .i64 n) w := by
  obtain ⟨L, clock, h1, h2, h3⟩ := hm
  rw [run_lookup_ptr w hT hk hE hsz hV hz h1 hq (fun e he => (h2 e he).1)]
  obtain ⟨e, he, e1⟩ := h3 q n hn
  cases hp : pfind ⟨q, 0, none⟩ L 0 with
  | none => exact absurd e1.symm (pfind_not hp e he)
  | some r =>
    obtain ⟨i, v⟩ := r
    obtain ⟨_, hi, e2, e3⟩ := pfind_some hp
    obtain ⟨_, k, m, e4, e5, e6⟩ := h2 _ (List.getElem_mem hi)
    rw [e2] at e4
    cases e4
    rw [e3] at e5
    rw [hn] at e6
    cases e6
    simp [e5]

theorem cmap_update (w : World) (hT : P.underlying T = some (.map K V)) (hk : P.underlying K = some (.pointer E)) (hE : P.info? E = some j) (hsz : j.size ≠ 0)
    {b : Nat} {M : Nat → Option Nat} (hm : CMap w b M) {q : Nat} (hq : PAddr w ⟨q, 0, none⟩) (hn : M q = none) (n : Nat) :
    ∃ o : Obj, (Instr.mapUpdate T (.map (some b)) (.pointer (some ⟨q, 0, none⟩)) (.int .i64 n)).run P w = .ok () (w.putObj b o) ∧ CMap (w.putObj b o) b (fun k => if k = q then some n else M k) := by
  obtain ⟨L, clock, h1, h2, h3⟩ := hm
  have hlt : b < w.heap.size := (Array.getElem?_eq_some_iff.1 h1).1
  have hne : ∀ a, PAddr w a → a.block ≠ b := fun a ⟨c, t, h⟩ e => by unfold PMapIs at h1; rw [e, h1] at h; cases h
  have hput : ∀ (o : Obj) a, PAddr w a → PAddr (w.putObj b o) a := fun o a h => h.kept (fun k _ e => World.putObj_heap_other (by rw [e]; exact hne a h))
  have hno : ∀ e ∈ L, (⟨q, 0, none⟩ : Addr) ≠ e.1 := fun e he hqe => by
    obtain ⟨_, k, m, e4, _, e6⟩ := h2 e he
    rw [e4] at hqe
    cases hqe
    rw [hn] at e6
    cases e6
  have hrun := run_mapUpdate_new w hT hk hE hsz h1 hq (fun e he => (h2 e he).1) hno (.int .i64 n)
  refine ⟨.map ((L ++ [((⟨q, 0, none⟩ : Addr), Value.int .i64 n, clock)]).map mkEntry).toArray (clock + 1), by rw [hrun]; rfl, ?_⟩
  refine ⟨L ++ [((⟨q, 0, none⟩ : Addr), Value.int .i64 n, clock)], clock + 1, (by unfold PMapIs; exact World.putObj_heap_same hlt), fun e he => ?_, fun k m hkm => ?_⟩
  · rcases List.mem_append.1 he with he | he
    · obtain ⟨hp, k, m, e4, e5, e6⟩ := h2 e he
      refine ⟨hput _ _ hp, k, m, e4, e5, ?_⟩
      by_cases hkq : k = q
      · rw [hkq, hn] at e6; cases e6
      · show (if k = q then some n else M k) = some m
        rw [if_neg hkq]; exact e6
    · obtain rfl : e = ((⟨q, 0, none⟩ : Addr), Value.int .i64 n, clock) := by simpa using he
      exact ⟨hput _ _ hq, q, n, rfl, rfl, by simp⟩
  · by_cases hkq : k = q
    · subst hkq
      exact ⟨((⟨k, 0, none⟩ : Addr), Value.int .i64 n, clock), by simp, rfl⟩
    · have hkm' : M k = some m := by
        have h : (if k = q then some n else M k) = some m := hkm
        rwa [if_neg hkq] at h
      obtain ⟨e, he, e1⟩ := h3 k m hkm'
      exact ⟨e, by simp [he], e1⟩
end
end Go.Proofs.Ytngaknljmkadbaa
