/- A map from pointers to ints, by a function that tells what stands under each key. -/
import Derived.Test.YtodcapgmhginoaaBvS16
import Derived.Test.YtodcapgmhginoaaBvS17
import Derived.WalkKit
import Derived.RangeFuncRecord
namespace Go.Proofs.Ytodcapgmhginoaa
open Go.RowKit

/-- The map at block b: its keys are addresses below block N, each once, and M tells what stands under them. -/
def IMap (w : World) (N b : Nat) (M : Addr → Option Int) : Prop :=
  ∃ L clock, PMapIs w b L clock ∧ (∀ e ∈ L, PAddr w e.1 ∧ e.1.block < N) ∧ (L.map (·.1)).Nodup ∧ (∀ e ∈ L, ∃ z : Int, e.2.1 = .int .i64 z ∧ M e.1 = some z) ∧ ∀ a z, M a = some z → ∃ e ∈ L, e.1 = a

theorem IMap.kept {w w' : World} {N b : Nat} {M : Addr → Option Int} (h : IMap w N b M) (hb : w'.heap[b]? = w.heap[b]?) (hp : ∀ a, a.block < N → PAddr w a → PAddr w' a) : IMap w' N b M := by
  obtain ⟨L, clock, h1, h2, h3, h4, h5⟩ := h
  exact ⟨L, clock, hb.trans h1, fun e he => ⟨hp _ (h2 e he).2 (h2 e he).1, (h2 e he).2⟩, h3, h4, h5⟩

/-- What stands under a key when z has been put under q. -/
def putK (M : Addr → Option Int) (q : Addr) (z : Int) (a : Addr) : Option Int := if a = q then some z else M a

section
variable {P : Program} {T K E V : TypeId} {j jv : TypeInfo}

theorem imap_new (w : World) (N : Nat) : IMap (w.alloc (.map #[] 0)) N w.heap.size (fun _ => none) :=
  ⟨[], 0, by unfold PMapIs; rw [show (w.alloc (.map #[] 0)).heap[w.heap.size]? = some (.map #[] 0) from World.alloc_heap_new w _]; rfl, by simp, by simp, by simp, by simp⟩

theorem imap_find (w : World) (hk : P.underlying K = some (.pointer E)) (hE : P.info? E = some j) (hsz : j.size ≠ 0)
    {b : Nat} {M : Addr → Option Int} {L : List (Addr × Value × Nat)} {clock N : Nat} (_ : PMapIs w b L clock) (h2 : ∀ e ∈ L, PAddr w e.1 ∧ e.1.block < N) (h4 : ∀ e ∈ L, ∃ z : Int, e.2.1 = .int .i64 z ∧ M e.1 = some z) (h5 : ∀ a z, M a = some z → ∃ e ∈ L, e.1 = a) {q : Addr} (hq : PAddr w q) :
    (M q = none ∧ (Instr.findKey K (.pointer (some q)) (L.map mkEntry)).run P w = .ok none w ∧ ∀ e ∈ L, q ≠ e.1) ∨
    ∃ i z, M q = some z ∧ (Instr.findKey K (.pointer (some q)) (L.map mkEntry)).run P w = .ok (some (i, .int .i64 z)) w ∧ ∃ h : i < L.length, L[i].1 = q := by
  have hf := run_findKey_ptr w hk hE hsz hq L (fun e he => (h2 e he).1)
  cases hp : pfind q L 0 with
  | none =>
    rw [hp] at hf
    refine .inl ⟨?_, hf, pfind_not hp⟩
    cases hm : M q with
    | none => rfl
    | some z => obtain ⟨e, he, e1⟩ := h5 q z hm; exact absurd e1.symm (pfind_not hp e he)
  | some r =>
    obtain ⟨i, v⟩ := r
    rw [hp] at hf
    obtain ⟨_, hi, e1, e2⟩ := pfind_some hp
    simp only [Nat.sub_zero] at hi e1 e2
    obtain ⟨z, e3, e4⟩ := h4 _ (List.getElem_mem hi)
    rw [e2] at e3
    rw [e1] at e4
    subst e3
    exact .inr ⟨i, z, e4, hf, hi, e1⟩

theorem imap_lookup (w : World) (hT : P.underlying T = some (.map K V)) (hk : P.underlying K = some (.pointer E)) (hE : P.info? E = some j) (hsz : j.size ≠ 0) (hV : P.info? V = some jv) (hz : jv.zero = some (.int .i64 0))
    {N b : Nat} {M : Addr → Option Int} (hm : IMap w N b M) {q : Addr} (hq : PAddr w q) :
    (Instr.lookup T (.map (some b)) (.pointer (some q)) true).run P w = .ok (.tuple #[.int .i64 ((M q).getD 0), .bool (M q).isSome]) w ∧ (Instr.lookup T (.map (some b)) (.pointer (some q)) false).run P w = .ok (.int .i64 ((M q).getD 0)) w := by
  obtain ⟨L, clock, h1, h2, h3, h4, h5⟩ := hm
  have hf := imap_find w hk hE hsz h1 h2 h4 h5 hq
  unfold PMapIs at h1
  rcases hf with ⟨e1, hf, -⟩ | ⟨i, z, e1, hf, -⟩
  · rw [e1]
    exact ⟨by simp [Instr.lookup, run_underlying hT, getObj, Sem.run, h1, run_checkKey_ptr w _ 9999 hk, hf, zeroValue, typeInfo, hV, hz], by simp [Instr.lookup, run_underlying hT, getObj, Sem.run, h1, run_checkKey_ptr w _ 9999 hk, hf, zeroValue, typeInfo, hV, hz]⟩
  · rw [e1]
    exact ⟨by simp [Instr.lookup, run_underlying hT, getObj, Sem.run, h1, run_checkKey_ptr w _ 9999 hk, hf], by simp [Instr.lookup, run_underlying hT, getObj, Sem.run, h1, run_checkKey_ptr w _ 9999 hk, hf]⟩

theorem imap_update (w : World) (hT : P.underlying T = some (.map K V)) (hk : P.underlying K = some (.pointer E)) (hE : P.info? E = some j) (hsz : j.size ≠ 0)
    {N b : Nat} {M : Addr → Option Int} (hm : IMap w N b M) {q : Addr} (hq : PAddr w q) (hqN : q.block < N) (z : Int) :
    ∃ o : Obj, (Instr.mapUpdate T (.map (some b)) (.pointer (some q)) (.int .i64 z)).run P w = .ok () (w.putObj b o) ∧ IMap (w.putObj b o) N b (putK M q z) ∧ b < w.heap.size ∧ ∀ a, PAddr w a → a.block ≠ b := by
  obtain ⟨L, clock, h1, h2, h3, h4, h5⟩ := hm
  have hf := imap_find w hk hE hsz h1 h2 h4 h5 hq
  have hb := h1
  unfold PMapIs at h1
  have hlt : b < w.heap.size := (Array.getElem?_eq_some_iff.1 h1).1
  have hne : ∀ a, PAddr w a → a.block ≠ b := fun a ⟨c, t, h⟩ e => by rw [e, h1] at h; cases h
  have hput : ∀ (o : Obj) a, PAddr w a → PAddr (w.putObj b o) a := fun o a h => h.kept (fun k _ e => World.putObj_heap_other (by rw [e]; exact hne a h))
  rcases hf with ⟨eM, hf, hno⟩ | ⟨i, v, eM, hf, hi, e1⟩
  · refine ⟨.map ((L ++ [(q, Value.int .i64 z, clock)]).map mkEntry).toArray (clock + 1), by simp [Instr.mapUpdate, run_underlying hT, getObj, setObj, Sem.run, h1, run_checkKey_ptr w _ 9999 hk, hf, mkEntry, World.putObj], ?_, hlt, hne⟩
    refine ⟨L ++ [(q, .int .i64 z, clock)], clock + 1, (by unfold PMapIs; exact World.putObj_heap_same hlt), fun e he => ?_, ?_, fun e he => ?_, fun a y hy => ?_⟩
    · rcases List.mem_append.1 he with he | he
      · exact ⟨hput _ _ (h2 e he).1, (h2 e he).2⟩
      · obtain rfl : e = (q, .int .i64 z, clock) := by simpa using he
        exact ⟨hput _ _ hq, hqN⟩
    · rw [List.map_append, List.nodup_append]
      refine ⟨h3, by simp, fun a ha c hc => ?_⟩
      obtain ⟨e, he, rfl⟩ := List.mem_map.1 ha
      obtain rfl : c = q := by simpa using hc
      exact (hno e he).symm
    · rcases List.mem_append.1 he with he | he
      · obtain ⟨y, e1, e2⟩ := h4 e he
        exact ⟨y, e1, by unfold putK; rw [if_neg (hno e he).symm]; exact e2⟩
      · obtain rfl : e = (q, .int .i64 z, clock) := by simpa using he
        exact ⟨z, rfl, by unfold putK; rw [if_pos rfl]⟩
    · by_cases ha : a = q
      · exact ⟨(q, .int .i64 z, clock), by simp, ha.symm⟩
      · unfold putK at hy; rw [if_neg ha] at hy
        obtain ⟨e, he, e1⟩ := h5 a y hy
        exact ⟨e, by simp [he], e1⟩
  · have hmod : ((L.map mkEntry).toArray.modify i fun e => { e with key := .pointer (some q), val := .int .i64 z }) = ((L.modify i (fun e => (e.1, .int .i64 z, e.2.2))).map mkEntry).toArray := by
      apply Array.ext'
      simp only [Array.toList_modify]
      apply List.ext_getElem?
      intro k
      simp only [List.getElem?_modify, List.getElem?_map]
      by_cases hk : i = k
      · subst hk
        simp [hi, mkEntry, e1]
      · simp [hk]
    refine ⟨.map ((L.modify i (fun e => (e.1, .int .i64 z, e.2.2))).map mkEntry).toArray clock, ?_, ?_, hlt, hne⟩
    · rw [← hmod]
      simp [Instr.mapUpdate, run_underlying hT, getObj, setObj, Sem.run, h1, run_checkKey_ptr w _ 9999 hk, hf, World.putObj, Instr.keyThatStays, Instr.sameBits, hi, mkEntry, e1]
    · have hmem : ∀ e ∈ L.modify i (fun e => (e.1, Value.int .i64 z, e.2.2)), (e.1 = q ∧ e.2.1 = .int .i64 z) ∨ (e ∈ L ∧ e.1 ≠ q) := by
        intro e he
        obtain ⟨k, hk, rfl⟩ := List.getElem_of_mem he
        rw [List.length_modify] at hk
        by_cases hik : i = k
        · subst hik
          left
          simp [e1]
        · right
          simp only [List.getElem_modify, if_neg hik]
          refine ⟨List.getElem_mem hk, fun e => hik ?_⟩
          have h5 : (L.map (·.1))[i]'(by simpa using hi) = (L.map (·.1))[k]'(by simpa using hk) := by simp [e1, e]
          exact (List.getElem_inj h3).1 h5
      have hkeys : (L.modify i (fun e => (e.1, Value.int .i64 z, e.2.2))).map (·.1) = L.map (·.1) := by
        apply List.ext_getElem?
        intro k
        simp only [List.getElem?_map, List.getElem?_modify]
        by_cases hk : i = k
        · subst hk; simp [hi]
        · simp [hk]
      refine ⟨L.modify i (fun e => (e.1, .int .i64 z, e.2.2)), clock, (by unfold PMapIs; exact World.putObj_heap_same hlt), fun e he => ?_, ?_, fun e he => ?_, fun a y hy => ?_⟩
      · rcases hmem e he with h | h
        · rw [h.1]; exact ⟨hput _ _ hq, hqN⟩
        · exact ⟨hput _ _ (h2 e h.1).1, (h2 e h.1).2⟩
      · rw [hkeys]; exact h3
      · rcases hmem e he with h | h
        · exact ⟨z, h.2, by unfold putK; rw [if_pos h.1]⟩
        · obtain ⟨y, e3, e4⟩ := h4 e h.1
          exact ⟨y, e3, by unfold putK; rw [if_neg h.2]; exact e4⟩
      · have hin : a ∈ L.map (·.1) := by
          by_cases ha : a = q
          · rw [ha, ← e1]; exact List.mem_map_of_mem (List.getElem_mem hi)
          · unfold putK at hy; rw [if_neg ha] at hy
            obtain ⟨e, he, e2⟩ := h5 a y hy
            rw [← e2]; exact List.mem_map_of_mem he
        rw [← hkeys] at hin
        obtain ⟨e, he, e2⟩ := List.mem_map.1 hin
        exact ⟨e, he, e2⟩
end
end Go.Proofs.Ytodcapgmhginoaa
