/- A map from pointers to bools, by what is said of the keys that hold false. -/
import Derived.Test.YtodcapgmhginoaaBdS16
import Derived.WalkKit
import Derived.RangeFuncRecord
namespace Go.Proofs.Ytodcapgmhginoaa
open Go.RowKit

theorem pfind_some {q : Addr} : ∀ {L : List (Addr × Value × Nat)} {i j : Nat} {v : Value}, pfind q L i = some (j, v) → i ≤ j ∧ ∃ h : j - i < L.length, L[j - i].1 = q ∧ L[j - i].2.1 = v
  | [], i, j, v, h => by cases h
  | e :: es, i, j, v, h => by
    simp only [pfind] at h
    by_cases hq : q = e.1
    · rw [if_pos hq] at h
      obtain ⟨rfl, rfl⟩ : i = j ∧ e.2.1 = v := by simpa using h
      refine ⟨Nat.le_refl _, by simp, ?_⟩
      simp [hq]
    · rw [if_neg hq] at h
      obtain ⟨h1, h2, h3⟩ := pfind_some h
      have e1 : j - i = (j - (i + 1)) + 1 := by omega
      refine ⟨by omega, by simp; omega, ?_⟩
      simp only [e1, List.getElem_cons_succ]
      exact h3

theorem pfind_not {q : Addr} : ∀ {L : List (Addr × Value × Nat)} {i : Nat}, pfind q L i = none → ∀ e ∈ L, q ≠ e.1
  | [], i, h => by simp
  | e :: es, i, h => by
    simp only [pfind] at h
    by_cases hq : q = e.1
    · rw [if_pos hq] at h; cases h
    · rw [if_neg hq] at h
      intro x hx
      rcases List.mem_cons.1 hx with rfl | hx
      · exact hq
      · exact pfind_not h x hx

/-- The map at block b: its keys are addresses below block N, each once, its values bools, and S holds of the keys under which false stands. -/
def BMap (w : World) (N b : Nat) (S : Addr → Prop) : Prop :=
  ∃ L clock, PMapIs w b L clock ∧ (∀ e ∈ L, PAddr w e.1 ∧ e.1.block < N) ∧ (L.map (·.1)).Nodup ∧ ∀ e ∈ L, ∃ bo : Bool, e.2.1 = .bool bo ∧ (bo = false → S e.1)

theorem PAddr.kept {w w' : World} {a : Addr} (h : PAddr w a) (hk : ∀ k, k < w.heap.size → k = a.block → w'.heap[k]? = w.heap[k]?) : PAddr w' a := by
  obtain ⟨c, t, h⟩ := h
  exact ⟨c, t, (hk _ (Array.getElem?_eq_some_iff.1 h).1 rfl).trans h⟩

theorem BMap.kept {w w' : World} {N b : Nat} {S : Addr → Prop} (h : BMap w N b S) (hb : w'.heap[b]? = w.heap[b]?) (hp : ∀ a, a.block < N → PAddr w a → PAddr w' a) : BMap w' N b S := by
  obtain ⟨L, clock, h1, h2, h3, h4⟩ := h
  exact ⟨L, clock, hb.trans h1, fun e he => ⟨hp _ (h2 e he).2 (h2 e he).1, (h2 e he).2⟩, h3, h4⟩

theorem BMap.weaken {w : World} {N b : Nat} {S S' : Addr → Prop} (h : BMap w N b S) (hs : ∀ a, S a → S' a) : BMap w N b S' := by
  obtain ⟨L, clock, h1, h2, h3, h4⟩ := h
  exact ⟨L, clock, h1, h2, h3, fun e he => by obtain ⟨bo, e1, e2⟩ := h4 e he; exact ⟨bo, e1, fun h => hs _ (e2 h)⟩⟩

section
variable {P : Program} {T K E V : TypeId} {j jv : TypeInfo}

theorem bmap_new (w : World) (N : Nat) (S : Addr → Prop) : BMap (w.alloc (.map #[] 0)) N w.heap.size S :=
  ⟨[], 0, by unfold PMapIs; rw [show (w.alloc (.map #[] 0)).heap[w.heap.size]? = some (.map #[] 0) from World.alloc_heap_new w _]; rfl, by simp, by simp, by simp⟩

theorem bmap_lookup (w : World) (hT : P.underlying T = some (.map K V)) (hk : P.underlying K = some (.pointer E)) (hE : P.info? E = some j) (hsz : j.size ≠ 0) (hV : P.info? V = some jv) (hz : jv.zero = some (.bool false))
    {N b : Nat} {S : Addr → Prop} (hm : BMap w N b S) {q : Addr} (hq : PAddr w q) :
    ∃ bo known : Bool, (Instr.lookup T (.map (some b)) (.pointer (some q)) true).run P w = .ok (.tuple #[.bool bo, .bool known]) w ∧ (known = true → bo = false → S q) := by
  obtain ⟨L, clock, h1, h2, h3, h4⟩ := hm
  have hf := run_findKey_ptr w hk hE hsz hq L (fun e he => (h2 e he).1)
  unfold PMapIs at h1
  cases hp : pfind q L 0 with
  | none =>
    rw [hp] at hf
    exact ⟨false, false, by simp [Instr.lookup, run_underlying hT, getObj, Sem.run, h1, run_checkKey_ptr w _ 9999 hk, hf, zeroValue, typeInfo, hV, hz], fun h => by cases h⟩
  | some r =>
    obtain ⟨i, v⟩ := r
    rw [hp] at hf
    obtain ⟨_, hi, e1, e2⟩ := pfind_some hp
    obtain ⟨bo, e3, e4⟩ := h4 _ (List.getElem_mem hi)
    rw [e2] at e3
    subst e3
    exact ⟨bo, true, by simp [Instr.lookup, run_underlying hT, getObj, Sem.run, h1, run_checkKey_ptr w _ 9999 hk, hf], fun _ h => by rw [← e1]; exact e4 h⟩

theorem bmap_update (w : World) (hT : P.underlying T = some (.map K V)) (hk : P.underlying K = some (.pointer E)) (hE : P.info? E = some j) (hsz : j.size ≠ 0)
    {N b : Nat} {S : Addr → Prop} (hm : BMap w N b S) {q : Addr} (hq : PAddr w q) (hqN : q.block < N) (bo : Bool) :
    ∃ o : Obj, (Instr.mapUpdate T (.map (some b)) (.pointer (some q)) (.bool bo)).run P w = .ok () (w.putObj b o) ∧ BMap (w.putObj b o) N b (fun a => (S a ∧ a ≠ q) ∨ (bo = false ∧ a = q)) ∧ b < w.heap.size ∧ ∀ a, PAddr w a → a.block ≠ b := by
  obtain ⟨L, clock, h1, h2, h3, h4⟩ := hm
  have hf := run_findKey_ptr w hk hE hsz hq L (fun e he => (h2 e he).1)
  have hb := h1
  unfold PMapIs at h1
  have hlt : b < w.heap.size := (Array.getElem?_eq_some_iff.1 h1).1
  have hne : ∀ a, PAddr w a → a.block ≠ b := fun a ⟨c, t, h⟩ e => by rw [e, h1] at h; cases h
  have hput : ∀ (o : Obj) a, PAddr w a → PAddr (w.putObj b o) a := fun o a h => h.kept (fun k _ e => World.putObj_heap_other (by rw [e]; exact hne a h))
  cases hp : pfind q L 0 with
  | none =>
    rw [hp] at hf
    have hno := pfind_not hp
    refine ⟨.map ((L ++ [(q, Value.bool bo, clock)]).map mkEntry).toArray (clock + 1), by simp [Instr.mapUpdate, run_underlying hT, getObj, setObj, Sem.run, h1, run_checkKey_ptr w _ 9999 hk, hf, mkEntry, World.putObj], ?_, hlt, hne⟩
    refine ⟨L ++ [(q, .bool bo, clock)], clock + 1, (by unfold PMapIs; exact World.putObj_heap_same hlt), fun e he => ?_, ?_, fun e he => ?_⟩
    · rcases List.mem_append.1 he with he | he
      · exact ⟨hput _ _ (h2 e he).1, (h2 e he).2⟩
      · obtain rfl : e = (q, .bool bo, clock) := by simpa using he
        exact ⟨hput _ _ hq, hqN⟩
    · rw [List.map_append, List.nodup_append]
      refine ⟨h3, by simp, fun a ha c hc => ?_⟩
      obtain ⟨e, he, rfl⟩ := List.mem_map.1 ha
      obtain rfl : c = q := by simpa using hc
      exact (hno e he).symm
    · rcases List.mem_append.1 he with he | he
      · obtain ⟨b1, e1, e2⟩ := h4 e he
        exact ⟨b1, e1, fun h => .inl ⟨e2 h, (hno e he).symm⟩⟩
      · obtain rfl : e = (q, .bool bo, clock) := by simpa using he
        exact ⟨bo, rfl, fun h => .inr ⟨h, rfl⟩⟩
  | some r =>
    obtain ⟨i, v⟩ := r
    rw [hp] at hf
    obtain ⟨_, hi, e1, e2⟩ := pfind_some hp
    simp only [Nat.sub_zero] at hi e1 e2
    have hmod : ((L.map mkEntry).toArray.modify i fun e => { e with key := .pointer (some q), val := .bool bo }) = ((L.modify i (fun e => (e.1, .bool bo, e.2.2))).map mkEntry).toArray := by
      apply Array.ext'
      simp only [Array.toList_modify]
      apply List.ext_getElem?
      intro k
      simp only [List.getElem?_modify, List.getElem?_map]
      by_cases hk : i = k
      · subst hk
        simp [hi, mkEntry, e1]
      · simp [hk]
    refine ⟨.map ((L.modify i (fun e => (e.1, .bool bo, e.2.2))).map mkEntry).toArray clock, ?_, ?_, hlt, hne⟩
    · rw [← hmod]
      simp [Instr.mapUpdate, run_underlying hT, getObj, setObj, Sem.run, h1, run_checkKey_ptr w _ 9999 hk, hf, World.putObj, Instr.keyThatStays, Instr.sameBits, hi, mkEntry, e1]
    · have hmem : ∀ e ∈ L.modify i (fun e => (e.1, Value.bool bo, e.2.2)), (e.1 = q ∧ e.2.1 = .bool bo) ∨ (e ∈ L ∧ e.1 ≠ q) := by
        intro e he
        obtain ⟨k, hk, rfl⟩ := List.getElem_of_mem he
        rw [List.length_modify] at hk
        by_cases hik : i = k
        · subst hik
          left
          simp [e1]
        · right
          simp only [List.getElem_modify, if_neg hik]
          refine ⟨List.getElem_mem hk, fun e => hik ?_⟩
          have h5 : (L.map (·.1))[i]'(by simpa using hi) = (L.map (·.1))[k]'(by simpa using hk) := by simp [e1, e]
          exact (List.getElem_inj h3).1 h5
      refine ⟨L.modify i (fun e => (e.1, .bool bo, e.2.2)), clock, (by unfold PMapIs; exact World.putObj_heap_same hlt), fun e he => ?_, ?_, fun e he => ?_⟩
      · rcases hmem e he with h | h
        · rw [h.1]; exact ⟨hput _ _ hq, hqN⟩
        · exact ⟨hput _ _ (h2 e h.1).1, (h2 e h.1).2⟩
      · have : (L.modify i (fun e => (e.1, Value.bool bo, e.2.2))).map (·.1) = L.map (·.1) := by
          apply List.ext_getElem?
          intro k
          simp only [List.getElem?_map, List.getElem?_modify]
          by_cases hk : i = k
          · subst hk; simp [hi]
          · simp [hk]
        rw [this]; exact h3
      · rcases hmem e he with h | h
        · exact ⟨bo, h.2, fun hb => .inr ⟨hb, h.1⟩⟩
        · obtain ⟨b1, e3, e4⟩ := h4 e h.1
          exact ⟨b1, e3, fun hb => .inl ⟨e4 hb, h.2⟩⟩
end
end Go.Proofs.Ytodcapgmhginoaa
