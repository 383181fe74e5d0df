/- Maps of pointers to counts. -/
import Derived.WalkKit
import Derived.LaidEqlPtr
import Derived.RangeFuncRecord
import Derived.Test.YtananonjomfpkaaPe0

/- Maps whose keys are pointers: what the operations on them do, in any program. -/
namespace Go.Proofs.Ytananonjomfpkaa
open Go.RowKit

/-- An address in a row of cells of which none is frozen. -/
def PAddr (w : World) (a : Addr) : Prop := ∃ (c : Array Value) (t : TypeId), w.heap[a.block]? = some (.cells c t (0, 0))

/-- An entry under a pointer. -/
def mkEntry (x : Addr × Value × Nat) : MapEntry := { key := .pointer (some x.1), val := x.2.1, born := x.2.2 }

/-- The first entry under q. -/
def pfind (q : Addr) : List (Addr × Value × Nat) → Nat → Option (Nat × Value)
  | [], _ => none
  | e :: es, i => if q = e.1 then some (i, e.2.1) else pfind q es (i + 1)

theorem pfind_none {q : Addr} : ∀ {L : List (Addr × Value × Nat)} {i : Nat}, (∀ e ∈ L, q ≠ e.1) → pfind q L i = none
  | [], _, _ => rfl
  | e :: es, i, h => by
    simp only [pfind]
    rw [if_neg (h e (by simp))]
    exact pfind_none (fun x hx => h x (by simp [hx]))

theorem pfind_append {q : Addr} : ∀ {L M : List (Addr × Value × Nat)} {i : Nat}, (∀ e ∈ L, q ≠ e.1) → pfind q (L ++ M) i = pfind q M (i + L.length)
  | [], M, i, _ => by simp
  | e :: es, M, i, h => by
    simp only [List.cons_append, pfind]
    rw [if_neg (h e (by simp)), pfind_append (fun x hx => h x (by simp [hx]))]
    simp only [List.length_cons]
    congr 1; omega

section
variable {P : Program} {T K E V : TypeId} {j : TypeInfo}

theorem run_equal_ptr (w : World) (hk : P.underlying K = some (.pointer E)) (hE : P.info? E = some j) (hsz : j.size ≠ 0) {a b : Addr} (ha : PAddr w a) (hb : PAddr w b) :
    (Op.equal K (.pointer (some a)) (.pointer (some b))).run P w = .ok (decide (a = b)) w := by
  by_cases h : a = b
  · subst h
    have h : ∀ d : Nat, (Op.equalIn (d + 1) K (.pointer (some a)) (.pointer (some a))).run P w = .ok true w := fun d => by
      simp [Op.equalIn, run_underlying hk, sizeOf, typeInfo, hE, run_sameAddr_same]
    have h1 := h 9999
    rw [decide_eq_true rfl]
    exact h1
  · obtain ⟨ca, ta, ha⟩ := ha
    obtain ⟨cb, tb, hb⟩ := hb
    have h1 : ∀ d : Nat, (Op.equalIn (d + 1) K (.pointer (some a)) (.pointer (some b))).run P w = .ok false w := fun d => by
      simp [Op.equalIn, run_underlying hk, sizeOf, typeInfo, hE, hsz, run_sameAddr_other w h ha hb]
    have h2 := h1 9999
    rw [decide_eq_false h]
    exact h2

theorem run_findAsking_ptr (w : World) (hk : P.underlying K = some (.pointer E)) (hE : P.info? E = some j) (hsz : j.size ≠ 0) {q : Addr} (hq : PAddr w q) :
    ∀ (L : List (Addr × Value × Nat)) (i : Nat), (∀ e ∈ L, PAddr w e.1) → (Instr.findAsking K (.pointer (some q)) (L.map mkEntry) i).run P w = .ok (pfind q L i) w
  | [], i, _ => by simp [Instr.findAsking, pfind]
  | e :: es, i, h => by
    have h1 := run_equal_ptr w hk hE hsz hq (h e (by simp))
    have h2 := run_findAsking_ptr w hk hE hsz hq es (i + 1) (fun x hx => h x (by simp [hx]))
    by_cases hqe : q = e.1
    · simp only [List.map_cons, Instr.findAsking, mkEntry, pfind, if_pos hqe, Sem.run_bind]
      rw [h1]
      simp [hqe]
    · simp only [List.map_cons, Instr.findAsking, mkEntry, pfind, if_neg hqe, Sem.run_bind]
      rw [h1]
      simp only [decide_eq_false hqe, Result.andThen_ok]
      exact h2

theorem run_findKey_ptr (w : World) (hk : P.underlying K = some (.pointer E)) (hE : P.info? E = some j) (hsz : j.size ≠ 0) {q : Addr} (hq : PAddr w q) (L : List (Addr × Value × Nat)) (h : ∀ e ∈ L, PAddr w e.1) :
    (Instr.findKey K (.pointer (some q)) (L.map mkEntry)).run P w = .ok (pfind q L 0) w := by
  cases L with
  | nil => simp [Instr.findKey, run_underlying hk, Instr.findNow, pfind]
  | cons e es =>
    have h1 := run_findAsking_ptr w hk hE hsz hq (e :: es) 0 h
    simp only [List.map_cons] at h1
    simp [Instr.findKey, run_underlying hk, Instr.findNow, Instr.sameNow, mkEntry] at h1 ⊢
    exact h1

theorem run_checkKey_ptr (w : World) (em : Bool) (n : Nat) (hk : P.underlying K = some (.pointer E)) (v : Value) : (Instr.checkKey em (n + 1) K v).run P w = .ok () w := by
  simp [Instr.checkKey, run_underlying hk]

/-- The map at block b. -/
def PMapIs (w : World) (b : Nat) (L : List (Addr × Value × Nat)) (clock : Nat) : Prop := w.heap[b]? = some (.map (L.map mkEntry).toArray clock)

theorem run_lookup_ptr (w : World) (hT : P.underlying T = some (.map K V)) (hk : P.underlying K = some (.pointer E)) (hE : P.info? E = some j) (hsz : j.size ≠ 0) {z : Value} {jv : TypeInfo} (hV : P.info? V = some jv) (hz : jv.zero = some z)
    {b : Nat} {L : List (Addr × Value × Nat)} {clock : Nat} (hm : PMapIs w b L clock) {q : Addr} (hq : PAddr w q) (h : ∀ e ∈ L, PAddr w e.1) :
    (Instr.lookup T (.map (some b)) (.pointer (some q)) false).run P w = .ok (((pfind q L 0).map (·.2)).getD z) w := by
  have h1 := run_findKey_ptr w hk hE hsz hq L h
  unfold PMapIs at hm
  cases hf : pfind q L 0 with
  | none =>
    rw [hf] at h1
    simp [Instr.lookup, run_underlying hT, getObj, Sem.run, hm, run_checkKey_ptr w _ 9999 hk, h1, zeroValue, typeInfo, hV, hz]
  | some r =>
    rw [hf] at h1
    simp [Instr.lookup, run_underlying hT, getObj, Sem.run, hm, run_checkKey_ptr w _ 9999 hk, h1]

/-- A store under a key that is not there: one entry more at the end. -/
theorem run_mapUpdate_new (w : World) (hT : P.underlying T = some (.map K V)) (hk : P.underlying K = some (.pointer E)) (hE : P.info? E = some j) (hsz : j.size ≠ 0)
    {b : Nat} {L : List (Addr × Value × Nat)} {clock : Nat} (hm : PMapIs w b L clock) {q : Addr} (hq : PAddr w q) (h : ∀ e ∈ L, PAddr w e.1) (hne : ∀ e ∈ L, q ≠ e.1) (v : Value) :
    (Instr.mapUpdate T (.map (some b)) (.pointer (some q)) v).run P w = .ok () { w with heap := w.heap.setIfInBounds b (.map ((L ++ [(q, v, clock)]).map mkEntry).toArray (clock + 1)) } := by
  have h1 := run_findKey_ptr w hk hE hsz hq L h
  rw [pfind_none hne] at h1
  unfold PMapIs at hm
  simp [Instr.mapUpdate, run_underlying hT, getObj, setObj, Sem.run, hm, run_checkKey_ptr w _ 9999 hk, h1, mkEntry]

/-- The last entry is deleted. -/
theorem run_delete_last (w : World) (hT : P.underlying T = some (.map K V)) (hk : P.underlying K = some (.pointer E)) (hE : P.info? E = some j) (hsz : j.size ≠ 0)
    {b : Nat} {L : List (Addr × Value × Nat)} {clock n : Nat} {q : Addr} {v : Value} (hm : PMapIs w b (L ++ [(q, v, n)]) clock) (hq : PAddr w q) (h : ∀ e ∈ L, PAddr w e.1) (hne : ∀ e ∈ L, q ≠ e.1) (ty kt : TypeId) :
    (Builtin.delete_ #[T, kt] ty #[.map (some b), .pointer (some q)]).run P w = .ok (.tuple #[]) { w with heap := w.heap.setIfInBounds b (.map (L.map mkEntry).toArray clock) } := by
  have h1 := run_findKey_ptr w hk hE hsz hq (L ++ [(q, v, n)]) (fun e he => by
    rcases List.mem_append.1 he with he | he
    · exact h e he
    · obtain rfl : e = (q, v, n) := by simpa using he
      exact hq)
  rw [pfind_append hne] at h1
  simp only [pfind, if_true, Nat.zero_add] at h1
  unfold PMapIs at hm
  have hem : (List.map mkEntry L ++ [mkEntry (q, v, n)]).eraseIdx L.length = List.map mkEntry L := by
    rw [List.eraseIdx_append_of_length_le (by simp)]; simp
  simp only [List.map_append, List.map_cons, List.map_nil] at h1 hm
  simp [Builtin.delete_, run_underlying hT, getObj, setObj, Sem.run, hm, run_checkKey_ptr w _ 9999 hk, h1, hem]

theorem run_len_map (w : World) (hT : P.underlying T = some (.map K V)) {b : Nat} {L : List (Addr × Value × Nat)} {clock : Nat} (hm : PMapIs w b L clock) (ty : TypeId) :
    (Builtin.len_ #[T] ty #[.map (some b)]).run P w = .ok (.int .i64 L.length) w := by
  unfold PMapIs at hm
  simp [Builtin.len_, run_underlying hT, getObj, Sem.run, hm, goInt]
end
end Go.Proofs.Ytananonjomfpkaa

/- A map from pointers to bools, by what is said of the keys that hold false. -/
namespace Go.Proofs.Ytananonjomfpkaa
open Go.RowKit

theorem pfind_some {q : Addr} : ∀ {L : List (Addr × Value × Nat)} {i j : Nat} {v : Value}, pfind q L i = some (j, v) → i ≤ j ∧ ∃ h : j - i < L.length, L[j - i].1 = q ∧ L[j - i].2.1 = v
  | [], i, j, v, h => by cases h
  | e :: es, i, j, v, h => by
    simp only [pfind] at h
    by_cases hq : q = e.1
    · rw [if_pos hq] at h
      obtain ⟨rfl, rfl⟩ : i = j ∧ e.2.1 = v := by simpa using h
      refine ⟨Nat.le_refl _, by simp, ?_⟩
      simp [hq]
    · rw [if_neg hq] at h
      obtain ⟨h1, h2, h3⟩ := pfind_some h
      have e1 : j - i = (j - (i + 1)) + 1 := by omega
      refine ⟨by omega, by simp; omega, ?_⟩
      simp only [e1, List.getElem_cons_succ]
      exact h3

theorem pfind_not {q : Addr} : ∀ {L : List (Addr × Value × Nat)} {i : Nat}, pfind q L i = none → ∀ e ∈ L, q ≠ e.1
  | [], i, h => by simp
  | e :: es, i, h => by
    simp only [pfind] at h
    by_cases hq : q = e.1
    · rw [if_pos hq] at h; cases h
    · rw [if_neg hq] at h
      intro x hx
      rcases List.mem_cons.1 hx with rfl | hx
      · exact hq
      · exact pfind_not h x hx

/-- The map at block b: its keys are addresses below block N, each once, its values bools, and S holds of the keys under which false stands. -/
def BMap (w : World) (N b : Nat) (S : Addr → Prop) : Prop :=
  ∃ L clock, PMapIs w b L clock ∧ (∀ e ∈ L, PAddr w e.1 ∧ e.1.block < N) ∧ (L.map (·.1)).Nodup ∧ ∀ e ∈ L, ∃ bo : Bool, e.2.1 = .bool bo ∧ (bo = false → S e.1)

theorem PAddr.kept {w w' : World} {a : Addr} (h : PAddr w a) (hk : ∀ k, k < w.heap.size → k = a.block → w'.heap[k]? = w.heap[k]?) : PAddr w' a := by
  obtain ⟨c, t, h⟩ := h
  exact ⟨c, t, (hk _ (Array.getElem?_eq_some_iff.1 h).1 rfl).trans h⟩

theorem BMap.kept {w w' : World} {N b : Nat} {S : Addr → Prop} (h : BMap w N b S) (hb : w'.heap[b]? = w.heap[b]?) (hp : ∀ a, a.block < N → PAddr w a → PAddr w' a) : BMap w' N b S := by
  obtain ⟨L, clock, h1, h2, h3, h4⟩ := h
  exact ⟨L, clock, hb.trans h1, fun e he => ⟨hp _ (h2 e he).2 (h2 e he).1, (h2 e he).2⟩, h3, h4⟩

theorem BMap.weaken {w : World} {N b : Nat} {S S' : Addr → Prop} (h : BMap w N b S) (hs : ∀ a, S a → S' a) : BMap w N b S' := by
  obtain ⟨L, clock, h1, h2, h3, h4⟩ := h
  exact ⟨L, clock, h1, h2, h3, fun e he => by obtain ⟨bo, e1, e2⟩ := h4 e he; exact ⟨bo, e1, fun h => hs _ (e2 h)⟩⟩

section
variable {P : Program} {T K E V : TypeId} {j jv : TypeInfo}

theorem bmap_new (w : World) (N : Nat) (S : Addr → Prop) : BMap (w.alloc (.map #[] 0)) N w.heap.size S :=
  ⟨[], 0, by unfold PMapIs; rw [show (w.alloc (.map #[] 0)).heap[w.heap.size]? = some (.map #[] 0) from World.alloc_heap_new w _]; rfl, by simp, by simp, by simp⟩

theorem bmap_lookup (w : World) (hT : P.underlying T = some (.map K V)) (hk : P.underlying K = some (.pointer E)) (hE : P.info? E = some j) (hsz : j.size ≠ 0) (hV : P.info? V = some jv) (hz : jv.zero = some (.bool false))
    {N b : Nat} {S : Addr → Prop} (hm : BMap w N b S) {q : Addr} (hq : PAddr w q) :
    ∃ bo known : Bool, (Instr.lookup T (.map (some b)) (.pointer (some q)) true).run P w = .ok (.tuple #[.bool bo, .bool known]) w ∧ (known = true → bo = false → S q) := by
  obtain ⟨L, clock, h1, h2, h3, h4⟩ := hm
  have hf := run_findKey_ptr w hk hE hsz hq L (fun e he => (h2 e he).1)
  unfold PMapIs at h1
  cases hp : pfind q L 0 with
  | none =>
    rw [hp] at hf
    exact ⟨false, false, by simp [Instr.lookup, run_underlying hT, getObj, Sem.run, h1, run_checkKey_ptr w _ 9999 hk, hf, zeroValue, typeInfo, hV, hz], fun h => by cases h⟩
  | some r =>
    obtain ⟨i, v⟩ := r
    rw [hp] at hf
    obtain ⟨_, hi, e1, e2⟩ := pfind_some hp
    obtain ⟨bo, e3, e4⟩ := h4 _ (List.getElem_mem hi)
    rw [e2] at e3
    subst e3
    exact ⟨bo, true, by simp [Instr.lookup, run_underlying hT, getObj, Sem.run, h1, run_checkKey_ptr w _ 9999 hk, hf], fun _ h => by rw [← e1]; exact e4 h⟩

theorem bmap_update (w : World) (hT : P.underlying T = some (.map K V)) (hk : P.underlying K = some (.pointer E)) (hE : P.info? E = some j) (hsz : j.size ≠ 0)
    {N b : Nat} {S : Addr → Prop} (hm : BMap w N b S) {q : Addr} (hq : PAddr w q) (hqN : q.block < N) (bo : Bool) :
    ∃ o : Obj, (Instr.mapUpdate T (.map (some b)) (.pointer (some q)) (.bool bo)).run P w = .ok () (w.putObj b o) ∧ BMap (w.putObj b o) N b (fun a => (S a ∧ a ≠ q) ∨ (bo = false ∧ a = q)) ∧ b < w.heap.size ∧ ∀ a, PAddr w a → a.block ≠ b := by
  obtain ⟨L, clock, h1, h2, h3, h4⟩ := hm
  have hf := run_findKey_ptr w hk hE hsz hq L (fun e he => (h2 e he).1)
  have hb := h1
  unfold PMapIs at h1
  have hlt : b < w.heap.size := (Array.getElem?_eq_some_iff.1 h1).1
  have hne : ∀ a, PAddr w a → a.block ≠ b := fun a ⟨c, t, h⟩ e => by rw [e, h1] at h; cases h
  have hput : ∀ (o : Obj) a, PAddr w a → PAddr (w.putObj b o) a := fun o a h => h.kept (fun k _ e => World.putObj_heap_other (by rw [e]; exact hne a h))
  cases hp : pfind q L 0 with
  | none =>
    rw [hp] at hf
    have hno := pfind_not hp
    refine ⟨.map ((L ++ [(q, Value.bool bo, clock)]).map mkEntry).toArray (clock + 1), by simp [Instr.mapUpdate, run_underlying hT, getObj, setObj, Sem.run, h1, run_checkKey_ptr w _ 9999 hk, hf, mkEntry, World.putObj], ?_, hlt, hne⟩
    refine ⟨L ++ [(q, .bool bo, clock)], clock + 1, (by unfold PMapIs; exact World.putObj_heap_same hlt), fun e he => ?_, ?_, fun e he => ?_⟩
    · rcases List.mem_append.1 he with he | he
      · exact ⟨hput _ _ (h2 e he).1, (h2 e he).2⟩
      · obtain rfl : e = (q, .bool bo, clock) := by simpa using he
        exact ⟨hput _ _ hq, hqN⟩
    · rw [List.map_append, List.nodup_append]
      refine ⟨h3, by simp, fun a ha c hc => ?_⟩
      obtain ⟨e, he, rfl⟩ := List.mem_map.1 ha
      obtain rfl : c = q := by simpa using hc
      exact (hno e he).symm
    · rcases List.mem_append.1 he with he | he
      · obtain ⟨b1, e1, e2⟩ := h4 e he
        exact ⟨b1, e1, fun h => .inl ⟨e2 h, (hno e he).symm⟩⟩
      · obtain rfl : e = (q, .bool bo, clock) := by simpa using he
        exact ⟨bo, rfl, fun h => .inr ⟨h, rfl⟩⟩
  | some r =>
    obtain ⟨i, v⟩ := r
    rw [hp] at hf
    obtain ⟨_, hi, e1, e2⟩ := pfind_some hp
    simp only [Nat.sub_zero] at hi e1 e2
    have hmod : ((L.map mkEntry).toArray.modify i fun e => { e with key := .pointer (some q), val := .bool bo }) = ((L.modify i (fun e => (e.1, .bool bo, e.2.2))).map mkEntry).toArray := by
      apply Array.ext'
      simp only [Array.toList_modify]
      apply List.ext_getElem?
      intro k
      simp only [List.getElem?_modify, List.getElem?_map]
      by_cases hk : i = k
      · subst hk
        simp [hi, mkEntry, e1]
      · simp [hk]
    refine ⟨.map ((L.modify i (fun e => (e.1, .bool bo, e.2.2))).map mkEntry).toArray clock, ?_, ?_, hlt, hne⟩
    · rw [← hmod]
      simp [Instr.mapUpdate, run_underlying hT, getObj, setObj, Sem.run, h1, run_checkKey_ptr w _ 9999 hk, hf, World.putObj, Instr.keyThatStays, Instr.sameBits, hi, mkEntry, e1]
    · have hmem : ∀ e ∈ L.modify i (fun e => (e.1, Value.bool bo, e.2.2)), (e.1 = q ∧ e.2.1 = .bool bo) ∨ (e ∈ L ∧ e.1 ≠ q) := by
        intro e he
        obtain ⟨k, hk, rfl⟩ := List.getElem_of_mem he
        rw [List.length_modify] at hk
        by_cases hik : i = k
        · subst hik
          left
          simp [e1]
        · right
          simp only [List.getElem_modify, if_neg hik]
          refine ⟨List.getElem_mem hk, fun e => hik ?_⟩
          have h5 : (L.map (·.1))[i]'(by simpa using hi) = (L.map (·.1))[k]'(by simpa using hk) := by simp [e1, e]
          exact (List.getElem_inj h3).1 h5
      refine ⟨L.modify i (fun e => (e.1, .bool bo, e.2.2)), clock, (by unfold PMapIs; exact World.putObj_heap_same hlt), fun e he => ?_, ?_, fun e he => ?_⟩
      · rcases hmem e he with h | h
        · rw [h.1]; exact ⟨hput _ _ hq, hqN⟩
        · exact ⟨hput _ _ (h2 e h.1).1, (h2 e h.1).2⟩
      · have : (L.modify i (fun e => (e.1, Value.bool bo, e.2.2))).map (·.1) = L.map (·.1) := by
          apply List.ext_getElem?
          intro k
          simp only [List.getElem?_map, List.getElem?_modify]
          by_cases hk : i = k
          · subst hk; simp [hi]
          · simp [hk]
        rw [this]; exact h3
      · rcases hmem e he with h | h
        · exact ⟨bo, h.2, fun hb => .inr ⟨hb, h.1⟩⟩
        · obtain ⟨b1, e3, e4⟩ := h4 e h.1
          exact ⟨b1, e3, fun hb => .inl ⟨e4 hb, h.2⟩⟩
end
end Go.Proofs.Ytananonjomfpkaa

/- Maps of pointers to counts. -/
namespace Go.Proofs.Ytananonjomfpkaa
open Go.RowKit

/-- The map at block b: its keys are the starts of the blocks of which K tells a count, and its values these counts. -/
def CMap (w : World) (b : Nat) (K : Nat → Option Nat) : Prop :=
  ∃ L clock, PMapIs w b L clock ∧ (∀ e ∈ L, PAddr w e.1 ∧ ∃ k n : Nat, e.1 = ⟨k, 0, none⟩ ∧ e.2.1 = .int .i64 n ∧ K k = some n) ∧ ∀ k n, K k = some n → ∃ e ∈ L, e.1 = ⟨k, 0, none⟩

theorem CMap.kept {w w' : World} {b : Nat} {K : Nat → Option Nat} (h : CMap w b K) (hk : ∀ k, k < w.heap.size → w'.heap[k]? = w.heap[k]?) : CMap w' b K := by
  obtain ⟨L, clock, h1, h2, h3⟩ := h
  have hlt : b < w.heap.size := (Array.getElem?_eq_some_iff.1 h1).1
  exact ⟨L, clock, (hk b hlt).trans h1, fun e he => ⟨(h2 e he).1.kept (fun k hlt _ => hk k hlt), (h2 e he).2⟩, h3⟩

theorem CMap.lt {w : World} {b : Nat} {K : Nat → Option Nat} (h : CMap w b K) : b < w.heap.size := by
  obtain ⟨L, clock, h1, _⟩ := h
  exact (Array.getElem?_eq_some_iff.1 h1).1

/-- No block of cells is the map's block. -/
theorem CMap.ne {w : World} {b k : Nat} {K : Nat → Option Nat} {c : Array Value} {t : TypeId} (h : CMap w b K) (hk : w.heap[k]? = some (.cells c t (0, 0))) : k ≠ b := by
  obtain ⟨L, clock, h1, _⟩ := h
  unfold PMapIs at h1
  intro e
  rw [e, h1] at hk
  cases hk

/-- Kept where every block of cells is kept and the map. -/
theorem CMap.held {w w' : World} {b : Nat} {K : Nat → Option Nat} (h : CMap w b K) (hb : w'.heap[b]? = w.heap[b]?) (hp : ∀ k n, K k = some n → w'.heap[k]? = w.heap[k]?) : CMap w' b K := by
  obtain ⟨L, clock, h1, h2, h3⟩ := h
  refine ⟨L, clock, hb.trans h1, fun e he => ?_, h3⟩
  obtain ⟨hpa, k, n, e1, e2, e3⟩ := h2 e he
  exact ⟨hpa.kept (fun q _ hq => by rw [hq, e1]; exact hp k n e3), k, n, e1, e2, e3⟩

section
variable {P : Program} {T K E V : TypeId} {j jv : TypeInfo}

theorem cmap_new (w : World) : CMap (w.alloc (.map #[] 0)) w.heap.size (fun _ => none) :=
  ⟨[], 0, by unfold PMapIs; rw [show (w.alloc (.map #[] 0)).heap[w.heap.size]? = some (.map #[] 0) from World.alloc_heap_new w _]; rfl, by simp, by simp⟩

theorem cmap_lookup (w : World) (hT : P.underlying T = some (.map K V)) (hk : P.underlying K = some (.pointer E)) (hE : P.info? E = some j) (hsz : j.size ≠ 0) {z : Value} (hV : P.info? V = some jv) (hz : jv.zero = some z)
    {b : Nat} {M : Nat → Option Nat} (hm : CMap w b M) {q n : Nat} (hq : PAddr w ⟨q, 0, none⟩) (hn : M q = some n) :
    (Instr.lookup T (.map (some b)) (.pointer (some ⟨q, 0, none⟩)) false).run P w = .ok (.int .i64 n) w := by
  obtain ⟨L, clock, h1, h2, h3⟩ := hm
  rw [run_lookup_ptr w hT hk hE hsz hV hz h1 hq (fun e he => (h2 e he).1)]
  obtain ⟨e, he, e1⟩ := h3 q n hn
  cases hp : pfind ⟨q, 0, none⟩ L 0 with
  | none => exact absurd e1.symm (pfind_not hp e he)
  | some r =>
    obtain ⟨i, v⟩ := r
    obtain ⟨_, hi, e2, e3⟩ := pfind_some hp
    obtain ⟨_, k, m, e4, e5, e6⟩ := h2 _ (List.getElem_mem hi)
    rw [e2] at e4
    cases e4
    rw [e3] at e5
    rw [hn] at e6
    cases e6
    simp [e5]

theorem cmap_update (w : World) (hT : P.underlying T = some (.map K V)) (hk : P.underlying K = some (.pointer E)) (hE : P.info? E = some j) (hsz : j.size ≠ 0)
    {b : Nat} {M : Nat → Option Nat} (hm : CMap w b M) {q : Nat} (hq : PAddr w ⟨q, 0, none⟩) (hn : M q = none) (n : Nat) :
    ∃ o : Obj, (Instr.mapUpdate T (.map (some b)) (.pointer (some ⟨q, 0, none⟩)) (.int .i64 n)).run P w = .ok () (w.putObj b o) ∧ CMap (w.putObj b o) b (fun k => if k = q then some n else M k) := by
  obtain ⟨L, clock, h1, h2, h3⟩ := hm
  have hlt : b < w.heap.size := (Array.getElem?_eq_some_iff.1 h1).1
  have hne : ∀ a, PAddr w a → a.block ≠ b := fun a ⟨c, t, h⟩ e => by unfold PMapIs at h1; rw [e, h1] at h; cases h
  have hput : ∀ (o : Obj) a, PAddr w a → PAddr (w.putObj b o) a := fun o a h => h.kept (fun k _ e => World.putObj_heap_other (by rw [e]; exact hne a h))
  have hno : ∀ e ∈ L, (⟨q, 0, none⟩ : Addr) ≠ e.1 := fun e he hqe => by
    obtain ⟨_, k, m, e4, _, e6⟩ := h2 e he
    rw [e4] at hqe
    cases hqe
    rw [hn] at e6
    cases e6
  have hrun := run_mapUpdate_new w hT hk hE hsz h1 hq (fun e he => (h2 e he).1) hno (.int .i64 n)
  refine ⟨.map ((L ++ [((⟨q, 0, none⟩ : Addr), Value.int .i64 n, clock)]).map mkEntry).toArray (clock + 1), by rw [hrun]; rfl, ?_⟩
  refine ⟨L ++ [((⟨q, 0, none⟩ : Addr), Value.int .i64 n, clock)], clock + 1, (by unfold PMapIs; exact World.putObj_heap_same hlt), fun e he => ?_, fun k m hkm => ?_⟩
  · rcases List.mem_append.1 he with he | he
    · obtain ⟨hp, k, m, e4, e5, e6⟩ := h2 e he
      refine ⟨hput _ _ hp, k, m, e4, e5, ?_⟩
      by_cases hkq : k = q
      · rw [hkq, hn] at e6; cases e6
      · show (if k = q then some n else M k) = some m
        rw [if_neg hkq]; exact e6
    · obtain rfl : e = ((⟨q, 0, none⟩ : Addr), Value.int .i64 n, clock) := by simpa using he
      exact ⟨hput _ _ hq, q, n, rfl, rfl, by simp⟩
  · by_cases hkq : k = q
    · subst hkq
      exact ⟨((⟨k, 0, none⟩ : Addr), Value.int .i64 n, clock), by simp, rfl⟩
    · have hkm' : M k = some m := by
        have h : (if k = q then some n else M k) = some m := hkm
        rwa [if_neg hkq] at h
      obtain ⟨e, he, e1⟩ := h3 k m hkm'
      exact ⟨e, by simp [he], e1⟩
end
end Go.Proofs.Ytananonjomfpkaa
