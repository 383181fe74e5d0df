/- Maps whose keys are pointers: what the operations on them do, in any program. -/
import Derived.WalkKit
import Derived.LaidEqlPtr
namespace Go.Proofs.Ytodcapgmhginoaa
open Go.RowKit

/-- An address in a row of cells of which none is frozen. -/
def PAddr (w : World) (a : Addr) : Prop := ∃ (c : Array Value) (t : TypeId), w.heap[a.block]? = some (.cells c t (0, 0))

/-- An entry under a pointer. -/
def mkEntry (x : Addr × Value × Nat) : MapEntry := { key := .pointer (some x.1), val := x.2.1, born := x.2.2 }

/-- The first entry under q. -/
def pfind (q : Addr) : List (Addr × Value × Nat) → Nat → Option (Nat × Value)
  | [], _ => none
  | e :: es, i => if q = e.1 then some (i, e.2.1) else pfind q es (i + 1)

theorem pfind_none {q : Addr} : ∀ {L : List (Addr × Value × Nat)} {i : Nat}, (∀ e ∈ L, q ≠ e.1) → pfind q L i = none
  | [], _, _ => rfl
  | e :: es, i, h => by
    simp only [pfind]
    rw [if_neg (h e (by simp))]
    exact pfind_none (fun x hx => h x (by simp [hx]))

theorem pfind_append {q : Addr} : ∀ {L M : List (Addr × Value × Nat)} {i : Nat}, (∀ e ∈ L, q ≠ e.1) → pfind q (L ++ M) i = pfind q M (i + L.length)
  | [], M, i, _ => by simp
  | e :: es, M, i, h => by
    simp only [List.cons_append, pfind]
    rw [if_neg (h e (by simp)), pfind_append (fun x hx => h x (by simp [hx]))]
    simp only [List.length_cons]
    congr 1; omega

section
variable {P : Program} {T K E V : TypeId} {j : TypeInfo}

theorem run_equal_ptr (w : World) (hk : P.underlying K = some (.pointer E)) (hE : P.info? E = some j) (hsz : j.size ≠ 0) {a b : Addr} (ha : PAddr w a) (hb : PAddr w b) :
    (Op.equal K (.pointer (some a)) (.pointer (some b))).run P w = .ok (decide (a = b)) w := by
  by_cases h : a = b
  · subst h
    have h : ∀ d : Nat, (Op.equalIn (d + 1) K (.pointer (some a)) (.pointer (some a))).run P w = .ok true w := fun d => by
      simp [Op.equalIn, run_underlying hk, sizeOf, typeInfo, hE, run_sameAddr_same]
    have h1 := h 9999
    rw [decide_eq_true rfl]
    exact h1
  · obtain ⟨ca, ta, ha⟩ := ha
    obtain ⟨cb, tb, hb⟩ := hb
    have h1 : ∀ d : Nat, (Op.equalIn (d + 1) K (.pointer (some a)) (.pointer (some b))).run P w = .ok false w := fun d => by
      simp [Op.equalIn, run_underlying hk, sizeOf, typeInfo, hE, hsz, run_sameAddr_other w h ha hb]
    have h2 := h1 9999
    rw [decide_eq_false h]
    exact h2

theorem run_findAsking_ptr (w : World) (hk : P.underlying K = some (.pointer E)) (hE : P.info? E = some j) (hsz : j.size ≠ 0) {q : Addr} (hq : PAddr w q) :
    ∀ (L : List (Addr × Value × Nat)) (i : Nat), (∀ e ∈ L, PAddr w e.1) → (Instr.findAsking K (.pointer (some q)) (L.map mkEntry) i).run P w = .ok (pfind q L i) w
  | [], i, _ => by simp [Instr.findAsking, pfind]
  | e :: es, i, h => by
    have h1 := run_equal_ptr w hk hE hsz hq (h e (by simp))
    have h2 := run_findAsking_ptr w hk hE hsz hq es (i + 1) (fun x hx => h x (by simp [hx]))
    by_cases hqe : q = e.1
    · simp only [List.map_cons, Instr.findAsking, mkEntry, pfind, if_pos hqe, Sem.run_bind]
      rw [h1]
      simp [hqe]
    · simp only [List.map_cons, Instr.findAsking, mkEntry, pfind, if_neg hqe, Sem.run_bind]
      rw [h1]
      simp only [decide_eq_false hqe, Result.andThen_ok]
      exact h2

theorem run_findKey_ptr (w : World) (hk : P.underlying K = some (.pointer E)) (hE : P.info? E = some j) (hsz : j.size ≠ 0) {q : Addr} (hq : PAddr w q) (L : List (Addr × Value × Nat)) (h : ∀ e ∈ L, PAddr w e.1) :
    (Instr.findKey K (.pointer (some q)) (L.map mkEntry)).run P w = .ok (pfind q L 0) w := by
  cases L with
  | nil => simp [Instr.findKey, run_underlying hk, Instr.findNow, pfind]
  | cons e es =>
    have h1 := run_findAsking_ptr w hk hE hsz hq (e :: es) 0 h
    simp only [List.map_cons] at h1
    simp [Instr.findKey, run_underlying hk, Instr.findNow, Instr.sameNow, mkEntry] at h1 ⊢
    exact h1

theorem run_checkKey_ptr (w : World) (em : Bool) (n : Nat) (hk : P.underlying K = some (.pointer E)) (v : Value) : (Instr.checkKey em (n + 1) K v).run P w = .ok () w := by
  simp [Instr.checkKey, run_underlying hk]

/-- The map at block b. -/
def PMapIs (w : World) (b : Nat) (L : List (Addr × Value × Nat)) (clock : Nat) : Prop := w.heap[b]? = some (.map (L.map mkEntry).toArray clock)

theorem run_lookup_ptr (w : World) (hT : P.underlying T = some (.map K V)) (hk : P.underlying K = some (.pointer E)) (hE : P.info? E = some j) (hsz : j.size ≠ 0) {z : Value} {jv : TypeInfo} (hV : P.info? V = some jv) (hz : jv.zero = some z)
    {b : Nat} {L : List (Addr × Value × Nat)} {clock : Nat} (hm : PMapIs w b L clock) {q : Addr} (hq : PAddr w q) (h : ∀ e ∈ L, PAddr w e.1) :
    (Instr.lookup T (.map (some b)) (.pointer (some q)) false).run P w = .ok (((pfind q L 0).map (·.2)).getD z) w := by
  have h1 := run_findKey_ptr w hk hE hsz hq L h
  unfold PMapIs at hm
  cases hf : pfind q L 0 with
  | none =>
    rw [hf] at h1
    simp [Instr.lookup, run_underlying hT, getObj, Sem.run, hm, run_checkKey_ptr w _ 9999 hk, h1, zeroValue, typeInfo, hV, hz]
  | some r =>
    rw [hf] at h1
    simp [Instr.lookup, run_underlying hT, getObj, Sem.run, hm, run_checkKey_ptr w _ 9999 hk, h1]

/-- A store under a key that is not there: one entry more at the end. -/
theorem run_mapUpdate_new (w : World) (hT : P.underlying T = some (.map K V)) (hk : P.underlying K = some (.pointer E)) (hE : P.info? E = some j) (hsz : j.size ≠ 0)
    {b : Nat} {L : List (Addr × Value × Nat)} {clock : Nat} (hm : PMapIs w b L clock) {q : Addr} (hq : PAddr w q) (h : ∀ e ∈ L, PAddr w e.1) (hne : ∀ e ∈ L, q ≠ e.1) (v : Value) :
    (Instr.mapUpdate T (.map (some b)) (.pointer (some q)) v).run P w = .ok () { w with heap := w.heap.setIfInBounds b (.map ((L ++ [(q, v, clock)]).map mkEntry).toArray (clock + 1)) } := by
  have h1 := run_findKey_ptr w hk hE hsz hq L h
  rw [pfind_none hne] at h1
  unfold PMapIs at hm
  simp [Instr.mapUpdate, run_underlying hT, getObj, setObj, Sem.run, hm, run_checkKey_ptr w _ 9999 hk, h1, mkEntry]

/-- The last entry is deleted. -/
theorem run_delete_last (w : World) (hT : P.underlying T = some (.map K V)) (hk : P.underlying K = some (.pointer E)) (hE : P.info? E = some j) (hsz : j.size ≠ 0)
    {b : Nat} {L : List (Addr × Value × Nat)} {clock n : Nat} {q : Addr} {v : Value} (hm : PMapIs w b (L ++ [(q, v, n)]) clock) (hq : PAddr w q) (h : ∀ e ∈ L, PAddr w e.1) (hne : ∀ e ∈ L, q ≠ e.1) (ty kt : TypeId) :
    (Builtin.delete_ #[T, kt] ty #[.map (some b), .pointer (some q)]).run P w = .ok (.tuple #[]) { w with heap := w.heap.setIfInBounds b (.map (L.map mkEntry).toArray clock) } := by
  have h1 := run_findKey_ptr w hk hE hsz hq (L ++ [(q, v, n)]) (fun e he => by
    rcases List.mem_append.1 he with he | he
    · exact h e he
    · obtain rfl : e = (q, v, n) := by simpa using he
      exact hq)
  rw [pfind_append hne] at h1
  simp only [pfind, if_true, Nat.zero_add] at h1
  unfold PMapIs at hm
  have hem : (List.map mkEntry L ++ [mkEntry (q, v, n)]).eraseIdx L.length = List.map mkEntry L := by
    rw [List.eraseIdx_append_of_length_le (by simp)]; simp
  simp only [List.map_append, List.map_cons, List.map_nil] at h1 hm
  simp [Builtin.delete_, run_underlying hT, getObj, setObj, Sem.run, hm, run_checkKey_ptr w _ 9999 hk, h1, hem]

theorem run_len_map (w : World) (hT : P.underlying T = some (.map K V)) {b : Nat} {L : List (Addr × Value × Nat)} {clock : Nat} (hm : PMapIs w b L clock) (ty : TypeId) :
    (Builtin.len_ #[T] ty #[.map (some b)]).run P w = .ok (.int .i64 L.length) w := by
  unfold PMapIs at hm
  simp [Builtin.len_, run_underlying hT, getObj, Sem.run, hm, goInt]
end
end Go.Proofs.Ytodcapgmhginoaa
