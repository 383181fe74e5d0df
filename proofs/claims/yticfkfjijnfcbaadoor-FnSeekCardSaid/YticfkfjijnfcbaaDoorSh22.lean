/- A map from pointers to ints, by a function that tells what stands under each key. -/
import Derived.Test.YticfkfjijnfcbaaDoorSh0
import Derived.Test.YticfkfjijnfcbaaDoorSh18
import Derived.WalkKit
import Derived.RangeFuncRecord

/- What one comes by on the way through a tree: plain data. -/
namespace Go.Proofs.YticfkfjijnfcbaaDoor
open Go.RowKit

/-- A node that begins, a key, a node that ends. -/
inductive Step where
  | beg (a : ATr)
  | key (a : ATr) (k : Int)
  | fin (a : ATr)

def Step.enc : Step → Array Value
  | .beg a => #[.agg #[.pointer (some a.addr), .int .i64 0, .int .i64 0]]
  | .key a k => #[.agg #[.pointer (some a.addr), .int .i64 1, .int .i64 k]]
  | .fin a => #[.agg #[.pointer (some a.addr), .int .i64 2, .int .i64 0]]

/-- The steps at place q of a node: of a kid, or a key. -/
def hev (a : ATr) (kss : List (List Step)) (q : Nat) : List Step :=
  if q % 2 = 1 then (if q / 2 < a.ks.length then [.key a (a.ks.getD (q / 2) 0)] else []) else (kss[q / 2]?).getD []

/-- The steps from place p on. -/
def remOf (a : ATr) (kss : List (List Step)) (p : Nat) : List Step :=
  (List.range' p (2 * max a.cs.length a.ks.length - p)).flatMap (hev a kss) ++ [.fin a]

namespace ATr
mutual
def evs : ATr → List Step
  | .mk nb no ks cs => .beg (.mk nb no ks cs) :: remOf (.mk nb no ks cs) (evss cs) 0
def evss : List ATr → List (List Step)
  | [] => []
  | a :: r => evs a :: evss r
end
theorem evss_get (c : List ATr) (i : Nat) : (evss c)[i]? = (c[i]?).map evs := by
  induction c generalizing i with
  | nil => simp [evss]
  | cons a r ih =>
    cases i with
    | zero => simp [evss]
    | succ i => simpa [evss] using ih i
end ATr

def remS (f : ATr × Nat) : List Step := remOf f.1 (ATr.evss f.1.cs) f.2
theorem evs_eq (a : ATr) : a.evs = .beg a :: remS (a, 0) := by cases a; rfl

theorem remS_end {a : ATr} {p : Nat} (h : 2 * max a.cs.length a.ks.length ≤ p) : remS (a, p) = [.fin a] := by
  unfold remS remOf
  rw [show 2 * max a.cs.length a.ks.length - p = 0 by omega]
  rfl
theorem remS_step {a : ATr} {p : Nat} (h : p < 2 * max a.cs.length a.ks.length) : remS (a, p) = hev a (ATr.evss a.cs) p ++ remS (a, p + 1) := by
  unfold remS remOf
  show (List.range' p (2 * max a.cs.length a.ks.length - p)).flatMap _ ++ _ = _ ++ ((List.range' (p + 1) (2 * max a.cs.length a.ks.length - (p + 1))).flatMap _ ++ _)
  rw [show 2 * max a.cs.length a.ks.length - p = (2 * max a.cs.length a.ks.length - (p + 1)) + 1 by omega, List.range'_succ, List.flatMap_cons, List.append_assoc]
theorem hev_kid {a : ATr} {i : Nat} (h : i < a.cs.length) : hev a (ATr.evss a.cs) (2 * i) = a.cs[i].evs := by
  unfold hev
  rw [if_neg (by omega), show 2 * i / 2 = i by omega, ATr.evss_get]
  simp [h]
theorem hev_nokid {a : ATr} {i : Nat} (h : ¬ i < a.cs.length) : hev a (ATr.evss a.cs) (2 * i) = [] := by
  unfold hev
  rw [if_neg (by omega), show 2 * i / 2 = i by omega, ATr.evss_get]
  simp [List.getElem?_eq_none (Nat.le_of_not_lt h)]
theorem hev_key {a : ATr} {i : Nat} (h : i < a.ks.length) : hev a (ATr.evss a.cs) (2 * i + 1) = [.key a (a.ks.getD i 0)] := by
  unfold hev
  rw [if_pos (by omega), show (2 * i + 1) / 2 = i by omega, if_pos h]
theorem hev_nokey {a : ATr} {i : Nat} (h : ¬ i < a.ks.length) : hev a (ATr.evss a.cs) (2 * i + 1) = [] := by
  unfold hev
  rw [if_pos (by omega), show (2 * i + 1) / 2 = i by omega, if_neg h]

/-- What is still to come, the way being told from the root on. -/
def restS : List (ATr × Nat) → List Step
  | [] => []
  | f :: r => restS r ++ remS f
theorem restS_snoc (fr : List (ATr × Nat)) (f : ATr × Nat) : restS (fr ++ [f]) = remS f ++ restS fr := by
  induction fr with
  | nil => simp [restS]
  | cons g r ih => simp [restS, ih]

namespace ATr
mutual
/-- How many rounds a whole tree takes. -/
def whole : ATr → Nat
  | .mk _ _ k c => 2 * max c.length k.length + 1 + wholes c
def wholes : List ATr → Nat
  | [] => 0
  | a :: r => whole a + wholes r
end
theorem wholes_drop (c : List ATr) (p : Nat) (h : p < c.length) : wholes (c.drop p) = c[p].whole + wholes (c.drop (p + 1)) := by
  rw [List.drop_eq_getElem_cons h]; rfl
end ATr
/-- How many rounds are still to come, at most. -/
def mu1 (f : ATr × Nat) : Nat := (2 * max f.1.cs.length f.1.ks.length - f.2) + 1 + ATr.wholes (f.1.cs.drop ((f.2 + 1) / 2))
def mu : List (ATr × Nat) → Nat
  | [] => 0
  | f :: r => mu1 f + mu r
theorem mu_snoc (fr : List (ATr × Nat)) (f : ATr × Nat) : mu (fr ++ [f]) = mu fr + mu1 f := by
  induction fr with
  | nil => simp [mu]
  | cons g r ih => simp [mu, ih]; omega
theorem whole_eq (a : ATr) : a.whole = mu1 (a, 0) := by cases a; simp [ATr.whole, mu1, ATr.cs, ATr.ks]
theorem mu1_odd {a : ATr} {i : Nat} (h : 2 * i + 1 < 2 * max a.cs.length a.ks.length) : mu1 (a, 2 * i + 1 + 1) < mu1 (a, 2 * i + 1) := by
  simp only [mu1]
  rw [show (2 * i + 1 + 1 + 1) / 2 = i + 1 by omega, show (2 * i + 1 + 1) / 2 = i + 1 by omega]
  omega
theorem mu1_nokid {a : ATr} {i : Nat} (h : 2 * i < 2 * max a.cs.length a.ks.length) (hn : ¬ i < a.cs.length) : mu1 (a, 2 * i + 1) < mu1 (a, 2 * i) := by
  simp only [mu1]
  rw [List.drop_eq_nil_of_le (by omega), List.drop_eq_nil_of_le (by omega)]
  omega
theorem mu1_kid {a : ATr} {i : Nat} (h : i < a.cs.length) : mu1 (a, 2 * i + 1) + mu1 (a.cs[i], 0) < mu1 (a, 2 * i) := by
  rw [← whole_eq]
  simp only [mu1]
  rw [show (2 * i + 1 + 1) / 2 = i + 1 by omega, show (2 * i + 1) / 2 = i by omega, ATr.wholes_drop a.cs i h]
  omega
end Go.Proofs.YticfkfjijnfcbaaDoor

/- A map from pointers to bools, by what is said of the keys that hold false. -/
namespace Go.Proofs.YticfkfjijnfcbaaDoor
open Go.RowKit

theorem pfind_some {q : Addr} : ∀ {L : List (Addr × Value × Nat)} {i j : Nat} {v : Value}, pfind q L i = some (j, v) → i ≤ j ∧ ∃ h : j - i < L.length, L[j - i].1 = q ∧ L[j - i].2.1 = v
  | [], i, j, v, h => by cases h
  | e :: es, i, j, v, h => by
    simp only [pfind] at h
    by_cases hq : q = e.1
    · rw [if_pos hq] at h
      obtain ⟨rfl, rfl⟩ : i = j ∧ e.2.1 = v := by simpa using h
      refine ⟨Nat.le_refl _, by simp, ?_⟩
      simp [hq]
    · rw [if_neg hq] at h
      obtain ⟨h1, h2, h3⟩ := pfind_some h
      have e1 : j - i = (j - (i + 1)) + 1 := by omega
      refine ⟨by omega, by simp; omega, ?_⟩
      simp only [e1, List.getElem_cons_succ]
      exact h3

theorem pfind_not {q : Addr} : ∀ {L : List (Addr × Value × Nat)} {i : Nat}, pfind q L i = none → ∀ e ∈ L, q ≠ e.1
  | [], i, h => by simp
  | e :: es, i, h => by
    simp only [pfind] at h
    by_cases hq : q = e.1
    · rw [if_pos hq] at h; cases h
    · rw [if_neg hq] at h
      intro x hx
      rcases List.mem_cons.1 hx with rfl | hx
      · exact hq
      · exact pfind_not h x hx

/-- The map at block b: its keys are addresses below block N, each once, its values bools, and S holds of the keys under which false stands. -/
def BMap (w : World) (N b : Nat) (S : Addr → Prop) : Prop :=
  ∃ L clock, PMapIs w b L clock ∧ (∀ e ∈ L, PAddr w e.1 ∧ e.1.block < N) ∧ (L.map (·.1)).Nodup ∧ ∀ e ∈ L, ∃ bo : Bool, e.2.1 = .bool bo ∧ (bo = false → S e.1)

theorem PAddr.kept {w w' : World} {a : Addr} (h : PAddr w a) (hk : ∀ k, k < w.heap.size → k = a.block → w'.heap[k]? = w.heap[k]?) : PAddr w' a := by
  obtain ⟨c, t, h⟩ := h
  exact ⟨c, t, (hk _ (Array.getElem?_eq_some_iff.1 h).1 rfl).trans h⟩

theorem BMap.kept {w w' : World} {N b : Nat} {S : Addr → Prop} (h : BMap w N b S) (hb : w'.heap[b]? = w.heap[b]?) (hp : ∀ a, a.block < N → PAddr w a → PAddr w' a) : BMap w' N b S := by
  obtain ⟨L, clock, h1, h2, h3, h4⟩ := h
  exact ⟨L, clock, hb.trans h1, fun e he => ⟨hp _ (h2 e he).2 (h2 e he).1, (h2 e he).2⟩, h3, h4⟩

theorem BMap.weaken {w : World} {N b : Nat} {S S' : Addr → Prop} (h : BMap w N b S) (hs : ∀ a, S a → S' a) : BMap w N b S' := by
  obtain ⟨L, clock, h1, h2, h3, h4⟩ := h
  exact ⟨L, clock, h1, h2, h3, fun e he => by obtain ⟨bo, e1, e2⟩ := h4 e he; exact ⟨bo, e1, fun h => hs _ (e2 h)⟩⟩

section
variable {P : Program} {T K E V : TypeId} {j jv : TypeInfo}

theorem bmap_new (w : World) (N : Nat) (S : Addr → Prop) : BMap (w.alloc (.map #[] 0)) N w.heap.size S :=
  ⟨[], 0, by unfold PMapIs; rw [show (w.alloc (.map #[] 0)).heap[w.heap.size]? = some (.map #[] 0) from World.alloc_heap_new w _]; rfl, by simp, by simp, by simp⟩

theorem bmap_lookup (w : World) (hT : P.underlying T = some (.map K V)) (hk : P.underlying K = some (.pointer E)) (hE : P.info? E = some j) (hsz : j.size ≠ 0) (hV : P.info? V = some jv) (hz : jv.zero = some (.bool false))
    {N b : Nat} {S : Addr → Prop} (hm : BMap w N b S) {q : Addr} (hq : PAddr w q) :
    ∃ bo known : Bool, (Instr.lookup T (.map (some b)) (.pointer (some q)) true).run P w = .ok (.tuple #[.bool bo, .bool known]) w ∧ (known = true → bo = false → S q) := by
  obtain ⟨L, clock, h1, h2, h3, h4⟩ := hm
  have hf := run_findKey_ptr w hk hE hsz hq L (fun e he => (h2 e he).1)
  unfold PMapIs at h1
  cases hp : pfind q L 0 with
  | none =>
    rw [hp] at hf
    exact ⟨false, false, by simp [Instr.lookup, run_underlying hT, getObj, Sem.run, h1, run_checkKey_ptr w _ 9999 hk, hf, zeroValue, typeInfo, hV, hz], fun h => by cases h⟩
  | some r =>
    obtain ⟨i, v⟩ := r
    rw [hp] at hf
    obtain ⟨_, hi, e1, e2⟩ := pfind_some hp
    obtain ⟨bo, e3, e4⟩ := h4 _ (List.getElem_mem hi)
    rw [e2] at e3
    subst e3
    exact ⟨bo, true, by simp [Instr.lookup, run_underlying hT, getObj, Sem.run, h1, run_checkKey_ptr w _ 9999 hk, hf], fun _ h => by rw [← e1]; exact e4 h⟩

theorem bmap_update (w : World) (hT : P.underlying T = some (.map K V)) (hk : P.underlying K = some (.pointer E)) (hE : P.info? E = some j) (hsz : j.size ≠ 0)
    {N b : Nat} {S : Addr → Prop} (hm : BMap w N b S) {q : Addr} (hq : PAddr w q) (hqN : q.block < N) (bo : Bool) :
    ∃ o : Obj, (Instr.mapUpdate T (.map (some b)) (.pointer (some q)) (.bool bo)).run P w = .ok () (w.putObj b o) ∧ BMap (w.putObj b o) N b (fun a => (S a ∧ a ≠ q) ∨ (bo = false ∧ a = q)) ∧ b < w.heap.size ∧ ∀ a, PAddr w a → a.block ≠ b := by
  obtain ⟨L, clock, h1, h2, h3, h4⟩ := hm
  have hf := run_findKey_ptr w hk hE hsz hq L (fun e he => (h2 e he).1)
  have hb := h1
  unfold PMapIs at h1
  have hlt : b < w.heap.size := (Array.getElem?_eq_some_iff.1 h1).1
  have hne : ∀ a, PAddr w a → a.block ≠ b := fun a ⟨c, t, h⟩ e => by rw [e, h1] at h; cases h
  have hput : ∀ (o : Obj) a, PAddr w a → PAddr (w.putObj b o) a := fun o a h => h.kept (fun k _ e => World.putObj_heap_other (by rw [e]; exact hne a h))
  cases hp : pfind q L 0 with
  | none =>
    rw [hp] at hf
    have hno := pfind_not hp
    refine ⟨.map ((L ++ [(q, Value.bool bo, clock)]).map mkEntry).toArray (clock + 1), by simp [Instr.mapUpdate, run_underlying hT, getObj, setObj, Sem.run, h1, run_checkKey_ptr w _ 9999 hk, hf, mkEntry, World.putObj], ?_, hlt, hne⟩
    refine ⟨L ++ [(q, .bool bo, clock)], clock + 1, (by unfold PMapIs; exact World.putObj_heap_same hlt), fun e he => ?_, ?_, fun e he => ?_⟩
    · rcases List.mem_append.1 he with he | he
      · exact ⟨hput _ _ (h2 e he).1, (h2 e he).2⟩
      · obtain rfl : e = (q, .bool bo, clock) := by simpa using he
        exact ⟨hput _ _ hq, hqN⟩
    · rw [List.map_append, List.nodup_append]
      refine ⟨h3, by simp, fun a ha c hc => ?_⟩
      obtain ⟨e, he, rfl⟩ := List.mem_map.1 ha
      obtain rfl : c = q := by simpa using hc
      exact (hno e he).symm
    · rcases List.mem_append.1 he with he | he
      · obtain ⟨b1, e1, e2⟩ := h4 e he
        exact ⟨b1, e1, fun h => .inl ⟨e2 h, (hno e he).symm⟩⟩
      · obtain rfl : e = (q, .bool bo, clock) := by simpa using he
        exact ⟨bo, rfl, fun h => .inr ⟨h, rfl⟩⟩
  | some r =>
    obtain ⟨i, v⟩ := r
    rw [hp] at hf
    obtain ⟨_, hi, e1, e2⟩ := pfind_some hp
    simp only [Nat.sub_zero] at hi e1 e2
    have hmod : ((L.map mkEntry).toArray.modify i fun e => { e with key := .pointer (some q), val := .bool bo }) = ((L.modify i (fun e => (e.1, .bool bo, e.2.2))).map mkEntry).toArray := by
      apply Array.ext'
      simp only [Array.toList_modify]
      apply List.ext_getElem?
      intro k
      simp only [List.getElem?_modify, List.getElem?_map]
      by_cases hk : i = k
      · subst hk
        simp [hi, mkEntry, e1]
      · simp [hk]
    refine ⟨.map ((L.modify i (fun e => (e.1, .bool bo, e.2.2))).map mkEntry).toArray clock, ?_, ?_, hlt, hne⟩
    · rw [← hmod]
      simp [Instr.mapUpdate, run_underlying hT, getObj, setObj, Sem.run, h1, run_checkKey_ptr w _ 9999 hk, hf, World.putObj, Instr.keyThatStays, Instr.sameBits, hi, mkEntry, e1]
    · have hmem : ∀ e ∈ L.modify i (fun e => (e.1, Value.bool bo, e.2.2)), (e.1 = q ∧ e.2.1 = .bool bo) ∨ (e ∈ L ∧ e.1 ≠ q) := by
        intro e he
        obtain ⟨k, hk, rfl⟩ := List.getElem_of_mem he
        rw [List.length_modify] at hk
        by_cases hik : i = k
        · subst hik
          left
          simp [e1]
        · right
          simp only [List.getElem_modify, if_neg hik]
          refine ⟨List.getElem_mem hk, fun e => hik ?_⟩
          have h5 : (L.map (·.1))[i]'(by simpa using hi) = (L.map (·.1))[k]'(by simpa using hk) := by simp [e1, e]
          exact (List.getElem_inj h3).1 h5
      refine ⟨L.modify i (fun e => (e.1, .bool bo, e.2.2)), clock, (by unfold PMapIs; exact World.putObj_heap_same hlt), fun e he => ?_, ?_, fun e he => ?_⟩
      · rcases hmem e he with h | h
        · rw [h.1]; exact ⟨hput _ _ hq, hqN⟩
        · exact ⟨hput _ _ (h2 e h.1).1, (h2 e h.1).2⟩
      · have : (L.modify i (fun e => (e.1, Value.bool bo, e.2.2))).map (·.1) = L.map (·.1) := by
          apply List.ext_getElem?
          intro k
          simp only [List.getElem?_map, List.getElem?_modify]
          by_cases hk : i = k
          · subst hk; simp [hi]
          · simp [hk]
        rw [this]; exact h3
      · rcases hmem e he with h | h
        · exact ⟨bo, h.2, fun hb => .inr ⟨hb, h.1⟩⟩
        · obtain ⟨b1, e3, e4⟩ := h4 e h.1
          exact ⟨b1, e3, fun hb => .inl ⟨e4 hb, h.2⟩⟩
end
end Go.Proofs.YticfkfjijnfcbaaDoor

/- A map from pointers to ints, by a function that tells what stands under each key. -/
namespace Go.Proofs.YticfkfjijnfcbaaDoor
open Go.RowKit

/-- The map at block b: its keys are addresses below block N, each once, and M tells what stands under them. -/
def IMap (w : World) (N b : Nat) (M : Addr → Option Int) : Prop :=
  ∃ L clock, PMapIs w b L clock ∧ (∀ e ∈ L, PAddr w e.1 ∧ e.1.block < N) ∧ (L.map (·.1)).Nodup ∧ (∀ e ∈ L, ∃ z : Int, e.2.1 = .int .i64 z ∧ M e.1 = some z) ∧ ∀ a z, M a = some z → ∃ e ∈ L, e.1 = a

theorem IMap.kept {w w' : World} {N b : Nat} {M : Addr → Option Int} (h : IMap w N b M) (hb : w'.heap[b]? = w.heap[b]?) (hp : ∀ a, a.block < N → PAddr w a → PAddr w' a) : IMap w' N b M := by
  obtain ⟨L, clock, h1, h2, h3, h4, h5⟩ := h
  exact ⟨L, clock, hb.trans h1, fun e he => ⟨hp _ (h2 e he).2 (h2 e he).1, (h2 e he).2⟩, h3, h4, h5⟩

/-- What stands under a key when z has been put under q. -/
def putK (M : Addr → Option Int) (q : Addr) (z : Int) (a : Addr) : Option Int := if a = q then some z else M a

section
variable {P : Program} {T K E V : TypeId} {j jv : TypeInfo}

theorem imap_new (w : World) (N : Nat) : IMap (w.alloc (.map #[] 0)) N w.heap.size (fun _ => none) :=
  ⟨[], 0, by unfold PMapIs; rw [show (w.alloc (.map #[] 0)).heap[w.heap.size]? = some (.map #[] 0) from World.alloc_heap_new w _]; rfl, by simp, by simp, by simp, by simp⟩

theorem imap_find (w : World) (hk : P.underlying K = some (.pointer E)) (hE : P.info? E = some j) (hsz : j.size ≠ 0)
    {b : Nat} {M : Addr → Option Int} {L : List (Addr × Value × Nat)} {clock N : Nat} (_ : PMapIs w b L clock) (h2 : ∀ e ∈ L, PAddr w e.1 ∧ e.1.block < N) (h4 : ∀ e ∈ L, ∃ z : Int, e.2.1 = .int .i64 z ∧ M e.1 = some z) (h5 : ∀ a z, M a = some z → ∃ e ∈ L, e.1 = a) {q : Addr} (hq : PAddr w q) :
    (M q = none ∧ (Instr.findKey K (.pointer (some q)) (L.map mkEntry)).run P w = .ok none w ∧ ∀ e ∈ L, q ≠ e.1) ∨
    ∃ i z, M q = some z ∧ (Instr.findKey K (.pointer (some q)) (L.map mkEntry)).run P w = .ok (some (i, .int .i64 z)) w ∧ ∃ h : i < L.length, L[i].1 = q := by
  have hf := run_findKey_ptr w hk hE hsz hq L (fun e he => (h2 e he).1)
  cases hp : pfind q L 0 with
  | none =>
    rw [hp] at hf
    refine .inl ⟨?_, hf, pfind_not hp⟩
    cases hm : M q with
    | none => rfl
    | some z => obtain ⟨e, he, e1⟩ := h5 q z hm; exact absurd e1.symm (pfind_not hp e he)
  | some r =>
    obtain ⟨i, v⟩ := r
    rw [hp] at hf
    obtain ⟨_, hi, e1, e2⟩ := pfind_some hp
    simp only [Nat.sub_zero] at hi e1 e2
    obtain ⟨z, e3, e4⟩ := h4 _ (List.getElem_mem hi)
    rw [e2] at e3
    rw [e1] at e4
    subst e3
    exact .inr ⟨i, z, e4, hf, hi, e1⟩

theorem imap_lookup (w : World) (hT : P.underlying T = some (.map K V)) (hk : P.underlying K = some (.pointer E)) (hE : P.info? E = some j) (hsz : j.size ≠ 0) (hV : P.info? V = some jv) (hz : jv.zero = some (.int .i64 0))
    {N b : Nat} {M : Addr → Option Int} (hm : IMap w N b M) {q : Addr} (hq : PAddr w q) :
    (Instr.lookup T (.map (some b)) (.pointer (some q)) true).run P w = .ok (.tuple #[.int .i64 ((M q).getD 0), .bool (M q).isSome]) w ∧ (Instr.lookup T (.map (some b)) (.pointer (some q)) false).run P w = .ok (.int .i64 ((M q).getD 0)) w := by
  obtain ⟨L, clock, h1, h2, h3, h4, h5⟩ := hm
  have hf := imap_find w hk hE hsz h1 h2 h4 h5 hq
  unfold PMapIs at h1
  rcases hf with ⟨e1, hf, -⟩ | ⟨i, z, e1, hf, -⟩
  · rw [e1]
    exact ⟨by simp [Instr.lookup, run_underlying hT, getObj, Sem.run, h1, run_checkKey_ptr w _ 9999 hk, hf, zeroValue, typeInfo, hV, hz], by simp [Instr.lookup, run_underlying hT, getObj, Sem.run, h1, run_checkKey_ptr w _ 9999 hk, hf, zeroValue, typeInfo, hV, hz]⟩
  · rw [e1]
    exact ⟨by simp [Instr.lookup, run_underlying hT, getObj, Sem.run, h1, run_checkKey_ptr w _ 9999 hk, hf], by simp [Instr.lookup, run_underlying hT, getObj, Sem.run, h1, run_checkKey_ptr w _ 9999 hk, hf]⟩

theorem imap_update (w : World) (hT : P.underlying T = some (.map K V)) (hk : P.underlying K = some (.pointer E)) (hE : P.info? E = some j) (hsz : j.size ≠ 0)
    {N b : Nat} {M : Addr → Option Int} (hm : IMap w N b M) {q : Addr} (hq : PAddr w q) (hqN : q.block < N) (z : Int) :
    ∃ o : Obj, (Instr.mapUpdate T (.map (some b)) (.pointer (some q)) (.int .i64 z)).run P w = .ok () (w.putObj b o) ∧ IMap (w.putObj b o) N b (putK M q z) ∧ b < w.heap.size ∧ ∀ a, PAddr w a → a.block ≠ b := by
  obtain ⟨L, clock, h1, h2, h3, h4, h5⟩ := hm
  have hf := imap_find w hk hE hsz h1 h2 h4 h5 hq
  have hb := h1
  unfold PMapIs at h1
  have hlt : b < w.heap.size := (Array.getElem?_eq_some_iff.1 h1).1
  have hne : ∀ a, PAddr w a → a.block ≠ b := fun a ⟨c, t, h⟩ e => by rw [e, h1] at h; cases h
  have hput : ∀ (o : Obj) a, PAddr w a → PAddr (w.putObj b o) a := fun o a h => h.kept (fun k _ e => World.putObj_heap_other (by rw [e]; exact hne a h))
  rcases hf with ⟨eM, hf, hno⟩ | ⟨i, v, eM, hf, hi, e1⟩
  · refine ⟨.map ((L ++ [(q, Value.int .i64 z, clock)]).map mkEntry).toArray (clock + 1), by simp [Instr.mapUpdate, run_underlying hT, getObj, setObj, Sem.run, h1, run_checkKey_ptr w _ 9999 hk, hf, mkEntry, World.putObj], ?_, hlt, hne⟩
    refine ⟨L ++ [(q, .int .i64 z, clock)], clock + 1, (by unfold PMapIs; exact World.putObj_heap_same hlt), fun e he => ?_, ?_, fun e he => ?_, fun a y hy => ?_⟩
    · rcases List.mem_append.1 he with he | he
      · exact ⟨hput _ _ (h2 e he).1, (h2 e he).2⟩
      · obtain rfl : e = (q, .int .i64 z, clock) := by simpa using he
        exact ⟨hput _ _ hq, hqN⟩
    · rw [List.map_append, List.nodup_append]
      refine ⟨h3, by simp, fun a ha c hc => ?_⟩
      obtain ⟨e, he, rfl⟩ := List.mem_map.1 ha
      obtain rfl : c = q := by simpa using hc
      exact (hno e he).symm
    · rcases List.mem_append.1 he with he | he
      · obtain ⟨y, e1, e2⟩ := h4 e he
        exact ⟨y, e1, by unfold putK; rw [if_neg (hno e he).symm]; exact e2⟩
      · obtain rfl : e = (q, .int .i64 z, clock) := by simpa using he
        exact ⟨z, rfl, by unfold putK; rw [if_pos rfl]⟩
    · by_cases ha : a = q
      · exact ⟨(q, .int .i64 z, clock), by simp, ha.symm⟩
      · unfold putK at hy; rw [if_neg ha] at hy
        obtain ⟨e, he, e1⟩ := h5 a y hy
        exact ⟨e, by simp [he], e1⟩
  · have hmod : ((L.map mkEntry).toArray.modify i fun e => { e with key := .pointer (some q), val := .int .i64 z }) = ((L.modify i (fun e => (e.1, .int .i64 z, e.2.2))).map mkEntry).toArray := by
      apply Array.ext'
      simp only [Array.toList_modify]
      apply List.ext_getElem?
      intro k
      simp only [List.getElem?_modify, List.getElem?_map]
      by_cases hk : i = k
      · subst hk
        simp [hi, mkEntry, e1]
      · simp [hk]
    refine ⟨.map ((L.modify i (fun e => (e.1, .int .i64 z, e.2.2))).map mkEntry).toArray clock, ?_, ?_, hlt, hne⟩
    · rw [← hmod]
      simp [Instr.mapUpdate, run_underlying hT, getObj, setObj, Sem.run, h1, run_checkKey_ptr w _ 9999 hk, hf, World.putObj, Instr.keyThatStays, Instr.sameBits, hi, mkEntry, e1]
    · have hmem : ∀ e ∈ L.modify i (fun e => (e.1, Value.int .i64 z, e.2.2)), (e.1 = q ∧ e.2.1 = .int .i64 z) ∨ (e ∈ L ∧ e.1 ≠ q) := by
        intro e he
        obtain ⟨k, hk, rfl⟩ := List.getElem_of_mem he
        rw [List.length_modify] at hk
        by_cases hik : i = k
        · subst hik
          left
          simp [e1]
        · right
          simp only [List.getElem_modify, if_neg hik]
          refine ⟨List.getElem_mem hk, fun e => hik ?_⟩
          have h5 : (L.map (·.1))[i]'(by simpa using hi) = (L.map (·.1))[k]'(by simpa using hk) := by simp [e1, e]
          exact (List.getElem_inj h3).1 h5
      have hkeys : (L.modify i (fun e => (e.1, Value.int .i64 z, e.2.2))).map (·.1) = L.map (·.1) := by
        apply List.ext_getElem?
        intro k
        simp only [List.getElem?_map, List.getElem?_modify]
        by_cases hk : i = k
        · subst hk; simp [hi]
        · simp [hk]
      refine ⟨L.modify i (fun e => (e.1, .int .i64 z, e.2.2)), clock, (by unfold PMapIs; exact World.putObj_heap_same hlt), fun e he => ?_, ?_, fun e he => ?_, fun a y hy => ?_⟩
      · rcases hmem e he with h | h
        · rw [h.1]; exact ⟨hput _ _ hq, hqN⟩
        · exact ⟨hput _ _ (h2 e h.1).1, (h2 e h.1).2⟩
      · rw [hkeys]; exact h3
      · rcases hmem e he with h | h
        · exact ⟨z, h.2, by unfold putK; rw [if_pos h.1]⟩
        · obtain ⟨y, e3, e4⟩ := h4 e h.1
          exact ⟨y, e3, by unfold putK; rw [if_neg h.2]; exact e4⟩
      · have hin : a ∈ L.map (·.1) := by
          by_cases ha : a = q
          · rw [ha, ← e1]; exact List.mem_map_of_mem (List.getElem_mem hi)
          · unfold putK at hy; rw [if_neg ha] at hy
            obtain ⟨e, he, e2⟩ := h5 a y hy
            rw [← e2]; exact List.mem_map_of_mem he
        rw [← hkeys] at hin
        obtain ⟨e, he, e2⟩ := List.mem_map.1 hin
        exact ⟨e, he, e2⟩
end
end Go.Proofs.YticfkfjijnfcbaaDoor
