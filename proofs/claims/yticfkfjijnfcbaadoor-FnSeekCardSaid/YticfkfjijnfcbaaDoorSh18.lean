/- A tree in memory with the addresses of its nodes; what one comes by on the way through it. -/
import Derived.WalkKit
import Derived.LaidEqlPtr
import Derived.Test.YticfkfjijnfcbaaDoorProg
import Derived.Test.YticfkfjijnfcbaaDoorSh0
import Derived.Test.YticfkfjijnfcbaaDoorSh1

/- Maps whose keys are pointers: what the operations on them do, in any program. -/
namespace Go.Proofs.YticfkfjijnfcbaaDoor
open Go.RowKit

/-- An address in a row of cells of which none is frozen. -/
def PAddr (w : World) (a : Addr) : Prop := ∃ (c : Array Value) (t : TypeId), w.heap[a.block]? = some (.cells c t (0, 0))

/-- An entry under a pointer. -/
def mkEntry (x : Addr × Value × Nat) : MapEntry := { key := .pointer (some x.1), val := x.2.1, born := x.2.2 }

/-- The first entry under q. -/
def pfind (q : Addr) : List (Addr × Value × Nat) → Nat → Option (Nat × Value)
  | [], _ => none
  | e :: es, i => if q = e.1 then some (i, e.2.1) else pfind q es (i + 1)

theorem pfind_none {q : Addr} : ∀ {L : List (Addr × Value × Nat)} {i : Nat}, (∀ e ∈ L, q ≠ e.1) → pfind q L i = none
  | [], _, _ => rfl
  | e :: es, i, h => by
    simp only [pfind]
    rw [if_neg (h e (by simp))]
    exact pfind_none (fun x hx => h x (by simp [hx]))

theorem pfind_append {q : Addr} : ∀ {L M : List (Addr × Value × Nat)} {i : Nat}, (∀ e ∈ L, q ≠ e.1) → pfind q (L ++ M) i = pfind q M (i + L.length)
  | [], M, i, _ => by simp
  | e :: es, M, i, h => by
    simp only [List.cons_append, pfind]
    rw [if_neg (h e (by simp)), pfind_append (fun x hx => h x (by simp [hx]))]
    simp only [List.length_cons]
    congr 1; omega

section
variable {P : Program} {T K E V : TypeId} {j : TypeInfo}

theorem run_equal_ptr (w : World) (hk : P.underlying K = some (.pointer E)) (hE : P.info? E = some j) (hsz : j.size ≠ 0) {a b : Addr} (ha : PAddr w a) (hb : PAddr w b) :
    (Op.equal K (.pointer (some a)) (.pointer (some b))).run P w = .ok (decide (a = b)) w := by
  by_cases h : a = b
  · subst h
    have h : ∀ d : Nat, (Op.equalIn (d + 1) K (.pointer (some a)) (.pointer (some a))).run P w = .ok true w := fun d => by
      simp [Op.equalIn, run_underlying hk, sizeOf, typeInfo, hE, run_sameAddr_same]
    have h1 := h 9999
    rw [decide_eq_true rfl]
    exact h1
  · obtain ⟨ca, ta, ha⟩ := ha
    obtain ⟨cb, tb, hb⟩ := hb
    have h1 : ∀ d : Nat, (Op.equalIn (d + 1) K (.pointer (some a)) (.pointer (some b))).run P w = .ok false w := fun d => by
      simp [Op.equalIn, run_underlying hk, sizeOf, typeInfo, hE, hsz, run_sameAddr_other w h ha hb]
    have h2 := h1 9999
    rw [decide_eq_false h]
    exact h2

theorem run_findAsking_ptr (w : World) (hk : P.underlying K = some (.pointer E)) (hE : P.info? E = some j) (hsz : j.size ≠ 0) {q : Addr} (hq : PAddr w q) :
    ∀ (L : List (Addr × Value × Nat)) (i : Nat), (∀ e ∈ L, PAddr w e.1) → (Instr.findAsking K (.pointer (some q)) (L.map mkEntry) i).run P w = .ok (pfind q L i) w
  | [], i, _ => by simp [Instr.findAsking, pfind]
  | e :: es, i, h => by
    have h1 := run_equal_ptr w hk hE hsz hq (h e (by simp))
    have h2 := run_findAsking_ptr w hk hE hsz hq es (i + 1) (fun x hx => h x (by simp [hx]))
    by_cases hqe : q = e.1
    · simp only [List.map_cons, Instr.findAsking, mkEntry, pfind, if_pos hqe, Sem.run_bind]
      rw [h1]
      simp [hqe]
    · simp only [List.map_cons, Instr.findAsking, mkEntry, pfind, if_neg hqe, Sem.run_bind]
      rw [h1]
      simp only [decide_eq_false hqe, Result.andThen_ok]
      exact h2

theorem run_findKey_ptr (w : World) (hk : P.underlying K = some (.pointer E)) (hE : P.info? E = some j) (hsz : j.size ≠ 0) {q : Addr} (hq : PAddr w q) (L : List (Addr × Value × Nat)) (h : ∀ e ∈ L, PAddr w e.1) :
    (Instr.findKey K (.pointer (some q)) (L.map mkEntry)).run P w = .ok (pfind q L 0) w := by
  cases L with
  | nil => simp [Instr.findKey, run_underlying hk, Instr.findNow, pfind]
  | cons e es =>
    have h1 := run_findAsking_ptr w hk hE hsz hq (e :: es) 0 h
    simp only [List.map_cons] at h1
    simp [Instr.findKey, run_underlying hk, Instr.findNow, Instr.sameNow, mkEntry] at h1 ⊢
    exact h1

theorem run_checkKey_ptr (w : World) (em : Bool) (n : Nat) (hk : P.underlying K = some (.pointer E)) (v : Value) : (Instr.checkKey em (n + 1) K v).run P w = .ok () w := by
  simp [Instr.checkKey, run_underlying hk]

/-- The map at block b. -/
def PMapIs (w : World) (b : Nat) (L : List (Addr × Value × Nat)) (clock : Nat) : Prop := w.heap[b]? = some (.map (L.map mkEntry).toArray clock)

theorem run_lookup_ptr (w : World) (hT : P.underlying T = some (.map K V)) (hk : P.underlying K = some (.pointer E)) (hE : P.info? E = some j) (hsz : j.size ≠ 0) {z : Value} {jv : TypeInfo} (hV : P.info? V = some jv) (hz : jv.zero = some z)
    {b : Nat} {L : List (Addr × Value × Nat)} {clock : Nat} (hm : PMapIs w b L clock) {q : Addr} (hq : PAddr w q) (h : ∀ e ∈ L, PAddr w e.1) :
    (Instr.lookup T (.map (some b)) (.pointer (some q)) false).run P w = .ok (((pfind q L 0).map (·.2)).getD z) w := by
  have h1 := run_findKey_ptr w hk hE hsz hq L h
  unfold PMapIs at hm
  cases hf : pfind q L 0 with
  | none =>
    rw [hf] at h1
    simp [Instr.lookup, run_underlying hT, getObj, Sem.run, hm, run_checkKey_ptr w _ 9999 hk, h1, zeroValue, typeInfo, hV, hz]
  | some r =>
    rw [hf] at h1
    simp [Instr.lookup, run_underlying hT, getObj, Sem.run, hm, run_checkKey_ptr w _ 9999 hk, h1]

/-- A store under a key that is not there: one entry more at the end. -/
theorem run_mapUpdate_new (w : World) (hT : P.underlying T = some (.map K V)) (hk : P.underlying K = some (.pointer E)) (hE : P.info? E = some j) (hsz : j.size ≠ 0)
    {b : Nat} {L : List (Addr × Value × Nat)} {clock : Nat} (hm : PMapIs w b L clock) {q : Addr} (hq : PAddr w q) (h : ∀ e ∈ L, PAddr w e.1) (hne : ∀ e ∈ L, q ≠ e.1) (v : Value) :
    (Instr.mapUpdate T (.map (some b)) (.pointer (some q)) v).run P w = .ok () { w with heap := w.heap.setIfInBounds b (.map ((L ++ [(q, v, clock)]).map mkEntry).toArray (clock + 1)) } := by
  have h1 := run_findKey_ptr w hk hE hsz hq L h
  rw [pfind_none hne] at h1
  unfold PMapIs at hm
  simp [Instr.mapUpdate, run_underlying hT, getObj, setObj, Sem.run, hm, run_checkKey_ptr w _ 9999 hk, h1, mkEntry]

/-- The last entry is deleted. -/
theorem run_delete_last (w : World) (hT : P.underlying T = some (.map K V)) (hk : P.underlying K = some (.pointer E)) (hE : P.info? E = some j) (hsz : j.size ≠ 0)
    {b : Nat} {L : List (Addr × Value × Nat)} {clock n : Nat} {q : Addr} {v : Value} (hm : PMapIs w b (L ++ [(q, v, n)]) clock) (hq : PAddr w q) (h : ∀ e ∈ L, PAddr w e.1) (hne : ∀ e ∈ L, q ≠ e.1) (ty kt : TypeId) :
    (Builtin.delete_ #[T, kt] ty #[.map (some b), .pointer (some q)]).run P w = .ok (.tuple #[]) { w with heap := w.heap.setIfInBounds b (.map (L.map mkEntry).toArray clock) } := by
  have h1 := run_findKey_ptr w hk hE hsz hq (L ++ [(q, v, n)]) (fun e he => by
    rcases List.mem_append.1 he with he | he
    · exact h e he
    · obtain rfl : e = (q, v, n) := by simpa using he
      exact hq)
  rw [pfind_append hne] at h1
  simp only [pfind, if_true, Nat.zero_add] at h1
  unfold PMapIs at hm
  have hem : (List.map mkEntry L ++ [mkEntry (q, v, n)]).eraseIdx L.length = List.map mkEntry L := by
    rw [List.eraseIdx_append_of_length_le (by simp)]; simp
  simp only [List.map_append, List.map_cons, List.map_nil] at h1 hm
  simp [Builtin.delete_, run_underlying hT, getObj, setObj, Sem.run, hm, run_checkKey_ptr w _ 9999 hk, h1, hem]

theorem run_len_map (w : World) (hT : P.underlying T = some (.map K V)) {b : Nat} {L : List (Addr × Value × Nat)} {clock : Nat} (hm : PMapIs w b L clock) (ty : TypeId) :
    (Builtin.len_ #[T] ty #[.map (some b)]).run P w = .ok (.int .i64 L.length) w := by
  unfold PMapIs at hm
  simp [Builtin.len_, run_underlying hT, getObj, Sem.run, hm, goInt]
end
end Go.Proofs.YticfkfjijnfcbaaDoor

/- Trees in memory by the blocks that they lie in: a footprint. -/
namespace Go.Proofs.YticfkfjijnfcbaaDoor
open Go.RowKit

/-- A slice of ints, its block in P. -/
def IntsP (w : World) (P : Nat → Prop) (v : Value) (ks : List Int) : Prop :=
  ∃ (a : Option Addr) (cap : Nat), v = .slice a ks.length cap ∧ ks.length ≤ cap ∧ cap ≤ maxLen ∧ (a = none → cap = 0) ∧
    (ks = [] ∨ ∃ b o, a = some ⟨b, o, none⟩ ∧ P b ∧ ∀ i, i < ks.length → w.cell? ⟨b, o + i, none⟩ = some (.int .i64 (ks.getD i 0)))

/-- A slice of trees, its block in P. -/
def KidsP (w : World) (P : Nat → Prop) (a : Option Addr) (n : Nat) (kvs cvs : Nat → Value) : Prop :=
  n = 0 ∨ ∃ b o, a = some ⟨b, o, none⟩ ∧ P b ∧ ∀ i, i < n →
    w.cell? ⟨b, o + i * 2, none⟩ = some (kvs i) ∧ w.cell? ⟨b, o + i * 2 + 1, none⟩ = some (cvs i)

/-- A tree, its blocks in P. -/
inductive TreeP (w : World) (P : Nat → Prop) : Value → Value → Tr → Prop where
  | mk (ks : List Int) (cs : List Tr) (kv : Value) (a : Option Addr) (cap : Nat) (kvs cvs : Nat → Value)
      (hk : IntsP w P kv ks) (hlen : cs.length ≤ cap) (hcap : cap ≤ maxLen) (hat : KidsP w P a cs.length kvs cvs)
      (hkids : ∀ i (h : i < cs.length), TreeP w P (kvs i) (cvs i) cs[i]) :
      TreeP w P kv (.slice a cs.length cap) (.mk ks cs)

theorem cellP {w w' : World} {b o : Nat} (h : w'.heap[b]? = w.heap[b]?) : w'.cell? ⟨b, o, none⟩ = w.cell? ⟨b, o, none⟩ := World.cell?_of_block (w := w) (a := ⟨b, o, none⟩) h

theorem IntsP.same {w w' : World} {P Q : Nat → Prop} {v : Value} {ks : List Int} (h : IntsP w P v ks) (hb : ∀ k, P k → w'.heap[k]? = w.heap[k]?) (hq : ∀ k, P k → Q k) : IntsP w' Q v ks := by
  obtain ⟨a, cap, hv, h1, h2, hnl, h3⟩ := h
  refine ⟨a, cap, hv, h1, h2, hnl, ?_⟩
  rcases h3 with h3 | ⟨b, o, h3, h4, h5⟩
  · exact .inl h3
  · exact .inr ⟨b, o, h3, hq b h4, fun i hi => by rw [cellP (hb b h4)]; exact h5 i hi⟩

theorem KidsP.same {w w' : World} {P Q : Nat → Prop} {a : Option Addr} {n : Nat} {kvs cvs : Nat → Value} (h : KidsP w P a n kvs cvs) (hb : ∀ k, P k → w'.heap[k]? = w.heap[k]?) (hq : ∀ k, P k → Q k) : KidsP w' Q a n kvs cvs := by
  rcases h with h3 | ⟨b, o, h3, h4, h5⟩
  · exact .inl h3
  · exact .inr ⟨b, o, h3, hq b h4, fun i hi => ⟨by rw [cellP (hb b h4)]; exact (h5 i hi).1, by rw [cellP (hb b h4)]; exact (h5 i hi).2⟩⟩

theorem TreeP.same {w w' : World} {P Q : Nat → Prop} {kv cv : Value} {t : Tr} (h : TreeP w P kv cv t) (hb : ∀ k, P k → w'.heap[k]? = w.heap[k]?) (hq : ∀ k, P k → Q k) : TreeP w' Q kv cv t := by
  induction h with
  | mk ks cs kv a cap kvs cvs hk hlen hcap hat hkids ih => exact TreeP.mk ks cs kv a cap kvs cvs (hk.same hb hq) hlen hcap (hat.same hb hq) ih

theorem TreeP.tree {w : World} {B : Nat} {P : Nat → Prop} {kv cv : Value} {t : Tr} (h : TreeP w P kv cv t) (hq : ∀ k, P k → k < B) : TreeIn w B kv cv t := by
  induction h with
  | mk ks cs kv a cap kvs cvs hk hlen hcap hat hkids ih =>
    refine TreeIn.mk ks cs kv a cap kvs cvs ?_ hlen hcap ?_ ih
    · obtain ⟨a, cap, hv, h1, h2, hnl, h3⟩ := hk
      refine ⟨a, cap, hv, h1, h2, hnl, ?_⟩
      rcases h3 with h3 | ⟨b, o, h3, h4, h5⟩
      · exact .inl h3
      · exact .inr ⟨b, o, h3, hq b h4, h5⟩
    · rcases hat with h3 | ⟨b, o, h3, h4, h5⟩
      · exact .inl h3
      · exact .inr ⟨b, o, h3, hq b h4, h5⟩

theorem IntsIn.p {w : World} {B : Nat} {v : Value} {ks : List Int} (h : IntsIn w B v ks) : IntsP w (· < B) v ks := h
theorem TreeIn.p {w : World} {B : Nat} {kv cv : Value} {t : Tr} (h : TreeIn w B kv cv t) : TreeP w (· < B) kv cv t := by
  induction h with
  | mk ks cs kv a cap kvs cvs hk hlen hcap hat hkids ih => exact TreeP.mk ks cs kv a cap kvs cvs hk hlen hcap hat ih

theorem TreeP.slices {w : World} {P : Nat → Prop} {kv cv : Value} {t : Tr} (h : TreeP w P kv cv t) : ∃ a n c a' n' c', kv = .slice a n c ∧ cv = .slice a' n' c' := by
  cases h with
  | mk ks cs kv a cap kvs cvs hk hlen hcap hat hkids =>
    obtain ⟨ka, kcap, rfl, _⟩ := hk
    exact ⟨_, _, _, _, _, _, rfl, rfl⟩

theorem IntsOwn.p {w : World} {lo : Nat} {v : Value} {ks : List Int} (h : IntsOwn w lo v ks) : IntsP w (fun k => lo ≤ k ∧ k < w.heap.size) v ks := by
  obtain ⟨a, cap, hv, h1, h2, h3, h4⟩ := IntsOwn.in h
  refine ⟨a, cap, hv, h1, h2, h3, ?_⟩
  rcases h4 with h4 | ⟨b, o, h5, h6, h7⟩
  · exact .inl h4
  · refine .inr ⟨b, o, h5, ⟨?_, h6⟩, h7⟩
    obtain ⟨_, ⟨e1, _⟩ | ⟨g, c, cur, e1, e2, _⟩⟩ := h
    · rw [e1, h5] at hv; cases hv
    · rw [e1] at hv
      simp only [Value.slice.injEq] at hv
      rw [h5] at hv
      simp only [Option.some.injEq, Addr.mk.injEq, and_true] at hv
      obtain ⟨⟨rfl, _⟩, _⟩ := hv
      exact e2

theorem IntsOwn.keep {w w' : World} {lo : Nat} {v : Value} {ks : List Int} (h : IntsOwn w lo v ks) (hb : ∀ k, lo ≤ k → k < w.heap.size → w'.heap[k]? = w.heap[k]?) : IntsOwn w' lo v ks := by
  obtain ⟨h1, h2 | ⟨g, cap, cur, hv, hbb, hg, hr⟩⟩ := h
  · exact ⟨h1, .inl h2⟩
  · exact ⟨h1, .inr ⟨g, cap, cur, hv, hbb, (hb g hbb (Array.getElem?_eq_some_iff.1 hg).1).trans hg, hr⟩⟩

/-- A block of cells of which none is frozen. -/
def Plain (w : World) (k : Nat) : Prop := ∃ (c : Array Value) (t : TypeId), w.heap[k]? = some (.cells c t (0, 0))
theorem Plain.kept {w w' : World} {k : Nat} (h : Plain w k) (hb : w'.heap[k]? = w.heap[k]?) : Plain w' k := by
  obtain ⟨c, t, h⟩ := h
  exact ⟨c, t, hb.trans h⟩

/-- A slice of trees, its block in P, and plain. -/
def KidsQ (w : World) (P : Nat → Prop) (a : Option Addr) (n : Nat) (kvs cvs : Nat → Value) : Prop :=
  n = 0 ∨ ∃ b o, a = some ⟨b, o, none⟩ ∧ (P b ∧ Plain w b) ∧ ∀ i, i < n →
    w.cell? ⟨b, o + i * 2, none⟩ = some (kvs i) ∧ w.cell? ⟨b, o + i * 2 + 1, none⟩ = some (cvs i)

/-- A tree, its blocks in P, the kids in plain blocks. -/
inductive TreeQ (w : World) (P : Nat → Prop) : Value → Value → Tr → Prop where
  | mk (ks : List Int) (cs : List Tr) (kv : Value) (a : Option Addr) (cap : Nat) (kvs cvs : Nat → Value)
      (hk : IntsP w P kv ks) (hlen : cs.length ≤ cap) (hcap : cap ≤ maxLen) (hat : KidsQ w P a cs.length kvs cvs)
      (hkids : ∀ i (h : i < cs.length), TreeQ w P (kvs i) (cvs i) cs[i]) :
      TreeQ w P kv (.slice a cs.length cap) (.mk ks cs)

theorem KidsQ.same {w w' : World} {P Q : Nat → Prop} {a : Option Addr} {n : Nat} {kvs cvs : Nat → Value} (h : KidsQ w P a n kvs cvs) (hb : ∀ k, P k → w'.heap[k]? = w.heap[k]?) (hq : ∀ k, P k → Q k) : KidsQ w' Q a n kvs cvs := by
  rcases h with h3 | ⟨b, o, h3, h4, h5⟩
  · exact .inl h3
  · exact .inr ⟨b, o, h3, ⟨hq b h4.1, h4.2.kept (hb b h4.1)⟩, fun i hi => ⟨by rw [cellP (hb b h4.1)]; exact (h5 i hi).1, by rw [cellP (hb b h4.1)]; exact (h5 i hi).2⟩⟩

theorem TreeQ.same {w w' : World} {P Q : Nat → Prop} {kv cv : Value} {t : Tr} (h : TreeQ w P kv cv t) (hb : ∀ k, P k → w'.heap[k]? = w.heap[k]?) (hq : ∀ k, P k → Q k) : TreeQ w' Q kv cv t := by
  induction h with
  | mk ks cs kv a cap kvs cvs hk hlen hcap hat hkids ih => exact TreeQ.mk ks cs kv a cap kvs cvs (hk.same hb hq) hlen hcap (hat.same hb hq) ih

theorem TreeQ.p {w : World} {P : Nat → Prop} {kv cv : Value} {t : Tr} (h : TreeQ w P kv cv t) : TreeP w P kv cv t := by
  induction h with
  | mk ks cs kv a cap kvs cvs hk hlen hcap hat hkids ih =>
    refine TreeP.mk ks cs kv a cap kvs cvs hk hlen hcap ?_ ih
    rcases hat with h3 | ⟨b, o, h3, h4, h5⟩
    · exact .inl h3
    · exact .inr ⟨b, o, h3, h4.1, h5⟩

theorem TreeQ.tree {w : World} {B : Nat} {P : Nat → Prop} {kv cv : Value} {t : Tr} (h : TreeQ w P kv cv t) (hq : ∀ k, P k → k < B) : TreeIn w B kv cv t := h.p.tree hq

theorem TreeQ.slices {w : World} {P : Nat → Prop} {kv cv : Value} {t : Tr} (h : TreeQ w P kv cv t) : ∃ a n c a' n' c', kv = .slice a n c ∧ cv = .slice a' n' c' := h.p.slices
end Go.Proofs.YticfkfjijnfcbaaDoor

/- A tree in memory with the addresses of its nodes; what one comes by on the way through it. -/
namespace Go.Proofs.YticfkfjijnfcbaaDoor
open Go.RowKit

/-- A tree as plain data, each node with the address of its cells. -/
inductive ATr where
  | mk (nb no : Nat) (ks : List Int) (cs : List ATr)

namespace ATr
def nb : ATr → Nat | .mk a _ _ _ => a
def no : ATr → Nat | .mk _ a _ _ => a
def ks : ATr → List Int | .mk _ _ k _ => k
def cs : ATr → List ATr | .mk _ _ _ c => c
def addr (a : ATr) : Addr := ⟨a.nb, a.no, none⟩
mutual
/-- The tree without addresses. -/
def tr : ATr → Tr
  | .mk _ _ k c => .mk k (trs c)
def trs : List ATr → List Tr
  | [] => []
  | a :: r => tr a :: trs r
end
theorem trs_length (c : List ATr) : (trs c).length = c.length := by
  induction c with
  | nil => rfl
  | cons a r ih => simp [trs, ih]
theorem trs_get (c : List ATr) (i : Nat) (h : i < c.length) : (trs c)[i]'(by rw [trs_length]; exact h) = c[i].tr := by
  induction c generalizing i with
  | nil => simp at h
  | cons a r ih =>
    cases i with
    | zero => rfl
    | succ i => simpa [trs] using ih i (by simpa using h)
def weight (a : ATr) : Nat := a.tr.weight
theorem weight_kid {a : ATr} {i : Nat} (h : i < a.cs.length) : a.cs[i].weight + a.cs.length ≤ a.weight := by
  cases a with
  | mk nb no k c =>
    have h' : i < c.length := h
    have h1 := Tr.weight_get_le (trs c) i (by rw [trs_length]; exact h')
    rw [trs_get c i h', trs_length] at h1
    have h2 : (ATr.mk nb no k c).weight = k.length + Tr.weights (trs c) := by simp [weight, tr, Tr.weight]
    show c[i].tr.weight + c.length ≤ _
    omega
theorem ks_le (a : ATr) : a.ks.length + a.cs.length ≤ a.weight := by
  cases a with
  | mk nb no k c =>
    have h1 := Tr.length_le_weights (trs c)
    rw [trs_length] at h1
    have h2 : (ATr.mk nb no k c).weight = k.length + Tr.weights (trs c) := by simp [weight, tr, Tr.weight]
    show k.length + c.length ≤ _
    omega
end ATr

/-- Such a tree in memory: rows anywhere, with room or without. -/
inductive AT (w : World) : ATr → Prop where
  | mk (nb no : Nat) (ks : List Int) (cs : List ATr) (ka ha : Option Addr) (kc hc g go h ho : Nat)
      (hp : PAddr w ⟨nb, no, none⟩)
      (h0 : w.cell? ⟨nb, no, none⟩ = some (.slice ka ks.length kc))
      (h1 : w.cell? ⟨nb, no + 1, none⟩ = some (.slice ha cs.length hc))
      (hk : ∀ i, i < ks.length → w.cell? ⟨g, go + i, none⟩ = some (.int .i64 (ks.getD i 0)))
      (hn : ∀ i (hi : i < cs.length), cs[i].nb = h ∧ cs[i].no = ho + i * 2)
      (hkids : ∀ i (hi : i < cs.length), AT w cs[i])
      (e0 : ks.length = 0 ∨ ka = some ⟨g, go, none⟩) (e1 : cs.length = 0 ∨ ha = some ⟨h, ho, none⟩) (e2 : ks.length ≤ kc ∧ kc ≤ maxLen) : AT w (.mk nb no ks cs)

theorem AT.parts {w : World} {a : ATr} (h : AT w a) : ∃ ka ha kc hc g go h ho, PAddr w a.addr ∧ w.cell? ⟨a.nb, a.no, none⟩ = some (.slice ka a.ks.length kc) ∧
    w.cell? ⟨a.nb, a.no + 1, none⟩ = some (.slice ha a.cs.length hc) ∧ (∀ i, i < a.ks.length → w.cell? ⟨g, go + i, none⟩ = some (.int .i64 (a.ks.getD i 0))) ∧
    (∀ i (hi : i < a.cs.length), a.cs[i].nb = h ∧ a.cs[i].no = ho + i * 2) ∧ (∀ i (hi : i < a.cs.length), AT w a.cs[i]) ∧ (a.ks.length = 0 ∨ ka = some ⟨g, go, none⟩) ∧ (a.cs.length = 0 ∨ ha = some ⟨h, ho, none⟩) := by
  cases h with
  | mk nb no ks cs ka ha kc hc g go h ho hp h0 h1 hk hn hkids e0 e1 e2 => exact ⟨ka, ha, kc, hc, g, go, h, ho, hp, h0, h1, hk, hn, hkids, e0, e1⟩
/-- The row of its keys has room for them. -/
theorem AT.room {w : World} {a : ATr} (h : AT w a) : ∃ ka kc, w.cell? ⟨a.nb, a.no, none⟩ = some (.slice ka a.ks.length kc) ∧ a.ks.length ≤ kc ∧ kc ≤ maxLen := by
  cases h with
  | mk nb no ks cs ka ha kc hc g go h ho hp h0 h1 hk hn hkids e0 e1 e2 => exact ⟨ka, kc, h0, e2.1, e2.2⟩

theorem AT.later {w w' : World} {a : ATr} (h : AT w a) (hb : ∀ k, k < w.heap.size → w'.heap[k]? = w.heap[k]?) : AT w' a := by
  have hcell : ∀ (b o : Nat) (v : Value), w.cell? ⟨b, o, none⟩ = some v → w'.cell? ⟨b, o, none⟩ = some v := fun b o v hv => by
    have := World.block_lt_of_cell? w _ hv
    rw [← hv]
    exact World.cell?_of_block (w := w) (a := ⟨b, o, none⟩) (hb b this)
  induction h with
  | mk nb no ks cs ka ha kc hc g go h ho hp h0 h1 hk hn hkids e0 e1 e2 ih =>
    refine .mk nb no ks cs ka ha kc hc g go h ho ?_ (hcell _ _ _ h0) (hcell _ _ _ h1) (fun i hi => hcell _ _ _ (hk i hi)) hn ih e0 e1 e2
    obtain ⟨c, t, hp⟩ := hp
    exact ⟨c, t, (hb _ (Array.getElem?_eq_some_iff.1 hp).1).trans hp⟩

/-- Two trees at one address are one. -/
theorem AT.one {w : World} {a : ATr} (h : AT w a) : ∀ {c : ATr}, AT w c → c.nb = a.nb → c.no = a.no → c = a := by
  induction h with
  | mk nb no ks cs ka ha kc hc g go h ho hp h0 h1 hk hn hkids e0 e1 e2 ih =>
    intro c hcc f1 f2
    cases hcc with
    | mk nb' no' ks' cs' ka' ha' kc' hc' g' go' h' ho' hp' h0' h1' hk' hn' hkids' e0' e1' e2' =>
      simp only [ATr.nb, ATr.no] at f1 f2
      subst f1 f2
      rw [h0] at h0'
      rw [h1] at h1'
      simp only [Option.some.injEq, Value.slice.injEq] at h0' h1'
      obtain ⟨m1, l1, _⟩ := h0'
      obtain ⟨m2, l2, _⟩ := h1'
      have ek : ks' = ks := by
        apply List.ext_getElem l1.symm
        intro i i1 i2
        have a1 := hk i i2
        have a2 := hk' i i1
        have d1 := e0.resolve_left (by omega)
        have d2 := e0'.resolve_left (by omega)
        rw [d1, d2] at m1
        simp only [Option.some.injEq, Addr.mk.injEq, and_true] at m1
        obtain ⟨rfl, rfl⟩ := m1
        rw [a1] at a2
        simp only [Option.some.injEq, Value.int.injEq, true_and] at a2
        simpa [List.getD_eq_getElem?_getD, i1, i2] using a2.symm
      have ec : cs' = cs := by
        apply List.ext_getElem l2.symm
        intro i i1 i2
        have b1 := hn i i2
        have b2 := hn' i i1
        have d1 := e1.resolve_left (by omega)
        have d2 := e1'.resolve_left (by omega)
        rw [d1, d2] at m2
        simp only [Option.some.injEq, Addr.mk.injEq, and_true] at m2
        obtain ⟨rfl, rfl⟩ := m2
        exact ih i i2 (hkids' i i1) (by rw [b1.1, b2.1]) (by rw [b1.2, b2.2])
      rw [ek, ec]

/-- From a footprint of plain blocks. -/
theorem AT.of_p {w : World} {P : Nat → Prop} {kv cv : Value} {t : Tr} (h : TreeQ w P kv cv t) : ∀ (nb no : Nat), PAddr w ⟨nb, no, none⟩ → w.cell? ⟨nb, no, none⟩ = some kv → w.cell? ⟨nb, no + 1, none⟩ = some cv →
    ∃ a : ATr, a.nb = nb ∧ a.no = no ∧ a.tr = t ∧ AT w a := by
  induction h with
  | mk ks cs kv a cap kvs cvs hk hlen hcap hat hkids ih =>
    intro nb no hp h0 h1
    obtain ⟨ka, kcap, rfl, k1, k2, k3, k4⟩ := hk
    obtain ⟨g, go, hkc, e0⟩ : ∃ g go, (∀ i, i < ks.length → w.cell? ⟨g, go + i, none⟩ = some (.int .i64 (ks.getD i 0))) ∧ (ks.length = 0 ∨ ka = some ⟨g, go, none⟩) := by
      rcases k4 with k4 | ⟨b, o, k5, k6, k7⟩
      · exact ⟨0, 0, fun i hi => by rw [k4] at hi; simp at hi, .inl (by rw [k4]; rfl)⟩
      · exact ⟨b, o, k7, .inr k5⟩
    obtain ⟨hh, ho, hkk, e1⟩ : ∃ hh ho, (∀ i (hi : i < cs.length), ∃ a : ATr, a.nb = hh ∧ a.no = ho + i * 2 ∧ a.tr = cs[i] ∧ AT w a) ∧ (cs.length = 0 ∨ a = some ⟨hh, ho, none⟩) := by
      rcases hat with h2 | ⟨b, o, h2, h3, h4⟩
      · exact ⟨0, 0, fun i hi => by omega, .inl h2⟩
      · exact ⟨b, o, fun i hi => ih i hi b (o + i * 2) h3.2 (h4 i hi).1 (h4 i hi).2, .inr h2⟩
    let f : Nat → ATr := fun i => if hi : i < cs.length then (hkk i hi).choose else .mk 0 0 [] []
    have hf : ∀ i (hi : i < cs.length), (f i).nb = hh ∧ (f i).no = ho + i * 2 ∧ (f i).tr = cs[i] ∧ AT w (f i) := fun i hi => by
      show (if hi : i < cs.length then (hkk i hi).choose else ATr.mk 0 0 [] []).nb = hh ∧ _
      simp only [f, dif_pos hi]
      exact (hkk i hi).choose_spec
    have hln : ((List.range cs.length).map f).length = cs.length := by simp
    refine ⟨.mk nb no ks ((List.range cs.length).map f), rfl, rfl, ?_, ?_⟩
    · simp only [ATr.tr]
      congr 1
      apply List.ext_getElem
      · rw [ATr.trs_length, hln]
      · intro i i1 i2
        rw [ATr.trs_get _ i (by rw [hln]; exact i2)]
        simp only [List.getElem_map, List.getElem_range]
        exact (hf i i2).2.2.1
    · refine .mk nb no ks _ ka a kcap cap g go hh ho hp h0 (by rw [hln]; exact h1) hkc (fun i hi => ?_) (fun i hi => ?_) e0 (by rw [hln]; exact e1) ⟨k1, k2⟩
      · rw [hln] at hi
        simp only [List.getElem_map, List.getElem_range]
        exact ⟨(hf i hi).1, (hf i hi).2.1⟩
      · rw [hln] at hi
        simp only [List.getElem_map, List.getElem_range]
        exact (hf i hi).2.2.2

/-- A tree in memory, the kids in plain blocks. -/
def TreeA (w : World) (kv cv : Value) (t : Tr) : Prop := TreeQ w (fun k => k < w.heap.size) kv cv t
theorem TreeQ.a {w : World} {P : Nat → Prop} {kv cv : Value} {t : Tr} (h : TreeQ w P kv cv t) (hP : ∀ k, P k → k < w.heap.size) : TreeA w kv cv t := h.same (fun _ _ => rfl) hP
theorem TreeA.later {w w' : World} {C : Nat} {kv cv : Value} {t : Tr} (h : TreeA w kv cv t) (hb : Below C w w') (hC : w.heap.size ≤ C) : TreeA w' kv cv t :=
  TreeQ.same h (fun k e => hb.block k (by have : k < w.heap.size := e; omega)) (fun k e => Nat.lt_of_lt_of_le e hb.size)
theorem TreeA.tree {w : World} {kv cv : Value} {t : Tr} (h : TreeA w kv cv t) : TreeIn w w.heap.size kv cv t := TreeQ.tree h (fun _ e => e)
theorem TreeA.slices {w : World} {kv cv : Value} {t : Tr} (h : TreeA w kv cv t) : ∃ a n c a' n' c', kv = .slice a n c ∧ cv = .slice a' n' c' := TreeQ.slices h
theorem TreeA.at {w : World} {kv cv : Value} {t : Tr} (h : TreeA w kv cv t) : ∀ (nb no : Nat), PAddr w ⟨nb, no, none⟩ → w.cell? ⟨nb, no, none⟩ = some kv → w.cell? ⟨nb, no + 1, none⟩ = some cv →
    ∃ a : ATr, a.nb = nb ∧ a.no = no ∧ a.tr = t ∧ AT w a := AT.of_p h
theorem TreeNew.a {w : World} {lo : Nat} {kv cv : Value} {t : Tr} (h : TreeNew w lo kv cv t) (hw : t.weight ≤ 1048576) : TreeA w kv cv t := by
  unfold TreeA
  induction h with
  | mk ks cs g h kvs cvs hg hh hk hc hkids ih =>
    have hl := Tr.length_le_weights cs
    simp only [Tr.weight] at hw
    have hkl := hk.lt
    have hcl := hc.lt
    have hc2 := hc
    obtain ⟨c2, b2, s2, f2⟩ := hc2
    refine TreeQ.mk ks cs _ _ cs.length kvs cvs ⟨_, ks.length, rfl, Nat.le_refl _, by unfold maxLen; omega, (fun e => by cases e), .inr ⟨g, 0, rfl, hkl, fun i hi => by rw [Nat.zero_add]; exact hk.cell hi⟩⟩ (Nat.le_refl _) (by unfold maxLen; omega) (.inr ⟨h, 0, rfl, ⟨hcl, c2, _, b2⟩, fun i hi => ?_⟩) (fun i hi => ih i hi (by have := Tr.weight_get_le cs i hi; omega))
    have e1 := hc.cell (i := i * 2) (by omega)
    have e2 := hc.cell (i := i * 2 + 1) (by omega)
    rw [if_pos (by omega), show i * 2 / 2 = i from by omega] at e1
    rw [if_neg (by omega), show (i * 2 + 1) / 2 = i from by omega] at e2
    rw [Nat.zero_add]
    exact ⟨e1, e2⟩
end Go.Proofs.YticfkfjijnfcbaaDoor
