/- A slice of pairs of trees, by their addresses. -/
import Derived.Test.YtodcapgmhginoaaProg
import Derived.Test.YtodcapgmhginoaaSaS0
import Derived.Test.YtodcapgmhginoaaSaS12
import Derived.Deep.AppendLies
namespace Go.Proofs.Ytodcapgmhginoaa
open Go.RowKit

/-- Two trees and where they lie. -/
structure Sp where
  (b o : Nat)
  t : Tr
  (b' o' : Nat)
  t' : Tr

/-- The cells of the pairs. -/
def pcells : List Sp → List Value
  | [] => []
  | f :: r => .pointer (some ⟨f.b, f.o, none⟩) :: .pointer (some ⟨f.b', f.o', none⟩) :: pcells r
theorem pcells_append (a b : List Sp) : pcells (a ++ b) = pcells a ++ pcells b := by
  induction a with
  | nil => rfl
  | cons f r ih => simp [pcells, ih]
theorem pcells_length (a : List Sp) : (pcells a).length = a.length * 2 := by
  induction a with
  | nil => rfl
  | cons f r ih => simp [pcells, ih]; omega

/-- The slice at block g. -/
abbrev PWay (W : World) (lo g cap : Nat) (st : List Sp) : Prop := W.ownsRow lo 81 2 (.slice (some ⟨g, 0, none⟩) st.length cap) st.length (pcells st)

theorem PWay.blk {W : World} {lo g cap : Nat} {st : List Sp} (h : PWay W lo g cap st) : lo ≤ g ∧ ∃ cur, W.heap[g]? = some (.cells cur 81 (0, 0)) ∧ st.length ≤ cap ∧ cap ≤ maxLen ∧ cur.size = cap * 2 ∧ cur.toList.take (st.length * 2) = pcells st := by
  obtain ⟨h1, ⟨h2, _⟩ | ⟨g', cap', cur, hv, hb, hg, hn, hm, hs, ht⟩⟩ := h
  · simp at h2
  · simp only [Value.slice.injEq, Option.some.injEq, Addr.mk.injEq, and_true, true_and] at hv
    obtain ⟨rfl, rfl⟩ := hv
    exact ⟨hb, cur, hg, hn, hm, hs, ht⟩

theorem PWay.of {W : World} {lo g cap : Nat} {st : List Sp} {cur : Array Value} (hb : lo ≤ g) (hg : W.heap[g]? = some (.cells cur 81 (0, 0))) (hn : st.length ≤ cap) (hm : cap ≤ maxLen) (hs : cur.size = cap * 2) (ht : cur.toList.take (st.length * 2) = pcells st) : PWay W lo g cap st :=
  ⟨pcells_length st, .inr ⟨g, cap, cur, rfl, hb, hg, hn, hm, hs, ht⟩⟩

theorem PWay.lt {W : World} {lo g cap : Nat} {st : List Sp} (h : PWay W lo g cap st) : g < W.heap.size := by
  obtain ⟨_, cur, hg, _⟩ := h.blk
  exact (Array.getElem?_eq_some_iff.1 hg).1

theorem PWay.kept {W W' : World} {lo g cap : Nat} {st : List Sp} (h : PWay W lo g cap st) (hb : W'.heap[g]? = W.heap[g]?) : PWay W' lo g cap st := by
  obtain ⟨h1, cur, hg, hn, hm, hs, ht⟩ := h.blk
  exact PWay.of h1 (hb.trans hg) hn hm hs ht

/-- The last one's cells. -/
theorem PWay.last {W : World} {lo g cap : Nat} {st : List Sp} {f : Sp} (h : PWay W lo g cap (st ++ [f])) :
    W.cell? ⟨g, st.length * 2, none⟩ = some (.pointer (some ⟨f.b, f.o, none⟩)) ∧ W.cell? ⟨g, st.length * 2 + 1, none⟩ = some (.pointer (some ⟨f.b', f.o', none⟩)) := by
  have h1 := World.ownsRow.cellAt h (st.length * 2) (by simp)
  have h2 := World.ownsRow.cellAt h (st.length * 2 + 1) (by simp; omega)
  rw [pcells_append] at h1 h2
  refine ⟨?_, ?_⟩
  · rw [h1]; simp [List.getElem?_append, pcells_length, pcells]
  · rw [h2]; simp [List.getElem?_append, pcells_length, pcells]

/-- The last one is left. -/
theorem PWay.pop {W : World} {lo g cap : Nat} {st : List Sp} {f : Sp} (h : PWay W lo g cap (st ++ [f])) : PWay W lo g cap st := by
  obtain ⟨h1, cur, hg, hn, hm, hs, ht⟩ := h.blk
  refine PWay.of h1 hg (by simp at hn; omega) hm hs ?_
  have h2 : cur.toList.take (st.length * 2) = (cur.toList.take ((st ++ [f]).length * 2)).take (st.length * 2) := by rw [List.take_take]; congr 1; simp
  rw [h2, ht, pcells_append, List.take_left' (pcells_length st)]

theorem PWay.own {W : World} {lo g cap n : Nat} {st : List Sp} (h : PWay W lo g cap st) (hn : st.length = n) : W.ownsRow lo 81 2 (.slice (some ⟨g, 0, none⟩) n cap) n (pcells st) := by
  subst hn; exact h
theorem PWay.grown {W : World} {lo g cap n : Nat} {st : List Sp} (f : Sp) (hn : st.length = n) (h : W.ownsRow lo 81 2 (.slice (some ⟨g, 0, none⟩) (n + 1) cap) (n + 1) (pcells st ++ [.pointer (some ⟨f.b, f.o, none⟩), .pointer (some ⟨f.b', f.o', none⟩)])) : PWay W lo g cap (st ++ [f]) := by
  subst hn
  have h2 : pcells (st ++ [f]) = pcells st ++ [.pointer (some ⟨f.b, f.o, none⟩), .pointer (some ⟨f.b', f.o', none⟩)] := by rw [pcells_append]; rfl
  unfold PWay
  rw [h2, show (st ++ [f]).length = st.length + 1 by simp]
  exact h

theorem Try.infoPair : (Try.prog.info? 81).map (fun i => (i.zero, i.size, i.bytes)) = some (some (.agg #[.pointer none, .pointer none]), 2, 16) := by kernel_rfl

/-- A tree that lies at an address. -/
def Lies (W : World) (H b o : Nat) (t : Tr) : Prop := ∃ kv cv, W.cell? ⟨b, o, none⟩ = some kv ∧ W.cell? ⟨b, o + 1, none⟩ = some cv ∧ b < H ∧ TreeIn W H kv cv t
abbrev Sp.ok (W : World) (H : Nat) (f : Sp) : Prop := Lies W H f.b f.o f.t ∧ Lies W H f.b' f.o' f.t'
abbrev Sp.same (f : Sp) : Bool := f.t.sameB f.t'
def total : List Sp → Nat
  | [] => 0
  | f :: r => f.t.count + total r
theorem total_append (a b : List Sp) : total (a ++ b) = total a + total b := by
  induction a with
  | nil => simp [total]
  | cons f r ih => simp [total, ih]; omega
theorem count_pos (t : Tr) : 1 ≤ t.count := by cases t; simp only [Tr.count]; omega
theorem length_le_total (a : List Sp) : a.length ≤ total a := by
  induction a with
  | nil => simp
  | cons f r ih => have := count_pos f.t; simp [total]; omega

/-- The pairs of the kids. -/
def kidPairs (b o b' o' : Nat) : List Tr → List Tr → List Sp
  | c :: r, c' :: r' => ⟨b, o, c, b', o', c'⟩ :: kidPairs b (o + 2) b' (o' + 2) r r'
  | _, _ => []
theorem kidPairs_length (b b' : Nat) : ∀ (c c' : List Tr) (o o' : Nat), c.length = c'.length → (kidPairs b o b' o' c c').length = c.length
  | [], _, _, _, _ => by simp [kidPairs]
  | _ :: _, [], _, _, h => by simp at h
  | _ :: r, _ :: r', o, o', h => by simp [kidPairs, kidPairs_length b b' r r' (o + 2) (o' + 2) (by simpa using h)]
theorem kidPairs_get (b b' : Nat) : ∀ (c c' : List Tr) (o o' : Nat), c.length = c'.length → ∀ i (h : i < c.length) (h' : i < c'.length), (kidPairs b o b' o' c c')[i]? = some ⟨b, o + i * 2, c[i], b', o' + i * 2, c'[i]⟩
  | [], _, _, _, _, i, h, _ => by simp at h
  | _ :: _, [], _, _, h, _, _, _ => by simp at h
  | x :: r, y :: r', o, o', h, i, hi, hi' => by
    cases i with
    | zero => simp [kidPairs]
    | succ i =>
      have := kidPairs_get b b' r r' (o + 2) (o' + 2) (by simpa using h) i (by simpa using hi) (by simpa using hi')
      simp only [kidPairs, List.getElem?_cons_succ, List.getElem_cons_succ, this]
      simp only [Option.some.injEq, Sp.mk.injEq, true_and, and_true]
      omega
theorem kidPairs_same (b b' : Nat) : ∀ (c c' : List Tr) (o o' : Nat), (kidPairs b o b' o' c c').all Sp.same = Tr.samesB c c'
  | [], _, _, _ => by simp [kidPairs, Tr.samesB]
  | _ :: _, [], _, _ => by simp [kidPairs, Tr.samesB]
  | x :: r, y :: r', o, o' => by simp [kidPairs, Tr.samesB, kidPairs_same b b' r r' (o + 2) (o' + 2)]
theorem kidPairs_total (b b' : Nat) : ∀ (c c' : List Tr) (o o' : Nat), c.length = c'.length → total (kidPairs b o b' o' c c') = Tr.counts c
  | [], _, _, _, _ => by simp [kidPairs, total, Tr.counts]
  | _ :: _, [], _, _, h => by simp at h
  | x :: r, y :: r', o, o', h => by simp [kidPairs, total, Tr.counts, kidPairs_total b b' r r' (o + 2) (o' + 2) (by simpa using h)]

/-- The pairs of the kids of two trees that lie in memory. -/
theorem kid_pairs {W : World} {H : Nat} {a a' : Option Addr} {cs cs' : List Tr} {kvs cvs kvs' cvs' : Nat → Value} (hl : cs.length = cs'.length)
    (hat : KidsIn W H a cs.length kvs cvs) (hk : ∀ i (h : i < cs.length), TreeIn W H (kvs i) (cvs i) cs[i])
    (hat' : KidsIn W H a' cs'.length kvs' cvs') (hk' : ∀ i (h : i < cs'.length), TreeIn W H (kvs' i) (cvs' i) cs'[i]) :
    ∃ ps : List Sp, ps.length = cs.length ∧ (∀ f ∈ ps, f.ok W H) ∧ ps.all Sp.same = Tr.samesB cs cs' ∧ total ps = Tr.counts cs ∧
      (cs.length = 0 ∨ ∃ b o b' o', a = some ⟨b, o, none⟩ ∧ a' = some ⟨b', o', none⟩ ∧ ∀ i, i < cs.length → ∃ t t', ps[i]? = some ⟨b, o + i * 2, t, b', o' + i * 2, t'⟩) := by
  rcases hat with h0 | ⟨b, o, rfl, hb, hat⟩
  · obtain rfl : cs = [] := List.length_eq_zero_iff.1 h0
    obtain rfl : cs' = [] := List.length_eq_zero_iff.1 hl.symm
    exact ⟨[], rfl, by simp, by simp [Tr.samesB], by simp [total, Tr.counts], .inl rfl⟩
  rcases hat' with h0 | ⟨b', o', rfl, hb', hat'⟩
  · obtain rfl : cs' = [] := List.length_eq_zero_iff.1 h0
    obtain rfl : cs = [] := List.length_eq_zero_iff.1 hl
    exact ⟨[], rfl, by simp, by simp [Tr.samesB], by simp [total, Tr.counts], .inl rfl⟩
  refine ⟨kidPairs b o b' o' cs cs', kidPairs_length _ _ _ _ _ _ hl, fun f hf => ?_, kidPairs_same _ _ _ _ _ _, kidPairs_total _ _ _ _ _ _ hl, .inr ⟨b, o, b', o', rfl, rfl, fun i hi => ⟨_, _, kidPairs_get b b' cs cs' o o' hl i hi (by omega)⟩⟩⟩
  obtain ⟨i, hi, he⟩ := List.getElem_of_mem hf
  rw [kidPairs_length _ _ _ _ _ _ hl] at hi
  have hi' : i < cs'.length := by omega
  have h1 := kidPairs_get b b' cs cs' o o' hl i hi hi'
  rw [List.getElem?_eq_getElem (by rw [kidPairs_length _ _ _ _ _ _ hl]; exact hi), he] at h1
  obtain rfl := Option.some.inj h1
  exact ⟨⟨_, _, (hat i hi).1, (hat i hi).2, hb, hk i hi⟩, ⟨_, _, (hat' i hi').1, (hat' i hi').2, hb', hk' i hi'⟩⟩
end Go.Proofs.Ytodcapgmhginoaa
