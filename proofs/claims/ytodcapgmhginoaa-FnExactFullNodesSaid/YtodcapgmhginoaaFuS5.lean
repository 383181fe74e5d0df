/- A tree in memory with the addresses of its nodes; what one comes by on the way through it. -/
import Derived.Test.YtodcapgmhginoaaProg
import Derived.Test.YtodcapgmhginoaaFuS0
import Derived.Test.YtodcapgmhginoaaFuS2
import Derived.Test.YtodcapgmhginoaaFuS3
import Derived.Test.YtodcapgmhginoaaFuS4
namespace Go.Proofs.Ytodcapgmhginoaa
open Go.RowKit

/-- A tree as plain data, each node with the address of its cells. -/
inductive ATr where
  | mk (nb no : Nat) (ks : List Int) (cs : List ATr)

namespace ATr
def nb : ATr → Nat | .mk a _ _ _ => a
def no : ATr → Nat | .mk _ a _ _ => a
def ks : ATr → List Int | .mk _ _ k _ => k
def cs : ATr → List ATr | .mk _ _ _ c => c
def addr (a : ATr) : Addr := ⟨a.nb, a.no, none⟩
mutual
/-- The tree without addresses. -/
def tr : ATr → Tr
  | .mk _ _ k c => .mk k (trs c)
def trs : List ATr → List Tr
  | [] => []
  | a :: r => tr a :: trs r
end
theorem trs_length (c : List ATr) : (trs c).length = c.length := by
  induction c with
  | nil => rfl
  | cons a r ih => simp [trs, ih]
theorem trs_get (c : List ATr) (i : Nat) (h : i < c.length) : (trs c)[i]'(by rw [trs_length]; exact h) = c[i].tr := by
  induction c generalizing i with
  | nil => simp at h
  | cons a r ih =>
    cases i with
    | zero => rfl
    | succ i => simpa [trs] using ih i (by simpa using h)
def weight (a : ATr) : Nat := a.tr.weight
theorem weight_kid {a : ATr} {i : Nat} (h : i < a.cs.length) : a.cs[i].weight + a.cs.length ≤ a.weight := by
  cases a with
  | mk nb no k c =>
    have h' : i < c.length := h
    have h1 := Tr.weight_get_le (trs c) i (by rw [trs_length]; exact h')
    rw [trs_get c i h', trs_length] at h1
    have h2 : (ATr.mk nb no k c).weight = k.length + Tr.weights (trs c) := by simp [weight, tr, Tr.weight]
    show c[i].tr.weight + c.length ≤ _
    omega
theorem ks_le (a : ATr) : a.ks.length + a.cs.length ≤ a.weight := by
  cases a with
  | mk nb no k c =>
    have h1 := Tr.length_le_weights (trs c)
    rw [trs_length] at h1
    have h2 : (ATr.mk nb no k c).weight = k.length + Tr.weights (trs c) := by simp [weight, tr, Tr.weight]
    show k.length + c.length ≤ _
    omega
end ATr

/-- Such a tree in memory: rows anywhere, with room or without. -/
inductive AT (w : World) : ATr → Prop where
  | mk (nb no : Nat) (ks : List Int) (cs : List ATr) (ka ha : Option Addr) (kc hc g go h ho : Nat)
      (hp : PAddr w ⟨nb, no, none⟩)
      (h0 : w.cell? ⟨nb, no, none⟩ = some (.slice ka ks.length kc))
      (h1 : w.cell? ⟨nb, no + 1, none⟩ = some (.slice ha cs.length hc))
      (hk : ∀ i, i < ks.length → w.cell? ⟨g, go + i, none⟩ = some (.int .i64 (ks.getD i 0)))
      (hn : ∀ i (hi : i < cs.length), cs[i].nb = h ∧ cs[i].no = ho + i * 2)
      (hkids : ∀ i (hi : i < cs.length), AT w cs[i])
      (e0 : ks.length = 0 ∨ ka = some ⟨g, go, none⟩) (e1 : cs.length = 0 ∨ ha = some ⟨h, ho, none⟩) (e2 : ks.length ≤ kc ∧ kc ≤ maxLen) : AT w (.mk nb no ks cs)

theorem AT.parts {w : World} {a : ATr} (h : AT w a) : ∃ ka ha kc hc g go h ho, PAddr w a.addr ∧ w.cell? ⟨a.nb, a.no, none⟩ = some (.slice ka a.ks.length kc) ∧
    w.cell? ⟨a.nb, a.no + 1, none⟩ = some (.slice ha a.cs.length hc) ∧ (∀ i, i < a.ks.length → w.cell? ⟨g, go + i, none⟩ = some (.int .i64 (a.ks.getD i 0))) ∧
    (∀ i (hi : i < a.cs.length), a.cs[i].nb = h ∧ a.cs[i].no = ho + i * 2) ∧ (∀ i (hi : i < a.cs.length), AT w a.cs[i]) ∧ (a.ks.length = 0 ∨ ka = some ⟨g, go, none⟩) ∧ (a.cs.length = 0 ∨ ha = some ⟨h, ho, none⟩) := by
  cases h with
  | mk nb no ks cs ka ha kc hc g go h ho hp h0 h1 hk hn hkids e0 e1 e2 => exact ⟨ka, ha, kc, hc, g, go, h, ho, hp, h0, h1, hk, hn, hkids, e0, e1⟩
/-- The row of its keys has room for them. -/
theorem AT.room {w : World} {a : ATr} (h : AT w a) : ∃ ka kc, w.cell? ⟨a.nb, a.no, none⟩ = some (.slice ka a.ks.length kc) ∧ a.ks.length ≤ kc ∧ kc ≤ maxLen := by
  cases h with
  | mk nb no ks cs ka ha kc hc g go h ho hp h0 h1 hk hn hkids e0 e1 e2 => exact ⟨ka, kc, h0, e2.1, e2.2⟩

theorem AT.later {w w' : World} {a : ATr} (h : AT w a) (hb : ∀ k, k < w.heap.size → w'.heap[k]? = w.heap[k]?) : AT w' a := by
  have hcell : ∀ (b o : Nat) (v : Value), w.cell? ⟨b, o, none⟩ = some v → w'.cell? ⟨b, o, none⟩ = some v := fun b o v hv => by
    have := World.block_lt_of_cell? w _ hv
    rw [← hv]
    exact World.cell?_of_block (w := w) (a := ⟨b, o, none⟩) (hb b this)
  induction h with
  | mk nb no ks cs ka ha kc hc g go h ho hp h0 h1 hk hn hkids e0 e1 e2 ih =>
    refine .mk nb no ks cs ka ha kc hc g go h ho ?_ (hcell _ _ _ h0) (hcell _ _ _ h1) (fun i hi => hcell _ _ _ (hk i hi)) hn ih e0 e1 e2
    obtain ⟨c, t, hp⟩ := hp
    exact ⟨c, t, (hb _ (Array.getElem?_eq_some_iff.1 hp).1).trans hp⟩

/-- Two trees at one address are one. -/
theorem AT.one {w : World} {a : ATr} (h : AT w a) : ∀ {c : ATr}, AT w c → c.nb = a.nb → c.no = a.no → c = a := by
  induction h with
  | mk nb no ks cs ka ha kc hc g go h ho hp h0 h1 hk hn hkids e0 e1 e2 ih =>
    intro c hcc f1 f2
    cases hcc with
    | mk nb' no' ks' cs' ka' ha' kc' hc' g' go' h' ho' hp' h0' h1' hk' hn' hkids' e0' e1' e2' =>
      simp only [ATr.nb, ATr.no] at f1 f2
      subst f1 f2
      rw [h0] at h0'
      rw [h1] at h1'
      simp only [Option.some.injEq, Value.slice.injEq] at h0' h1'
      obtain ⟨m1, l1, _⟩ := h0'
      obtain ⟨m2, l2, _⟩ := h1'
      have ek : ks' = ks := by
        apply List.ext_getElem l1.symm
        intro i i1 i2
        have a1 := hk i i2
        have a2 := hk' i i1
        have d1 := e0.resolve_left (by omega)
        have d2 := e0'.resolve_left (by omega)
        rw [d1, d2] at m1
        simp only [Option.some.injEq, Addr.mk.injEq, and_true] at m1
        obtain ⟨rfl, rfl⟩ := m1
        rw [a1] at a2
        simp only [Option.some.injEq, Value.int.injEq, true_and] at a2
        simpa [List.getD_eq_getElem?_getD, i1, i2] using a2.symm
      have ec : cs' = cs := by
        apply List.ext_getElem l2.symm
        intro i i1 i2
        have b1 := hn i i2
        have b2 := hn' i i1
        have d1 := e1.resolve_left (by omega)
        have d2 := e1'.resolve_left (by omega)
        rw [d1, d2] at m2
        simp only [Option.some.injEq, Addr.mk.injEq, and_true] at m2
        obtain ⟨rfl, rfl⟩ := m2
        exact ih i i2 (hkids' i i1) (by rw [b1.1, b2.1]) (by rw [b1.2, b2.2])
      rw [ek, ec]

/-- From a footprint of plain blocks. -/
theorem AT.of_p {w : World} {P : Nat → Prop} {kv cv : Value} {t : Tr} (h : TreeQ w P kv cv t) : ∀ (nb no : Nat), PAddr w ⟨nb, no, none⟩ → w.cell? ⟨nb, no, none⟩ = some kv → w.cell? ⟨nb, no + 1, none⟩ = some cv →
    ∃ a : ATr, a.nb = nb ∧ a.no = no ∧ a.tr = t ∧ AT w a := by
  induction h with
  | mk ks cs kv a cap kvs cvs hk hlen hcap hat hkids ih =>
    intro nb no hp h0 h1
    obtain ⟨ka, kcap, rfl, k1, k2, k3, k4⟩ := hk
    obtain ⟨g, go, hkc, e0⟩ : ∃ g go, (∀ i, i < ks.length → w.cell? ⟨g, go + i, none⟩ = some (.int .i64 (ks.getD i 0))) ∧ (ks.length = 0 ∨ ka = some ⟨g, go, none⟩) := by
      rcases k4 with k4 | ⟨b, o, k5, k6, k7⟩
      · exact ⟨0, 0, fun i hi => by rw [k4] at hi; simp at hi, .inl (by rw [k4]; rfl)⟩
      · exact ⟨b, o, k7, .inr k5⟩
    obtain ⟨hh, ho, hkk, e1⟩ : ∃ hh ho, (∀ i (hi : i < cs.length), ∃ a : ATr, a.nb = hh ∧ a.no = ho + i * 2 ∧ a.tr = cs[i] ∧ AT w a) ∧ (cs.length = 0 ∨ a = some ⟨hh, ho, none⟩) := by
      rcases hat with h2 | ⟨b, o, h2, h3, h4⟩
      · exact ⟨0, 0, fun i hi => by omega, .inl h2⟩
      · exact ⟨b, o, fun i hi => ih i hi b (o + i * 2) h3.2 (h4 i hi).1 (h4 i hi).2, .inr h2⟩
    let f : Nat → ATr := fun i => if hi : i < cs.length then (hkk i hi).choose else .mk 0 0 [] []
    have hf : ∀ i (hi : i < cs.length), (f i).nb = hh ∧ (f i).no = ho + i * 2 ∧ (f i).tr = cs[i] ∧ AT w (f i) := fun i hi => by
      show (if hi : i < cs.length then (hkk i hi).choose else ATr.mk 0 0 [] []).nb = hh ∧ _
      simp only [f, dif_pos hi]
      exact (hkk i hi).choose_spec
    have hln : ((List.range cs.length).map f).length = cs.length := by simp
    refine ⟨.mk nb no ks ((List.range cs.length).map f), rfl, rfl, ?_, ?_⟩
    · simp only [ATr.tr]
      congr 1
      apply List.ext_getElem
      · rw [ATr.trs_length, hln]
      · intro i i1 i2
        rw [ATr.trs_get _ i (by rw [hln]; exact i2)]
        simp only [List.getElem_map, List.getElem_range]
        exact (hf i i2).2.2.1
    · refine .mk nb no ks _ ka a kcap cap g go hh ho hp h0 (by rw [hln]; exact h1) hkc (fun i hi => ?_) (fun i hi => ?_) e0 (by rw [hln]; exact e1) ⟨k1, k2⟩
      · rw [hln] at hi
        simp only [List.getElem_map, List.getElem_range]
        exact ⟨(hf i hi).1, (hf i hi).2.1⟩
      · rw [hln] at hi
        simp only [List.getElem_map, List.getElem_range]
        exact (hf i hi).2.2.2

/-- A tree in memory, the kids in plain blocks. -/
def TreeA (w : World) (kv cv : Value) (t : Tr) : Prop := TreeQ w (fun k => k < w.heap.size) kv cv t
theorem TreeQ.a {w : World} {P : Nat → Prop} {kv cv : Value} {t : Tr} (h : TreeQ w P kv cv t) (hP : ∀ k, P k → k < w.heap.size) : TreeA w kv cv t := h.same (fun _ _ => rfl) hP
theorem TreeA.later {w w' : World} {C : Nat} {kv cv : Value} {t : Tr} (h : TreeA w kv cv t) (hb : Below C w w') (hC : w.heap.size ≤ C) : TreeA w' kv cv t :=
  TreeQ.same h (fun k e => hb.block k (by have : k < w.heap.size := e; omega)) (fun k e => Nat.lt_of_lt_of_le e hb.size)
theorem TreeA.tree {w : World} {kv cv : Value} {t : Tr} (h : TreeA w kv cv t) : TreeIn w w.heap.size kv cv t := TreeQ.tree h (fun _ e => e)
theorem TreeA.slices {w : World} {kv cv : Value} {t : Tr} (h : TreeA w kv cv t) : ∃ a n c a' n' c', kv = .slice a n c ∧ cv = .slice a' n' c' := TreeQ.slices h
theorem TreeA.at {w : World} {kv cv : Value} {t : Tr} (h : TreeA w kv cv t) : ∀ (nb no : Nat), PAddr w ⟨nb, no, none⟩ → w.cell? ⟨nb, no, none⟩ = some kv → w.cell? ⟨nb, no + 1, none⟩ = some cv →
    ∃ a : ATr, a.nb = nb ∧ a.no = no ∧ a.tr = t ∧ AT w a := AT.of_p h
theorem TreeNew.a {w : World} {lo : Nat} {kv cv : Value} {t : Tr} (h : TreeNew w lo kv cv t) (hw : t.weight ≤ 1048576) : TreeA w kv cv t := by
  unfold TreeA
  induction h with
  | mk ks cs g h kvs cvs hg hh hk hc hkids ih =>
    have hl := Tr.length_le_weights cs
    simp only [Tr.weight] at hw
    have hkl := hk.lt
    have hcl := hc.lt
    have hc2 := hc
    obtain ⟨c2, b2, s2, f2⟩ := hc2
    refine TreeQ.mk ks cs _ _ cs.length kvs cvs ⟨_, ks.length, rfl, Nat.le_refl _, by unfold maxLen; omega, (fun e => by cases e), .inr ⟨g, 0, rfl, hkl, fun i hi => by rw [Nat.zero_add]; exact hk.cell hi⟩⟩ (Nat.le_refl _) (by unfold maxLen; omega) (.inr ⟨h, 0, rfl, ⟨hcl, c2, _, b2⟩, fun i hi => ?_⟩) (fun i hi => ih i hi (by have := Tr.weight_get_le cs i hi; omega))
    have e1 := hc.cell (i := i * 2) (by omega)
    have e2 := hc.cell (i := i * 2 + 1) (by omega)
    rw [if_pos (by omega), show i * 2 / 2 = i from by omega] at e1
    rw [if_neg (by omega), show (i * 2 + 1) / 2 = i from by omega] at e2
    rw [Nat.zero_add]
    exact ⟨e1, e2⟩
end Go.Proofs.Ytodcapgmhginoaa
