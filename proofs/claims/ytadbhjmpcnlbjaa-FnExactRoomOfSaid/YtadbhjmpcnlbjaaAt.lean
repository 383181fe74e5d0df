/- A tree in memory with the addresses of its nodes; what one comes by on the way through it. -/
import Derived.Test.YtadbhjmpcnlbjaaProg
import Derived.Test.YtadbhjmpcnlbjaaBase
import Derived.Test.YtadbhjmpcnlbjaaTo
import Derived.Test.YtadbhjmpcnlbjaaPMap
namespace Go.Proofs.Ytadbhjmpcnlbjaa
open Go.RowKit

/-- A tree as plain data, each node with the address of its cells. -/
inductive ATr where
  | mk (nb no : Nat) (ks : List Int) (cs : List ATr)

namespace ATr
def nb : ATr → Nat | .mk a _ _ _ => a
def no : ATr → Nat | .mk _ a _ _ => a
def ks : ATr → List Int | .mk _ _ k _ => k
def cs : ATr → List ATr | .mk _ _ _ c => c
def addr (a : ATr) : Addr := ⟨a.nb, a.no, none⟩
mutual
/-- The tree without addresses. -/
def tr : ATr → Tr
  | .mk _ _ k c => .mk k (trs c)
def trs : List ATr → List Tr
  | [] => []
  | a :: r => tr a :: trs r
end
theorem trs_length (c : List ATr) : (trs c).length = c.length := by
  induction c with
  | nil => rfl
  | cons a r ih => simp [trs, ih]
theorem trs_get (c : List ATr) (i : Nat) (h : i < c.length) : (trs c)[i]'(by rw [trs_length]; exact h) = c[i].tr := by
  induction c generalizing i with
  | nil => simp at h
  | cons a r ih =>
    cases i with
    | zero => rfl
    | succ i => simpa [trs] using ih i (by simpa using h)
def weight (a : ATr) : Nat := a.tr.weight
theorem weight_kid {a : ATr} {i : Nat} (h : i < a.cs.length) : a.cs[i].weight + a.cs.length ≤ a.weight := by
  cases a with
  | mk nb no k c =>
    have h' : i < c.length := h
    have h1 := Tr.weight_get_le (trs c) i (by rw [trs_length]; exact h')
    rw [trs_get c i h', trs_length] at h1
    have h2 : (ATr.mk nb no k c).weight = k.length + Tr.weights (trs c) := by simp [weight, tr, Tr.weight]
    show c[i].tr.weight + c.length ≤ _
    omega
theorem ks_le (a : ATr) : a.ks.length + a.cs.length ≤ a.weight := by
  cases a with
  | mk nb no k c =>
    have h1 := Tr.length_le_weights (trs c)
    rw [trs_length] at h1
    have h2 : (ATr.mk nb no k c).weight = k.length + Tr.weights (trs c) := by simp [weight, tr, Tr.weight]
    show k.length + c.length ≤ _
    omega
end ATr

/-- Such a tree in memory. -/
inductive AT (w : World) : ATr → Prop where
  | mk (nb no : Nat) (ks : List Int) (cs : List ATr) (g h : Nat)
      (hp : PAddr w ⟨nb, no, none⟩)
      (h0 : w.cell? ⟨nb, no, none⟩ = some (.slice (some ⟨g, 0, none⟩) ks.length ks.length))
      (h1 : w.cell? ⟨nb, no + 1, none⟩ = some (.slice (some ⟨h, 0, none⟩) cs.length cs.length))
      (hk : ∀ i, i < ks.length → w.cell? ⟨g, i, none⟩ = some (.int .i64 (ks.getD i 0)))
      (hc : ∀ i (hi : i < cs.length), cs[i].nb = h ∧ cs[i].no = i * 2)
      (hkids : ∀ i (hi : i < cs.length), AT w cs[i]) : AT w (.mk nb no ks cs)

theorem AT.parts {w : World} {a : ATr} (h : AT w a) : ∃ g h, PAddr w a.addr ∧ w.cell? ⟨a.nb, a.no, none⟩ = some (.slice (some ⟨g, 0, none⟩) a.ks.length a.ks.length) ∧
    w.cell? ⟨a.nb, a.no + 1, none⟩ = some (.slice (some ⟨h, 0, none⟩) a.cs.length a.cs.length) ∧ (∀ i, i < a.ks.length → w.cell? ⟨g, i, none⟩ = some (.int .i64 (a.ks.getD i 0))) ∧
    (∀ i (hi : i < a.cs.length), a.cs[i].nb = h ∧ a.cs[i].no = i * 2) ∧ ∀ i (hi : i < a.cs.length), AT w a.cs[i] := by
  cases h with
  | mk nb no ks cs g h hp h0 h1 hk hc hkids => exact ⟨g, h, hp, h0, h1, hk, hc, hkids⟩

theorem AT.later {w w' : World} {a : ATr} (h : AT w a) (hb : ∀ k, k < w.heap.size → w'.heap[k]? = w.heap[k]?) : AT w' a := by
  have hcell : ∀ (b o : Nat) (v : Value), w.cell? ⟨b, o, none⟩ = some v → w'.cell? ⟨b, o, none⟩ = some v := fun b o v hv => by
    have := World.block_lt_of_cell? w _ hv
    rw [← hv]
    exact World.cell?_of_block (w := w) (a := ⟨b, o, none⟩) (hb b this)
  induction h with
  | mk nb no ks cs g h hp h0 h1 hk hc hkids ih =>
    refine .mk nb no ks cs g h ?_ (hcell _ _ _ h0) (hcell _ _ _ h1) (fun i hi => hcell _ _ _ (hk i hi)) hc ih
    obtain ⟨c, t, hp⟩ := hp
    exact ⟨c, t, (hb _ (Array.getElem?_eq_some_iff.1 hp).1).trans hp⟩

/-- Two trees at one address are one. -/
theorem AT.one {w : World} {a : ATr} (h : AT w a) : ∀ {c : ATr}, AT w c → c.nb = a.nb → c.no = a.no → c = a := by
  induction h with
  | mk nb no ks cs g h hp h0 h1 hk hc hkids ih =>
    intro c hcc e1 e2
    cases hcc with
    | mk nb' no' ks' cs' g' h' hp' h0' h1' hk' hc' hkids' =>
      simp only [ATr.nb, ATr.no] at e1 e2
      subst e1 e2
      rw [h0] at h0'
      rw [h1] at h1'
      simp only [Option.some.injEq, Value.slice.injEq, Addr.mk.injEq, and_true] at h0' h1'
      obtain ⟨rfl, l1, _⟩ := h0'
      obtain ⟨rfl, l2, _⟩ := h1'
      have ek : ks' = ks := by
        apply List.ext_getElem l1.symm
        intro i i1 i2
        have a1 := hk i i2
        have a2 := hk' i i1
        rw [a1] at a2
        simp only [Option.some.injEq, Value.int.injEq, true_and] at a2
        simpa [List.getD_eq_getElem?_getD, i1, i2] using a2.symm
      have ec : cs' = cs := by
        apply List.ext_getElem l2.symm
        intro i i1 i2
        have b1 := hc i i2
        have b2 := hc' i i1
        exact ih i i2 (hkids' i i1) (by rw [b1.1, b2.1]) (by rw [b1.2, b2.2])
      rw [ek, ec]

/-- From a copy's rows. -/
theorem AT.of_new {w : World} {lo : Nat} {kv cv : Value} {t : Tr} (h : TreeNew w lo kv cv t) : ∀ (nb no : Nat), PAddr w ⟨nb, no, none⟩ → w.cell? ⟨nb, no, none⟩ = some kv → w.cell? ⟨nb, no + 1, none⟩ = some cv →
    ∃ a : ATr, a.nb = nb ∧ a.no = no ∧ a.tr = t ∧ AT w a := by
  induction h with
  | mk ks cs g h kvs cvs hg hh hk hc hkids ih =>
    intro nb no hp h0 h1
    have hrow := hc
    have hkid : ∀ i (hi : i < cs.length), ∃ a : ATr, a.nb = h ∧ a.no = i * 2 ∧ a.tr = cs[i] ∧ AT w a := fun i hi => by
      have h1 := hc.cell (i := i * 2) (by omega)
      have h2 := hc.cell (i := i * 2 + 1) (by omega)
      rw [if_pos (by omega), show i * 2 / 2 = i from by omega] at h1
      rw [if_neg (by omega), show (i * 2 + 1) / 2 = i from by omega] at h2
      refine ih i hi h (i * 2) ?_ h1 h2
      unfold World.rowIs at hrow
      obtain ⟨c, hr⟩ := hrow
      exact ⟨c, _, hr.1⟩
    let f : Nat → ATr := fun i => if hi : i < cs.length then (hkid i hi).choose else .mk 0 0 [] []
    have hf : ∀ i (hi : i < cs.length), (f i).nb = h ∧ (f i).no = i * 2 ∧ (f i).tr = cs[i] ∧ AT w (f i) := fun i hi => by
      show (if hi : i < cs.length then (hkid i hi).choose else ATr.mk 0 0 [] []).nb = h ∧ _
      simp only [f, dif_pos hi]
      exact (hkid i hi).choose_spec
    have hlen : ((List.range cs.length).map f).length = cs.length := by simp
    refine ⟨.mk nb no ks ((List.range cs.length).map f), rfl, rfl, ?_, ?_⟩
    · simp only [ATr.tr]
      congr 1
      apply List.ext_getElem
      · rw [ATr.trs_length, hlen]
      · intro i i1 i2
        rw [ATr.trs_get _ i (by rw [hlen]; exact i2)]
        simp only [List.getElem_map, List.getElem_range]
        exact (hf i i2).2.2.1
    · refine .mk nb no ks _ g h hp h0 (by rw [hlen]; exact h1) (fun i hi => hk.cell hi) (fun i hi => ?_) (fun i hi => ?_)
      · rw [hlen] at hi
        simp only [List.getElem_map, List.getElem_range]
        exact ⟨(hf i hi).1, (hf i hi).2.1⟩
      · rw [hlen] at hi
        simp only [List.getElem_map, List.getElem_range]
        exact (hf i hi).2.2.2
end Go.Proofs.Ytadbhjmpcnlbjaa
