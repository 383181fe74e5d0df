/- A tree in memory with the addresses of its nodes; what one comes by on the way through it. -/
import Derived.WalkKit
import Derived.LaidEqlPtr
import Derived.Test.YtananonjomfpkaaProg
import Derived.Test.YtananonjomfpkaaQb0
import Derived.Test.YtananonjomfpkaaQb1

/- Maps whose keys are pointers: what the operations on them do, in any program. -/
namespace Go.Proofs.Ytananonjomfpkaa
open Go.RowKit

def PAddr (w : World) (a : Addr) : Prop := ∃ (c : Array Value) (t : TypeId), w.heap[a.block]? = some (.cells c t (0, 0))

def mkEntry (x : Addr × Value × Nat) : MapEntry := { key := .pointer (some x.1), val := x.2.1, born := x.2.2 }

def pfind (q : Addr) : List (Addr × Value × Nat) → Nat → Option (Nat × Value)
  | [], _ => none
  | e :: es, i => if q = e.1 then some (i, e.2.1) else pfind q es (i + 1)

section
variable {P : Program} {T K E V : TypeId} {j : TypeInfo}

def PMapIs (w : World) (b : Nat) (L : List (Addr × Value × Nat)) (clock : Nat) : Prop := w.heap[b]? = some (.map (L.map mkEntry).toArray clock)

end
end Go.Proofs.Ytananonjomfpkaa

/- Trees in memory by the blocks that they lie in: a footprint. -/
namespace Go.Proofs.Ytananonjomfpkaa
open Go.RowKit

def IntsP (w : World) (P : Nat → Prop) (v : Value) (ks : List Int) : Prop :=
  ∃ (a : Option Addr) (cap : Nat), v = .slice a ks.length cap ∧ ks.length ≤ cap ∧ cap ≤ maxLen ∧ (a = none → cap = 0) ∧
    (ks = [] ∨ ∃ b o, a = some ⟨b, o, none⟩ ∧ P b ∧ ∀ i, i < ks.length → w.cell? ⟨b, o + i, none⟩ = some (.int .i64 (ks.getD i 0)))

def KidsP (w : World) (P : Nat → Prop) (a : Option Addr) (n : Nat) (kvs cvs : Nat → Value) : Prop :=
  n = 0 ∨ ∃ b o, a = some ⟨b, o, none⟩ ∧ P b ∧ ∀ i, i < n →
    w.cell? ⟨b, o + i * 2, none⟩ = some (kvs i) ∧ w.cell? ⟨b, o + i * 2 + 1, none⟩ = some (cvs i)

inductive TreeP (w : World) (P : Nat → Prop) : Value → Value → Tr → Prop where
  | mk (ks : List Int) (cs : List Tr) (kv : Value) (a : Option Addr) (cap : Nat) (kvs cvs : Nat → Value)
      (hk : IntsP w P kv ks) (hlen : cs.length ≤ cap) (hcap : cap ≤ maxLen) (hat : KidsP w P a cs.length kvs cvs)
      (hkids : ∀ i (h : i < cs.length), TreeP w P (kvs i) (cvs i) cs[i]) :
      TreeP w P kv (.slice a cs.length cap) (.mk ks cs)

theorem cellP {w w' : World} {b o : Nat} (h : w'.heap[b]? = w.heap[b]?) : w'.cell? ⟨b, o, none⟩ = w.cell? ⟨b, o, none⟩ := World.cell?_of_block (w := w) (a := ⟨b, o, none⟩) h

theorem IntsP.same {w w' : World} {P Q : Nat → Prop} {v : Value} {ks : List Int} (h : IntsP w P v ks) (hb : ∀ k, P k → w'.heap[k]? = w.heap[k]?) (hq : ∀ k, P k → Q k) : IntsP w' Q v ks := by
  obtain ⟨a, cap, hv, h1, h2, hnl, h3⟩ := h
  refine ⟨a, cap, hv, h1, h2, hnl, ?_⟩
  rcases h3 with h3 | ⟨b, o, h3, h4, h5⟩
  · exact .inl h3
  · exact .inr ⟨b, o, h3, hq b h4, fun i hi => by rw [cellP (hb b h4)]; exact h5 i hi⟩

theorem TreeP.tree {w : World} {B : Nat} {P : Nat → Prop} {kv cv : Value} {t : Tr} (h : TreeP w P kv cv t) (hq : ∀ k, P k → k < B) : TreeIn w B kv cv t := by
  induction h with
  | mk ks cs kv a cap kvs cvs hk hlen hcap hat hkids ih =>
    refine TreeIn.mk ks cs kv a cap kvs cvs ?_ hlen hcap ?_ ih
    · obtain ⟨a, cap, hv, h1, h2, hnl, h3⟩ := hk
      refine ⟨a, cap, hv, h1, h2, hnl, ?_⟩
      rcases h3 with h3 | ⟨b, o, h3, h4, h5⟩
      · exact .inl h3
      · exact .inr ⟨b, o, h3, hq b h4, h5⟩
    · rcases hat with h3 | ⟨b, o, h3, h4, h5⟩
      · exact .inl h3
      · exact .inr ⟨b, o, h3, hq b h4, h5⟩

theorem TreeP.slices {w : World} {P : Nat → Prop} {kv cv : Value} {t : Tr} (h : TreeP w P kv cv t) : ∃ a n c a' n' c', kv = .slice a n c ∧ cv = .slice a' n' c' := by
  cases h with
  | mk ks cs kv a cap kvs cvs hk hlen hcap hat hkids =>
    obtain ⟨ka, kcap, rfl, _⟩ := hk
    exact ⟨_, _, _, _, _, _, rfl, rfl⟩

theorem IntsOwn.p {w : World} {lo : Nat} {v : Value} {ks : List Int} (h : IntsOwn w lo v ks) : IntsP w (fun k => lo ≤ k ∧ k < w.heap.size) v ks := by
  obtain ⟨a, cap, hv, h1, h2, h3, h4⟩ := IntsOwn.in h
  refine ⟨a, cap, hv, h1, h2, h3, ?_⟩
  rcases h4 with h4 | ⟨b, o, h5, h6, h7⟩
  · exact .inl h4
  · refine .inr ⟨b, o, h5, ⟨?_, h6⟩, h7⟩
    obtain ⟨_, ⟨e1, _⟩ | ⟨g, c, cur, e1, e2, _⟩⟩ := h
    · rw [e1, h5] at hv; cases hv
    · rw [e1] at hv
      simp only [Value.slice.injEq] at hv
      rw [h5] at hv
      simp only [Option.some.injEq, Addr.mk.injEq, and_true] at hv
      obtain ⟨⟨rfl, _⟩, _⟩ := hv
      exact e2

theorem IntsOwn.keep {w w' : World} {lo : Nat} {v : Value} {ks : List Int} (h : IntsOwn w lo v ks) (hb : ∀ k, lo ≤ k → k < w.heap.size → w'.heap[k]? = w.heap[k]?) : IntsOwn w' lo v ks := by
  obtain ⟨h1, h2 | ⟨g, cap, cur, hv, hbb, hg, hr⟩⟩ := h
  · exact ⟨h1, .inl h2⟩
  · exact ⟨h1, .inr ⟨g, cap, cur, hv, hbb, (hb g hbb (Array.getElem?_eq_some_iff.1 hg).1).trans hg, hr⟩⟩

def Plain (w : World) (k : Nat) : Prop := ∃ (c : Array Value) (t : TypeId), w.heap[k]? = some (.cells c t (0, 0))
theorem Plain.kept {w w' : World} {k : Nat} (h : Plain w k) (hb : w'.heap[k]? = w.heap[k]?) : Plain w' k := by
  obtain ⟨c, t, h⟩ := h
  exact ⟨c, t, hb.trans h⟩

def KidsQ (w : World) (P : Nat → Prop) (a : Option Addr) (n : Nat) (kvs cvs : Nat → Value) : Prop :=
  n = 0 ∨ ∃ b o, a = some ⟨b, o, none⟩ ∧ (P b ∧ Plain w b) ∧ ∀ i, i < n →
    w.cell? ⟨b, o + i * 2, none⟩ = some (kvs i) ∧ w.cell? ⟨b, o + i * 2 + 1, none⟩ = some (cvs i)

inductive TreeQ (w : World) (P : Nat → Prop) : Value → Value → Tr → Prop where
  | mk (ks : List Int) (cs : List Tr) (kv : Value) (a : Option Addr) (cap : Nat) (kvs cvs : Nat → Value)
      (hk : IntsP w P kv ks) (hlen : cs.length ≤ cap) (hcap : cap ≤ maxLen) (hat : KidsQ w P a cs.length kvs cvs)
      (hkids : ∀ i (h : i < cs.length), TreeQ w P (kvs i) (cvs i) cs[i]) :
      TreeQ w P kv (.slice a cs.length cap) (.mk ks cs)

theorem KidsQ.same {w w' : World} {P Q : Nat → Prop} {a : Option Addr} {n : Nat} {kvs cvs : Nat → Value} (h : KidsQ w P a n kvs cvs) (hb : ∀ k, P k → w'.heap[k]? = w.heap[k]?) (hq : ∀ k, P k → Q k) : KidsQ w' Q a n kvs cvs := by
  rcases h with h3 | ⟨b, o, h3, h4, h5⟩
  · exact .inl h3
  · exact .inr ⟨b, o, h3, ⟨hq b h4.1, h4.2.kept (hb b h4.1)⟩, fun i hi => ⟨by rw [cellP (hb b h4.1)]; exact (h5 i hi).1, by rw [cellP (hb b h4.1)]; exact (h5 i hi).2⟩⟩

theorem TreeQ.same {w w' : World} {P Q : Nat → Prop} {kv cv : Value} {t : Tr} (h : TreeQ w P kv cv t) (hb : ∀ k, P k → w'.heap[k]? = w.heap[k]?) (hq : ∀ k, P k → Q k) : TreeQ w' Q kv cv t := by
  induction h with
  | mk ks cs kv a cap kvs cvs hk hlen hcap hat hkids ih => exact TreeQ.mk ks cs kv a cap kvs cvs (hk.same hb hq) hlen hcap (hat.same hb hq) ih

theorem TreeQ.p {w : World} {P : Nat → Prop} {kv cv : Value} {t : Tr} (h : TreeQ w P kv cv t) : TreeP w P kv cv t := by
  induction h with
  | mk ks cs kv a cap kvs cvs hk hlen hcap hat hkids ih =>
    refine TreeP.mk ks cs kv a cap kvs cvs hk hlen hcap ?_ ih
    rcases hat with h3 | ⟨b, o, h3, h4, h5⟩
    · exact .inl h3
    · exact .inr ⟨b, o, h3, h4.1, h5⟩

theorem TreeQ.tree {w : World} {B : Nat} {P : Nat → Prop} {kv cv : Value} {t : Tr} (h : TreeQ w P kv cv t) (hq : ∀ k, P k → k < B) : TreeIn w B kv cv t := h.p.tree hq

theorem TreeQ.slices {w : World} {P : Nat → Prop} {kv cv : Value} {t : Tr} (h : TreeQ w P kv cv t) : ∃ a n c a' n' c', kv = .slice a n c ∧ cv = .slice a' n' c' := h.p.slices
end Go.Proofs.Ytananonjomfpkaa

/- A tree in memory with the addresses of its nodes; what one comes by on the way through it. -/
namespace Go.Proofs.Ytananonjomfpkaa
open Go.RowKit

inductive ATr where
  | mk (nb no : Nat) (ks : List Int) (cs : List ATr)

namespace ATr
def nb : ATr → Nat | .mk a _ _ _ => a
def no : ATr → Nat | .mk _ a _ _ => a
def ks : ATr → List Int | .mk _ _ k _ => k
def cs : ATr → List ATr | .mk _ _ _ c => c
def addr (a : ATr) : Addr := ⟨a.nb, a.no, none⟩
mutual
def tr : ATr → Tr
  | .mk _ _ k c => .mk k (trs c)
def trs : List ATr → List Tr
  | [] => []
  | a :: r => tr a :: trs r
end
def weight (a : ATr) : Nat := a.tr.weight
end ATr

inductive AT (w : World) : ATr → Prop where
  | mk (nb no : Nat) (ks : List Int) (cs : List ATr) (ka ha : Option Addr) (kc hc g go h ho : Nat)
      (hp : PAddr w ⟨nb, no, none⟩)
      (h0 : w.cell? ⟨nb, no, none⟩ = some (.slice ka ks.length kc))
      (h1 : w.cell? ⟨nb, no + 1, none⟩ = some (.slice ha cs.length hc))
      (hk : ∀ i, i < ks.length → w.cell? ⟨g, go + i, none⟩ = some (.int .i64 (ks.getD i 0)))
      (hn : ∀ i (hi : i < cs.length), cs[i].nb = h ∧ cs[i].no = ho + i * 2)
      (hkids : ∀ i (hi : i < cs.length), AT w cs[i])
      (e0 : ks.length = 0 ∨ ka = some ⟨g, go, none⟩) (e1 : cs.length = 0 ∨ ha = some ⟨h, ho, none⟩) : AT w (.mk nb no ks cs)

def TreeA (w : World) (kv cv : Value) (t : Tr) : Prop := TreeQ w (fun k => k < w.heap.size) kv cv t
theorem TreeQ.a {w : World} {P : Nat → Prop} {kv cv : Value} {t : Tr} (h : TreeQ w P kv cv t) (hP : ∀ k, P k → k < w.heap.size) : TreeA w kv cv t := h.same (fun _ _ => rfl) hP
theorem TreeA.later {w w' : World} {C : Nat} {kv cv : Value} {t : Tr} (h : TreeA w kv cv t) (hb : Below C w w') (hC : w.heap.size ≤ C) : TreeA w' kv cv t :=
  TreeQ.same h (fun k e => hb.block k (by have : k < w.heap.size := e; omega)) (fun k e => Nat.lt_of_lt_of_le e hb.size)
theorem TreeA.tree {w : World} {kv cv : Value} {t : Tr} (h : TreeA w kv cv t) : TreeIn w w.heap.size kv cv t := TreeQ.tree h (fun _ e => e)
end Go.Proofs.Ytananonjomfpkaa
