/- Trees by footprint and rows of trees. -/
import Derived.Test.YthiohdbcclbgkaaProg
import Derived.Test.YthiohdbcclbgkaaBase
import Derived.Test.YthiohdbcclbgkaaApp
import Derived.Test.YthiohdbcclbgkaaTreeP
import Derived.Test.YthiohdbcclbgkaaTreesApp
namespace Go.Proofs.Ythiohdbcclbgkaa
open Go.RowKit

theorem TreeP.parts {w : World} {P : Nat → Prop} {kv cv : Value} {ks : List Int} {cs : List Tr} (h : TreeP w P kv cv (.mk ks cs)) :
    ∃ (a : Option Addr) (cap : Nat) (kvs cvs : Nat → Value), cv = .slice a cs.length cap ∧ IntsP w P kv ks ∧ cs.length ≤ cap ∧ cap ≤ maxLen ∧ KidsP w P a cs.length kvs cvs ∧ ∀ i (h : i < cs.length), TreeP w P (kvs i) (cvs i) cs[i] := by
  cases h with
  | mk _ _ _ a cap kvs cvs hk hlen hcap hat hkids => exact ⟨a, cap, kvs, cvs, rfl, hk, hlen, hcap, hat, hkids⟩
theorem IntsP.in {w : World} {P : Nat → Prop} {B : Nat} {v : Value} {ks : List Int} (h : IntsP w P v ks) (hq : ∀ k, P k → k < B) : IntsIn w B v ks := by
  obtain ⟨a, cap, hv, h1, h2, hnl, h3⟩ := h
  refine ⟨a, cap, hv, h1, h2, hnl, ?_⟩
  rcases h3 with h3 | ⟨b, o, h3, h4, h5⟩
  · exact .inl h3
  · exact .inr ⟨b, o, h3, hq b h4, h5⟩
theorem KidsP.in {w : World} {P : Nat → Prop} {B n : Nat} {a : Option Addr} {kvs cvs : Nat → Value} (h : KidsP w P a n kvs cvs) (hq : ∀ k, P k → k < B) : KidsIn w B a n kvs cvs := by
  rcases h with h3 | ⟨b, o, h3, h4, h5⟩
  · exact .inl h3
  · exact .inr ⟨b, o, h3, hq b h4, h5⟩
theorem treeP_row {W : World} {Q : Nat → Prop} {lo n cp : Nat} {kv : Value} {ks : List Int} {a : Option Addr} {L : List (Value × Value)} {cs : List Tr} (hk : IntsP W Q kv ks) (hrow : TreesOwn W lo (.slice a n cp) L) (hq : ∀ q, lo ≤ q → q < W.heap.size → Q q) (hl : L.length = cs.length)
    (hkids : ∀ i (h : i < cs.length), TreeP W Q (L.getD i (undef, undef)).1 (L.getD i (undef, undef)).2 cs[i]) : TreeP W Q kv (.slice a n cp) (.mk ks cs) := by
  have hlt := hrow.lt
  obtain ⟨a', cap, e, h1, h2, hat⟩ := TreesOwn.kids hrow
  simp only [Value.slice.injEq] at e
  obtain ⟨rfl, rfl, rfl⟩ := e
  rw [hl] at h1 hat hlt ⊢
  refine .mk ks cs kv a cp _ _ hk h1 h2 ?_ hkids
  rcases hat with h | ⟨b, o, rfl, hb, hc⟩
  · exact .inl h
  · have := hlt b rfl
    exact .inr ⟨b, o, rfl, hq b this.1 this.2, hc⟩

theorem IntsP.leaf {W : World} {Q : Nat → Prop} {a : Option Addr} {n c g : Nat} {ks : List Int} (h : IntsP W Q (.slice a n c) ks) : TreeP W Q (.slice a n c) (.slice (some ⟨g, 0, none⟩) 0 0) (.mk ks []) :=
  TreeP.mk ks [] _ (some ⟨g, 0, none⟩) 0 (fun _ => undef) (fun _ => undef) h (Nat.le_refl _) (by unfold maxLen; omega) (.inl rfl) (fun i hi => by simp at hi)

theorem KidsQ.p {w : World} {P : Nat → Prop} {a : Option Addr} {n : Nat} {kvs cvs : Nat → Value} (h : KidsQ w P a n kvs cvs) : KidsP w P a n kvs cvs := by
  rcases h with h3 | ⟨b, o, h3, h4, h5⟩
  · exact .inl h3
  · exact .inr ⟨b, o, h3, h4.1, h5⟩
theorem TreeQ.parts {w : World} {P : Nat → Prop} {kv cv : Value} {ks : List Int} {cs : List Tr} (h : TreeQ w P kv cv (.mk ks cs)) :
    ∃ (a : Option Addr) (cap : Nat) (kvs cvs : Nat → Value), cv = .slice a cs.length cap ∧ IntsP w P kv ks ∧ cs.length ≤ cap ∧ cap ≤ maxLen ∧ KidsQ w P a cs.length kvs cvs ∧ ∀ i (h : i < cs.length), TreeQ w P (kvs i) (cvs i) cs[i] := by
  cases h with
  | mk _ _ _ a cap kvs cvs hk hlen hcap hat hkids => exact ⟨a, cap, kvs, cvs, rfl, hk, hlen, hcap, hat, hkids⟩
theorem treeQ_row {W : World} {Q : Nat → Prop} {lo n cp : Nat} {kv : Value} {ks : List Int} {a : Option Addr} {L : List (Value × Value)} {cs : List Tr} (hk : IntsP W Q kv ks) (hrow : TreesOwn W lo (.slice a n cp) L) (hq : ∀ q, lo ≤ q → q < W.heap.size → Q q) (hl : L.length = cs.length)
    (hkids : ∀ i (h : i < cs.length), TreeQ W Q (L.getD i (undef, undef)).1 (L.getD i (undef, undef)).2 cs[i]) : TreeQ W Q kv (.slice a n cp) (.mk ks cs) := by
  have hlt := hrow.lt
  obtain ⟨a', cap, e, h1, h2, hat⟩ := TreesOwn.kids hrow
  have hpl : ∀ b, Value.ownBlock (.slice a n cp) = some b → Plain W b := fun b hb => by
    obtain ⟨_, ⟨h3, _⟩ | ⟨g, cap, cur, hv, _, hg, _⟩⟩ := hrow
    · rw [h3] at hb; cases hb
    · rw [hv] at hb; cases hb; exact ⟨cur, _, hg⟩
  simp only [Value.slice.injEq] at e
  obtain ⟨rfl, rfl, rfl⟩ := e
  rw [hl] at h1 hat hlt hpl ⊢
  refine .mk ks cs kv a cp _ _ hk h1 h2 ?_ hkids
  rcases hat with h | ⟨b, o, rfl, hb, hc⟩
  · exact .inl h
  · have := hlt b rfl
    exact .inr ⟨b, o, rfl, ⟨hq b this.1 this.2, hpl b rfl⟩, hc⟩
theorem IntsP.leafQ {W : World} {Q : Nat → Prop} {a : Option Addr} {n c g : Nat} {ks : List Int} (h : IntsP W Q (.slice a n c) ks) : TreeQ W Q (.slice a n c) (.slice (some ⟨g, 0, none⟩) 0 0) (.mk ks []) :=
  TreeQ.mk ks [] _ (some ⟨g, 0, none⟩) 0 (fun _ => undef) (fun _ => undef) h (Nat.le_refl _) (by unfold maxLen; omega) (.inl rfl) (fun i hi => by simp at hi)
end Go.Proofs.Ythiohdbcclbgkaa
