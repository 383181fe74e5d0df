/- The contract of splitKid. -/
import Derived.BigRegion
import Derived.Test.YtananonjomfpkaaQc17
import Derived.Deep.DeepCutAuto
/- The contract of halves. -/
namespace Go.Proofs.Ytananonjomfpkaa
open Go.RowKit
structure Sep (b : Nat) (Fk Fc : Cells) (kids : List KidD) : Prop where
 bk : Apart (boxOf b) Fk
 bc : Apart (boxOf b) Fc
 bs : ∀ y, y ∈ kids → Apart (boxOf b) y.F
 kc : Apart Fk Fc
 ks : ∀ y, y ∈ kids → Apart Fk y.F
 cs : ∀ y, y ∈ kids → Apart Fc y.F
 ss : kids.Pairwise (fun y z => Apart y.F z.F)
theorem sep_iff {b : Nat} {Fk Fc : Cells} {kids : List KidD} : (boxOf b :: Fk :: Fc :: kids.map KidD.F).Pairwise Apart ↔ Sep b Fk Fc kids := by
 constructor
 · intro h
   simp only [List.pairwise_cons, List.mem_cons, List.mem_map, List.pairwise_map] at h
   obtain ⟨h1, h2, h3, h4⟩ := h
   exact ⟨h1 _ (.inl rfl), h1 _ (.inr (.inl rfl)), fun y hy => h1 _ (.inr (.inr ⟨y, hy, rfl⟩)), h2 _ (.inl rfl), fun y hy => h2 _ (.inr ⟨y, hy, rfl⟩), fun y hy => h3 _ ⟨y, hy, rfl⟩, h4⟩
 · intro h
   simp only [List.pairwise_cons, List.mem_cons, List.mem_map, List.pairwise_map]
   refine ⟨?_, ?_, ?_, h.ss⟩
   · rintro G (rfl | rfl | ⟨y, hy, rfl⟩)
     · exact h.bk
     · exact h.bc
     · exact h.bs y hy
   · rintro G (rfl | ⟨y, hy, rfl⟩)
     · exact h.kc
     · exact h.ks y hy
   · rintro G ⟨y, hy, rfl⟩
     exact h.cs y hy
def allOf (b : Nat) (Fk Fc : Cells) (kids : List KidD) : Cells := fun x o => x = b ∨ Fk x o ∨ Fc x o ∨ ∃ y, y ∈ kids ∧ y.F x o
theorem Nd.intro {w : World} {b : Nat} {Fk Fc : Cells} {ks : List Int} {kids : List KidD} {kv cv : Value} (hbox : w.heap[b]? = some (.cells #[kv, cv] 99 (0, 0)))
   (hk : RowF w Fk kv (ks.map (Value.int .i64))) (hc : RowF w Fc cv (kids.map KidD.ptr)) (hkids : ∀ x, x ∈ kids → Nd w x.F x.p x.t) (hs : Sep b Fk Fc kids) : Nd w (allOf b Fk Fc kids) b (.mk ks (kids.map KidD.t)) :=
 .mk ks kids _ Fk Fc b kv cv hbox hk hc hkids (fun o => .inl rfl) (fun x o h => .inr (.inl h)) (fun x o h => .inr (.inr (.inl h))) (fun y hy x o h => .inr (.inr (.inr ⟨y, hy, h⟩))) (sep_iff.2 hs)
   (fun x o h => by
     rcases h with rfl | h | h | ⟨y, hy, h⟩
     · exact (Array.getElem?_eq_some_iff.1 hbox).1
     · exact hk.1 _ _ h
     · exact hc.1 _ _ h
     · have := hkids y hy
       cases hyt : y.t with
       | mk a c =>
         rw [hyt] at this
         exact this.parts.choose_spec.choose_spec.choose_spec.choose_spec.choose_spec.2.2.2.2.2.2.2.2.2.2 _ _ h)
theorem Nd.lt {w : World} {F : Cells} {b : Nat} {t : Tr} (h : Nd w F b t) : ∀ x o, F x o → x < w.heap.size := by
 cases h with
 | mk ks kids F Fk Fc b kv cv hbox hkr hc hkids sb sk sc ss ap lt => exact lt
def Halved (w : World) (F : Cells) (t : Tr) (e : Ending) (w' : World) : Prop :=
 ∃ (pl pr : Nat) (FL FR : Cells), e = .returned (.tuple #[.pointer (some ⟨pl, 0, none⟩), .pointer (some ⟨pr, 0, none⟩)]) ∧
     Nd w' FL pl t.leftOf ∧ Nd w' FR pr t.rightOf ∧ Apart FL FR ∧ (∀ x o, FL x o → F x o ∨ w.heap.size ≤ x) ∧ (∀ x o, FR x o → F x o ∨ w.heap.size ≤ x) ∧ Below w.heap.size w w'
end Go.Proofs.Ytananonjomfpkaa
/- The contract of splitKid. -/
namespace Go.Proofs.Ytananonjomfpkaa
open Go.RowKit
theorem KeptF.block' {F : Cells} {w w' : World} (h : KeptF F w w') {b : Nat} {o : Obj} (hb : w.heap[b]? = some o) (hn : ∀ q, ¬ F b q) : w'.heap[b]? = some o :=
 (h.block b (Array.getElem?_eq_some_iff.1 hb).1 hn).trans hb
def Worked (w : World) (F : Cells) (b : Nat) (t : Tr) (e : Ending) (w' : World) : Prop :=
 ∃ F', e = .returned (.tuple #[]) ∧ Nd w' F' b t ∧ (∀ x o, F' x o → F x o ∨ w.heap.size ≤ x) ∧ KeptF F w w'
end Go.Proofs.Ytananonjomfpkaa
