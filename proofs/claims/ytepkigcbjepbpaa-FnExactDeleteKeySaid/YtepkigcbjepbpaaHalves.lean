/- The contract of halves. -/
import Derived.Test.YtepkigcbjepbpaaProg
import Derived.Test.YtepkigcbjepbpaaDk0
import Derived.Test.YtepkigcbjepbpaaDk9
import Derived.Deep.Cut
import Derived.BigRegion
namespace Go.Proofs.Ytepkigcbjepbpaa
open Go.RowKit

/-- A part of a row. -/
theorem RowF.part {w : World} {F : Cells} {b o n cap : Nat} {xs : List Value} (h : RowF w F (.slice (some ⟨b, o, none⟩) n cap) xs) (hp : 0 < cap) (lo hi top : Nat) (h1 : lo ≤ hi) (h2 : hi ≤ xs.length) (h3 : hi ≤ top) (h4 : top ≤ cap) :
    RowF w (fun x q => x = b ∧ o + lo ≤ q ∧ q < o + top) (.slice (some ⟨b, o + lo, none⟩) (hi - lo) (top - lo)) ((xs.drop lo).take (hi - lo)) := by
  obtain ⟨rfl, g1, g2, g3, g4⟩ := h.cells_of hp
  have hl : ((xs.drop lo).take (hi - lo)).length = hi - lo := by simp; omega
  have := RowF.intro (w := w) (F := fun x q => x = b ∧ o + lo ≤ q ∧ q < o + top) (b := b) (o := o + lo) (cap := top - lo) (xs := (xs.drop lo).take (hi - lo)) (fun x q h => by rw [h.1]; exact lt_of_there (o := o + 0) (g3 0 (by omega)).2.1) (by omega) (by omega) (fun i hi' => ?_) (fun i hi' => ?_)
  · rwa [hl] at this
  · have := g3 (lo + i) (by omega)
    rw [← Nat.add_assoc] at this
    exact ⟨⟨rfl, by omega, by omega⟩, this.2⟩
  · have := g4 (lo + i) (by omega)
    rw [← Nat.add_assoc] at this
    rw [this]
    simp
theorem RowF.cellsF {w : World} {F : Cells} {b o n cap : Nat} {xs : List Value} (h : RowF w F (.slice (some ⟨b, o, none⟩) n cap) xs) (hp : 0 < cap) : ∀ q, o ≤ q → q < o + cap → F b q := fun q h1 h2 => by
  obtain ⟨_, _, _, g3, _⟩ := h.cells_of hp
  have := (g3 (q - o) (by omega)).1
  rwa [show o + (q - o) = q by omega] at this

/-- What lies apart in a node, one by one. -/
structure Sep (b : Nat) (Fk Fc : Cells) (kids : List KidD) : Prop where
  bk : Apart (boxOf b) Fk
  bc : Apart (boxOf b) Fc
  bs : ∀ y, y ∈ kids → Apart (boxOf b) y.F
  kc : Apart Fk Fc
  ks : ∀ y, y ∈ kids → Apart Fk y.F
  cs : ∀ y, y ∈ kids → Apart Fc y.F
  ss : kids.Pairwise (fun y z => Apart y.F z.F)
theorem sep_iff {b : Nat} {Fk Fc : Cells} {kids : List KidD} : (boxOf b :: Fk :: Fc :: kids.map KidD.F).Pairwise Apart ↔ Sep b Fk Fc kids := by
  constructor
  · intro h
    simp only [List.pairwise_cons, List.mem_cons, List.mem_map, List.pairwise_map] at h
    obtain ⟨h1, h2, h3, h4⟩ := h
    exact ⟨h1 _ (.inl rfl), h1 _ (.inr (.inl rfl)), fun y hy => h1 _ (.inr (.inr ⟨y, hy, rfl⟩)), h2 _ (.inl rfl), fun y hy => h2 _ (.inr ⟨y, hy, rfl⟩), fun y hy => h3 _ ⟨y, hy, rfl⟩, h4⟩
  · intro h
    simp only [List.pairwise_cons, List.mem_cons, List.mem_map, List.pairwise_map]
    refine ⟨?_, ?_, ?_, h.ss⟩
    · rintro G (rfl | rfl | ⟨y, hy, rfl⟩)
      · exact h.bk
      · exact h.bc
      · exact h.bs y hy
    · rintro G (rfl | ⟨y, hy, rfl⟩)
      · exact h.kc
      · exact h.ks y hy
    · rintro G ⟨y, hy, rfl⟩
      exact h.cs y hy

/-- All the cells of a node. -/
def allOf (b : Nat) (Fk Fc : Cells) (kids : List KidD) : Cells := fun x o => x = b ∨ Fk x o ∨ Fc x o ∨ ∃ y, y ∈ kids ∧ y.F x o

theorem Nd.intro {w : World} {b : Nat} {Fk Fc : Cells} {ks : List Int} {kids : List KidD} {kv cv : Value} (hbox : w.heap[b]? = some (.cells #[kv, cv] 93 (0, 0)))
    (hk : RowF w Fk kv (ks.map (Value.int .i64))) (hc : RowF w Fc cv (kids.map KidD.ptr)) (hkids : ∀ x, x ∈ kids → Nd w x.F x.p x.t) (hs : Sep b Fk Fc kids) : Nd w (allOf b Fk Fc kids) b (.mk ks (kids.map KidD.t)) :=
  .mk ks kids _ Fk Fc b kv cv hbox hk hc hkids (fun o => .inl rfl) (fun x o h => .inr (.inl h)) (fun x o h => .inr (.inr (.inl h))) (fun y hy x o h => .inr (.inr (.inr ⟨y, hy, h⟩))) (sep_iff.2 hs)
    (fun x o h => by
      rcases h with rfl | h | h | ⟨y, hy, h⟩
      · exact (Array.getElem?_eq_some_iff.1 hbox).1
      · exact hk.1 _ _ h
      · exact hc.1 _ _ h
      · have := hkids y hy
        cases hyt : y.t with
        | mk a c =>
          rw [hyt] at this
          exact this.parts.choose_spec.choose_spec.choose_spec.choose_spec.choose_spec.2.2.2.2.2.2.2.2.2.2 _ _ h)
theorem Nd.lt {w : World} {F : Cells} {b : Nat} {t : Tr} (h : Nd w F b t) : ∀ x o, F x o → x < w.heap.size := by
  cases h with
  | mk ks kids F Fk Fc b kv cv hbox hkr hc hkids sb sk sc ss ap lt => exact lt

/-- The two halves of a node, as they lie. -/
theorem halved_nd {w w' : World} {b m pl pr : Nat} {F Fk Fc FkL FkR FcL FcR : Cells} {k : List Int} {kids : List KidD} {kvL kvR cvL cvR : Value}
    (hlt : ∀ x o, F x o → x < w.heap.size) (sk : ∀ x o, Fk x o → F x o) (sc : ∀ x o, Fc x o → F x o) (ss : ∀ y, y ∈ kids → ∀ x o, y.F x o → F x o) (hs : Sep b Fk Fc kids)
    (hkids : ∀ x, x ∈ kids → Nd w x.F x.p x.t) (hb : Below w.heap.size w w') (hm : m = k.length / 2) (hpl : w.heap.size ≤ pl) (hpr : w.heap.size ≤ pr) (hne : pl ≠ pr)
    (bl : w'.heap[pl]? = some (.cells #[kvL, cvL] 93 (0, 0))) (br : w'.heap[pr]? = some (.cells #[kvR, cvR] 93 (0, 0)))
    (rkL : RowF w' FkL kvL ((k.take m).map (Value.int .i64))) (rkR : RowF w' FkR kvR ((k.drop (m + 1)).map (Value.int .i64)))
    (rcL : RowF w' FcL cvL ((kids.take (m + 1)).map KidD.ptr)) (rcR : RowF w' FcR cvR ((kids.drop (m + 1)).map KidD.ptr))
    (skL : ∀ x o, FkL x o → Fk x o) (skR : ∀ x o, FkR x o → Fk x o) (scL : ∀ x o, FcL x o → Fc x o) (scR : ∀ x o, FcR x o → Fc x o) (hkk : Apart FkL FkR) (hcc : Apart FcL FcR) :
    ∃ FL FR, Nd w' FL pl (Tr.mk k (kids.map KidD.t)).leftOf ∧ Nd w' FR pr (Tr.mk k (kids.map KidD.t)).rightOf ∧ Apart FL FR ∧ (∀ x o, FL x o → F x o ∨ w.heap.size ≤ x) ∧ (∀ x o, FR x o → F x o ∨ w.heap.size ≤ x) := by
  have hkp : KeptF (fun _ _ => False) w w' := KeptF.of_below hb (Nat.le_refl _)
  have hkids' : ∀ x, x ∈ kids → Nd w' x.F x.p x.t := fun x hx => (hkids x hx).keep hkp (fun _ _ _ h => h)
  have hpw := hs.ss
  rw [← List.take_append_drop (m + 1) kids, List.pairwise_append] at hpw
  have mt : ∀ {y}, y ∈ kids.take (m + 1) → y ∈ kids := fun h => List.mem_of_mem_take h
  have md : ∀ {y}, y ∈ kids.drop (m + 1) → y ∈ kids := fun h => List.mem_of_mem_drop h
  have fresh : ∀ {p : Nat} {G : Cells}, w.heap.size ≤ p → (∀ x o, G x o → F x o) → Apart (boxOf p) G := fun hp hG x o h g => by
    have h' : x = _ := h
    have := hlt _ _ (hG _ _ g)
    omega
  refine ⟨allOf pl FkL FcL (kids.take (m + 1)), allOf pr FkR FcR (kids.drop (m + 1)), ?_, ?_, ?_, ?_, ?_⟩
  · have e : (Tr.mk k (kids.map KidD.t)).leftOf = .mk (k.take m) ((kids.take (m + 1)).map KidD.t) := by rw [Tr.leftOf, ← hm, List.map_take]
    rw [e]
    exact Nd.intro bl rkL rcL (fun x hx => hkids' x (mt hx)) ⟨fresh hpl (fun x o h => sk _ _ (skL _ _ h)), fresh hpl (fun x o h => sc _ _ (scL _ _ h)), fun y hy => fresh hpl (ss y (mt hy)), hs.kc.mono skL scL, fun y hy => (hs.ks y (mt hy)).mono skL (fun _ _ h => h), fun y hy => (hs.cs y (mt hy)).mono scL (fun _ _ h => h), hpw.1⟩
  · have e : (Tr.mk k (kids.map KidD.t)).rightOf = .mk (k.drop (m + 1)) ((kids.drop (m + 1)).map KidD.t) := by rw [Tr.rightOf, ← hm, List.map_drop]
    rw [e]
    exact Nd.intro br rkR rcR (fun x hx => hkids' x (md hx)) ⟨fresh hpr (fun x o h => sk _ _ (skR _ _ h)), fresh hpr (fun x o h => sc _ _ (scR _ _ h)), fun y hy => fresh hpr (ss y (md hy)), hs.kc.mono skR scR, fun y hy => (hs.ks y (md hy)).mono skR (fun _ _ h => h), fun y hy => (hs.cs y (md hy)).mono scR (fun _ _ h => h), hpw.2.1⟩
  · rintro x o (h | h | h | ⟨y, hy, h⟩) (g | g | g | ⟨z, hz, g⟩)
    · omega
    · have := hlt _ _ (sk _ _ (skR _ _ g)); omega
    · have := hlt _ _ (sc _ _ (scR _ _ g)); omega
    · have := hlt _ _ (ss z (md hz) _ _ g); omega
    · have := hlt _ _ (sk _ _ (skL _ _ h)); omega
    · exact hkk _ _ h g
    · exact hs.kc _ _ (skL _ _ h) (scR _ _ g)
    · exact hs.ks z (md hz) _ _ (skL _ _ h) g
    · have := hlt _ _ (sc _ _ (scL _ _ h)); omega
    · exact hs.kc _ _ (skR _ _ g) (scL _ _ h)
    · exact hcc _ _ h g
    · exact hs.cs z (md hz) _ _ (scL _ _ h) g
    · have := hlt _ _ (ss y (mt hy) _ _ h); omega
    · exact hs.ks y (mt hy) _ _ (skR _ _ g) h
    · exact hs.cs y (mt hy) _ _ (scR _ _ g) h
    · exact hpw.2.2 y hy z hz _ _ h g
  · rintro x o (h | h | h | ⟨y, hy, h⟩)
    · exact .inr (by omega)
    · exact .inl (sk _ _ (skL _ _ h))
    · exact .inl (sc _ _ (scL _ _ h))
    · exact .inl (ss y (mt hy) _ _ h)
  · rintro x o (h | h | h | ⟨y, hy, h⟩)
    · exact .inr (by omega)
    · exact .inl (sk _ _ (skR _ _ h))
    · exact .inl (sc _ _ (scR _ _ h))
    · exact .inl (ss y (md hy) _ _ h)

theorem RowF.nil (w : World) : RowF w (fun _ _ => False) (.slice none 0 0) [] := ⟨fun _ _ h => h.elim, none, 0, rfl, Nat.le_refl _, by unfold maxLen; omega, fun _ => rfl, .inl rfl⟩

/-- What halves leaves. -/
def Halved (w : World) (F : Cells) (t : Tr) (e : Ending) (w' : World) : Prop :=
  ∃ (pl pr : Nat) (FL FR : Cells), e = .returned (.tuple #[.pointer (some ⟨pl, 0, none⟩), .pointer (some ⟨pr, 0, none⟩)]) ∧
      Nd w' FL pl t.leftOf ∧ Nd w' FR pr t.rightOf ∧ Apart FL FR ∧ (∀ x o, FL x o → F x o ∨ w.heap.size ≤ x) ∧ (∀ x o, FR x o → F x o ∨ w.heap.size ≤ x) ∧ Below w.heap.size w w'


end Go.Proofs.Ytepkigcbjepbpaa
