/- The model's l4All: keys deleted one behind the other. -/
import Derived.Test.YtananonjomfpkaaProg
import Derived.Test.YtananonjomfpkaaPe0
import Derived.Test.YtananonjomfpkaaTo
import Derived.Test.YtananonjomfpkaaPe29
import Derived.Test.YtananonjomfpkaaPe23
import Derived.Test.YtananonjomfpkaaKeys
import Derived.Test.YtananonjomfpkaaPe6
import Derived.Test.YtananonjomfpkaaPe15
import Derived.Test.YtananonjomfpkaaPe17
import Derived.Test.YtananonjomfpkaaPe16
import Derived.Test.YtananonjomfpkaaPe20
import Derived.Test.YtananonjomfpkaaPe33
import Derived.Test.YtananonjomfpkaaPe31
import Derived.Test.YtananonjomfpkaaPe9
import Derived.Test.YtananonjomfpkaaHeld
import Derived.Test.YtananonjomfpkaaPe21
import Derived.Test.YtananonjomfpkaaDelKeyS
import Derived.Test.YtananonjomfpkaaPe18
import Derived.Deep.Cut
import Derived.Deep.RegionLaw

/- A tree in memory with the addresses of its nodes; what one comes by on the way through it. -/
namespace Go.Proofs.Ytananonjomfpkaa
open Go.RowKit

/-- A tree as plain data, each node with the address of its cells. -/
inductive ATr where
  | mk (nb no : Nat) (ks : List Int) (cs : List ATr)

namespace ATr
def nb : ATr → Nat | .mk a _ _ _ => a
def no : ATr → Nat | .mk _ a _ _ => a
def ks : ATr → List Int | .mk _ _ k _ => k
def cs : ATr → List ATr | .mk _ _ _ c => c
def addr (a : ATr) : Addr := ⟨a.nb, a.no, none⟩
mutual
/-- The tree without addresses. -/
def tr : ATr → Tr
  | .mk _ _ k c => .mk k (trs c)
def trs : List ATr → List Tr
  | [] => []
  | a :: r => tr a :: trs r
end
theorem trs_length (c : List ATr) : (trs c).length = c.length := by
  induction c with
  | nil => rfl
  | cons a r ih => simp [trs, ih]
theorem trs_get (c : List ATr) (i : Nat) (h : i < c.length) : (trs c)[i]'(by rw [trs_length]; exact h) = c[i].tr := by
  induction c generalizing i with
  | nil => simp at h
  | cons a r ih =>
    cases i with
    | zero => rfl
    | succ i => simpa [trs] using ih i (by simpa using h)
def weight (a : ATr) : Nat := a.tr.weight
theorem weight_kid {a : ATr} {i : Nat} (h : i < a.cs.length) : a.cs[i].weight + a.cs.length ≤ a.weight := by
  cases a with
  | mk nb no k c =>
    have h' : i < c.length := h
    have h1 := Tr.weight_get_le (trs c) i (by rw [trs_length]; exact h')
    rw [trs_get c i h', trs_length] at h1
    have h2 : (ATr.mk nb no k c).weight = k.length + Tr.weights (trs c) := by simp [weight, tr, Tr.weight]
    show c[i].tr.weight + c.length ≤ _
    omega
theorem ks_le (a : ATr) : a.ks.length + a.cs.length ≤ a.weight := by
  cases a with
  | mk nb no k c =>
    have h1 := Tr.length_le_weights (trs c)
    rw [trs_length] at h1
    have h2 : (ATr.mk nb no k c).weight = k.length + Tr.weights (trs c) := by simp [weight, tr, Tr.weight]
    show k.length + c.length ≤ _
    omega
end ATr

/-- Such a tree in memory: rows anywhere, with room or without. -/
inductive AT (w : World) : ATr → Prop where
  | mk (nb no : Nat) (ks : List Int) (cs : List ATr) (ka ha : Option Addr) (kc hc g go h ho : Nat)
      (hp : PAddr w ⟨nb, no, none⟩)
      (h0 : w.cell? ⟨nb, no, none⟩ = some (.slice ka ks.length kc))
      (h1 : w.cell? ⟨nb, no + 1, none⟩ = some (.slice ha cs.length hc))
      (hk : ∀ i, i < ks.length → w.cell? ⟨g, go + i, none⟩ = some (.int .i64 (ks.getD i 0)))
      (hn : ∀ i (hi : i < cs.length), cs[i].nb = h ∧ cs[i].no = ho + i * 2)
      (hkids : ∀ i (hi : i < cs.length), AT w cs[i])
      (e0 : ks.length = 0 ∨ ka = some ⟨g, go, none⟩) (e1 : cs.length = 0 ∨ ha = some ⟨h, ho, none⟩) : AT w (.mk nb no ks cs)

theorem AT.parts {w : World} {a : ATr} (h : AT w a) : ∃ ka ha kc hc g go h ho, PAddr w a.addr ∧ w.cell? ⟨a.nb, a.no, none⟩ = some (.slice ka a.ks.length kc) ∧
    w.cell? ⟨a.nb, a.no + 1, none⟩ = some (.slice ha a.cs.length hc) ∧ (∀ i, i < a.ks.length → w.cell? ⟨g, go + i, none⟩ = some (.int .i64 (a.ks.getD i 0))) ∧
    (∀ i (hi : i < a.cs.length), a.cs[i].nb = h ∧ a.cs[i].no = ho + i * 2) ∧ (∀ i (hi : i < a.cs.length), AT w a.cs[i]) ∧ (a.ks.length = 0 ∨ ka = some ⟨g, go, none⟩) ∧ (a.cs.length = 0 ∨ ha = some ⟨h, ho, none⟩) := by
  cases h with
  | mk nb no ks cs ka ha kc hc g go h ho hp h0 h1 hk hn hkids e0 e1 => exact ⟨ka, ha, kc, hc, g, go, h, ho, hp, h0, h1, hk, hn, hkids, e0, e1⟩

theorem AT.later {w w' : World} {a : ATr} (h : AT w a) (hb : ∀ k, k < w.heap.size → w'.heap[k]? = w.heap[k]?) : AT w' a := by
  have hcell : ∀ (b o : Nat) (v : Value), w.cell? ⟨b, o, none⟩ = some v → w'.cell? ⟨b, o, none⟩ = some v := fun b o v hv => by
    have := World.block_lt_of_cell? w _ hv
    rw [← hv]
    exact World.cell?_of_block (w := w) (a := ⟨b, o, none⟩) (hb b this)
  induction h with
  | mk nb no ks cs ka ha kc hc g go h ho hp h0 h1 hk hn hkids e0 e1 ih =>
    refine .mk nb no ks cs ka ha kc hc g go h ho ?_ (hcell _ _ _ h0) (hcell _ _ _ h1) (fun i hi => hcell _ _ _ (hk i hi)) hn ih e0 e1
    obtain ⟨c, t, hp⟩ := hp
    exact ⟨c, t, (hb _ (Array.getElem?_eq_some_iff.1 hp).1).trans hp⟩

/-- Two trees at one address are one. -/
theorem AT.one {w : World} {a : ATr} (h : AT w a) : ∀ {c : ATr}, AT w c → c.nb = a.nb → c.no = a.no → c = a := by
  induction h with
  | mk nb no ks cs ka ha kc hc g go h ho hp h0 h1 hk hn hkids e0 e1 ih =>
    intro c hcc f1 f2
    cases hcc with
    | mk nb' no' ks' cs' ka' ha' kc' hc' g' go' h' ho' hp' h0' h1' hk' hn' hkids' e0' e1' =>
      simp only [ATr.nb, ATr.no] at f1 f2
      subst f1 f2
      rw [h0] at h0'
      rw [h1] at h1'
      simp only [Option.some.injEq, Value.slice.injEq] at h0' h1'
      obtain ⟨m1, l1, _⟩ := h0'
      obtain ⟨m2, l2, _⟩ := h1'
      have ek : ks' = ks := by
        apply List.ext_getElem l1.symm
        intro i i1 i2
        have a1 := hk i i2
        have a2 := hk' i i1
        have d1 := e0.resolve_left (by omega)
        have d2 := e0'.resolve_left (by omega)
        rw [d1, d2] at m1
        simp only [Option.some.injEq, Addr.mk.injEq, and_true] at m1
        obtain ⟨rfl, rfl⟩ := m1
        rw [a1] at a2
        simp only [Option.some.injEq, Value.int.injEq, true_and] at a2
        simpa [List.getD_eq_getElem?_getD, i1, i2] using a2.symm
      have ec : cs' = cs := by
        apply List.ext_getElem l2.symm
        intro i i1 i2
        have b1 := hn i i2
        have b2 := hn' i i1
        have d1 := e1.resolve_left (by omega)
        have d2 := e1'.resolve_left (by omega)
        rw [d1, d2] at m2
        simp only [Option.some.injEq, Addr.mk.injEq, and_true] at m2
        obtain ⟨rfl, rfl⟩ := m2
        exact ih i i2 (hkids' i i1) (by rw [b1.1, b2.1]) (by rw [b1.2, b2.2])
      rw [ek, ec]

/-- From a copy's rows. -/
theorem AT.of_new {w : World} {lo : Nat} {kv cv : Value} {t : Tr} (h : TreeNew w lo kv cv t) : ∀ (nb no : Nat), PAddr w ⟨nb, no, none⟩ → w.cell? ⟨nb, no, none⟩ = some kv → w.cell? ⟨nb, no + 1, none⟩ = some cv →
    ∃ a : ATr, a.nb = nb ∧ a.no = no ∧ a.tr = t ∧ AT w a := by
  induction h with
  | mk ks cs g h kvs cvs hg hh hk hc hkids ih =>
    intro nb no hp h0 h1
    have hrow := hc
    have hkid : ∀ i (hi : i < cs.length), ∃ a : ATr, a.nb = h ∧ a.no = i * 2 ∧ a.tr = cs[i] ∧ AT w a := fun i hi => by
      have h1 := hc.cell (i := i * 2) (by omega)
      have h2 := hc.cell (i := i * 2 + 1) (by omega)
      rw [if_pos (by omega), show i * 2 / 2 = i from by omega] at h1
      rw [if_neg (by omega), show (i * 2 + 1) / 2 = i from by omega] at h2
      refine ih i hi h (i * 2) ?_ h1 h2
      unfold World.rowIs at hrow
      obtain ⟨c, hr⟩ := hrow
      exact ⟨c, _, hr.1⟩
    let f : Nat → ATr := fun i => if hi : i < cs.length then (hkid i hi).choose else .mk 0 0 [] []
    have hf : ∀ i (hi : i < cs.length), (f i).nb = h ∧ (f i).no = i * 2 ∧ (f i).tr = cs[i] ∧ AT w (f i) := fun i hi => by
      show (if hi : i < cs.length then (hkid i hi).choose else ATr.mk 0 0 [] []).nb = h ∧ _
      simp only [f, dif_pos hi]
      exact (hkid i hi).choose_spec
    have hlen : ((List.range cs.length).map f).length = cs.length := by simp
    refine ⟨.mk nb no ks ((List.range cs.length).map f), rfl, rfl, ?_, ?_⟩
    · simp only [ATr.tr]
      congr 1
      apply List.ext_getElem
      · rw [ATr.trs_length, hlen]
      · intro i i1 i2
        rw [ATr.trs_get _ i (by rw [hlen]; exact i2)]
        simp only [List.getElem_map, List.getElem_range]
        exact (hf i i2).2.2.1
    · refine .mk nb no ks _ _ _ _ cs.length g 0 h 0 hp h0 (by rw [hlen]; exact h1) (fun i hi => by rw [Nat.zero_add]; exact hk.cell hi) (fun i hi => ?_) (fun i hi => ?_) (.inr rfl) (.inr rfl)
      · rw [hlen] at hi
        simp only [List.getElem_map, List.getElem_range]
        exact ⟨(hf i hi).1, by rw [Nat.zero_add]; exact (hf i hi).2.1⟩
      · rw [hlen] at hi
        simp only [List.getElem_map, List.getElem_range]
        exact (hf i hi).2.2.2

/-- From a footprint of plain blocks. -/
theorem AT.of_p {w : World} {P : Nat → Prop} {kv cv : Value} {t : Tr} (h : TreeQ w P kv cv t) : ∀ (nb no : Nat), PAddr w ⟨nb, no, none⟩ → w.cell? ⟨nb, no, none⟩ = some kv → w.cell? ⟨nb, no + 1, none⟩ = some cv →
    ∃ a : ATr, a.nb = nb ∧ a.no = no ∧ a.tr = t ∧ AT w a := by
  induction h with
  | mk ks cs kv a cap kvs cvs hk hlen hcap hat hkids ih =>
    intro nb no hp h0 h1
    obtain ⟨ka, kcap, rfl, k1, k2, k3, k4⟩ := hk
    obtain ⟨g, go, hkc, e0⟩ : ∃ g go, (∀ i, i < ks.length → w.cell? ⟨g, go + i, none⟩ = some (.int .i64 (ks.getD i 0))) ∧ (ks.length = 0 ∨ ka = some ⟨g, go, none⟩) := by
      rcases k4 with k4 | ⟨b, o, k5, k6, k7⟩
      · exact ⟨0, 0, fun i hi => by rw [k4] at hi; simp at hi, .inl (by rw [k4]; rfl)⟩
      · exact ⟨b, o, k7, .inr k5⟩
    obtain ⟨hh, ho, hkk, e1⟩ : ∃ hh ho, (∀ i (hi : i < cs.length), ∃ a : ATr, a.nb = hh ∧ a.no = ho + i * 2 ∧ a.tr = cs[i] ∧ AT w a) ∧ (cs.length = 0 ∨ a = some ⟨hh, ho, none⟩) := by
      rcases hat with h2 | ⟨b, o, h2, h3, h4⟩
      · exact ⟨0, 0, fun i hi => by omega, .inl h2⟩
      · exact ⟨b, o, fun i hi => ih i hi b (o + i * 2) h3.2 (h4 i hi).1 (h4 i hi).2, .inr h2⟩
    let f : Nat → ATr := fun i => if hi : i < cs.length then (hkk i hi).choose else .mk 0 0 [] []
    have hf : ∀ i (hi : i < cs.length), (f i).nb = hh ∧ (f i).no = ho + i * 2 ∧ (f i).tr = cs[i] ∧ AT w (f i) := fun i hi => by
      show (if hi : i < cs.length then (hkk i hi).choose else ATr.mk 0 0 [] []).nb = hh ∧ _
      simp only [f, dif_pos hi]
      exact (hkk i hi).choose_spec
    have hln : ((List.range cs.length).map f).length = cs.length := by simp
    refine ⟨.mk nb no ks ((List.range cs.length).map f), rfl, rfl, ?_, ?_⟩
    · simp only [ATr.tr]
      congr 1
      apply List.ext_getElem
      · rw [ATr.trs_length, hln]
      · intro i i1 i2
        rw [ATr.trs_get _ i (by rw [hln]; exact i2)]
        simp only [List.getElem_map, List.getElem_range]
        exact (hf i i2).2.2.1
    · refine .mk nb no ks _ ka a kcap cap g go hh ho hp h0 (by rw [hln]; exact h1) hkc (fun i hi => ?_) (fun i hi => ?_) e0 (by rw [hln]; exact e1)
      · rw [hln] at hi
        simp only [List.getElem_map, List.getElem_range]
        exact ⟨(hf i hi).1, (hf i hi).2.1⟩
      · rw [hln] at hi
        simp only [List.getElem_map, List.getElem_range]
        exact (hf i hi).2.2.2

/-- A tree in memory, the kids in plain blocks. -/
def TreeA (w : World) (kv cv : Value) (t : Tr) : Prop := TreeQ w (fun k => k < w.heap.size) kv cv t
theorem TreeQ.a {w : World} {P : Nat → Prop} {kv cv : Value} {t : Tr} (h : TreeQ w P kv cv t) (hP : ∀ k, P k → k < w.heap.size) : TreeA w kv cv t := h.same (fun _ _ => rfl) hP
theorem TreeA.later {w w' : World} {C : Nat} {kv cv : Value} {t : Tr} (h : TreeA w kv cv t) (hb : Below C w w') (hC : w.heap.size ≤ C) : TreeA w' kv cv t :=
  TreeQ.same h (fun k e => hb.block k (by have : k < w.heap.size := e; omega)) (fun k e => Nat.lt_of_lt_of_le e hb.size)
theorem TreeA.tree {w : World} {kv cv : Value} {t : Tr} (h : TreeA w kv cv t) : TreeIn w w.heap.size kv cv t := TreeQ.tree h (fun _ e => e)
theorem TreeA.slices {w : World} {kv cv : Value} {t : Tr} (h : TreeA w kv cv t) : ∃ a n c a' n' c', kv = .slice a n c ∧ cv = .slice a' n' c' := TreeQ.slices h
theorem TreeA.at {w : World} {kv cv : Value} {t : Tr} (h : TreeA w kv cv t) : ∀ (nb no : Nat), PAddr w ⟨nb, no, none⟩ → w.cell? ⟨nb, no, none⟩ = some kv → w.cell? ⟨nb, no + 1, none⟩ = some cv →
    ∃ a : ATr, a.nb = nb ∧ a.no = no ∧ a.tr = t ∧ AT w a := AT.of_p h
theorem TreeNew.a {w : World} {lo : Nat} {kv cv : Value} {t : Tr} (h : TreeNew w lo kv cv t) (hw : t.weight ≤ 1048576) : TreeA w kv cv t := by
  unfold TreeA
  induction h with
  | mk ks cs g h kvs cvs hg hh hk hc hkids ih =>
    have hl := Tr.length_le_weights cs
    simp only [Tr.weight] at hw
    have hkl := hk.lt
    have hcl := hc.lt
    have hc2 := hc
    obtain ⟨c2, b2, s2, f2⟩ := hc2
    refine TreeQ.mk ks cs _ _ cs.length kvs cvs ⟨_, ks.length, rfl, Nat.le_refl _, by unfold maxLen; omega, (fun e => by cases e), .inr ⟨g, 0, rfl, hkl, fun i hi => by rw [Nat.zero_add]; exact hk.cell hi⟩⟩ (Nat.le_refl _) (by unfold maxLen; omega) (.inr ⟨h, 0, rfl, ⟨hcl, c2, _, b2⟩, fun i hi => ?_⟩) (fun i hi => ih i hi (by have := Tr.weight_get_le cs i hi; omega))
    have e1 := hc.cell (i := i * 2) (by omega)
    have e2 := hc.cell (i := i * 2 + 1) (by omega)
    rw [if_pos (by omega), show i * 2 / 2 = i from by omega] at e1
    rw [if_neg (by omega), show (i * 2 + 1) / 2 = i from by omega] at e2
    rw [Nat.zero_add]
    exact ⟨e1, e2⟩
end Go.Proofs.Ytananonjomfpkaa

/- Deleting takes a key out of its place. -/
namespace Go.Proofs.Ytananonjomfpkaa
open Go.RowKit
namespace Tr
/-- Where the key stood; what is left is the list without that place; the key is not left. -/
theorem del_takes {wide key : Int} {t : Tr} (h : lacksB wide key t = true) :
    validB wide t = true ∧ validB wide (delT wide key t) = true ∧ (t.pathB key).2 = true ∧ place key t.keys < t.keys.length ∧
      (delT wide key t).keys = takeAt t.keys (place key t.keys) ∧ ((delT wide key t).pathB key).2 = false := by
  obtain ⟨hv, ⟨A, B, hA, hB⟩, -⟩ := delT_facts h
  have hv0 : validB wide t = true := by unfold lacksB at h; exact (Bool.and_eq_true_iff.1 h).1
  have s0 := (valid_well hv0).2
  have hmem : key ∈ t.keys := by rw [hA]; simp
  have hp : place key t.keys = A.length := by
    have e : (A ++ key :: B).getD A.length 0 = key := by
      rw [List.getD_eq_getElem?_getD, List.getElem?_append_right (by omega), Nat.sub_self, List.getElem?_cons_zero]; rfl
    have hl : A.length < (A ++ key :: B).length := by simp
    rw [hA] at s0 ⊢
    have g := place_get s0 hl
    rwa [e] at g
  refine ⟨hv0, hv, (hasB_iff key t (someB_valid hv0)).2 hmem, ?_, ?_, ?_⟩
  · rw [hp, hA]; simp
  · rw [hp, hA, hB]; simp [takeAt]
  · cases hq : ((delT wide key t).pathB key).2 with
    | false => rfl
    | true =>
      exfalso
      have hm := (hasB_iff key (delT wide key t) (someB_valid hv)).1 hq
      rw [hB] at hm
      rw [hA] at s0
      obtain ⟨-, q2, q3⟩ := List.pairwise_append.1 s0
      rcases List.mem_append.1 hm with h1 | h1
      · have := q3 key h1 key (by simp); omega
      · have := (List.pairwise_cons.1 q2).1 key h1; omega
end Tr
end Go.Proofs.Ytananonjomfpkaa

/- Popping: what a step does to a valid tree's keys. -/
namespace Go.Proofs.Ytananonjomfpkaa
open Go.RowKit
namespace Tr
theorem pop_step {wide : Int} {u : Tr} (hv : validB wide u = true) (h0 : 0 < u.keys.length) :
    popB wide u = true ∧ popK wide u = u.keys.getD 0 0 ∧ validB wide (popT wide u) = true ∧ (popT wide u).keys = u.keys.drop 1 := by
  have hp : popB wide u = true := by
    rw [pop_is, hv]
    simp only [Bool.true_and, Bool.not_eq_true', beq_eq_false_iff_ne]
    omega
  obtain ⟨f1, -, f3⟩ := pop_first hp
  obtain ⟨-, m1, -, -, hk, -⟩ := del_takes f3
  have e : popT wide u = delT wide (u.keys.getD 0 0) u := by unfold popT; rw [if_pos hp, f1]
  refine ⟨hp, by unfold popK; rw [if_pos hp, f1], by rw [e]; exact m1, ?_⟩
  rw [e, hk, place_get (valid_well hv).2 h0]
  simp [takeAt]
theorem keys_none {u : Tr} (h : u.keys = []) : u.ks.length = 0 := by
  cases u with
  | mk k c =>
    have h2 := keys_length k c
    rw [h] at h2
    simp only [List.length_nil, ks] at h2 ⊢
    omega
end Tr
end Go.Proofs.Ytananonjomfpkaa

/- Popping again and again: the list of what has come, the box of the tree that is left. -/
namespace Go.Proofs.Ytananonjomfpkaa
open Go.RowKit

theorem TreeO.q {w : World} {lo : Nat} {P : Blocks} {kv cv : Value} {t : Tr} (h : TreeO w lo P kv cv t) : TreeQ w (fun k => lo ≤ k ∧ k < w.heap.size) kv cv t := by
  induction h with
  | mk ks kids P kv cv hk hc hkids sk sc ss ap lt ih =>
    obtain ⟨a, c, rfl⟩ := TreesOwn.shown hc
    refine treeQ_row (Q := fun k => lo ≤ k ∧ k < w.heap.size) (IntsOwn.p hk) hc (fun q h1 h2 => ⟨h1, h2⟩) (by simp) (fun i hi => ?_)
    simp at hi
    have := ih kids[i] (List.getElem_mem hi)
    simpa [hi, KidO.pair] using this

/-- What a round finds. -/
structure PopR (w0 : World) (p : Nat) (wide : Int) (K : List Int) (wr : World) (v : Value) (j : Nat) (kv cv : Value) (u : Tr) (F : Cells) : Prop where
  le : j ≤ K.length
  bel : Below w0.heap.size w0 wr
  rows : HeldR wr (fun q o => F q o ∨ boxOf p q o) wr [intsD F v (K.take j), boxD p kv cv]
  low : ∀ q o, F q o → w0.heap.size ≤ q
  plow : w0.heap.size ≤ p
  tree : TreeQ wr (fun k => k < wr.heap.size ∧ k ≠ p ∧ ∀ o, ¬ F k o) kv cv u
  keys : u.keys = K.drop j
  val : Tr.validB wide u = true

theorem HeldR.base {w0 w : World} {CH CH' : Cells} {R : List RowD} (h : HeldR w0 CH w R) (hs : ∀ r, r ∈ R → ∀ q o, r.F q o → CH' q o) : HeldR w CH' w R :=
  ⟨KeptF.refl _ _, h.row, fun i r e q o g => .inl (hs r (List.mem_of_getElem? e) q o g), h.ap⟩

theorem PopR.start {w0 : World} {wide : Int} {K : List Int} {kv cv : Value} {t : Tr} (ht : TreeA w0 kv cv t) (hv : Tr.validB wide t = true) (hK : K = t.keys) :
    ∃ F, PopR w0 (w0.heap.size + 1) wide K ((w0.alloc (.cells #[] 3)).alloc (.cells #[kv, cv] 26)) (.slice (some ⟨w0.heap.size, 0, none⟩) 0 0) 0 kv cv t F := by
  have ho : IntsOwn (w0.alloc (.cells #[] 3)) w0.heap.size (.slice (some ⟨w0.heap.size, 0, none⟩) 0 0) [] := World.ownsRow_made w0 #[] 0 (Nat.le_refl _) (by unfold maxLen; omega) rfl
  have ho2 := IntsOwn.alloc' ho (.cells #[kv, cv] 26)
  have hr := (RowF.of_owns ho2).n
  have hbox := boxD_row (new_blk (w0.alloc (.cells #[] 3)) (.cells #[kv, cv] 26))
  have hsz : (w0.alloc (.cells #[] 3)).heap.size = w0.heap.size + 1 := by simp
  rw [hsz] at hbox
  have hown : ∀ x : Nat, Value.ownBlock (.slice (some ⟨w0.heap.size, 0, none⟩) 0 0) = some x → x = w0.heap.size := fun x e => by
    simp [Value.ownBlock] at e; omega
  refine ⟨fun x _ => Value.ownBlock (.slice (some ⟨w0.heap.size, 0, none⟩) 0 0) = some x, Nat.zero_le _, ((Below.refl _ _).alloc (Nat.le_refl _) _).alloc (by simp) _, ?_, fun q o e => by have := hown q e; omega, by omega, ?_, by simp [hK], hv⟩
  · refine HeldR.start (fun r hr2 => ?_) (fun r hr2 q o e => ?_) ?_
    · simp only [List.mem_cons, List.not_mem_nil, or_false] at hr2
      rcases hr2 with rfl | rfl
      · exact hr
      · exact hbox
    · simp only [List.mem_cons, List.not_mem_nil, or_false] at hr2
      rcases hr2 with rfl | rfl
      · exact .inl e
      · exact .inr e
    · simp only [List.map_cons, List.map_nil, List.pairwise_cons, List.not_mem_nil, false_implies, implies_true, List.Pairwise.nil, and_true, List.mem_cons, or_false, forall_eq]
      intro q o e1 e2
      have e1' : q = w0.heap.size := hown q e1
      have e2' : q = w0.heap.size + 1 := e2
      omega
  · refine TreeQ.same ht (fun k hk => ?_) (fun k hk => ⟨?_, ?_, fun o e => ?_⟩)
    · have : k < w0.heap.size := hk
      rw [old_blk _ _ _ (by simp; omega), old_blk _ _ _ this]
    · have : k < w0.heap.size := hk
      simp; omega
    · have : k < w0.heap.size := hk
      omega
    · have : k < w0.heap.size := hk
      have := hown k e
      omega

/-- What a round needs behind the pop: the rows in the new world. -/
theorem PopR.call {w0 wr W9 : World} {p : Nat} {wide : Int} {K : List Int} {v : Value} {j : Nat} {kv cv : Value} {u : Tr} {F : Cells} (h : PopR w0 p wide K wr v j kv cv u F) (hb : Below wr.heap.size wr W9) :
    HeldR W9 (fun q o => F q o ∨ boxOf p q o) W9 [intsD F v (K.take j), boxD p kv cv] := by
  refine (h.rows.still (KeptF.of_below hb (Nat.le_refl _))).base (fun r hr2 q o e => ?_)
  simp only [List.mem_cons, List.not_mem_nil, or_false] at hr2
  rcases hr2 with rfl | rfl
  · exact .inl e
  · exact .inr e

/-- The round's end. -/
theorem PopR.next {w0 wr W9 w1 : World} {p m : Nat} {wide : Int} {K : List Int} {v v1 : Value} {j : Nat} {kv cv k7 c7 : Value} {u u7 : Tr} {F F1 : Cells} (h : PopR w0 p wide K wr v j kv cv u F) (hj : j < K.length) (hb : Below wr.heap.size wr W9)
    (ht : TreeQ W9 (fun k => wr.heap.size ≤ k ∧ k < m) k7 c7 u7) (hm : m ≤ W9.heap.size) (h1 : HeldR W9 (fun q o => F q o ∨ boxOf p q o) w1 [intsD F1 v1 (K.take j ++ [K.getD j 0]), boxD p kv cv])
    (hk : u7.keys = u.keys.drop 1) (hv : Tr.validB wide u7 = true) :
    PopR w0 p wide K ((w1.setCell ⟨p, 0, none⟩ k7).setCell ⟨p, 1, none⟩ c7) v1 (j + 1) k7 c7 u7 F1 := by
  have hFl : ∀ q o, F q o → q < wr.heap.size := fun q o e => (h.rows.row 0 _ rfl).1 q o e
  have hpl : p < wr.heap.size := by
    have hr := h.rows.row 1 _ rfl
    exact hr.1 p 0 rfl
  have hz := hb.size
  have h2 := (h1.box0 1 rfl k7).box1 1 rfl c7
  have h3 : HeldR W9 (fun q o => F q o ∨ boxOf p q o) ((w1.setCell ⟨p, 0, none⟩ k7).setCell ⟨p, 1, none⟩ c7) [intsD F1 v1 (K.take j ++ [K.getD j 0]), boxD p k7 c7] := h2
  have hk3 := h3.kept
  have hs1 := hk3.size
  have hF1 : ∀ q o, F1 q o → F q o ∨ q = p ∨ W9.heap.size ≤ q := fun q o e => by
    rcases h3.sub 0 _ rfl q o e with (e | e) | e
    · exact .inl e
    · exact .inr (.inl e)
    · exact .inr (.inr e)
  have etk : K.take (j + 1) = K.take j ++ [K.getD j 0] := by
    rw [List.take_succ_eq_append_getElem hj, List.getD_eq_getElem?_getD, List.getElem?_eq_getElem hj]; rfl
  have hlow := h.low
  have hplow := h.plow
  have hbs := h.bel.size
  refine ⟨by omega, h.bel.trans ((hb.mono hbs).trans (hk3.below (by omega) (fun q o e => ?_))), ?_, fun q o e => ?_, hplow, ?_, ?_, hv⟩
  · rcases e with e | e
    · exact hlow q o e
    · have : q = p := e; omega
  · rw [etk]
    refine h3.base (fun r hr2 q o e => ?_)
    simp only [List.mem_cons, List.not_mem_nil, or_false] at hr2
    rcases hr2 with rfl | rfl
    · exact .inl e
    · exact .inr e
  · rcases hF1 q o e with e | e | e
    · exact hlow q o e
    · omega
    · omega
  · refine TreeQ.same ht (fun k hk2 => hk3.block k (by omega) (fun o e => ?_)) (fun k hk2 => ⟨by omega, by omega, fun o e => ?_⟩)
    · rcases e with e | e
      · have := hFl k o e; omega
      · have : k = p := e; omega
    · rcases hF1 k o e with e | e | e
      · have := hFl k o e; omega
      · omega
      · omega
  · rw [hk, h.keys, List.drop_drop]
end Go.Proofs.Ytananonjomfpkaa

/- The model's l4All: keys deleted one behind the other. -/
namespace Go.Proofs.Ytananonjomfpkaa
open Go.RowKit

/-- What a round finds. -/
structure AllR (w : World) (wr : World) (kv cv : Value) (S : Tr.Gone) : Prop where
  bt : wr.heap[w.heap.size]? = some (.cells #[kv, cv] 26 (0, 0))
  b6 : wr.heap[w.heap.size + 1]? = some (.cells #[.slice none 0 0, .slice none 0 0] 26 (0, 0))
  b7 : wr.heap[w.heap.size + 2]? = some (.cells #[.int .i64 0, .int .i64 0, .bool false] 52 (0, 0))
  br : wr.heap[w.heap.size + 3]? = some (.cells #[.int .i64 (S.b : Int), .int .i64 (S.j : Int), .bool S.sh] 52 (0, 0))
  tree : TreeQ wr (fun k => w.heap.size + 4 ≤ k ∧ k < wr.heap.size) kv cv S.t
  bel : Below w.heap.size w wr
  size : w.heap.size + 4 ≤ wr.heap.size

theorem AllR.later {w wr w' : World} {kv cv : Value} {S : Tr.Gone} (h : AllR w wr kv cv S) (hb : Below wr.heap.size wr w') : AllR w w' kv cv S := by
  have h1 := h.size
  have h2 := hb.size
  exact ⟨(hb.block _ (by omega)).trans h.bt, (hb.block _ (by omega)).trans h.b6, (hb.block _ (by omega)).trans h.b7, (hb.block _ (by omega)).trans h.br,
    h.tree.same (fun k hk => hb.block k hk.2) (fun k hk => ⟨hk.1, by have := hk.2; omega⟩), h.bel.trans (hb.mono (by omega)), by omega⟩

/-- What l4All leaves. -/
def AllDone (w : World) (wide : Int) (t : Tr) (ks : List Int) (e : Ending) (w' : World) : Prop :=
  ∃ kv cv, e = .returned (.tuple #[.agg #[kv, cv], .agg #[.int .i64 ((Tr.gone wide t ks).b : Int), .int .i64 ((Tr.gone wide t ks).j : Int), .bool (Tr.gone wide t ks).sh]]) ∧
    TreeQ w' (fun k => w.heap.size ≤ k ∧ k < w'.heap.size) kv cv (Tr.gone wide t ks).t ∧ Below w.heap.size w w'

/-- The round's end: the boxes turned. -/
theorem AllR.next {w wr W8 : World} {kv cv k7 c7 : Value} {S S7 : Tr.Gone} {lo : Nat} (h : AllR w wr kv cv S) (hb : Below wr.heap.size wr W8) (ht : TreeQ W8 (fun k => lo ≤ k ∧ k < W8.heap.size) k7 c7 S7.t) (hlo : wr.heap.size ≤ lo) :
    AllR w (((((W8.setCell ⟨w.heap.size, 0, none⟩ k7).setCell ⟨w.heap.size, 1, none⟩ c7).setCell ⟨w.heap.size + 3, 0, none⟩ (.int .i64 (S7.b : Int))).setCell ⟨w.heap.size + 3, 1, none⟩ (.int .i64 (S7.j : Int))).setCell ⟨w.heap.size + 3, 2, none⟩ (.bool S7.sh)) k7 c7 S7 := by
  have g := h.later hb
  have h1 := h.size
  have hz := hb.size
  have a1 := two_blk g.bt k7 c7
  have a2 : ((W8.setCell ⟨w.heap.size, 0, none⟩ k7).setCell ⟨w.heap.size, 1, none⟩ c7).heap[w.heap.size + 3]? = some (.cells #[.int .i64 (S.b : Int), .int .i64 (S.j : Int), .bool S.sh] 52 (0, 0)) := by
    rw [set_other _ _ _ _ _ (by omega), set_other _ _ _ _ _ (by omega)]; exact g.br
  have a3 := three_blk a2 (.int .i64 (S7.b : Int)) (.int .i64 (S7.j : Int)) (.bool S7.sh)
  have hoth : ∀ q, q ≠ w.heap.size → q ≠ w.heap.size + 3 → (((((W8.setCell ⟨w.heap.size, 0, none⟩ k7).setCell ⟨w.heap.size, 1, none⟩ c7).setCell ⟨w.heap.size + 3, 0, none⟩ (.int .i64 (S7.b : Int))).setCell ⟨w.heap.size + 3, 1, none⟩ (.int .i64 (S7.j : Int))).setCell ⟨w.heap.size + 3, 2, none⟩ (.bool S7.sh)).heap[q]? = W8.heap[q]? := fun q e1 e2 => by
    rw [set_other _ _ _ _ _ e2, set_other _ _ _ _ _ e2, set_other _ _ _ _ _ e2, set_other _ _ _ _ _ e1, set_other _ _ _ _ _ e1]
  refine ⟨?_, (hoth _ (by omega) (by omega)).trans g.b6, (hoth _ (by omega) (by omega)).trans g.b7, a3, ?_, ?_, ?_⟩
  · rw [set_other _ _ _ _ _ (by omega), set_other _ _ _ _ _ (by omega), set_other _ _ _ _ _ (by omega)]; exact a1
  · refine ht.same (fun k hk => hoth k (by omega) (by omega)) (fun k hk => ⟨by omega, ?_⟩)
    simp only [World.size_setCell]; exact hk.2
  · exact ((((g.bel.setCell (by show w.heap.size ≤ w.heap.size; omega) _).setCell (by show w.heap.size ≤ w.heap.size; omega) _).setCell (by show w.heap.size ≤ w.heap.size + 3; omega) _).setCell (by show w.heap.size ≤ w.heap.size + 3; omega) _).setCell (by show w.heap.size ≤ w.heap.size + 3; omega) _
  · simp only [World.size_setCell]; omega
end Go.Proofs.Ytananonjomfpkaa
