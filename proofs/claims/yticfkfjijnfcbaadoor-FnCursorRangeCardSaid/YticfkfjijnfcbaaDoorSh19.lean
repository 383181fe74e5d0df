/- A region that draws its order, by an invariant: what each operation of its head leaves, whenever it comes. -/
import Derived.Test.YticfkfjijnfcbaaDoorProg
import Derived.Test.YticfkfjijnfcbaaDoorSh0
import Derived.Test.YticfkfjijnfcbaaDoorSh9
import Derived.Laws.AppendOwnNone
import Derived.OwnWalk
import Derived.Test.YticfkfjijnfcbaaDoorSh18
import Derived.StillTail

/- Bytes in memory, and the reader that the model opens over them. -/
namespace Go.Proofs.YticfkfjijnfcbaaDoor
open Go.RowKit

theorem cellB {w w' : World} {b o : Nat} (h : w'.heap[b]? = w.heap[b]?) : w'.cell? ⟨b, o, none⟩ = w.cell? ⟨b, o, none⟩ := World.cell?_of_block (w := w) (a := ⟨b, o, none⟩) h

/-- A slice of bytes in memory below block B. -/
def BytesIn (w : World) (B : Nat) (v : Value) (bs : List Nat) : Prop :=
  ∃ (a : Option Addr) (cap : Nat), v = .slice a bs.length cap ∧ bs.length ≤ cap ∧ cap ≤ maxLen ∧ (∀ x ∈ bs, x < 256) ∧
    (bs = [] ∨ ∃ b o, a = some ⟨b, o, none⟩ ∧ b < B ∧ ∀ i, i < bs.length → w.cell? ⟨b, o + i, none⟩ = some (.int .u8 (bs.getD i 0 : Nat)))

theorem BytesIn.later {w w' : World} {B C : Nat} {v : Value} {bs : List Nat} (h : BytesIn w B v bs) (hb : Below C w w') (hC : B ≤ C) : BytesIn w' B v bs := by
  obtain ⟨a, cap, hv, h1, h2, h3, h4⟩ := h
  refine ⟨a, cap, hv, h1, h2, h3, ?_⟩
  rcases h4 with h4 | ⟨b, o, h5, h6, h7⟩
  · exact .inl h4
  · exact .inr ⟨b, o, h5, h6, fun i hi => by rw [below_cell hb (by omega)]; exact h7 i hi⟩

set_option maxHeartbeats 1000000 in
set_option maxRecDepth 100000 in
theorem open_c {w : World} {B : Nat} {v : Value} {bs : List Nat} (h : BytesIn w B v bs) (w' : World) (hbw : Below B w w') (hB : B ≤ w'.heap.size) :
    Calls Tryd.prog 84 #[v] w' fun e w'' => e = .returned (.pointer (some ⟨w'.heap.size, 0, none⟩)) ∧ (∃ bs', Rd w'' w'.heap.size w'.heap.size bs' 0) ∧ Below w'.heap.size w' w'' := by
  obtain ⟨a, cap, rfl, hl, hm, h256, hat⟩ := h
  unfold maxLen at hm
  have HAT := Lib.hid hat
  have H256 := Lib.hid h256
  have HBW := Lib.hid hbw
  clear hat h256 hbw
  by_cases h2 : bs.length ≤ 2000
  · have h2' : ¬ ((bs.length : Int) > 2000) := by omega
    go_enter Tryd.func84, Tryd.ntmps84
    go_wp2_with fail
    go_ret
    refine ⟨rfl, ⟨bs, a, cap, new_blk _ _, h2, H256.out, Nat.le_refl _, ?_⟩, (Below.refl _ _).alloc (Nat.le_refl _) _⟩
    rcases HAT.out with h | ⟨b, o, h5, h6, h7⟩
    · exact .inl h
    · refine .inr ⟨b, o, h5, by omega, fun i hi => ?_⟩
      rw [cellB (old_blk _ _ b (by omega)), below_cell HBW.out h6]
      exact h7 i hi
  · have h2' : ((bs.length : Int) > 2000) := by omega
    have hcap : (2000 : Int) ≤ (cap : Int) := by omega
    have hl2 : (bs.take 2000).length = 2000 := by simp; omega
    rcases HAT.out with h | ⟨b, o, rfl, h6, h7⟩
    · rw [h] at h2; simp at h2
    have H7 := Lib.hid h7
    have HL2 := Lib.hid hl2
    clear h7 hl2
    go_enter Tryd.func84, Tryd.ntmps84
    go_wp2_with fail
    go_ret
    refine ⟨rfl, ⟨bs.take 2000, _, cap, by rw [HL2.out]; exact new_blk _ _, by rw [HL2.out]; omega, fun x hx => H256.out x (List.mem_of_mem_take hx), Nat.le_refl _, .inr ⟨b, o, rfl, by omega, fun i hi => ?_⟩⟩, (Below.refl _ _).alloc (Nat.le_refl _) _⟩
    rw [HL2.out] at hi
    rw [cellB (old_blk _ _ b (by omega)), below_cell HBW.out h6, H7.out i (by omega)]
    simp [List.getD_eq_getElem?_getD, hi]
end Go.Proofs.YticfkfjijnfcbaaDoor

/- Appends onto a slice of trees of the call's own; slices of trees that can be read. -/
namespace Go.Proofs.YticfkfjijnfcbaaDoor
open Go.RowKit

/-- The cells of a row of trees. -/
def flatT (K : List (Value × Value)) : List Value := K.flatMap (fun p => [p.1, p.2])
theorem flatT_length (K : List (Value × Value)) : (flatT K).length = K.length * 2 := by
  induction K with
  | nil => rfl
  | cons p r ih => simp [flatT] at ih ⊢; omega
theorem flatT_append (K M : List (Value × Value)) : flatT (K ++ M) = flatT K ++ flatT M := by simp [flatT]
theorem flatT_get (K : List (Value × Value)) (i : Nat) (h : i < K.length) : (flatT K)[i * 2]? = some K[i].1 ∧ (flatT K)[i * 2 + 1]? = some K[i].2 := by
  induction K generalizing i with
  | nil => simp at h
  | cons p r ih =>
    cases i with
    | zero => simp [flatT]
    | succ i =>
      have := ih i (by simpa using h)
      rw [show (i + 1) * 2 = i * 2 + 1 + 1 by omega]
      simpa [flatT] using this
theorem flatT_drop (K : List (Value × Value)) (i : Nat) : flatT (K.drop i) = (flatT K).drop (i * 2) := by
  induction K generalizing i with
  | nil => simp [flatT]
  | cons p r ih =>
    cases i with
    | zero => simp
    | succ i =>
      rw [show (i + 1) * 2 = i * 2 + 1 + 1 by omega]
      simpa [flatT] using ih i
theorem flatT_take (K : List (Value × Value)) (i : Nat) : flatT (K.take i) = (flatT K).take (i * 2) := by
  induction K generalizing i with
  | nil => simp [flatT]
  | cons p r ih =>
    cases i with
    | zero => simp [flatT]
    | succ i =>
      rw [show (i + 1) * 2 = i * 2 + 1 + 1 by omega]
      simpa [flatT] using ih i

/-- A slice of trees that can be read. -/
def KidsAt (w : World) (v : Value) (K : List (Value × Value)) : Prop :=
  ∃ (a : Option Addr) (cap : Nat), v = .slice a K.length cap ∧ (a = none → cap = 0) ∧
    (K = [] ∨ ∃ b o, a = some ⟨b, o, none⟩ ∧ ∀ j u, (flatT K)[j]? = some u → w.cell? ⟨b, o + j, none⟩ = some u)

abbrev TreesOwn (w : World) (lo : Nat) (v : Value) (K : List (Value × Value)) : Prop := w.ownsRow lo 33 2 v K.length (flatT K)

theorem TreesOwn.shown {w : World} {lo : Nat} {v : Value} {K : List (Value × Value)} (h : TreesOwn w lo v K) : ∃ a c, v = .slice a K.length c := by
  obtain ⟨h1, ⟨h2, h3⟩ | ⟨g, cap, cur, hv, hbb, hr⟩⟩ := h
  · exact ⟨_, _, by rw [h2, h3]⟩
  · exact ⟨_, _, hv⟩

theorem wpList_append_trees {w : World} {ops : Array Oper} {rest : List Oper} {o : Oper} {a : Act} {Q : Exit → Act → World → Prop} (hgd : o.guard = none) (s x : Operand)
    (ho : o.op = .call { callee := .builtin .append, args := #[s, x], argTypes := #[31, 31] })
    (lo : Nat) (v y : Value) (K M : List (Value × Value)) (hs : a.eval s = v) (hown : TreesOwn w lo v K) (hx : a.eval x = y) (hsrc : KidsAt w y M) (h1 : ∀ u, u ∈ flatT M → u.oneCell' = true)
    (hlen : K.length + M.length ≤ 100000000) (hlo : lo ≤ w.heap.size)
    (h : ∀ v' w', TreesOwn w' lo v' (K ++ M) → Below lo w w' → w.grownBy w' v.ownBlock → (∃ a c, v' = .slice a (K ++ M).length c) → wpList Tryd.prog ops Q rest (a.put o.dst v') w') : wpList Tryd.prog ops Q (o :: rest) a w := by
  obtain ⟨i0, hi, hz0, hz1, hz2⟩ := info_parts Tryd.infoTree
  obtain ⟨pa, cap, rfl, hnl, hat⟩ := hsrc
  rcases pa with _ | p
  · obtain rfl := hnl rfl
    obtain rfl : M = [] := by
      rcases hat with h | ⟨b, o, h, _⟩
      · exact h
      · cases h
    refine wpList_append_own_none hgd s x 31 ho lo 33 i0 2 Tryd.underlying31 hi v _ _ hs hown hx (h v w (by simpa using hown) (Below.refl _ _) (World.grownBy.refl _ _) ?_)
    simpa using TreesOwn.shown hown
  · refine wpList_append_own w hgd s x 31 ho lo 33 i0 _ 2 48 Tryd.underlying31 hi hz0 hz1 hz2 rfl (by decide) v _ _ hs hown p M.length cap (flatT M) hx (flatT_length M) (fun j u hj => ?_) h1 (by unfold maxLen; omega) (by omega) hlo (fun v' w' hown' hgrow _ => ?_)
    · rcases hat with h | ⟨b, o, h, hc⟩
      · rw [h] at hj; simp [flatT] at hj
      · cases h
        rw [Addr.add_lit]
        exact hc j u hj
    · have hown2 : TreesOwn w' lo v' (K ++ M) := by
        unfold TreesOwn
        rw [List.length_append, flatT_append]
        exact hown'
      refine h v' w' hown2 ((Below.refl lo w).grown hgrow hlo (fun k hk => (hown.lt k hk).1)) hgrow (TreesOwn.shown hown2)

/-- What lies in memory as kids, as such a slice. -/
theorem KidsIn.at {w : World} {B n cap : Nat} {a : Option Addr} {kvs cvs : Nat → Value} (h : KidsIn w B a n kvs cvs) (hn : a = none → cap = 0) :
    KidsAt w (.slice a n cap) ((List.range n).map (fun i => (kvs i, cvs i))) := by
  refine ⟨a, cap, by simp, hn, ?_⟩
  rcases h with h | ⟨b, o, rfl, hb, hc⟩
  · subst h; exact .inl rfl
  · refine .inr ⟨b, o, rfl, fun j u hj => ?_⟩
    have hl : j < n * 2 := by
      have := (List.getElem?_eq_some_iff.1 hj).1
      rwa [flatT_length, List.length_map, List.length_range] at this
    have hg := flatT_get ((List.range n).map (fun i => (kvs i, cvs i))) (j / 2) (by simp; omega)
    have hc' := hc (j / 2) (by omega)
    rcases Nat.mod_two_eq_zero_or_one j with e | e
    · rw [show j / 2 * 2 = j by omega] at hg hc'
      rw [hg.1] at hj
      simp at hj; subst hj
      simpa using hc'.1
    · rw [show j / 2 * 2 + 1 = j by omega] at hg
      rw [hg.2] at hj
      simp at hj; subst hj
      rw [show o + j = o + j / 2 * 2 + 1 by omega]
      simpa using hc'.2

/-- A part of such a slice. -/
theorem KidsAt.part {w : World} {b o n : Nat} {K : List (Value × Value)} (h : ∀ j u, (flatT K)[j]? = some u → w.cell? ⟨b, o + j, none⟩ = some u) (lo hi cap : Nat) (h1 : lo ≤ hi) (h2 : hi ≤ K.length) (hn : n = hi - lo) :
    KidsAt w (.slice (some ⟨b, o + lo * 2, none⟩) n cap) ((K.drop lo).take (hi - lo)) := by
  have hl : ((K.drop lo).take (hi - lo)).length = hi - lo := by simp; omega
  refine ⟨some ⟨b, o + lo * 2, none⟩, cap, by rw [hl, hn], by simp, .inr ⟨b, o + lo * 2, rfl, fun j u hj => ?_⟩⟩
  rw [flatT_take, flatT_drop, List.getElem?_take] at hj
  split at hj
  · rw [List.getElem?_drop] at hj
    rw [Nat.add_assoc]
    exact h _ _ hj
  · cases hj
theorem KidsAt.none' {w : World} (a : Option Addr) (cap : Nat) (h : a = none → cap = 0) : KidsAt w (.slice a 0 cap) [] := ⟨a, cap, rfl, h, .inl rfl⟩
theorem KidsAt.one (w : World) (x y : Value) : KidsAt (w.alloc (.cells #[x, y] 33)) (.slice (some ⟨w.heap.size, 0, none⟩) 1 1) [(x, y)] := by
  refine ⟨_, _, rfl, by simp, .inr ⟨_, 0, rfl, fun j u hj => ?_⟩⟩
  have hb := box2 (new_blk w (.cells #[x, y] 33))
  have hl : j < 2 := by have := (List.getElem?_eq_some_iff.1 hj).1; simpa [flatT] using this
  rw [Nat.zero_add]
  rcases (by omega : j = 0 ∨ j = 1) with rfl | rfl
  · simp [flatT] at hj; subst hj; exact hb.1
  · simp [flatT] at hj; subst hj; exact hb.2.1

/-- A row of trees of the call's own: a tree's kids. -/
theorem TreesOwn.kids {w : World} {lo : Nat} {v : Value} {K : List (Value × Value)} (h : TreesOwn w lo v K) :
    ∃ a cap, v = .slice a K.length cap ∧ K.length ≤ cap ∧ cap ≤ maxLen ∧ KidsIn w w.heap.size a K.length (fun i => (K.getD i (undef, undef)).1) (fun i => (K.getD i (undef, undef)).2) := by
  have h0 := h
  obtain ⟨h1, ⟨h2, h3⟩ | ⟨g, cap, cur, hv, hb, hg, hn, hm, hs, ht⟩⟩ := h
  · exact ⟨none, 0, by rw [h2, h3], by omega, by unfold maxLen; omega, .inl h3⟩
  · subst hv
    refine ⟨_, cap, rfl, hn, hm, .inr ⟨g, 0, rfl, (Array.getElem?_eq_some_iff.1 hg).1, fun i hi => ?_⟩⟩
    have hfg := flatT_get K i hi
    have e1 := World.ownsRow.cellAt h0 (i * 2) (by omega)
    have e2 := World.ownsRow.cellAt h0 (i * 2 + 1) (by omega)
    rw [Nat.zero_add, e1, e2]
    simp only [List.getD_eq_getElem?_getD, List.getElem?_eq_getElem hi, Option.getD_some]
    exact hfg
end Go.Proofs.YticfkfjijnfcbaaDoor

/- Trees by footprint and rows of trees. -/
namespace Go.Proofs.YticfkfjijnfcbaaDoor
open Go.RowKit

theorem TreeP.parts {w : World} {P : Nat → Prop} {kv cv : Value} {ks : List Int} {cs : List Tr} (h : TreeP w P kv cv (.mk ks cs)) :
    ∃ (a : Option Addr) (cap : Nat) (kvs cvs : Nat → Value), cv = .slice a cs.length cap ∧ IntsP w P kv ks ∧ cs.length ≤ cap ∧ cap ≤ maxLen ∧ KidsP w P a cs.length kvs cvs ∧ ∀ i (h : i < cs.length), TreeP w P (kvs i) (cvs i) cs[i] := by
  cases h with
  | mk _ _ _ a cap kvs cvs hk hlen hcap hat hkids => exact ⟨a, cap, kvs, cvs, rfl, hk, hlen, hcap, hat, hkids⟩
theorem IntsP.in {w : World} {P : Nat → Prop} {B : Nat} {v : Value} {ks : List Int} (h : IntsP w P v ks) (hq : ∀ k, P k → k < B) : IntsIn w B v ks := by
  obtain ⟨a, cap, hv, h1, h2, hnl, h3⟩ := h
  refine ⟨a, cap, hv, h1, h2, hnl, ?_⟩
  rcases h3 with h3 | ⟨b, o, h3, h4, h5⟩
  · exact .inl h3
  · exact .inr ⟨b, o, h3, hq b h4, h5⟩
theorem KidsP.in {w : World} {P : Nat → Prop} {B n : Nat} {a : Option Addr} {kvs cvs : Nat → Value} (h : KidsP w P a n kvs cvs) (hq : ∀ k, P k → k < B) : KidsIn w B a n kvs cvs := by
  rcases h with h3 | ⟨b, o, h3, h4, h5⟩
  · exact .inl h3
  · exact .inr ⟨b, o, h3, hq b h4, h5⟩
theorem treeP_row {W : World} {Q : Nat → Prop} {lo n cp : Nat} {kv : Value} {ks : List Int} {a : Option Addr} {L : List (Value × Value)} {cs : List Tr} (hk : IntsP W Q kv ks) (hrow : TreesOwn W lo (.slice a n cp) L) (hq : ∀ q, lo ≤ q → q < W.heap.size → Q q) (hl : L.length = cs.length)
    (hkids : ∀ i (h : i < cs.length), TreeP W Q (L.getD i (undef, undef)).1 (L.getD i (undef, undef)).2 cs[i]) : TreeP W Q kv (.slice a n cp) (.mk ks cs) := by
  have hlt := hrow.lt
  obtain ⟨a', cap, e, h1, h2, hat⟩ := TreesOwn.kids hrow
  simp only [Value.slice.injEq] at e
  obtain ⟨rfl, rfl, rfl⟩ := e
  rw [hl] at h1 hat hlt ⊢
  refine .mk ks cs kv a cp _ _ hk h1 h2 ?_ hkids
  rcases hat with h | ⟨b, o, rfl, hb, hc⟩
  · exact .inl h
  · have := hlt b rfl
    exact .inr ⟨b, o, rfl, hq b this.1 this.2, hc⟩

theorem IntsP.leaf {W : World} {Q : Nat → Prop} {a : Option Addr} {n c g : Nat} {ks : List Int} (h : IntsP W Q (.slice a n c) ks) : TreeP W Q (.slice a n c) (.slice (some ⟨g, 0, none⟩) 0 0) (.mk ks []) :=
  TreeP.mk ks [] _ (some ⟨g, 0, none⟩) 0 (fun _ => undef) (fun _ => undef) h (Nat.le_refl _) (by unfold maxLen; omega) (.inl rfl) (fun i hi => by simp at hi)

theorem KidsQ.p {w : World} {P : Nat → Prop} {a : Option Addr} {n : Nat} {kvs cvs : Nat → Value} (h : KidsQ w P a n kvs cvs) : KidsP w P a n kvs cvs := by
  rcases h with h3 | ⟨b, o, h3, h4, h5⟩
  · exact .inl h3
  · exact .inr ⟨b, o, h3, h4.1, h5⟩
theorem TreeQ.parts {w : World} {P : Nat → Prop} {kv cv : Value} {ks : List Int} {cs : List Tr} (h : TreeQ w P kv cv (.mk ks cs)) :
    ∃ (a : Option Addr) (cap : Nat) (kvs cvs : Nat → Value), cv = .slice a cs.length cap ∧ IntsP w P kv ks ∧ cs.length ≤ cap ∧ cap ≤ maxLen ∧ KidsQ w P a cs.length kvs cvs ∧ ∀ i (h : i < cs.length), TreeQ w P (kvs i) (cvs i) cs[i] := by
  cases h with
  | mk _ _ _ a cap kvs cvs hk hlen hcap hat hkids => exact ⟨a, cap, kvs, cvs, rfl, hk, hlen, hcap, hat, hkids⟩
theorem treeQ_row {W : World} {Q : Nat → Prop} {lo n cp : Nat} {kv : Value} {ks : List Int} {a : Option Addr} {L : List (Value × Value)} {cs : List Tr} (hk : IntsP W Q kv ks) (hrow : TreesOwn W lo (.slice a n cp) L) (hq : ∀ q, lo ≤ q → q < W.heap.size → Q q) (hl : L.length = cs.length)
    (hkids : ∀ i (h : i < cs.length), TreeQ W Q (L.getD i (undef, undef)).1 (L.getD i (undef, undef)).2 cs[i]) : TreeQ W Q kv (.slice a n cp) (.mk ks cs) := by
  have hlt := hrow.lt
  obtain ⟨a', cap, e, h1, h2, hat⟩ := TreesOwn.kids hrow
  have hpl : ∀ b, Value.ownBlock (.slice a n cp) = some b → Plain W b := fun b hb => by
    obtain ⟨_, ⟨h3, _⟩ | ⟨g, cap, cur, hv, _, hg, _⟩⟩ := hrow
    · rw [h3] at hb; cases hb
    · rw [hv] at hb; cases hb; exact ⟨cur, _, hg⟩
  simp only [Value.slice.injEq] at e
  obtain ⟨rfl, rfl, rfl⟩ := e
  rw [hl] at h1 hat hlt hpl ⊢
  refine .mk ks cs kv a cp _ _ hk h1 h2 ?_ hkids
  rcases hat with h | ⟨b, o, rfl, hb, hc⟩
  · exact .inl h
  · have := hlt b rfl
    exact .inr ⟨b, o, rfl, ⟨hq b this.1 this.2, hpl b rfl⟩, hc⟩
theorem IntsP.leafQ {W : World} {Q : Nat → Prop} {a : Option Addr} {n c g : Nat} {ks : List Int} (h : IntsP W Q (.slice a n c) ks) : TreeQ W Q (.slice a n c) (.slice (some ⟨g, 0, none⟩) 0 0) (.mk ks []) :=
  TreeQ.mk ks [] _ (some ⟨g, 0, none⟩) 0 (fun _ => undef) (fun _ => undef) h (Nat.le_refl _) (by unfold maxLen; omega) (.inl rfl) (fun i hi => by simp at hi)
end Go.Proofs.YticfkfjijnfcbaaDoor

/- The contract of the model's l1Leaf. -/
namespace Go.Proofs.YticfkfjijnfcbaaDoor
open Go.RowKit

/-- What l1Leaf leaves: a row of keys, and an empty row of kids behind it. -/
def Leafed (w : World) (ks : List Int) (e : Ending) (w' : World) : Prop :=
  ∃ (kv : Value) (g : Nat), e = .returned (.agg #[kv, .slice (some ⟨g, 0, none⟩) 0 0]) ∧ IntsOwn w' (w.heap.size + 1) kv ks ∧ (∀ k, kv.ownBlock = some k → k < g) ∧
    w.heap.size < g ∧ w'.heap[g]? = some (.cells #[] 33 (0, 0)) ∧ Below w.heap.size w w'

set_option maxHeartbeats 1000000 in
theorem leaf_c (w : World) (v : Value) (ks : List Int) (hk : ∀ w', Below w.heap.size w w' → IntsAt w' v ks) (hl : ks.length ≤ 1048576) :
    Calls Tryd.prog 123 #[v] w (Leafed w ks) := by
  obtain ⟨W1, hW1⟩ : ∃ W1, W1 = w.alloc (.cells #[.slice none 0 0, .slice none 0 0] 33) := ⟨_, rfl⟩
  have hs1 : W1.heap.size = w.heap.size + 1 := by rw [hW1]; simp
  have hb1 : Below w.heap.size w W1 := by rw [hW1]; exact (Below.refl _ _).alloc (Nat.le_refl _) _
  have h00 : IntsOwn (W1.alloc (.cells #[] 3)) (w.heap.size + 1) (.slice (some ⟨w.heap.size + 1, 0, none⟩) 0 0) [] := by
    rw [← hs1]; exact World.ownsRow_made W1 #[] 0 (Nat.le_refl _) (by unfold maxLen; omega) rfl
  have hsrc : IntsAt (W1.alloc (.cells #[] 3)) v ks := hk _ (hb1.alloc (by omega) _)
  have hlo : w.heap.size + 1 ≤ (W1.alloc (.cells #[] 3)).heap.size := by simp; omega
  have hln : ([] : List Int).length + ks.length ≤ 17592186044416 := by simp; omega
  have kb0 : (W1.alloc (.cells #[] 3)).heap[w.heap.size]? = some (.cells #[.slice none 0 0, .slice none 0 0] 33 (0, 0)) := by rw [old_blk _ _ _ (by omega), hW1, new_blk]
  have hb2 : Below w.heap.size w (W1.alloc (.cells #[] 3)) := hb1.alloc (by omega) _
  have hs2 : (W1.alloc (.cells #[] 3)).heap.size = w.heap.size + 2 := by simp; omega
  have H00 := Lib.hid h00
  have HSRC := Lib.hid hsrc
  have HLN := Lib.hid hln
  have HB2 := Lib.hid (And.intro kb0 (And.intro hb2 hs2))
  rw [hW1] at H00 HSRC hlo HB2
  clear h00 hsrc hln hb1 hk hW1 hs1 kb0 hb2 hs2 W1
  go_enter Tryd.func123, Tryd.ntmps123
  go_wp2_with (at_builtin; refine wpList_append_ints rfl _ _ rfl (w.heap.size + 1) _ _ [] ks rfl H00.out rfl HSRC.out HLN.out hlo ?_; intro v2 w2 hown2 hbel2 _ hsh2; obtain ⟨a2, c2, rfl⟩ := hsh2; have hsz2 := hbel2.size; have hsz0 := HB2.out.2.2; have hlt2 : w.heap.size < w2.heap.size := (by omega); have kb2 := (hbel2.block w.heap.size (by omega)).trans HB2.out.1; obtain ⟨c1, c2', c3, c4⟩ := box2 kb2; have HOX := Lib.hid (And.intro hown2 (And.intro hbel2 (And.intro kb2 hsz2))); clear hown2 hbel2 kb2 hsz2 hsz0)
  obtain ⟨F, hF⟩ : ∃ F, F = (((w2.setCell ⟨w.heap.size, 0, none⟩ (.slice a2 ks.length c2)).setCell ⟨w.heap.size, 1, none⟩ (.slice (some ⟨w2.heap.size, 0, none⟩) 0 0)).alloc (.cells #[] 33)) := ⟨_, rfl⟩
  have hsF : ((w2.setCell ⟨w.heap.size, 0, none⟩ (.slice a2 ks.length c2)).setCell ⟨w.heap.size, 1, none⟩ (.slice (some ⟨w2.heap.size, 0, none⟩) 0 0)).heap.size = w2.heap.size := by simp
  have kF : F.heap[w.heap.size]? = some (.cells #[.slice a2 ks.length c2, .slice (some ⟨w2.heap.size, 0, none⟩) 0 0] 33 (0, 0)) := by
    rw [hF, old_blk _ _ _ (by rw [hsF]; exact hlt2)]
    exact set_blk (o := 1) _ (set_blk (o := 0) _ HOX.out.2.2.1)
  have kG : F.heap[w2.heap.size]? = some (.cells #[] 33 (0, 0)) := by
    have h := new_blk ((w2.setCell ⟨w.heap.size, 0, none⟩ (.slice a2 ks.length c2)).setCell ⟨w.heap.size, 1, none⟩ (.slice (some ⟨w2.heap.size, 0, none⟩) 0 0)) (.cells #[] 33)
    rw [hsF] at h; rw [hF]; exact h
  have kE : ∀ k, k ≠ w.heap.size → k < w2.heap.size → F.heap[k]? = w2.heap[k]? := fun k h1 h2 => by
    rw [hF, old_blk _ _ _ (by rw [hsF]; exact h2), set_other _ _ _ _ _ h1, set_other _ _ _ _ _ h1]
  have hzF : F.heap.size = w2.heap.size + 1 := by rw [hF]; simp
  rw [← hF]
  have hoF : F.os = w2.os ∧ F.tape = w2.tape ∧ F.output = w2.output := by rw [hF]; exact ⟨rfl, rfl, rfl⟩
  clear hF c1 c2' c3 c4
  obtain ⟨d1, d2, d3, d4⟩ := box2 kF
  have hb2 := HB2.out.2.1
  have hbe := HOX.out.2.1
  refine bodyPost_ret (v := .agg #[.slice a2 ks.length c2, .slice (some ⟨w2.heap.size, 0, none⟩) 0 0]) (by simp [results, Tryd.results123, go_sem, d1, d2]) rfl ⟨_, w2.heap.size, rfl, ?_, ?_, hlt2, kG, ?_⟩
  · have h := HOX.out.1
    rw [List.nil_append] at h
    exact h.keep (fun k h1 h2 => kE k (by omega) h2)
  · intro k hk
    have h := HOX.out.1
    rw [List.nil_append] at h
    exact (h.lt k hk).2
  · refine ⟨hoF.1.trans (hbe.os.trans hb2.os), hoF.2.1.trans (hbe.tape.trans hb2.tape), hoF.2.2.trans (hbe.output.trans hb2.output), by omega, fun k hk => ?_⟩
    rw [kE k (by omega) (by omega), hbe.block k (by omega), hb2.block k hk]
end Go.Proofs.YticfkfjijnfcbaaDoor

/- A region that draws its order, by an invariant: what each operation of its head leaves, whenever it comes. -/
namespace Go.Proofs.YticfkfjijnfcbaaDoor

section
variable {P : Program} {ops : Array Oper} {md : Region.Mode}

/-- How many of the first n have not come. -/
def left (listed : Array Bool) : Nat → Nat
  | 0 => 0
  | n + 1 => left listed n + (if listed.getD n true = false then 1 else 0)

theorem left_set {listed : Array Bool} {i : Nat} (hi : listed.getD i true = false) (hs : i < listed.size) : ∀ n, left (listed.setIfInBounds i true) n + (if i < n then 1 else 0) = left listed n
  | 0 => by simp [left]
  | n + 1 => by
    have ih := left_set hi hs n
    unfold left
    by_cases h : i = n
    · subst h
      have e : (listed.setIfInBounds i true).getD i true = true := by simp [hs]
      rw [e, hi]
      rw [if_neg (by omega)] at ih
      rw [if_neg (by simp), if_pos rfl, if_pos (by omega)]
      omega
    · have e : (listed.setIfInBounds i true).getD n true = listed.getD n true := getD_set_ne true h
      rw [e]
      by_cases hin : i < n
      · rw [if_pos hin] at ih
        rw [if_pos (show i < n + 1 by omega)]
        omega
      · rw [if_neg hin] at ih
        rw [if_neg (show ¬ i < n + 1 by omega)]
        omega

theorem left_zero {listed : Array Bool} : ∀ n, left listed n = 0 → ∀ j, j < n → listed.getD j true = true
  | 0, _, j, hj => by omega
  | n + 1, h, j, hj => by
    simp only [left] at h
    by_cases e : j = n
    · subst e
      cases hh : listed.getD j true with
      | true => rfl
      | false => rw [hh] at h; simp at h
    · exact left_zero n (by omega) j (by omega)

theorem left_pos {listed : Array Bool} : ∀ n, 0 < left listed n → ∃ j, j < n ∧ listed.getD j true = false
  | 0, h => by simp [left] at h
  | n + 1, h => by
    simp only [left] at h
    by_cases e : listed.getD n true = false
    · exact ⟨n, by omega, e⟩
    · rw [if_neg e] at h
      obtain ⟨j, h1, h2⟩ := left_pos n (by omega)
      exact ⟨j, by omega, h2⟩

/-- The first n have come, no other one. -/
def headDone (n m : Nat) : Array Bool := Array.ofFn (fun i : Fin m => decide (i.val < n))

/-- Each operation waits for earlier ones alone. -/
def backB (md : Region.Mode) (ops : Array Oper) : Bool := (List.range ops.size).all fun j => ((ops[j]?).map fun o => o.after.all fun e => !Region.binds md e || decide (e.on < j)).getD true

theorem ready_some {n : Nat} {listed : Array Bool} (hb : backB md ops = true) (inv : HeadInv md ops n listed) (hn : n ≤ ops.size) : ∀ j, j < n → listed.getD j true = false → Region.ready md ops listed ≠ [] := by
  intro j
  induction j using Nat.strongRecOn with
  | _ j ih =>
    intro hj hu
    by_cases h : ∃ i, i < j ∧ listed.getD i true = false
    · obtain ⟨i, h1, h2⟩ := h
      exact ih i h1 (by omega) h2
    · intro hr
      have hjs : j < ops.size := by omega
      have hm : j ∈ Region.ready md ops listed := by
        refine mem_ready.2 ⟨hu, ops[j], Array.getElem?_eq_getElem hjs, fun e he hbd => ?_⟩
        have h1 := List.all_eq_true.1 hb j (List.mem_range.2 hjs)
        rw [Array.getElem?_eq_getElem hjs] at h1
        simp only [Option.map_some, Option.getD_some] at h1
        have h2 := Array.all_eq_true'.1 h1 e he
        have h3 : e.on < j := by simpa [hbd] using h2
        have h4 : listed.getD e.on true = true := by
          cases hh : listed.getD e.on true with
          | true => rfl
          | false => exact absurd ⟨e.on, h3, hh⟩ h
        have h5 : e.on < listed.size := by rw [inv.size]; omega
        simp [h5] at h4 ⊢
        exact h4
      rw [hr] at hm
      cases hm

/-- By an invariant: whenever an operation of the head comes, it finds what those before it left, and leaves its own; behind the head the rest. -/
theorem wpAny_head {Q : Exit → Act → World → Prop} {n : Nat} (hs : Region.sinkB md ops n = true) (hc : Region.chainB md ops n = true) (hn : n < ops.size)
    (B : Act → World → Prop) (I : Nat → Act → World → Prop)
    (hback : backB md ops = true)
    (hg : ∀ i oi, i < n → ops[i]? = some oi → oi.guard = none)
    (hstep : ∀ i oi, i < n → ops[i]? = some oi → ∀ a w, B a w → (∀ e, e ∈ oi.after → Region.binds md e = true → I e.on a w) →
      Oper.wp P oi a w (fun a' w' => B a' w' ∧ I i a' w' ∧ ∀ j, j < n → j ≠ i → I j a w → I j a' w') Q)
    (htail : ∀ a w, B a w → (∀ j, j < n → I j a w) → wpAny P md ops Q (ops.size - n) (headDone n ops.size) a w) :
    ∀ (d : Nat) (listed : Array Bool) (a : Act) (w : World), HeadInv md ops n listed → left listed n = d → B a w → (∀ j, j < n → listed.getD j true = true → I j a w) →
      wpAny P md ops Q (d + (ops.size - n)) listed a w := by
  intro d
  induction d with
  | zero =>
    intro listed a w inv hl hB hI
    have hall := left_zero n hl
    have e : listed = headDone n ops.size := by
      apply Array.ext
      · rw [inv.size]; simp [headDone]
      · intro i h1 h2
        have hsz := inv.size
        by_cases hi : i < n
        · have := hall i hi
          simp [h1] at this
          simp [headDone, hi, this]
        · have := inv.tail i (by omega) (by omega)
          simp [h1] at this
          simp [headDone, hi, this]
    rw [e, Nat.zero_add]
    exact htail a w hB (fun j hj => hI j hj (hall j hj))
  | succ d ih =>
    intro listed a w inv hl hB hI
    obtain ⟨j0, hj0, hu0⟩ := left_pos n (by omega : 0 < left listed n)
    rw [show d + 1 + (ops.size - n) = (d + (ops.size - n)) + 1 by omega]
    refine ⟨fun hr => ?_, fun i hi => ?_⟩
    · exact absurd hr (ready_some hback inv (by omega) j0 hj0 hu0)
    · have hin : i < n := by
        rcases Nat.lt_or_ge i n with h | h
        · exact h
        · exact absurd hi (tail_waits hs hc hn inv _ j0 rfl hj0 hu0 i h)
      obtain ⟨hu, oi, hoi, hall⟩ := mem_ready.1 hi
      have hst := hstep i oi hin hoi a w hB (fun e he hb => ?_)
      · unfold wpOp
        rw [hoi]
        have hw : Region.wanted oi (yielded ops a.tmps) = true := by simp [Region.wanted, hg i oi hin hoi]
        simp only [hw, if_true]
        left
        refine Oper.wp_mono (fun a' w' h => ?_) hst
        obtain ⟨h1, h2, h3⟩ := h
        have hisz : i < listed.size := by rw [inv.size]; omega
        have hls := left_set hu hisz n
        rw [if_pos hin] at hls
        refine ih _ a' w' (inv.set hi hin) (by omega) h1 (fun j hj hlj => ?_)
        by_cases e : j = i
        · subst e; exact h2
        · refine h3 j hj e (hI j hj ?_)
          exact (getD_set_ne true (Ne.symm e)).symm.trans hlj
      · have hl2 := hall e he hb
        have hlt : e.on < n := by
          rcases Nat.lt_or_ge e.on n with h | h
          · exact h
          · have := inv.tail e.on h (by
              rcases Nat.lt_or_ge e.on listed.size with h' | h'
              · rw [inv.size] at h'; exact h'
              · simp [Array.getElem?_eq_none h'] at hl2)
            exfalso
            rcases Nat.lt_or_ge e.on listed.size with h' | h'
            · simp [h'] at this hl2; rw [this] at hl2; cases hl2
            · simp [Array.getElem?_eq_none h'] at hl2
        refine hI e.on hlt ?_
        rcases Nat.lt_or_ge e.on listed.size with h' | h'
        · simp [h'] at hl2 ⊢; exact hl2
        · simp [Array.getElem?_eq_none h'] at hl2

/-- The frame is as it was, but for the slots of the region's head. -/
structure Agree (a0 a : Act) (sl : Nat → Nat) (n : Nat) : Prop where
  defers : a.defers = a0.defers
  size : a.tmps.size = a0.tmps.size
  other : ∀ j, (∀ i, i < n → sl i ≠ j) → a.tmps[j]? = a0.tmps[j]?

theorem Agree.put {a0 a : Act} {sl : Nat → Nat} {n i : Nat} (h : Agree a0 a sl n) (hi : i < n) (v : Value) : Agree a0 (a.put (some (sl i)) v) sl n := by
  refine ⟨h.defers, by simp [Act.put, h.size], fun j hj => ?_⟩
  have := hj i hi
  simp only [Act.put]
  rw [Array.getElem?_setIfInBounds_ne this]
  exact h.other j hj

theorem foldl_set (a : Act) (sl : Nat → Nat) : ∀ (L : List Nat) (t : Array Value) (j : Nat), t.size = a.tmps.size →
    (L.foldl (fun t i => t.setIfInBounds (sl i) (a.tmps[sl i]?.getD undef)) t)[j]? = (if ∃ i, i ∈ L ∧ sl i = j then a.tmps[j]? else t[j]?)
  | [], t, j, _ => by simp
  | i :: L, t, j, hz => by
    rw [List.foldl_cons, foldl_set a sl L _ j (by simpa using hz)]
    by_cases h1 : ∃ i, i ∈ L ∧ sl i = j
    · rw [if_pos h1, if_pos (by obtain ⟨q, h2, h3⟩ := h1; exact ⟨q, by simp [h2], h3⟩)]
    · rw [if_neg h1]
      by_cases h2 : sl i = j
      · rw [if_pos ⟨i, by simp, h2⟩, h2]
        by_cases h3 : j < t.size
        · rw [Array.getElem?_setIfInBounds_self_of_lt h3]
          have : j < a.tmps.size := by omega
          simp [this]
        · rw [Array.getElem?_eq_none (by simp; omega), Array.getElem?_eq_none (by omega)]
      · rw [if_neg (by rintro ⟨q, h3, h4⟩; rcases List.mem_cons.1 h3 with rfl | h3; exact h2 h4; exact h1 ⟨q, h3, h4⟩), Array.getElem?_setIfInBounds_ne h2]

theorem Agree.eq {a0 a : Act} {sl : Nat → Nat} {n : Nat} (h : Agree a0 a sl n) : a = { tmps := (List.range n).foldl (fun t i => t.setIfInBounds (sl i) (a.tmps[sl i]?.getD undef)) a0.tmps, defers := a0.defers } := by
  obtain ⟨t, d⟩ := a
  have h1 := h.defers
  dsimp only at h1
  subst h1
  congr 1
  apply Array.ext_getElem?
  intro j
  rw [foldl_set ⟨t, a0.defers⟩ sl (List.range n) a0.tmps j h.size.symm]
  by_cases hj : ∃ i, i ∈ List.range n ∧ sl i = j
  · rw [if_pos hj]
  · rw [if_neg hj]
    exact h.other j (fun i hi e => hj ⟨i, List.mem_range.2 hi, e⟩)

/-- New blocks that slots point to, each another one. -/
structure News (al : Nat → Bool) (sl : Nat → Nat) (n : Nat) (a : Act) (w : World) : Prop where
  low : ∀ j, j < n → al j = true → a.tmps[sl j]?.getD undef = undef ∨ ∃ p, a.tmps[sl j]?.getD undef = .pointer (some ⟨p, 0, none⟩) ∧ p < w.heap.size
  apart : ∀ i j, i < n → j < n → i ≠ j → al i = true → al j = true → ∀ p, a.tmps[sl i]?.getD undef = .pointer (some ⟨p, 0, none⟩) → a.tmps[sl j]?.getD undef ≠ .pointer (some ⟨p, 0, none⟩)

/-- A region that draws its order: whenever an operation of its head comes, it finds the values of those that it waits for, and leaves its own; all that is said of a value stays true as the world goes on. -/
theorem wp_region_head {rid : Nat} {a0 : Act} {w0 : World} {Q : Exit → Act → World → Prop} {n : Nat} (hm : P.follows .mixedOrders = true) (hs : Region.sinkB .any ops n = true) (hc : Region.chainB .any ops n = true) (hn : n < ops.size) (hback : backB .any ops = true)
    (sl : Nat → Nat) (hsl : ∀ i j, i < n → j < n → sl i = sl j → i = j) (R : World → World → Prop) (hRr : ∀ w, R w w) (hRt : ∀ a b c, R a b → R b c → R a c) (hRs : ∀ a b, R a b → a.heap.size ≤ b.heap.size)
    (al : Nat → Bool) (ha0 : ∀ j, j < n → al j = true → a0.tmps[sl j]?.getD undef = undef)
    (J : Nat → Value → World → Prop) (hJ : ∀ j v w w', J j v w → R w w' → J j v w')
    (hg : ∀ i oi, i < n → ops[i]? = some oi → oi.guard = none ∧ oi.dst = some (sl i))
    (hstep : ∀ i oi, i < n → ops[i]? = some oi → ∀ a w, Agree a0 a sl n → R w0.drew w → (∀ e, e ∈ oi.after → Region.binds .any e = true → J e.on (a.tmps[sl e.on]?.getD undef) w) →
      Oper.wp P oi a w (fun a' w' => ∃ v, a' = a.put oi.dst v ∧ sl i < a.tmps.size ∧ J i v w' ∧ R w w' ∧ (al i = true → v = .pointer (some ⟨w.heap.size, 0, none⟩) ∧ w.heap.size < w'.heap.size)) Q)
    (htail : ∀ a w, Agree a0 a sl n → R w0.drew w → News al sl n a w → (∀ j, j < n → J j (a.tmps[sl j]?.getD undef) w) → wpAny P .any ops Q (ops.size - n) (headDone n ops.size) a w) :
    (Code.region rid ops true).wp P Q a0 w0 := by
  refine wp_region_any hm ?_
  have h := wpAny_head (P := P) (ops := ops) (md := .any) (Q := Q) hs hc hn (fun a w => Agree a0 a sl n ∧ R w0.drew w ∧ News al sl n a w) (fun j a w => J j (a.tmps[sl j]?.getD undef) w) hback
    (fun i oi hi ho => (hg i oi hi ho).1)
    (fun i oi hi ho a w hB hI => by
      refine Oper.wp_mono (fun a' w' h => ?_) (hstep i oi hi ho a w hB.1 hB.2.1 hI)
      obtain ⟨v, rfl, hsz, hv, hR, hal⟩ := h
      rw [(hg i oi hi ho).2]
      have hself : (a.put (some (sl i)) v).tmps[sl i]?.getD undef = v := by
        simp only [Act.put]
        rw [Array.getElem?_setIfInBounds_self_of_lt hsz]
        rfl
      have hoth : ∀ j, j < n → j ≠ i → (a.put (some (sl i)) v).tmps[sl j]?.getD undef = a.tmps[sl j]?.getD undef := fun j hj hne => by
        simp only [Act.put]
        rw [Array.getElem?_setIfInBounds_ne (fun e => hne (hsl j i hj hi e.symm))]
      have hgrow := hRs _ _ hR
      refine ⟨⟨hB.1.put hi v, hRt _ _ _ hB.2.1 hR, ⟨fun j hj haj => ?_, fun q j hq hj hne haq haj p hp hp2 => ?_⟩⟩, ?_, fun j hj hne hIj => ?_⟩
      · by_cases e : j = i
        · subst e
          rw [hself]
          obtain ⟨h1, h2⟩ := hal haj
          exact .inr ⟨_, h1, h2⟩
        · rw [hoth j hj e]
          exact (hB.2.2.low j hj haj).imp id (fun ⟨p, h1, h2⟩ => ⟨p, h1, by omega⟩)
      · by_cases e : q = i
        · subst e
          rw [hself] at hp
          rw [hoth j hj (Ne.symm hne)] at hp2
          obtain ⟨h1, _⟩ := hal haq
          rw [h1] at hp
          rcases hB.2.2.low j hj haj with h | ⟨p', h3, h4⟩
          · rw [h] at hp2; cases hp2
          · rw [h3] at hp2
            simp only [Value.pointer.injEq, Option.some.injEq, Addr.mk.injEq, and_true] at hp hp2
            omega
        · rw [hoth q hq e] at hp
          by_cases e2 : j = i
          · subst e2
            rw [hself] at hp2
            obtain ⟨h1, _⟩ := hal haj
            rw [h1] at hp2
            rcases hB.2.2.low q hq haq with h | ⟨p', h3, h4⟩
            · rw [h] at hp; cases hp
            · rw [h3] at hp
              simp only [Value.pointer.injEq, Option.some.injEq, Addr.mk.injEq, and_true] at hp hp2
              omega
          · rw [hoth j hj e2] at hp2
            exact hB.2.2.apart q j hq hj hne haq haj p hp hp2
      · rw [hself]; exact hv
      · rw [hoth j hj hne]
        exact hJ j _ w w' hIj hR)
    (fun a w hB hI => htail a w hB.1 hB.2.1 hB.2.2 hI) n (Array.replicate ops.size false) a0 w0.drew
    ⟨by simp, fun j oj _ hl => (by rw [getD_replicate_false] at hl; exact absurd hl (by simp)), fun t _ ht => (by simp [ht])⟩ ?_
    ⟨⟨rfl, rfl, fun _ _ => rfl⟩, hRr _, ⟨fun j hj haj => .inl (ha0 j hj haj), fun q j hq hj hne haq haj p hp => by rw [ha0 q hq haq] at hp; cases hp⟩⟩ (fun j hj hl => ?_)
  · rw [show n + (ops.size - n) = ops.size by omega] at h
    exact h
  · have : ∀ m, m ≤ ops.size → left (Array.replicate ops.size false) m = m := by
      intro m
      induction m with
      | zero => intro _; rfl
      | succ m ih => intro hm; unfold left; rw [ih (by omega)]; simp [show m < ops.size by omega]
    exact this n (by omega)
  · simp [show j < ops.size by omega] at hl
end
end Go.Proofs.YticfkfjijnfcbaaDoor
