/- A map from pointers to bools, by what is said of the keys that hold false. -/
import Derived.Test.YtdcifdpkfcgmhaaDoorProg
import Derived.Test.YtdcifdpkfcgmhaaDoorCr0
import Derived.Deep.AppendLies
import Derived.Lib.SliceRun
import Derived.Test.YtdcifdpkfcgmhaaDoorCr1
import Derived.WalkKit
import Derived.RangeFuncRecord

/- The program's own copy of a tree: nodes behind pointers; how they lie in memory; the contract of slices.Clone at ints. -/
namespace Go.Proofs.YtdcifdpkfcgmhaaDoor
open Go.RowKit

/-- A slice of ints in the blocks from lo up to hi. -/
def IntsR (w : World) (lo hi : Nat) (v : Value) (ks : List Int) : Prop :=
  ∃ (a : Option Addr) (cap : Nat), v = .slice a ks.length cap ∧ ks.length ≤ cap ∧ cap ≤ maxLen ∧ (a = none → cap = 0) ∧
    (ks = [] ∨ ∃ b o, a = some ⟨b, o, none⟩ ∧ lo ≤ b ∧ b < hi ∧ ∀ i, i < ks.length → w.cell? ⟨b, o + i, none⟩ = some (.int .i64 (ks.getD i 0)))

/-- A slice of pointers to the starts of blocks. -/
def PtrsR (w : World) (lo hi : Nat) (a : Option Addr) (n : Nat) (ps : Nat → Nat) : Prop :=
  n = 0 ∨ ∃ b o, a = some ⟨b, o, none⟩ ∧ lo ≤ b ∧ b < hi ∧ ∀ i, i < n → w.cell? ⟨b, o + i, none⟩ = some (.pointer (some ⟨ps i, 0, none⟩))

/-- A node at block b, all that it reaches in the blocks from lo up to hi; the kids in parts of that which lie apart. -/
inductive NodeIn (w : World) : Nat → Nat → Nat → Tr → Prop where
  | mk (ks : List Int) (cs : List Tr) (lo hi b : Nat) (kv : Value) (a : Option Addr) (cap : Nat) (ps s : Nat → Nat)
      (hlo : lo ≤ b) (hhi : b < hi) (hs0 : b < s 0) (hsn : s cs.length ≤ hi) (hs : ∀ i, i < cs.length → s i ≤ s (i + 1))
      (hbox : w.heap[b]? = some (.cells #[kv, .slice a cs.length cap] 110 (0, 0)))
      (hk : IntsR w lo hi kv ks) (hlen : cs.length ≤ cap) (hcap : cap ≤ maxLen) (hat : PtrsR w lo hi a cs.length ps)
      (hkids : ∀ i (h : i < cs.length), NodeIn w (s i) (s (i + 1)) (ps i) cs[i]) :
      NodeIn w lo hi b (.mk ks cs)

theorem cell_of_blk {w w' : World} {b o : Nat} (h : w'.heap[b]? = w.heap[b]?) : w'.cell? ⟨b, o, none⟩ = w.cell? ⟨b, o, none⟩ := World.cell?_of_block (w := w) (a := ⟨b, o, none⟩) h

theorem IntsR.same {w w' : World} {lo hi : Nat} {v : Value} {ks : List Int} (h : IntsR w lo hi v ks) (hb : ∀ k, lo ≤ k → k < hi → w'.heap[k]? = w.heap[k]?) : IntsR w' lo hi v ks := by
  obtain ⟨a, cap, hv, h1, h2, hnl, h3⟩ := h
  refine ⟨a, cap, hv, h1, h2, hnl, ?_⟩
  rcases h3 with h3 | ⟨b, o, h3, h4, h5, h6⟩
  · exact .inl h3
  · exact .inr ⟨b, o, h3, h4, h5, fun i hi => by rw [cell_of_blk (hb b h4 h5)]; exact h6 i hi⟩

theorem IntsR.widen {w : World} {lo hi lo' hi' : Nat} {v : Value} {ks : List Int} (h : IntsR w lo hi v ks) (h1 : lo' ≤ lo) (h2 : hi ≤ hi') : IntsR w lo' hi' v ks := by
  obtain ⟨a, cap, hv, g1, g2, hnl, h3⟩ := h
  refine ⟨a, cap, hv, g1, g2, hnl, ?_⟩
  rcases h3 with h3 | ⟨b, o, h3, h4, h5, h6⟩
  · exact .inl h3
  · exact .inr ⟨b, o, h3, by omega, by omega, h6⟩

theorem IntsR.in {w : World} {lo hi : Nat} {v : Value} {ks : List Int} (h : IntsR w lo hi v ks) : IntsIn w hi v ks := by
  obtain ⟨a, cap, hv, g1, g2, hnl, h3⟩ := h
  refine ⟨a, cap, hv, g1, g2, hnl, ?_⟩
  rcases h3 with h3 | ⟨b, o, h3, h4, h5, h6⟩
  · exact .inl h3
  · exact .inr ⟨b, o, h3, h5, h6⟩

theorem PtrsR.same {w w' : World} {lo hi n : Nat} {a : Option Addr} {ps : Nat → Nat} (h : PtrsR w lo hi a n ps) (hb : ∀ k, lo ≤ k → k < hi → w'.heap[k]? = w.heap[k]?) : PtrsR w' lo hi a n ps := by
  rcases h with h3 | ⟨b, o, h3, h4, h5, h6⟩
  · exact .inl h3
  · exact .inr ⟨b, o, h3, h4, h5, fun i hi => by rw [cell_of_blk (hb b h4 h5)]; exact h6 i hi⟩

theorem PtrsR.widen {w : World} {lo hi lo' hi' n : Nat} {a : Option Addr} {ps : Nat → Nat} (h : PtrsR w lo hi a n ps) (h1 : lo' ≤ lo) (h2 : hi ≤ hi') : PtrsR w lo' hi' a n ps := by
  rcases h with h3 | ⟨b, o, h3, h4, h5, h6⟩
  · exact .inl h3
  · exact .inr ⟨b, o, h3, by omega, by omega, h6⟩

theorem steps_le {s : Nat → Nat} {n : Nat} (hs : ∀ i, i < n → s i ≤ s (i + 1)) : ∀ i j, i ≤ j → j ≤ n → s i ≤ s j := by
  intro i j hij
  induction hij with
  | refl => intro _; exact Nat.le_refl _
  | step h ih => intro hj; exact Nat.le_trans (ih (by omega)) (hs _ (by omega))

theorem NodeIn.widen {w : World} {lo hi b : Nat} {t : Tr} (h : NodeIn w lo hi b t) : ∀ {lo' hi' : Nat}, lo' ≤ lo → hi ≤ hi' → NodeIn w lo' hi' b t := by
  cases h with
  | mk ks cs lo hi b kv a cap ps s hlo hhi hs0 hsn hs hbox hk hlen hcap hat hkids =>
    intro lo' hi' h1 h2
    exact .mk ks cs lo' hi' b kv a cap ps s (by omega) (by omega) hs0 (by omega) hs hbox (hk.widen h1 h2) hlen hcap (hat.widen h1 h2) hkids

theorem NodeIn.same {w w' : World} {lo hi b : Nat} {t : Tr} (h : NodeIn w lo hi b t) : (∀ k, lo ≤ k → k < hi → w'.heap[k]? = w.heap[k]?) → NodeIn w' lo hi b t := by
  induction h with
  | mk ks cs lo hi b kv a cap ps s hlo hhi hs0 hsn hs hbox hk hlen hcap hat hkids ih =>
    intro hb
    refine .mk ks cs lo hi b kv a cap ps s hlo hhi hs0 hsn hs ((hb b hlo hhi).trans hbox) (hk.same hb) hlen hcap (hat.same hb) (fun i hi' => ih i hi' (fun k h1 h2 => hb k ?_ ?_))
    · have := steps_le hs 0 i (by omega) (by omega); omega
    · have := steps_le hs (i + 1) cs.length (by omega) (by omega); omega

theorem NodeIn.range {w : World} {lo hi b : Nat} {t : Tr} (h : NodeIn w lo hi b t) : lo ≤ b ∧ b < hi ∧ b < w.heap.size := by
  cases h with
  | mk ks cs lo hi b kv a cap ps s hlo hhi hs0 hsn hs hbox hk hlen hcap hat hkids => exact ⟨hlo, hhi, (Array.getElem?_eq_some_iff.1 hbox).1⟩

/-- Its parts. -/
theorem NodeIn.parts {w : World} {lo hi b : Nat} {ks : List Int} {cs : List Tr} (h : NodeIn w lo hi b (.mk ks cs)) :
    ∃ (kv : Value) (a : Option Addr) (cap : Nat) (ps s : Nat → Nat), lo ≤ b ∧ b < hi ∧ b < s 0 ∧ s cs.length ≤ hi ∧ (∀ i, i < cs.length → s i ≤ s (i + 1)) ∧
      w.heap[b]? = some (.cells #[kv, .slice a cs.length cap] 110 (0, 0)) ∧ IntsR w lo hi kv ks ∧ cs.length ≤ cap ∧ cap ≤ maxLen ∧ PtrsR w lo hi a cs.length ps ∧
      ∀ i (h : i < cs.length), NodeIn w (s i) (s (i + 1)) (ps i) cs[i] := by
  cases h with
  | mk ks cs lo hi b kv a cap ps s hlo hhi hs0 hsn hs hbox hk hlen hcap hat hkids => exact ⟨kv, a, cap, ps, s, hlo, hhi, hs0, hsn, hs, hbox, hk, hlen, hcap, hat, hkids⟩

theorem IntsOwn.inR {w : World} {lo : Nat} {v : Value} {ks : List Int} (h : IntsOwn w lo v ks) : IntsR w lo w.heap.size v ks := by
  have h0 := h
  obtain ⟨h1, ⟨h2, h3⟩ | ⟨g, cap, cur, hv, hb, hg, hn, hm, hs, ht⟩⟩ := h
  · obtain rfl : ks = [] := List.length_eq_zero_iff.1 h3
    exact ⟨none, 0, h2, by simp, by unfold maxLen; omega, fun _ => rfl, .inl rfl⟩
  · refine ⟨_, cap, hv, hn, hm, by simp, .inr ⟨g, 0, rfl, hb, (Array.getElem?_eq_some_iff.1 hg).1, fun i hi => ?_⟩⟩
    subst hv
    rw [Nat.zero_add, World.ownsRow.cellAt h0 i (by omega)]
    simp [hi]

set_option maxRecDepth 100000 in
set_option maxHeartbeats 1000000 in
theorem clone_c {v : Value} {ks : List Int} (w : World) (hk : IntsAt w v ks) (hn : ks.length ≤ 1048576) :
    Calls Tryd.prog 114 #[v] w fun e w' => ∃ v', e = .returned v' ∧ IntsOwn w' w.heap.size v' ks ∧ Below w.heap.size w w' := by
  obtain ⟨a, cap, rfl, hnl, h3⟩ := hk
  have q22 : ∀ (w : World) (a : Option Addr) (n c n' c' : Nat), (binOp .eql 22 (.slice a n c) (.slice none n' c')).run Tryd.prog w = .ok (.bool a.isNone) w := fun w a n c n' c' => Lib.run_eql_slice_nil w _ _ a n c n' c' Tryd.underlying22
  have h00 : IntsOwn (w.alloc (.cells #[] 3)) w.heap.size (.slice (some ⟨w.heap.size, 0, none⟩) 0 0) [] := World.ownsRow_made w #[] 0 (Nat.le_refl _) (by unfold maxLen; omega) rfl
  have hb0 : Below w.heap.size w (w.alloc (.cells #[] 3)) := (Below.refl _ _).alloc (Nat.le_refl _) _
  rcases a with _ | p
  · obtain rfl := hnl rfl
    obtain rfl : ks = [] := by
      rcases h3 with h | ⟨b, o, h, _⟩
      · exact h
      · cases h
    clear h3 h00 hb0
    go_enter Tryd.func114, Tryd.ntmps114
    go_wp2_with fail
    go_ret
    exact ⟨_, rfl, ⟨rfl, .inl ⟨rfl, rfl⟩⟩, Below.refl _ _⟩
  · have hsrc : IntsAt (w.alloc (.cells #[] 3)) (.slice (some p) ks.length cap) ks := by
      refine ⟨some p, cap, rfl, by simp, ?_⟩
      rcases h3 with h | ⟨b, o, h, hc⟩
      · exact .inl h
      · refine .inr ⟨b, o, h, fun i hi => ?_⟩
        have h1 := hc i hi
        rw [below_cell hb0 (World.block_lt_of_cell? w _ h1)]
        exact h1
    have H00 := Lib.hid h00
    have HB0 := Lib.hid hb0
    have HSRC := Lib.hid hsrc
    have hln : ([] : List Int).length + ks.length ≤ 17592186044416 := by simp; omega
    have hlo : w.heap.size ≤ (w.alloc (.cells #[] 3)).heap.size := by simp
    have HLN := Lib.hid hln
    have HLO := Lib.hid hlo
    clear h3 h00 hb0 hsrc hn hnl hln hlo
    go_enter Tryd.func114, Tryd.ntmps114
    go_wp2_with (at_builtin; refine wpList_append_ints rfl _ _ rfl w.heap.size _ _ [] ks rfl H00.out rfl HSRC.out HLN.out HLO.out ?_; intro v2 w2 hown2 hbel2 _ hsh2; obtain ⟨a2, c2, rfl⟩ := hsh2; have HOX := Lib.hid hown2; have HBX := Lib.hid hbel2; clear hown2 hbel2)
    go_ret
    exact ⟨_, rfl, by simpa using HOX.out, HB0.out.trans HBX.out⟩
end Go.Proofs.YtdcifdpkfcgmhaaDoor

/- The way down: a slice of nodes and of how many of their parts lie behind. -/
namespace Go.Proofs.YtdcifdpkfcgmhaaDoor
open Go.RowKit

/-- The cells of the way's elements, from the root on. -/
def wcells : List (ATr × Nat) → List Value
  | [] => []
  | f :: r => .pointer (some f.1.addr) :: .int .i64 f.2 :: wcells r
theorem wcells_append (a b : List (ATr × Nat)) : wcells (a ++ b) = wcells a ++ wcells b := by
  induction a with
  | nil => rfl
  | cons f r ih => simp [wcells, ih]
theorem wcells_length (a : List (ATr × Nat)) : (wcells a).length = a.length * 2 := by
  induction a with
  | nil => rfl
  | cons f r ih => simp [wcells, ih]; omega

/-- The slice at block g. -/
abbrev Way (W : World) (lo g cap : Nat) (fr : List (ATr × Nat)) : Prop := W.ownsRow lo 131 2 (.slice (some ⟨g, 0, none⟩) fr.length cap) fr.length (wcells fr)

theorem Way.blk {W : World} {lo g cap : Nat} {fr : List (ATr × Nat)} (h : Way W lo g cap fr) : lo ≤ g ∧ ∃ cur, W.heap[g]? = some (.cells cur 131 (0, 0)) ∧ fr.length ≤ cap ∧ cap ≤ maxLen ∧ cur.size = cap * 2 ∧ cur.toList.take (fr.length * 2) = wcells fr := by
  obtain ⟨h1, ⟨h2, _⟩ | ⟨g', cap', cur, hv, hb, hg, hn, hm, hs, ht⟩⟩ := h
  · simp at h2
  · simp only [Value.slice.injEq, Option.some.injEq, Addr.mk.injEq, and_true, true_and] at hv
    obtain ⟨rfl, rfl⟩ := hv
    exact ⟨hb, cur, hg, hn, hm, hs, ht⟩

theorem Way.of {W : World} {lo g cap : Nat} {fr : List (ATr × Nat)} {cur : Array Value} (hb : lo ≤ g) (hg : W.heap[g]? = some (.cells cur 131 (0, 0))) (hn : fr.length ≤ cap) (hm : cap ≤ maxLen) (hs : cur.size = cap * 2) (ht : cur.toList.take (fr.length * 2) = wcells fr) : Way W lo g cap fr :=
  ⟨wcells_length fr, .inr ⟨g, cap, cur, rfl, hb, hg, hn, hm, hs, ht⟩⟩

theorem Way.lt {W : World} {lo g cap : Nat} {fr : List (ATr × Nat)} (h : Way W lo g cap fr) : g < W.heap.size := by
  obtain ⟨_, cur, hg, _⟩ := h.blk
  exact (Array.getElem?_eq_some_iff.1 hg).1

theorem Way.kept {W W' : World} {lo g cap : Nat} {fr : List (ATr × Nat)} (h : Way W lo g cap fr) (hb : W'.heap[g]? = W.heap[g]?) : Way W' lo g cap fr := by
  obtain ⟨h1, cur, hg, hn, hm, hs, ht⟩ := h.blk
  exact Way.of h1 (hb.trans hg) hn hm hs ht

/-- The last one's cells. -/
theorem Way.last {W : World} {lo g cap : Nat} {fr : List (ATr × Nat)} {a : ATr} {p : Nat} (h : Way W lo g cap (fr ++ [(a, p)])) :
    W.cell? ⟨g, fr.length * 2, none⟩ = some (.pointer (some a.addr)) ∧ W.cell? ⟨g, fr.length * 2 + 1, none⟩ = some (.int .i64 p) ∧ W.frozen? ⟨g, fr.length * 2 + 1, none⟩ = false := by
  have h1 := World.ownsRow.cellAt h (fr.length * 2) (by simp)
  have h2 := World.ownsRow.cellAt h (fr.length * 2 + 1) (by simp; omega)
  rw [wcells_append] at h1 h2
  obtain ⟨_, cur, hg, _⟩ := h.blk
  refine ⟨?_, ?_, ?_⟩
  · rw [h1]; simp [List.getElem?_append, wcells_length, wcells]
  · rw [h2]; simp [List.getElem?_append, wcells_length, wcells]
  · simp [World.frozen?, hg]

/-- The last one goes on. -/
theorem Way.pass {W : World} {lo g cap : Nat} {fr : List (ATr × Nat)} {a : ATr} {p : Nat} (h : Way W lo g cap (fr ++ [(a, p)])) (q : Nat) :
    Way (W.setCell ⟨g, fr.length * 2 + 1, none⟩ (.int .i64 q)) lo g cap (fr ++ [(a, q)]) := by
  obtain ⟨h1, cur, hg, hn, hm, hs, ht⟩ := h.blk
  refine Way.of h1 (cur := cur.setIfInBounds (fr.length * 2 + 1) (.int .i64 q)) ?_ (by simpa using hn) hm (by simpa using hs) ?_
  · simp [World.setCell, Array.getElem?_modify, hg]
  · have hl : (fr ++ [(a, q)]).length = (fr ++ [(a, p)]).length := by simp
    rw [hl]
    simp only [Array.toList_setIfInBounds]
    rw [List.take_set, ht, wcells_append, wcells_append]
    rw [List.set_append_right _ _ (by rw [wcells_length]; omega), wcells_length]
    congr 1
    rw [show fr.length * 2 + 1 - fr.length * 2 = 1 by omega]
    rfl

/-- The last one is left. -/
theorem Way.pop {W : World} {lo g cap : Nat} {fr : List (ATr × Nat)} {f : ATr × Nat} (h : Way W lo g cap (fr ++ [f])) : Way W lo g cap fr := by
  obtain ⟨h1, cur, hg, hn, hm, hs, ht⟩ := h.blk
  refine Way.of h1 hg (by simp at hn; omega) hm hs ?_
  have h2 : cur.toList.take (fr.length * 2) = (cur.toList.take ((fr ++ [f]).length * 2)).take (fr.length * 2) := by rw [List.take_take]; congr 1; simp
  rw [h2, ht, wcells_append, List.take_left' (wcells_length fr)]

theorem Tryd.infoSpot : (Tryd.prog.info? 131).map (fun i => (i.zero, i.size, i.bytes)) = some (some (.agg #[.pointer none, .int .i64 0]), 2, 16) := by kernel_rfl
theorem Tryd.infoTreePtr : (Tryd.prog.info? 33).map (fun i => (i.zero, i.size, i.bytes)) = some (some (.agg #[.slice none 0 0, .slice none 0 0]), 2, 48) := by kernel_rfl
theorem Tryd.infoBool : (Tryd.prog.info? 4).map (fun i => (i.zero, i.size, i.bytes)) = some (some (.bool false), 1, 1) := by kernel_rfl
end Go.Proofs.YtdcifdpkfcgmhaaDoor

/- A map from pointers to bools, by what is said of the keys that hold false. -/
namespace Go.Proofs.YtdcifdpkfcgmhaaDoor
open Go.RowKit

theorem pfind_some {q : Addr} : ∀ {L : List (Addr × Value × Nat)} {i j : Nat} {v : Value}, pfind q L i = some (j, v) → i ≤ j ∧ ∃ h : j - i < L.length, L[j - i].1 = q ∧ L[j - i].2.1 = v
  | [], i, j, v, h => by cases h
  | e :: es, i, j, v, h => by
    simp only [pfind] at h
    by_cases hq : q = e.1
    · rw [if_pos hq] at h
      obtain ⟨rfl, rfl⟩ : i = j ∧ e.2.1 = v := by simpa using h
      refine ⟨Nat.le_refl _, by simp, ?_⟩
      simp [hq]
    · rw [if_neg hq] at h
      obtain ⟨h1, h2, h3⟩ := pfind_some h
      have e1 : j - i = (j - (i + 1)) + 1 := by omega
      refine ⟨by omega, by simp; omega, ?_⟩
      simp only [e1, List.getElem_cons_succ]
      exact h3

theorem pfind_not {q : Addr} : ∀ {L : List (Addr × Value × Nat)} {i : Nat}, pfind q L i = none → ∀ e ∈ L, q ≠ e.1
  | [], i, h => by simp
  | e :: es, i, h => by
    simp only [pfind] at h
    by_cases hq : q = e.1
    · rw [if_pos hq] at h; cases h
    · rw [if_neg hq] at h
      intro x hx
      rcases List.mem_cons.1 hx with rfl | hx
      · exact hq
      · exact pfind_not h x hx

/-- The map at block b: its keys are addresses below block N, each once, its values bools, and S holds of the keys under which false stands. -/
def BMap (w : World) (N b : Nat) (S : Addr → Prop) : Prop :=
  ∃ L clock, PMapIs w b L clock ∧ (∀ e ∈ L, PAddr w e.1 ∧ e.1.block < N) ∧ (L.map (·.1)).Nodup ∧ ∀ e ∈ L, ∃ bo : Bool, e.2.1 = .bool bo ∧ (bo = false → S e.1)

theorem PAddr.kept {w w' : World} {a : Addr} (h : PAddr w a) (hk : ∀ k, k < w.heap.size → k = a.block → w'.heap[k]? = w.heap[k]?) : PAddr w' a := by
  obtain ⟨c, t, h⟩ := h
  exact ⟨c, t, (hk _ (Array.getElem?_eq_some_iff.1 h).1 rfl).trans h⟩

theorem BMap.kept {w w' : World} {N b : Nat} {S : Addr → Prop} (h : BMap w N b S) (hb : w'.heap[b]? = w.heap[b]?) (hp : ∀ a, a.block < N → PAddr w a → PAddr w' a) : BMap w' N b S := by
  obtain ⟨L, clock, h1, h2, h3, h4⟩ := h
  exact ⟨L, clock, hb.trans h1, fun e he => ⟨hp _ (h2 e he).2 (h2 e he).1, (h2 e he).2⟩, h3, h4⟩

theorem BMap.weaken {w : World} {N b : Nat} {S S' : Addr → Prop} (h : BMap w N b S) (hs : ∀ a, S a → S' a) : BMap w N b S' := by
  obtain ⟨L, clock, h1, h2, h3, h4⟩ := h
  exact ⟨L, clock, h1, h2, h3, fun e he => by obtain ⟨bo, e1, e2⟩ := h4 e he; exact ⟨bo, e1, fun h => hs _ (e2 h)⟩⟩

section
variable {P : Program} {T K E V : TypeId} {j jv : TypeInfo}

theorem bmap_new (w : World) (N : Nat) (S : Addr → Prop) : BMap (w.alloc (.map #[] 0)) N w.heap.size S :=
  ⟨[], 0, by unfold PMapIs; rw [show (w.alloc (.map #[] 0)).heap[w.heap.size]? = some (.map #[] 0) from World.alloc_heap_new w _]; rfl, by simp, by simp, by simp⟩

theorem bmap_lookup (w : World) (hT : P.underlying T = some (.map K V)) (hk : P.underlying K = some (.pointer E)) (hE : P.info? E = some j) (hsz : j.size ≠ 0) (hV : P.info? V = some jv) (hz : jv.zero = some (.bool false))
    {N b : Nat} {S : Addr → Prop} (hm : BMap w N b S) {q : Addr} (hq : PAddr w q) :
    ∃ bo known : Bool, (Instr.lookup T (.map (some b)) (.pointer (some q)) true).run P w = .ok (.tuple #[.bool bo, .bool known]) w ∧ (known = true → bo = false → S q) := by
  obtain ⟨L, clock, h1, h2, h3, h4⟩ := hm
  have hf := run_findKey_ptr w hk hE hsz hq L (fun e he => (h2 e he).1)
  unfold PMapIs at h1
  cases hp : pfind q L 0 with
  | none =>
    rw [hp] at hf
    exact ⟨false, false, by simp [Instr.lookup, run_underlying hT, getObj, Sem.run, h1, run_checkKey_ptr w _ 9999 hk, hf, zeroValue, typeInfo, hV, hz], fun h => by cases h⟩
  | some r =>
    obtain ⟨i, v⟩ := r
    rw [hp] at hf
    obtain ⟨_, hi, e1, e2⟩ := pfind_some hp
    obtain ⟨bo, e3, e4⟩ := h4 _ (List.getElem_mem hi)
    rw [e2] at e3
    subst e3
    exact ⟨bo, true, by simp [Instr.lookup, run_underlying hT, getObj, Sem.run, h1, run_checkKey_ptr w _ 9999 hk, hf], fun _ h => by rw [← e1]; exact e4 h⟩

theorem bmap_update (w : World) (hT : P.underlying T = some (.map K V)) (hk : P.underlying K = some (.pointer E)) (hE : P.info? E = some j) (hsz : j.size ≠ 0)
    {N b : Nat} {S : Addr → Prop} (hm : BMap w N b S) {q : Addr} (hq : PAddr w q) (hqN : q.block < N) (bo : Bool) :
    ∃ o : Obj, (Instr.mapUpdate T (.map (some b)) (.pointer (some q)) (.bool bo)).run P w = .ok () (w.putObj b o) ∧ BMap (w.putObj b o) N b (fun a => (S a ∧ a ≠ q) ∨ (bo = false ∧ a = q)) ∧ b < w.heap.size ∧ ∀ a, PAddr w a → a.block ≠ b := by
  obtain ⟨L, clock, h1, h2, h3, h4⟩ := hm
  have hf := run_findKey_ptr w hk hE hsz hq L (fun e he => (h2 e he).1)
  have hb := h1
  unfold PMapIs at h1
  have hlt : b < w.heap.size := (Array.getElem?_eq_some_iff.1 h1).1
  have hne : ∀ a, PAddr w a → a.block ≠ b := fun a ⟨c, t, h⟩ e => by rw [e, h1] at h; cases h
  have hput : ∀ (o : Obj) a, PAddr w a → PAddr (w.putObj b o) a := fun o a h => h.kept (fun k _ e => World.putObj_heap_other (by rw [e]; exact hne a h))
  cases hp : pfind q L 0 with
  | none =>
    rw [hp] at hf
    have hno := pfind_not hp
    refine ⟨.map ((L ++ [(q, Value.bool bo, clock)]).map mkEntry).toArray (clock + 1), by simp [Instr.mapUpdate, run_underlying hT, getObj, setObj, Sem.run, h1, run_checkKey_ptr w _ 9999 hk, hf, mkEntry, World.putObj], ?_, hlt, hne⟩
    refine ⟨L ++ [(q, .bool bo, clock)], clock + 1, (by unfold PMapIs; exact World.putObj_heap_same hlt), fun e he => ?_, ?_, fun e he => ?_⟩
    · rcases List.mem_append.1 he with he | he
      · exact ⟨hput _ _ (h2 e he).1, (h2 e he).2⟩
      · obtain rfl : e = (q, .bool bo, clock) := by simpa using he
        exact ⟨hput _ _ hq, hqN⟩
    · rw [List.map_append, List.nodup_append]
      refine ⟨h3, by simp, fun a ha c hc => ?_⟩
      obtain ⟨e, he, rfl⟩ := List.mem_map.1 ha
      obtain rfl : c = q := by simpa using hc
      exact (hno e he).symm
    · rcases List.mem_append.1 he with he | he
      · obtain ⟨b1, e1, e2⟩ := h4 e he
        exact ⟨b1, e1, fun h => .inl ⟨e2 h, (hno e he).symm⟩⟩
      · obtain rfl : e = (q, .bool bo, clock) := by simpa using he
        exact ⟨bo, rfl, fun h => .inr ⟨h, rfl⟩⟩
  | some r =>
    obtain ⟨i, v⟩ := r
    rw [hp] at hf
    obtain ⟨_, hi, e1, e2⟩ := pfind_some hp
    simp only [Nat.sub_zero] at hi e1 e2
    have hmod : ((L.map mkEntry).toArray.modify i fun e => { e with key := .pointer (some q), val := .bool bo }) = ((L.modify i (fun e => (e.1, .bool bo, e.2.2))).map mkEntry).toArray := by
      apply Array.ext'
      simp only [Array.toList_modify]
      apply List.ext_getElem?
      intro k
      simp only [List.getElem?_modify, List.getElem?_map]
      by_cases hk : i = k
      · subst hk
        simp [hi, mkEntry, e1]
      · simp [hk]
    refine ⟨.map ((L.modify i (fun e => (e.1, .bool bo, e.2.2))).map mkEntry).toArray clock, ?_, ?_, hlt, hne⟩
    · rw [← hmod]
      simp [Instr.mapUpdate, run_underlying hT, getObj, setObj, Sem.run, h1, run_checkKey_ptr w _ 9999 hk, hf, World.putObj, Instr.keyThatStays, Instr.sameBits, hi, mkEntry, e1]
    · have hmem : ∀ e ∈ L.modify i (fun e => (e.1, Value.bool bo, e.2.2)), (e.1 = q ∧ e.2.1 = .bool bo) ∨ (e ∈ L ∧ e.1 ≠ q) := by
        intro e he
        obtain ⟨k, hk, rfl⟩ := List.getElem_of_mem he
        rw [List.length_modify] at hk
        by_cases hik : i = k
        · subst hik
          left
          simp [e1]
        · right
          simp only [List.getElem_modify, if_neg hik]
          refine ⟨List.getElem_mem hk, fun e => hik ?_⟩
          have h5 : (L.map (·.1))[i]'(by simpa using hi) = (L.map (·.1))[k]'(by simpa using hk) := by simp [e1, e]
          exact (List.getElem_inj h3).1 h5
      refine ⟨L.modify i (fun e => (e.1, .bool bo, e.2.2)), clock, (by unfold PMapIs; exact World.putObj_heap_same hlt), fun e he => ?_, ?_, fun e he => ?_⟩
      · rcases hmem e he with h | h
        · rw [h.1]; exact ⟨hput _ _ hq, hqN⟩
        · exact ⟨hput _ _ (h2 e h.1).1, (h2 e h.1).2⟩
      · have : (L.modify i (fun e => (e.1, Value.bool bo, e.2.2))).map (·.1) = L.map (·.1) := by
          apply List.ext_getElem?
          intro k
          simp only [List.getElem?_map, List.getElem?_modify]
          by_cases hk : i = k
          · subst hk; simp [hi]
          · simp [hk]
        rw [this]; exact h3
      · rcases hmem e he with h | h
        · exact ⟨bo, h.2, fun hb => .inr ⟨hb, h.1⟩⟩
        · obtain ⟨b1, e3, e4⟩ := h4 e h.1
          exact ⟨b1, e3, fun hb => .inl ⟨e4 hb, h.2⟩⟩
end
end Go.Proofs.YtdcifdpkfcgmhaaDoor
