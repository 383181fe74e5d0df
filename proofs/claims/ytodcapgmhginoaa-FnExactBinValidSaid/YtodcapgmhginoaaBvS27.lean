/- The program's own copy of a tree: nodes behind pointers; how they lie in memory; the contract of slices.Clone at ints. -/
import Derived.Test.YtodcapgmhginoaaProg
import Derived.Test.YtodcapgmhginoaaBvS0
import Derived.Test.YtodcapgmhginoaaBvS1
import Derived.Deep.AppendLies
import Derived.Lib.SliceRun
namespace Go.Proofs.Ytodcapgmhginoaa
open Go.RowKit

/-- A slice of ints in the blocks from lo up to hi. -/
def IntsR (w : World) (lo hi : Nat) (v : Value) (ks : List Int) : Prop :=
  ∃ (a : Option Addr) (cap : Nat), v = .slice a ks.length cap ∧ ks.length ≤ cap ∧ cap ≤ maxLen ∧ (a = none → cap = 0) ∧
    (ks = [] ∨ ∃ b o, a = some ⟨b, o, none⟩ ∧ lo ≤ b ∧ b < hi ∧ ∀ i, i < ks.length → w.cell? ⟨b, o + i, none⟩ = some (.int .i64 (ks.getD i 0)))

/-- A slice of pointers to the starts of blocks. -/
def PtrsR (w : World) (lo hi : Nat) (a : Option Addr) (n : Nat) (ps : Nat → Nat) : Prop :=
  n = 0 ∨ ∃ b o, a = some ⟨b, o, none⟩ ∧ lo ≤ b ∧ b < hi ∧ ∀ i, i < n → w.cell? ⟨b, o + i, none⟩ = some (.pointer (some ⟨ps i, 0, none⟩))

/-- A node at block b, all that it reaches in the blocks from lo up to hi; the kids in parts of that which lie apart. -/
inductive NodeIn (w : World) : Nat → Nat → Nat → Tr → Prop where
  | mk (ks : List Int) (cs : List Tr) (lo hi b : Nat) (kv : Value) (a : Option Addr) (cap : Nat) (ps s : Nat → Nat)
      (hlo : lo ≤ b) (hhi : b < hi) (hs0 : b < s 0) (hsn : s cs.length ≤ hi) (hs : ∀ i, i < cs.length → s i ≤ s (i + 1))
      (hbox : w.heap[b]? = some (.cells #[kv, .slice a cs.length cap] 121 (0, 0)))
      (hk : IntsR w lo hi kv ks) (hlen : cs.length ≤ cap) (hcap : cap ≤ maxLen) (hat : PtrsR w lo hi a cs.length ps)
      (hkids : ∀ i (h : i < cs.length), NodeIn w (s i) (s (i + 1)) (ps i) cs[i]) :
      NodeIn w lo hi b (.mk ks cs)

theorem cell_of_blk {w w' : World} {b o : Nat} (h : w'.heap[b]? = w.heap[b]?) : w'.cell? ⟨b, o, none⟩ = w.cell? ⟨b, o, none⟩ := World.cell?_of_block (w := w) (a := ⟨b, o, none⟩) h

theorem IntsR.same {w w' : World} {lo hi : Nat} {v : Value} {ks : List Int} (h : IntsR w lo hi v ks) (hb : ∀ k, lo ≤ k → k < hi → w'.heap[k]? = w.heap[k]?) : IntsR w' lo hi v ks := by
  obtain ⟨a, cap, hv, h1, h2, hnl, h3⟩ := h
  refine ⟨a, cap, hv, h1, h2, hnl, ?_⟩
  rcases h3 with h3 | ⟨b, o, h3, h4, h5, h6⟩
  · exact .inl h3
  · exact .inr ⟨b, o, h3, h4, h5, fun i hi => by rw [cell_of_blk (hb b h4 h5)]; exact h6 i hi⟩

theorem IntsR.widen {w : World} {lo hi lo' hi' : Nat} {v : Value} {ks : List Int} (h : IntsR w lo hi v ks) (h1 : lo' ≤ lo) (h2 : hi ≤ hi') : IntsR w lo' hi' v ks := by
  obtain ⟨a, cap, hv, g1, g2, hnl, h3⟩ := h
  refine ⟨a, cap, hv, g1, g2, hnl, ?_⟩
  rcases h3 with h3 | ⟨b, o, h3, h4, h5, h6⟩
  · exact .inl h3
  · exact .inr ⟨b, o, h3, by omega, by omega, h6⟩

theorem IntsR.in {w : World} {lo hi : Nat} {v : Value} {ks : List Int} (h : IntsR w lo hi v ks) : IntsIn w hi v ks := by
  obtain ⟨a, cap, hv, g1, g2, hnl, h3⟩ := h
  refine ⟨a, cap, hv, g1, g2, hnl, ?_⟩
  rcases h3 with h3 | ⟨b, o, h3, h4, h5, h6⟩
  · exact .inl h3
  · exact .inr ⟨b, o, h3, h5, h6⟩

theorem PtrsR.same {w w' : World} {lo hi n : Nat} {a : Option Addr} {ps : Nat → Nat} (h : PtrsR w lo hi a n ps) (hb : ∀ k, lo ≤ k → k < hi → w'.heap[k]? = w.heap[k]?) : PtrsR w' lo hi a n ps := by
  rcases h with h3 | ⟨b, o, h3, h4, h5, h6⟩
  · exact .inl h3
  · exact .inr ⟨b, o, h3, h4, h5, fun i hi => by rw [cell_of_blk (hb b h4 h5)]; exact h6 i hi⟩

theorem PtrsR.widen {w : World} {lo hi lo' hi' n : Nat} {a : Option Addr} {ps : Nat → Nat} (h : PtrsR w lo hi a n ps) (h1 : lo' ≤ lo) (h2 : hi ≤ hi') : PtrsR w lo' hi' a n ps := by
  rcases h with h3 | ⟨b, o, h3, h4, h5, h6⟩
  · exact .inl h3
  · exact .inr ⟨b, o, h3, by omega, by omega, h6⟩

theorem steps_le {s : Nat → Nat} {n : Nat} (hs : ∀ i, i < n → s i ≤ s (i + 1)) : ∀ i j, i ≤ j → j ≤ n → s i ≤ s j := by
  intro i j hij
  induction hij with
  | refl => intro _; exact Nat.le_refl _
  | step h ih => intro hj; exact Nat.le_trans (ih (by omega)) (hs _ (by omega))

theorem NodeIn.widen {w : World} {lo hi b : Nat} {t : Tr} (h : NodeIn w lo hi b t) : ∀ {lo' hi' : Nat}, lo' ≤ lo → hi ≤ hi' → NodeIn w lo' hi' b t := by
  cases h with
  | mk ks cs lo hi b kv a cap ps s hlo hhi hs0 hsn hs hbox hk hlen hcap hat hkids =>
    intro lo' hi' h1 h2
    exact .mk ks cs lo' hi' b kv a cap ps s (by omega) (by omega) hs0 (by omega) hs hbox (hk.widen h1 h2) hlen hcap (hat.widen h1 h2) hkids

theorem NodeIn.same {w w' : World} {lo hi b : Nat} {t : Tr} (h : NodeIn w lo hi b t) : (∀ k, lo ≤ k → k < hi → w'.heap[k]? = w.heap[k]?) → NodeIn w' lo hi b t := by
  induction h with
  | mk ks cs lo hi b kv a cap ps s hlo hhi hs0 hsn hs hbox hk hlen hcap hat hkids ih =>
    intro hb
    refine .mk ks cs lo hi b kv a cap ps s hlo hhi hs0 hsn hs ((hb b hlo hhi).trans hbox) (hk.same hb) hlen hcap (hat.same hb) (fun i hi' => ih i hi' (fun k h1 h2 => hb k ?_ ?_))
    · have := steps_le hs 0 i (by omega) (by omega); omega
    · have := steps_le hs (i + 1) cs.length (by omega) (by omega); omega

theorem NodeIn.range {w : World} {lo hi b : Nat} {t : Tr} (h : NodeIn w lo hi b t) : lo ≤ b ∧ b < hi ∧ b < w.heap.size := by
  cases h with
  | mk ks cs lo hi b kv a cap ps s hlo hhi hs0 hsn hs hbox hk hlen hcap hat hkids => exact ⟨hlo, hhi, (Array.getElem?_eq_some_iff.1 hbox).1⟩

/-- Its parts. -/
theorem NodeIn.parts {w : World} {lo hi b : Nat} {ks : List Int} {cs : List Tr} (h : NodeIn w lo hi b (.mk ks cs)) :
    ∃ (kv : Value) (a : Option Addr) (cap : Nat) (ps s : Nat → Nat), lo ≤ b ∧ b < hi ∧ b < s 0 ∧ s cs.length ≤ hi ∧ (∀ i, i < cs.length → s i ≤ s (i + 1)) ∧
      w.heap[b]? = some (.cells #[kv, .slice a cs.length cap] 121 (0, 0)) ∧ IntsR w lo hi kv ks ∧ cs.length ≤ cap ∧ cap ≤ maxLen ∧ PtrsR w lo hi a cs.length ps ∧
      ∀ i (h : i < cs.length), NodeIn w (s i) (s (i + 1)) (ps i) cs[i] := by
  cases h with
  | mk ks cs lo hi b kv a cap ps s hlo hhi hs0 hsn hs hbox hk hlen hcap hat hkids => exact ⟨kv, a, cap, ps, s, hlo, hhi, hs0, hsn, hs, hbox, hk, hlen, hcap, hat, hkids⟩

theorem IntsOwn.inR {w : World} {lo : Nat} {v : Value} {ks : List Int} (h : IntsOwn w lo v ks) : IntsR w lo w.heap.size v ks := by
  have h0 := h
  obtain ⟨h1, ⟨h2, h3⟩ | ⟨g, cap, cur, hv, hb, hg, hn, hm, hs, ht⟩⟩ := h
  · obtain rfl : ks = [] := List.length_eq_zero_iff.1 h3
    exact ⟨none, 0, h2, by simp, by unfold maxLen; omega, fun _ => rfl, .inl rfl⟩
  · refine ⟨_, cap, hv, hn, hm, by simp, .inr ⟨g, 0, rfl, hb, (Array.getElem?_eq_some_iff.1 hg).1, fun i hi => ?_⟩⟩
    subst hv
    rw [Nat.zero_add, World.ownsRow.cellAt h0 i (by omega)]
    simp [hi]

set_option maxRecDepth 100000 in
set_option maxHeartbeats 1000000 in
theorem clone_c {v : Value} {ks : List Int} (w : World) (hk : IntsAt w v ks) (hn : ks.length ≤ 1048576) :
    Calls Try.prog 106 #[v] w fun e w' => ∃ v', e = .returned v' ∧ IntsOwn w' w.heap.size v' ks ∧ Below w.heap.size w w' := by
  obtain ⟨a, cap, rfl, hnl, h3⟩ := hk
  have q22 : ∀ (w : World) (a : Option Addr) (n c n' c' : Nat), (binOp .eql 22 (.slice a n c) (.slice none n' c')).run Try.prog w = .ok (.bool a.isNone) w := fun w a n c n' c' => Lib.run_eql_slice_nil w _ _ a n c n' c' Try.underlying22
  have h00 : IntsOwn (w.alloc (.cells #[] 3)) w.heap.size (.slice (some ⟨w.heap.size, 0, none⟩) 0 0) [] := World.ownsRow_made w #[] 0 (Nat.le_refl _) (by unfold maxLen; omega) rfl
  have hb0 : Below w.heap.size w (w.alloc (.cells #[] 3)) := (Below.refl _ _).alloc (Nat.le_refl _) _
  rcases a with _ | p
  · obtain rfl := hnl rfl
    obtain rfl : ks = [] := by
      rcases h3 with h | ⟨b, o, h, _⟩
      · exact h
      · cases h
    clear h3 h00 hb0
    go_enter Try.func106, Try.ntmps106
    go_wp2_with fail
    go_ret
    exact ⟨_, rfl, ⟨rfl, .inl ⟨rfl, rfl⟩⟩, Below.refl _ _⟩
  · have hsrc : IntsAt (w.alloc (.cells #[] 3)) (.slice (some p) ks.length cap) ks := by
      refine ⟨some p, cap, rfl, by simp, ?_⟩
      rcases h3 with h | ⟨b, o, h, hc⟩
      · exact .inl h
      · refine .inr ⟨b, o, h, fun i hi => ?_⟩
        have h1 := hc i hi
        rw [below_cell hb0 (World.block_lt_of_cell? w _ h1)]
        exact h1
    have H00 := Lib.hid h00
    have HB0 := Lib.hid hb0
    have HSRC := Lib.hid hsrc
    have hln : ([] : List Int).length + ks.length ≤ 17592186044416 := by simp; omega
    have hlo : w.heap.size ≤ (w.alloc (.cells #[] 3)).heap.size := by simp
    have HLN := Lib.hid hln
    have HLO := Lib.hid hlo
    clear h3 h00 hb0 hsrc hn hnl hln hlo
    go_enter Try.func106, Try.ntmps106
    go_wp2_with (at_builtin; refine wpList_append_ints rfl _ _ rfl w.heap.size _ _ [] ks rfl H00.out rfl HSRC.out HLN.out HLO.out ?_; intro v2 w2 hown2 hbel2 _ hsh2; obtain ⟨a2, c2, rfl⟩ := hsh2; have HOX := Lib.hid hown2; have HBX := Lib.hid hbel2; clear hown2 hbel2)
    go_ret
    exact ⟨_, rfl, by simpa using HOX.out, HB0.out.trans HBX.out⟩
end Go.Proofs.Ytodcapgmhginoaa
