/- Whether a number lies between two others; the model's l1In and l1Wide. -/
import Derived.Test.YtdcifdpkfcgmhaaDoorProg
import Derived.Test.YtdcifdpkfcgmhaaDoorCr0
import Derived.Test.YtdcifdpkfcgmhaaDoorCr1
import Derived.Test.YtdcifdpkfcgmhaaDoorCr3

/- Trees by footprint and rows of trees. -/
namespace Go.Proofs.YtdcifdpkfcgmhaaDoor
open Go.RowKit

theorem TreeP.parts {w : World} {P : Nat → Prop} {kv cv : Value} {ks : List Int} {cs : List Tr} (h : TreeP w P kv cv (.mk ks cs)) :
    ∃ (a : Option Addr) (cap : Nat) (kvs cvs : Nat → Value), cv = .slice a cs.length cap ∧ IntsP w P kv ks ∧ cs.length ≤ cap ∧ cap ≤ maxLen ∧ KidsP w P a cs.length kvs cvs ∧ ∀ i (h : i < cs.length), TreeP w P (kvs i) (cvs i) cs[i] := by
  cases h with
  | mk _ _ _ a cap kvs cvs hk hlen hcap hat hkids => exact ⟨a, cap, kvs, cvs, rfl, hk, hlen, hcap, hat, hkids⟩
theorem IntsP.in {w : World} {P : Nat → Prop} {B : Nat} {v : Value} {ks : List Int} (h : IntsP w P v ks) (hq : ∀ k, P k → k < B) : IntsIn w B v ks := by
  obtain ⟨a, cap, hv, h1, h2, hnl, h3⟩ := h
  refine ⟨a, cap, hv, h1, h2, hnl, ?_⟩
  rcases h3 with h3 | ⟨b, o, h3, h4, h5⟩
  · exact .inl h3
  · exact .inr ⟨b, o, h3, hq b h4, h5⟩
theorem KidsP.in {w : World} {P : Nat → Prop} {B n : Nat} {a : Option Addr} {kvs cvs : Nat → Value} (h : KidsP w P a n kvs cvs) (hq : ∀ k, P k → k < B) : KidsIn w B a n kvs cvs := by
  rcases h with h3 | ⟨b, o, h3, h4, h5⟩
  · exact .inl h3
  · exact .inr ⟨b, o, h3, hq b h4, h5⟩
theorem treeP_row {W : World} {Q : Nat → Prop} {lo n cp : Nat} {kv : Value} {ks : List Int} {a : Option Addr} {L : List (Value × Value)} {cs : List Tr} (hk : IntsP W Q kv ks) (hrow : TreesOwn W lo (.slice a n cp) L) (hq : ∀ q, lo ≤ q → q < W.heap.size → Q q) (hl : L.length = cs.length)
    (hkids : ∀ i (h : i < cs.length), TreeP W Q (L.getD i (undef, undef)).1 (L.getD i (undef, undef)).2 cs[i]) : TreeP W Q kv (.slice a n cp) (.mk ks cs) := by
  have hlt := hrow.lt
  obtain ⟨a', cap, e, h1, h2, hat⟩ := TreesOwn.kids hrow
  simp only [Value.slice.injEq] at e
  obtain ⟨rfl, rfl, rfl⟩ := e
  rw [hl] at h1 hat hlt ⊢
  refine .mk ks cs kv a cp _ _ hk h1 h2 ?_ hkids
  rcases hat with h | ⟨b, o, rfl, hb, hc⟩
  · exact .inl h
  · have := hlt b rfl
    exact .inr ⟨b, o, rfl, hq b this.1 this.2, hc⟩

theorem IntsP.leaf {W : World} {Q : Nat → Prop} {a : Option Addr} {n c g : Nat} {ks : List Int} (h : IntsP W Q (.slice a n c) ks) : TreeP W Q (.slice a n c) (.slice (some ⟨g, 0, none⟩) 0 0) (.mk ks []) :=
  TreeP.mk ks [] _ (some ⟨g, 0, none⟩) 0 (fun _ => undef) (fun _ => undef) h (Nat.le_refl _) (by unfold maxLen; omega) (.inl rfl) (fun i hi => by simp at hi)

theorem KidsQ.p {w : World} {P : Nat → Prop} {a : Option Addr} {n : Nat} {kvs cvs : Nat → Value} (h : KidsQ w P a n kvs cvs) : KidsP w P a n kvs cvs := by
  rcases h with h3 | ⟨b, o, h3, h4, h5⟩
  · exact .inl h3
  · exact .inr ⟨b, o, h3, h4.1, h5⟩
theorem TreeQ.parts {w : World} {P : Nat → Prop} {kv cv : Value} {ks : List Int} {cs : List Tr} (h : TreeQ w P kv cv (.mk ks cs)) :
    ∃ (a : Option Addr) (cap : Nat) (kvs cvs : Nat → Value), cv = .slice a cs.length cap ∧ IntsP w P kv ks ∧ cs.length ≤ cap ∧ cap ≤ maxLen ∧ KidsQ w P a cs.length kvs cvs ∧ ∀ i (h : i < cs.length), TreeQ w P (kvs i) (cvs i) cs[i] := by
  cases h with
  | mk _ _ _ a cap kvs cvs hk hlen hcap hat hkids => exact ⟨a, cap, kvs, cvs, rfl, hk, hlen, hcap, hat, hkids⟩
theorem treeQ_row {W : World} {Q : Nat → Prop} {lo n cp : Nat} {kv : Value} {ks : List Int} {a : Option Addr} {L : List (Value × Value)} {cs : List Tr} (hk : IntsP W Q kv ks) (hrow : TreesOwn W lo (.slice a n cp) L) (hq : ∀ q, lo ≤ q → q < W.heap.size → Q q) (hl : L.length = cs.length)
    (hkids : ∀ i (h : i < cs.length), TreeQ W Q (L.getD i (undef, undef)).1 (L.getD i (undef, undef)).2 cs[i]) : TreeQ W Q kv (.slice a n cp) (.mk ks cs) := by
  have hlt := hrow.lt
  obtain ⟨a', cap, e, h1, h2, hat⟩ := TreesOwn.kids hrow
  have hpl : ∀ b, Value.ownBlock (.slice a n cp) = some b → Plain W b := fun b hb => by
    obtain ⟨_, ⟨h3, _⟩ | ⟨g, cap, cur, hv, _, hg, _⟩⟩ := hrow
    · rw [h3] at hb; cases hb
    · rw [hv] at hb; cases hb; exact ⟨cur, _, hg⟩
  simp only [Value.slice.injEq] at e
  obtain ⟨rfl, rfl, rfl⟩ := e
  rw [hl] at h1 hat hlt hpl ⊢
  refine .mk ks cs kv a cp _ _ hk h1 h2 ?_ hkids
  rcases hat with h | ⟨b, o, rfl, hb, hc⟩
  · exact .inl h
  · have := hlt b rfl
    exact .inr ⟨b, o, rfl, ⟨hq b this.1 this.2, hpl b rfl⟩, hc⟩
theorem IntsP.leafQ {W : World} {Q : Nat → Prop} {a : Option Addr} {n c g : Nat} {ks : List Int} (h : IntsP W Q (.slice a n c) ks) : TreeQ W Q (.slice a n c) (.slice (some ⟨g, 0, none⟩) 0 0) (.mk ks []) :=
  TreeQ.mk ks [] _ (some ⟨g, 0, none⟩) 0 (fun _ => undef) (fun _ => undef) h (Nat.le_refl _) (by unfold maxLen; omega) (.inl rfl) (fun i hi => by simp at hi)
end Go.Proofs.YtdcifdpkfcgmhaaDoor

/- The contract of the model's l1Leaf. -/
namespace Go.Proofs.YtdcifdpkfcgmhaaDoor
open Go.RowKit

/-- What l1Leaf leaves: a row of keys, and an empty row of kids behind it. -/
def Leafed (w : World) (ks : List Int) (e : Ending) (w' : World) : Prop :=
  ∃ (kv : Value) (g : Nat), e = .returned (.agg #[kv, .slice (some ⟨g, 0, none⟩) 0 0]) ∧ IntsOwn w' (w.heap.size + 1) kv ks ∧ (∀ k, kv.ownBlock = some k → k < g) ∧
    w.heap.size < g ∧ w'.heap[g]? = some (.cells #[] 33 (0, 0)) ∧ Below w.heap.size w w'

set_option maxHeartbeats 1000000 in
theorem leaf_c (w : World) (v : Value) (ks : List Int) (hk : ∀ w', Below w.heap.size w w' → IntsAt w' v ks) (hl : ks.length ≤ 1048576) :
    Calls Tryd.prog 120 #[v] w (Leafed w ks) := by
  obtain ⟨W1, hW1⟩ : ∃ W1, W1 = w.alloc (.cells #[.slice none 0 0, .slice none 0 0] 33) := ⟨_, rfl⟩
  have hs1 : W1.heap.size = w.heap.size + 1 := by rw [hW1]; simp
  have hb1 : Below w.heap.size w W1 := by rw [hW1]; exact (Below.refl _ _).alloc (Nat.le_refl _) _
  have h00 : IntsOwn (W1.alloc (.cells #[] 3)) (w.heap.size + 1) (.slice (some ⟨w.heap.size + 1, 0, none⟩) 0 0) [] := by
    rw [← hs1]; exact World.ownsRow_made W1 #[] 0 (Nat.le_refl _) (by unfold maxLen; omega) rfl
  have hsrc : IntsAt (W1.alloc (.cells #[] 3)) v ks := hk _ (hb1.alloc (by omega) _)
  have hlo : w.heap.size + 1 ≤ (W1.alloc (.cells #[] 3)).heap.size := by simp; omega
  have hln : ([] : List Int).length + ks.length ≤ 17592186044416 := by simp; omega
  have kb0 : (W1.alloc (.cells #[] 3)).heap[w.heap.size]? = some (.cells #[.slice none 0 0, .slice none 0 0] 33 (0, 0)) := by rw [old_blk _ _ _ (by omega), hW1, new_blk]
  have hb2 : Below w.heap.size w (W1.alloc (.cells #[] 3)) := hb1.alloc (by omega) _
  have hs2 : (W1.alloc (.cells #[] 3)).heap.size = w.heap.size + 2 := by simp; omega
  have H00 := Lib.hid h00
  have HSRC := Lib.hid hsrc
  have HLN := Lib.hid hln
  have HB2 := Lib.hid (And.intro kb0 (And.intro hb2 hs2))
  rw [hW1] at H00 HSRC hlo HB2
  clear h00 hsrc hln hb1 hk hW1 hs1 kb0 hb2 hs2 W1
  go_enter Tryd.func120, Tryd.ntmps120
  go_wp2_with (at_builtin; refine wpList_append_ints rfl _ _ rfl (w.heap.size + 1) _ _ [] ks rfl H00.out rfl HSRC.out HLN.out hlo ?_; intro v2 w2 hown2 hbel2 _ hsh2; obtain ⟨a2, c2, rfl⟩ := hsh2; have hsz2 := hbel2.size; have hsz0 := HB2.out.2.2; have hlt2 : w.heap.size < w2.heap.size := (by omega); have kb2 := (hbel2.block w.heap.size (by omega)).trans HB2.out.1; obtain ⟨c1, c2', c3, c4⟩ := box2 kb2; have HOX := Lib.hid (And.intro hown2 (And.intro hbel2 (And.intro kb2 hsz2))); clear hown2 hbel2 kb2 hsz2 hsz0)
  obtain ⟨F, hF⟩ : ∃ F, F = (((w2.setCell ⟨w.heap.size, 0, none⟩ (.slice a2 ks.length c2)).setCell ⟨w.heap.size, 1, none⟩ (.slice (some ⟨w2.heap.size, 0, none⟩) 0 0)).alloc (.cells #[] 33)) := ⟨_, rfl⟩
  have hsF : ((w2.setCell ⟨w.heap.size, 0, none⟩ (.slice a2 ks.length c2)).setCell ⟨w.heap.size, 1, none⟩ (.slice (some ⟨w2.heap.size, 0, none⟩) 0 0)).heap.size = w2.heap.size := by simp
  have kF : F.heap[w.heap.size]? = some (.cells #[.slice a2 ks.length c2, .slice (some ⟨w2.heap.size, 0, none⟩) 0 0] 33 (0, 0)) := by
    rw [hF, old_blk _ _ _ (by rw [hsF]; exact hlt2)]
    exact set_blk (o := 1) _ (set_blk (o := 0) _ HOX.out.2.2.1)
  have kG : F.heap[w2.heap.size]? = some (.cells #[] 33 (0, 0)) := by
    have h := new_blk ((w2.setCell ⟨w.heap.size, 0, none⟩ (.slice a2 ks.length c2)).setCell ⟨w.heap.size, 1, none⟩ (.slice (some ⟨w2.heap.size, 0, none⟩) 0 0)) (.cells #[] 33)
    rw [hsF] at h; rw [hF]; exact h
  have kE : ∀ k, k ≠ w.heap.size → k < w2.heap.size → F.heap[k]? = w2.heap[k]? := fun k h1 h2 => by
    rw [hF, old_blk _ _ _ (by rw [hsF]; exact h2), set_other _ _ _ _ _ h1, set_other _ _ _ _ _ h1]
  have hzF : F.heap.size = w2.heap.size + 1 := by rw [hF]; simp
  rw [← hF]
  have hoF : F.os = w2.os ∧ F.tape = w2.tape ∧ F.output = w2.output := by rw [hF]; exact ⟨rfl, rfl, rfl⟩
  clear hF c1 c2' c3 c4
  obtain ⟨d1, d2, d3, d4⟩ := box2 kF
  have hb2 := HB2.out.2.1
  have hbe := HOX.out.2.1
  refine bodyPost_ret (v := .agg #[.slice a2 ks.length c2, .slice (some ⟨w2.heap.size, 0, none⟩) 0 0]) (by simp [results, Tryd.results120, go_sem, d1, d2]) rfl ⟨_, w2.heap.size, rfl, ?_, ?_, hlt2, kG, ?_⟩
  · have h := HOX.out.1
    rw [List.nil_append] at h
    exact h.keep (fun k h1 h2 => kE k (by omega) h2)
  · intro k hk
    have h := HOX.out.1
    rw [List.nil_append] at h
    exact (h.lt k hk).2
  · refine ⟨hoF.1.trans (hbe.os.trans hb2.os), hoF.2.1.trans (hbe.tape.trans hb2.tape), hoF.2.2.trans (hbe.output.trans hb2.output), by omega, fun k hk => ?_⟩
    rw [kE k (by omega) (by omega), hbe.block k (by omega), hb2.block k hk]
end Go.Proofs.YtdcifdpkfcgmhaaDoor

/- The contracts of the model's functions on trees: CountNodes, l1Depth, FullNodes. -/
namespace Go.Proofs.YtdcifdpkfcgmhaaDoor
open Go.RowKit

set_option maxHeartbeats 1000000 in
theorem specDepth_c {w : World} {B : Nat} {kv cv : Value} {t : Tr} (ht : TreeIn w B kv cv t) (hw : t.weight ≤ 1048576) :
    ∀ w', Below B w w' → B ≤ w'.heap.size →
    Calls Tryd.prog 125 #[.agg #[kv, cv]] w' fun e w'' => e = .returned (.int .i64 t.depth) ∧ Below w'.heap.size w' w'' := by
  induction ht with
  | mk ks cs kv a cap kvs cvs hk hlen hcap hat hkids ih =>
    intro w' hbw hB
    simp only [Tr.weight] at hw
    unfold maxLen at hcap
    have hcl := Tr.counts_le cs
    have hcd := Tr.depths_le cs
    have HAT := Lib.hid (hat.later hbw (Nat.le_refl _))
    have IH := Lib.hid ih
    have HKI := Lib.hid hkids
    clear hk hat ih hkids
    go_enter Tryd.func125, Tryd.ntmps125
    go_wp2_with fail
    go_loopw [3, 9] (fun l i wr => ∃ (j : Nat), j ≤ cs.length ∧ i = .int .i64 j ∧ l = .int .i64 (Tr.depths (cs.take j)) ∧ Below w'.heap.size w' wr) (fun _ i _ => cs.length - (intOf i).toNat)
    case atStart => exact ⟨0, Nat.zero_le _, rfl, by simp [Tr.depths], (Below.refl _ _).alloc (Nat.le_refl _) _⟩
    case round =>
      obtain ⟨j, hj, rfl, rfl, hbel⟩ := hrel
      by_cases hlt : j < cs.length
      · rcases HAT.out with h | ⟨b, off, rfl, hb, hat⟩
        · omega
        obtain ⟨ha, hc⟩ := hat j hlt
        obtain ⟨a1, n1, c1, a2, n2, c2, e1, e2⟩ := (HKI.out j hlt).slices
        rw [← below_cell hbel (by omega)] at ha hc
        rw [e1] at ha
        rw [e2] at hc
        have hz := hbel.size
        have hC := fun w1 h1 h2 => IH.out j hlt (by have := Tr.weight_get_le cs j hlt; omega) w1 h1 h2
        rw [e1, e2] at hC
        have HC := Lib.hid hC
        have hts := Tr.depths_take_succ cs j hlt
        have HT := Lib.hid hts
        clear hat hC hts e1 e2
        go_wp2_with fail
        refine (HC.out _ (hbw.trans ((hbel.alloc hz _).mono hB)) (by simp; omega)).mono ?_
        rintro e w1 ⟨rfl, hb1⟩
        have hb1' : Below w'.heap.size w' w1 := (hbel.alloc hz _).trans (hb1.mono (by simp; omega))
        clear hb1
        go_wp2_with fail
        all_goals (
          go_roundw
          case rel => exact ⟨j + 1, by omega, by go_num, by rw [HT.out]; go_num, hb1'⟩
          case measure => simp [intOf]; omega)
      · obtain rfl : j = cs.length := by omega
        rw [List.take_length]
        go_wp2_with fail
        go_ret
        exact ⟨ret_int (by simp only [Tr.depth]; omega), hbel⟩
end Go.Proofs.YtdcifdpkfcgmhaaDoor

/- Whether a number lies between two others; the model's l1In and l1Wide. -/
namespace Go.Proofs.YtdcifdpkfcgmhaaDoor
open Go.RowKit

/-- Whether a number lies between two others. -/
def inB (n lo hi : Int) : Bool := decide (lo ≤ n) && decide (n ≤ hi)
theorem inB_true {n lo hi : Int} (h : lo ≤ n) (h' : n ≤ hi) : inB n lo hi = true := by simp [inB, h, h']
theorem inB_false {n lo hi : Int} (h : ¬ (lo ≤ n ∧ n ≤ hi)) : inB n lo hi = false := by
  simp only [inB, Bool.and_eq_false_iff, decide_eq_false_iff_not]; omega

theorem l1In_c (n lo hi : Int) (w : World) : Calls Tryd.prog 104 #[.int .i64 n, .int .i64 lo, .int .i64 hi] w fun e w' => e = .returned (.bool (inB n lo hi)) ∧ w = w' := by
  by_cases h1 : lo ≤ n
  · by_cases h2 : n ≤ hi
    · go_enter Tryd.func104, Tryd.ntmps104
      go_wp2_with fail
      go_ret
      exact ⟨ret_bool (inB_true h1 h2).symm, rfl⟩
    · go_enter Tryd.func104, Tryd.ntmps104
      go_wp2_with fail
      go_ret
      exact ⟨ret_bool (inB_false (by omega)).symm, rfl⟩
  · go_enter Tryd.func104, Tryd.ntmps104
    go_wp2_with fail
    go_ret
    exact ⟨ret_bool (inB_false (by omega)).symm, rfl⟩

theorem l1Wide_c (n : Int) (w : World) : Calls Tryd.prog 123 #[.int .i64 n] w fun e w' => e = .returned (.bool (inB n 2 6)) ∧ w = w' := by
  go_enter Tryd.func123, Tryd.ntmps123
  go_wp2_with fail
  refine (l1In_c n 2 6 _).mono ?_
  rintro e w1 ⟨rfl, rfl⟩
  go_wp2_with fail
  go_ret
  exact ⟨rfl, rfl⟩
end Go.Proofs.YtdcifdpkfcgmhaaDoor
