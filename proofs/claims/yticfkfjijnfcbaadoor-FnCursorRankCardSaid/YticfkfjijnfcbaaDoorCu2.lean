/- Whether a number lies between two others; the model's l1In and l1Wide. -/
import Derived.Test.YticfkfjijnfcbaaDoorCu0
/- Trees in memory by the blocks that they lie in: a footprint. -/
namespace Go.Proofs.YticfkfjijnfcbaaDoor
open Go.RowKit
def IntsP (w : World) (P : Nat → Prop) (v : Value) (ks : List Int) : Prop :=
 ∃ (a : Option Addr) (cap : Nat), v = .slice a ks.length cap ∧ ks.length ≤ cap ∧ cap ≤ maxLen ∧ (a = none → cap = 0) ∧
   (ks = [] ∨ ∃ b o, a = some ⟨b, o, none⟩ ∧ P b ∧ ∀ i, i < ks.length → w.cell? ⟨b, o + i, none⟩ = some (.int .i64 (ks.getD i 0)))
def KidsP (w : World) (P : Nat → Prop) (a : Option Addr) (n : Nat) (kvs cvs : Nat → Value) : Prop :=
 n = 0 ∨ ∃ b o, a = some ⟨b, o, none⟩ ∧ P b ∧ ∀ i, i < n →
   w.cell? ⟨b, o + i * 2, none⟩ = some (kvs i) ∧ w.cell? ⟨b, o + i * 2 + 1, none⟩ = some (cvs i)
inductive TreeP (w : World) (P : Nat → Prop) : Value → Value → Tr → Prop where
 | mk (ks : List Int) (cs : List Tr) (kv : Value) (a : Option Addr) (cap : Nat) (kvs cvs : Nat → Value)
     (hk : IntsP w P kv ks) (hlen : cs.length ≤ cap) (hcap : cap ≤ maxLen) (hat : KidsP w P a cs.length kvs cvs)
     (hkids : ∀ i (h : i < cs.length), TreeP w P (kvs i) (cvs i) cs[i]) :
     TreeP w P kv (.slice a cs.length cap) (.mk ks cs)
theorem cellP {w w' : World} {b o : Nat} (h : w'.heap[b]? = w.heap[b]?) : w'.cell? ⟨b, o, none⟩ = w.cell? ⟨b, o, none⟩ := World.cell?_of_block (w := w) (a := ⟨b, o, none⟩) h
theorem IntsP.same {w w' : World} {P Q : Nat → Prop} {v : Value} {ks : List Int} (h : IntsP w P v ks) (hb : ∀ k, P k → w'.heap[k]? = w.heap[k]?) (hq : ∀ k, P k → Q k) : IntsP w' Q v ks := by
 obtain ⟨a, cap, hv, h1, h2, hnl, h3⟩ := h
 refine ⟨a, cap, hv, h1, h2, hnl, ?_⟩
 rcases h3 with h3 | ⟨b, o, h3, h4, h5⟩
 · exact .inl h3
 · exact .inr ⟨b, o, h3, hq b h4, fun i hi => by rw [cellP (hb b h4)]; exact h5 i hi⟩
theorem TreeP.tree {w : World} {B : Nat} {P : Nat → Prop} {kv cv : Value} {t : Tr} (h : TreeP w P kv cv t) (hq : ∀ k, P k → k < B) : TreeIn w B kv cv t := by
 induction h with
 | mk ks cs kv a cap kvs cvs hk hlen hcap hat hkids ih =>
   refine TreeIn.mk ks cs kv a cap kvs cvs ?_ hlen hcap ?_ ih
   · obtain ⟨a, cap, hv, h1, h2, hnl, h3⟩ := hk
     refine ⟨a, cap, hv, h1, h2, hnl, ?_⟩
     rcases h3 with h3 | ⟨b, o, h3, h4, h5⟩
     · exact .inl h3
     · exact .inr ⟨b, o, h3, hq b h4, h5⟩
   · rcases hat with h3 | ⟨b, o, h3, h4, h5⟩
     · exact .inl h3
     · exact .inr ⟨b, o, h3, hq b h4, h5⟩
theorem TreeP.slices {w : World} {P : Nat → Prop} {kv cv : Value} {t : Tr} (h : TreeP w P kv cv t) : ∃ a n c a' n' c', kv = .slice a n c ∧ cv = .slice a' n' c' := by
 cases h with
 | mk ks cs kv a cap kvs cvs hk hlen hcap hat hkids =>
   obtain ⟨ka, kcap, rfl, _⟩ := hk
   exact ⟨_, _, _, _, _, _, rfl, rfl⟩
theorem IntsOwn.p {w : World} {lo : Nat} {v : Value} {ks : List Int} (h : IntsOwn w lo v ks) : IntsP w (fun k => lo ≤ k ∧ k < w.heap.size) v ks := by
 obtain ⟨a, cap, hv, h1, h2, h3, h4⟩ := IntsOwn.in h
 refine ⟨a, cap, hv, h1, h2, h3, ?_⟩
 rcases h4 with h4 | ⟨b, o, h5, h6, h7⟩
 · exact .inl h4
 · refine .inr ⟨b, o, h5, ⟨?_, h6⟩, h7⟩
   obtain ⟨_, ⟨e1, _⟩ | ⟨g, c, cur, e1, e2, _⟩⟩ := h
   · rw [e1, h5] at hv; cases hv
   · rw [e1] at hv
     simp only [Value.slice.injEq] at hv
     rw [h5] at hv
     simp only [Option.some.injEq, Addr.mk.injEq, and_true] at hv
     obtain ⟨⟨rfl, _⟩, _⟩ := hv
     exact e2
theorem IntsOwn.keep {w w' : World} {lo : Nat} {v : Value} {ks : List Int} (h : IntsOwn w lo v ks) (hb : ∀ k, lo ≤ k → k < w.heap.size → w'.heap[k]? = w.heap[k]?) : IntsOwn w' lo v ks := by
 obtain ⟨h1, h2 | ⟨g, cap, cur, hv, hbb, hg, hr⟩⟩ := h
 · exact ⟨h1, .inl h2⟩
 · exact ⟨h1, .inr ⟨g, cap, cur, hv, hbb, (hb g hbb (Array.getElem?_eq_some_iff.1 hg).1).trans hg, hr⟩⟩
def Plain (w : World) (k : Nat) : Prop := ∃ (c : Array Value) (t : TypeId), w.heap[k]? = some (.cells c t (0, 0))
theorem Plain.kept {w w' : World} {k : Nat} (h : Plain w k) (hb : w'.heap[k]? = w.heap[k]?) : Plain w' k := by
 obtain ⟨c, t, h⟩ := h
 exact ⟨c, t, hb.trans h⟩
def KidsQ (w : World) (P : Nat → Prop) (a : Option Addr) (n : Nat) (kvs cvs : Nat → Value) : Prop :=
 n = 0 ∨ ∃ b o, a = some ⟨b, o, none⟩ ∧ (P b ∧ Plain w b) ∧ ∀ i, i < n →
   w.cell? ⟨b, o + i * 2, none⟩ = some (kvs i) ∧ w.cell? ⟨b, o + i * 2 + 1, none⟩ = some (cvs i)
inductive TreeQ (w : World) (P : Nat → Prop) : Value → Value → Tr → Prop where
 | mk (ks : List Int) (cs : List Tr) (kv : Value) (a : Option Addr) (cap : Nat) (kvs cvs : Nat → Value)
     (hk : IntsP w P kv ks) (hlen : cs.length ≤ cap) (hcap : cap ≤ maxLen) (hat : KidsQ w P a cs.length kvs cvs)
     (hkids : ∀ i (h : i < cs.length), TreeQ w P (kvs i) (cvs i) cs[i]) :
     TreeQ w P kv (.slice a cs.length cap) (.mk ks cs)
theorem KidsQ.same {w w' : World} {P Q : Nat → Prop} {a : Option Addr} {n : Nat} {kvs cvs : Nat → Value} (h : KidsQ w P a n kvs cvs) (hb : ∀ k, P k → w'.heap[k]? = w.heap[k]?) (hq : ∀ k, P k → Q k) : KidsQ w' Q a n kvs cvs := by
 rcases h with h3 | ⟨b, o, h3, h4, h5⟩
 · exact .inl h3
 · exact .inr ⟨b, o, h3, ⟨hq b h4.1, h4.2.kept (hb b h4.1)⟩, fun i hi => ⟨by rw [cellP (hb b h4.1)]; exact (h5 i hi).1, by rw [cellP (hb b h4.1)]; exact (h5 i hi).2⟩⟩
theorem TreeQ.same {w w' : World} {P Q : Nat → Prop} {kv cv : Value} {t : Tr} (h : TreeQ w P kv cv t) (hb : ∀ k, P k → w'.heap[k]? = w.heap[k]?) (hq : ∀ k, P k → Q k) : TreeQ w' Q kv cv t := by
 induction h with
 | mk ks cs kv a cap kvs cvs hk hlen hcap hat hkids ih => exact TreeQ.mk ks cs kv a cap kvs cvs (hk.same hb hq) hlen hcap (hat.same hb hq) ih
theorem TreeQ.p {w : World} {P : Nat → Prop} {kv cv : Value} {t : Tr} (h : TreeQ w P kv cv t) : TreeP w P kv cv t := by
 induction h with
 | mk ks cs kv a cap kvs cvs hk hlen hcap hat hkids ih =>
   refine TreeP.mk ks cs kv a cap kvs cvs hk hlen hcap ?_ ih
   rcases hat with h3 | ⟨b, o, h3, h4, h5⟩
   · exact .inl h3
   · exact .inr ⟨b, o, h3, h4.1, h5⟩
theorem TreeQ.tree {w : World} {B : Nat} {P : Nat → Prop} {kv cv : Value} {t : Tr} (h : TreeQ w P kv cv t) (hq : ∀ k, P k → k < B) : TreeIn w B kv cv t := h.p.tree hq
theorem TreeQ.slices {w : World} {P : Nat → Prop} {kv cv : Value} {t : Tr} (h : TreeQ w P kv cv t) : ∃ a n c a' n' c', kv = .slice a n c ∧ cv = .slice a' n' c' := h.p.slices
end Go.Proofs.YticfkfjijnfcbaaDoor
/- The contracts of the model's functions on trees: CountNodes, l1Depth, FullNodes. -/
namespace Go.Proofs.YticfkfjijnfcbaaDoor
open Go.RowKit
set_option maxHeartbeats 1000000 in
theorem specDepth_c {w : World} {B : Nat} {kv cv : Value} {t : Tr} (ht : TreeIn w B kv cv t) (hw : t.weight ≤ 1048576) :
   ∀ w', Below B w w' → B ≤ w'.heap.size →
   Calls Tryd.prog 128 #[.agg #[kv, cv]] w' fun e w'' => e = .returned (.int .i64 t.depth) ∧ Below w'.heap.size w' w'' := by
 induction ht with
 | mk ks cs kv a cap kvs cvs hk hlen hcap hat hkids ih =>
   intro w' hbw hB
   simp only [Tr.weight] at hw
   unfold maxLen at hcap
   have hcl := Tr.counts_le cs
   have hcd := Tr.depths_le cs
   have HAT := Lib.hid (hat.later hbw (Nat.le_refl _))
   have IH := Lib.hid ih
   have HKI := Lib.hid hkids
   clear hk hat ih hkids
   go_enter Tryd.func128, Tryd.ntmps128
   go_wp2_with fail
   go_loopw [3, 9] (fun l i wr => ∃ (j : Nat), j ≤ cs.length ∧ i = .int .i64 j ∧ l = .int .i64 (Tr.depths (cs.take j)) ∧ Below w'.heap.size w' wr) (fun _ i _ => cs.length - (intOf i).toNat)
   case atStart => exact ⟨0, Nat.zero_le _, rfl, by simp [Tr.depths], (Below.refl _ _).alloc (Nat.le_refl _) _⟩
   case round =>
     obtain ⟨j, hj, rfl, rfl, hbel⟩ := hrel
     by_cases hlt : j < cs.length
     · rcases HAT.out with h | ⟨b, off, rfl, hb, hat⟩
       · omega
       obtain ⟨ha, hc⟩ := hat j hlt
       obtain ⟨a1, n1, c1, a2, n2, c2, e1, e2⟩ := (HKI.out j hlt).slices
       rw [← below_cell hbel (by omega)] at ha hc
       rw [e1] at ha
       rw [e2] at hc
       have hz := hbel.size
       have hC := fun w1 h1 h2 => IH.out j hlt (by have := Tr.weight_get_le cs j hlt; omega) w1 h1 h2
       rw [e1, e2] at hC
       have HC := Lib.hid hC
       have hts := Tr.depths_take_succ cs j hlt
       have HT := Lib.hid hts
       clear hat hC hts e1 e2
       go_wp2_with fail
       refine (HC.out _ (hbw.trans ((hbel.alloc hz _).mono hB)) (by simp; omega)).mono ?_
       rintro e w1 ⟨rfl, hb1⟩
       have hb1' : Below w'.heap.size w' w1 := (hbel.alloc hz _).trans (hb1.mono (by simp; omega))
       clear hb1
       go_wp2_with fail
       all_goals (
         go_roundw
         case rel => exact ⟨j + 1, by omega, by go_num, by rw [HT.out]; go_num, hb1'⟩
         case measure => simp [intOf]; omega)
     · obtain rfl : j = cs.length := by omega
       rw [List.take_length]
       go_wp2_with fail
       go_ret
       exact ⟨ret_int (by simp only [Tr.depth]; omega), hbel⟩
end Go.Proofs.YticfkfjijnfcbaaDoor
/- Whether a number lies between two others; the model's l1In and l1Wide. -/
namespace Go.Proofs.YticfkfjijnfcbaaDoor
open Go.RowKit
def inB (n lo hi : Int) : Bool := decide (lo ≤ n) && decide (n ≤ hi)
theorem inB_true {n lo hi : Int} (h : lo ≤ n) (h' : n ≤ hi) : inB n lo hi = true := by simp [inB, h, h']
theorem inB_false {n lo hi : Int} (h : ¬ (lo ≤ n ∧ n ≤ hi)) : inB n lo hi = false := by
 simp only [inB, Bool.and_eq_false_iff, decide_eq_false_iff_not]; omega
theorem l1In_c (n lo hi : Int) (w : World) : Calls Tryd.prog 106 #[.int .i64 n, .int .i64 lo, .int .i64 hi] w fun e w' => e = .returned (.bool (inB n lo hi)) ∧ w = w' := by
 by_cases h1 : lo ≤ n
 · by_cases h2 : n ≤ hi
   · go_enter Tryd.func106, Tryd.ntmps106
     go_wp2_with fail
     go_ret
     exact ⟨ret_bool (inB_true h1 h2).symm, rfl⟩
   · go_enter Tryd.func106, Tryd.ntmps106
     go_wp2_with fail
     go_ret
     exact ⟨ret_bool (inB_false (by omega)).symm, rfl⟩
 · go_enter Tryd.func106, Tryd.ntmps106
   go_wp2_with fail
   go_ret
   exact ⟨ret_bool (inB_false (by omega)).symm, rfl⟩
theorem l1Wide_c (n : Int) (w : World) : Calls Tryd.prog 126 #[.int .i64 n] w fun e w' => e = .returned (.bool (inB n 2 6)) ∧ w = w' := by
 go_enter Tryd.func126, Tryd.ntmps126
 go_wp2_with fail
 refine (l1In_c n 2 6 _).mono ?_
 rintro e w1 ⟨rfl, rfl⟩
 go_wp2_with fail
 go_ret
 exact ⟨rfl, rfl⟩
end Go.Proofs.YticfkfjijnfcbaaDoor
