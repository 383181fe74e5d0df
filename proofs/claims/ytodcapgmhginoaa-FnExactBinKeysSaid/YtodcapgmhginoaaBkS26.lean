/- The contract of markBin over a copy that toBin made. -/
import Derived.Test.YtodcapgmhginoaaProg
import Derived.Test.YtodcapgmhginoaaBkS0
import Derived.Test.YtodcapgmhginoaaBkS1
import Derived.Test.YtodcapgmhginoaaBkS2
import Derived.Test.YtodcapgmhginoaaBkS4
import Derived.Test.YtodcapgmhginoaaBkS25
namespace Go.Proofs.Ytodcapgmhginoaa
open Go.RowKit

/-- The row of a node's kids: a key, a colour, their own kids. -/
abbrev threes (f : Nat → Int) (r : Nat → Bool) (cvs : Nat → Value) : Nat → Value := tri (fun i => .int .i64 (f i)) (fun i => .bool (r i)) cvs

/-- Keys and colours in rows of coloured trees may have been written; all other rows are as they were. -/
structure TouchB (w w' : World) : Prop where
  other : ∀ (b : Nat) (c : Array Value) (t : TypeId), w.heap[b]? = some (.cells c t (0, 0)) → t ≠ 48 → w'.heap[b]? = w.heap[b]?
  rows : ∀ (b n : Nat) (f : Nat → Int) (r : Nat → Bool) (cvs : Nat → Value), w.rowIs b 48 (n * 3) (threes f r cvs) → ∃ f' r', w'.rowIs b 48 (n * 3) (threes f' r' cvs)

theorem TouchB.refl (w : World) : TouchB w w := ⟨fun _ _ _ _ _ => rfl, fun _ _ f r _ h => ⟨f, r, h⟩⟩
theorem TouchB.trans {a b c : World} (h : TouchB a b) (k : TouchB b c) : TouchB a c :=
  ⟨fun x cc t hx ht => by
      have h1 := h.other x cc t hx ht
      exact (k.other x cc t (h1.trans hx) ht).trans h1,
    fun x n f r cvs hx => by
      obtain ⟨f1, r1, h1⟩ := h.rows x n f r cvs hx
      exact k.rows x n f1 r1 cvs h1⟩
theorem TouchB.of_below {w w' : World} {C : Nat} (h : Below C w w') (hC : w.heap.size ≤ C) : TouchB w w' :=
  ⟨fun b c t hx _ => h.block b (by have := (Array.getElem?_eq_some_iff.1 hx).1; omega), fun b n f r cvs hx => ⟨f, r, hx.of_block (h.block b (by have := hx.lt; omega))⟩⟩

theorem threes_two (f : Nat → Int) (r : Nat → Bool) (cvs : Nat → Value) (x : Int) (y : Bool) (j q : Nat) :
    (if q = j * 3 + 1 then Value.bool y else if q = j * 3 then Value.int .i64 x else threes f r cvs q) = threes (fun i => if i = j then x else f i) (fun i => if i = j then y else r i) cvs q := by
  unfold threes tri
  by_cases e1 : q = j * 3 + 1
  · rw [if_pos e1, if_neg (by omega), if_pos (by omega)]
    show _ = Value.bool (if q / 3 = j then y else r (q / 3))
    rw [if_pos (by omega)]
  · rw [if_neg e1]
    by_cases e0 : q = j * 3
    · rw [if_pos e0, if_pos (by omega)]
      show _ = Value.int .i64 (if q / 3 = j then x else f (q / 3))
      rw [if_pos (by omega)]
    · rw [if_neg e0]
      by_cases h0 : q % 3 = 0
      · rw [if_pos h0, if_pos h0]
        show _ = Value.int .i64 (if q / 3 = j then x else f (q / 3))
        rw [if_neg (by omega)]
      · rw [if_neg h0, if_neg h0]
        by_cases h1 : q % 3 = 1
        · rw [if_pos h1, if_pos h1]
          show _ = Value.bool (if q / 3 = j then y else r (q / 3))
          rw [if_neg (by omega)]
        · rw [if_neg h1, if_neg h1]

/-- A key and a colour are written. -/
theorem TouchB.store {w : World} {g n : Nat} {f : Nat → Int} {r : Nat → Bool} {cvs : Nat → Value} (h : w.rowIs g 48 (n * 3) (threes f r cvs)) (j : Nat) (x : Int) (y : Bool) :
    TouchB w ((w.setCell ⟨g, j * 3, none⟩ (.int .i64 x)).setCell ⟨g, j * 3 + 1, none⟩ (.bool y)) := by
  refine ⟨fun b c t hx ht => ?_, fun b m f' r' cvs' hx => ?_⟩
  · have hne : b ≠ g := fun e => by
      obtain ⟨cc, hb, _⟩ := h
      rw [e, hb] at hx
      cases hx
      exact ht rfl
    rw [set_other _ _ _ _ _ hne, set_other _ _ _ _ _ hne]
  · by_cases e : b = g
    · subst e
      exact ⟨_, _, ((hx.set (j * 3) (.int .i64 x)).set (j * 3 + 1) (.bool y)).congr (fun q _ => threes_two f' r' cvs' x y j q)⟩
    · exact ⟨f', r', hx.of_block (by rw [set_other _ _ _ _ _ e, set_other _ _ _ _ _ e])⟩

/-- A coloured tree in rows of its own, its keys and colours any. -/
inductive BinMem (w : World) (lo hi : Nat) : Value → Bt → Prop where
  | mk (key : Int) (red : Bool) (cs : List Bt) (g : Nat) (f : Nat → Int) (r : Nat → Bool) (cvs : Nat → Value) (hg : lo ≤ g) (hgh : g < hi)
      (hc : w.rowIs g 48 (cs.length * 3) (threes f r cvs))
      (hkids : ∀ i (h : i < cs.length), BinMem w lo hi (cvs i) cs[i]) :
      BinMem w lo hi (.slice (some ⟨g, 0, none⟩) cs.length cs.length) (.mk key red cs)

theorem BinNew.memB {w : World} {lo : Nat} {cv : Value} {t : Bt} (h : BinNew w lo cv t) : BinMem w lo w.heap.size cv t := by
  induction h with
  | mk key red cs h kvs rvs cvs hh hc hkr hkids ih =>
    refine .mk key red cs h (fun i => (cs.map Bt.key).getD i 0) (fun i => (cs.map Bt.red).getD i false) cvs hh hc.lt (hc.congr (fun q hq => ?_)) ih
    have hlt : q / 3 < cs.length := by omega
    obtain ⟨e1, e2⟩ := hkr (q / 3) hlt
    unfold threes tri
    rw [e1, e2]
    simp [hlt]

theorem BinMem.touch {w w' : World} {lo hi : Nat} {cv : Value} {t : Bt} (h : BinMem w lo hi cv t) (ht : TouchB w w') : BinMem w' lo hi cv t := by
  induction h with
  | mk key red cs g f r cvs hg hgh hc hkids ih =>
    obtain ⟨f', r', hc'⟩ := ht.rows g _ f r cvs hc
    exact .mk key red cs g f' r' cvs hg hgh hc' ih

theorem BinMem.shown {w : World} {lo hi : Nat} {cv : Value} {t : Bt} (h : BinMem w lo hi cv t) : ∃ g, cv = .slice (some ⟨g, 0, none⟩) t.cs.length t.cs.length := by
  cases h with
  | mk key red cs g f r cvs hg hgh hc hkids => exact ⟨g, rfl⟩

set_option maxHeartbeats 1000000 in
theorem markBinS_c {w0 : World} {lo hi : Nat} {cv : Value} {t : Bt} (ht : BinMem w0 lo hi cv t) (hw : t.weight ≤ 1048576) :
    ∀ w (k : Int), TouchB w0 w → 0 ≤ k → k + 2 * t.weight ≤ 1099511627776 →
    Calls Try.prog 81 #[cv, .int .i64 k] w fun e w' => e = .returned (.int .i64 (k + 2 * t.weight)) ∧ TouchB w w' ∧ Span lo hi w w' := by
  induction ht with
  | mk key red cs g f r cvs hg hgh hc hkids ih =>
    intro w k htw h0 h1
    simp only [Bt.weight] at hw h1 ⊢
    have hcl := Bt.length_le_weights cs
    have HC := Lib.hid hc
    have IH := Lib.hid ih
    have HKI := Lib.hid hkids
    have HTW := Lib.hid htw
    clear hc ih hkids htw
    go_enter Try.func81, Try.ntmps81
    go_wp2_with fail
    go_loopw [1, 5] (fun l i wr => ∃ (j : Nat), j ≤ cs.length ∧ i = .int .i64 j ∧ l = .int .i64 (k + 2 * Bt.weights (cs.take j)) ∧ TouchB w wr ∧ Span lo hi w wr) (fun _ i _ => cs.length - (intOf i).toNat)
    case atStart => exact ⟨0, Nat.zero_le _, rfl, by simp [Bt.weights], TouchB.refl _, Span.refl _ _ _⟩
    case round =>
      obtain ⟨j, hj, rfl, rfl, htr, hbel⟩ := hrel
      by_cases hlt : j < cs.length
      · obtain ⟨f1, r1, hrow⟩ := (HTW.out.trans htr).rows g _ f r cvs HC.out
        have hgl := hrow.lt
        have hmem := (HKI.out j hlt).touch (HTW.out.trans htr)
        obtain ⟨g1, e2⟩ := hmem.shown
        have hts := Bt.weights_take_succ cs j hlt
        have htl := Bt.weights_take_ge cs (j + 1)
        have hwt := Bt.weight_get_le cs j hlt
        obtain ⟨m, hm⟩ : ∃ m : Int, m = k + 2 * Bt.weights (cs.take j) := ⟨_, rfl⟩
        have hb1 : m + 2 + 2 * cs[j].weight ≤ 1099511627776 := by omega
        have hm0 : 0 ≤ m := by omega
        have hm2 : m ≤ 1099511627776 := by omega
        have hc0 := hrow.cell (i := j * 3) (by omega)
        have hc1 := hrow.cell (i := j * 3 + 1) (by omega)
        have hf0 := hrow.frozen (j * 3)
        have hf1 := hrow.frozen (j * 3 + 1)
        have hc2 : ∀ x y, ((wr.setCell ⟨g, j * 3, none⟩ x).setCell ⟨g, j * 3 + 1, none⟩ y).cell? ⟨g, j * 3 + 2, none⟩ = some (.slice (some ⟨g1, 0, none⟩) cs[j].cs.length cs[j].cs.length) := fun x y => by
          have := ((hrow.set (j * 3) x).set (j * 3 + 1) y).cell (i := j * 3 + 2) (by omega)
          rw [if_neg (by omega), if_neg (by omega), threes, tri_2, e2] at this
          exact this
        rw [threes, tri_0] at hc0
        rw [threes, tri_1] at hc1
        rw [← hm]
        have HR := Lib.hid hrow
        have HM := Lib.hid (And.intro hm hts)
        have HB := Lib.hid (And.intro htr hbel)
        have HI := Lib.hid (fun (wx : World) (kx : Int) a b c => e2 ▸ IH.out j hlt (by omega) wx kx a b c)
        have HB1 := Lib.hid hb1
        clear hrow hmem hm hts htr hbel e2 hb1 htl
        go_wp2_with fail
        have htS : TouchB wr ((wr.setCell ⟨g, j * 3, none⟩ (.int .i64 m)).setCell ⟨g, j * 3 + 1, none⟩ (.bool ((m + 1) % 3 == 0))) := TouchB.store HR.out j m _
        have hsp : Span lo hi wr ((wr.setCell ⟨g, j * 3, none⟩ (.int .i64 m)).setCell ⟨g, j * 3 + 1, none⟩ (.bool ((m + 1) % 3 == 0))) :=
          ⟨rfl, rfl, rfl, by simp, fun b hb ho => by rw [set_other _ _ _ _ _ (by show b ≠ g; omega), set_other _ _ _ _ _ (by show b ≠ g; omega)]⟩
        have HS := Lib.hid (And.intro htS hsp)
        have hB1 := HB1.out
        refine (HI.out _ (m + 1 + 1) (HTW.out.trans (HB.out.1.trans htS)) (by omega) (by omega)).mono ?_
        rintro e w2 ⟨rfl, ht2, hbb2⟩
        have HY := Lib.hid (And.intro ht2 hbb2)
        clear ht2 hbb2 htS hsp hB1
        go_wp2_with fail
        go_roundw
        case rel =>
          have h3 := HM.out.1
          have h4 := HM.out.2
          refine ⟨j + 1, by omega, by go_num, ?_, HB.out.1.trans (HS.out.1.trans HY.out.1), HB.out.2.trans (HS.out.2.trans HY.out.2)⟩
          congr 1
          omega
        case measure => simp [intOf]; omega
      · obtain rfl : j = cs.length := by omega
        rw [List.take_length]
        have HX := Lib.hid (And.intro htr hbel)
        clear htr hbel
        go_wp2_with fail
        go_ret
        exact ⟨rfl, HX.out⟩

set_option maxHeartbeats 1000000 in
theorem markBin_c {w : World} {lo hi : Nat} {cv : Value} {t : Bt} (ht : BinMem w lo hi cv t) (hw : t.weight ≤ 1048576) (hhi : hi ≤ w.heap.size) (kk : Int) (kr : Bool) (k : Int) (h0 : 0 ≤ k) (h1 : k ≤ 1048576) :
    Calls Try.prog 40 #[.agg #[.int .i64 kk, .bool kr, cv], .int .i64 k] w fun e w' => ∃ m : Int, e = .returned (.int .i64 m) ∧ k ≤ m ∧ Span lo hi w w' := by
  obtain ⟨g, rfl⟩ := ht.shown
  obtain ⟨W1, hW1⟩ : ∃ W1, W1 = w.alloc (.cells #[.int .i64 kk, .bool kr, .slice (some ⟨g, 0, none⟩) t.cs.length t.cs.length] 48) := ⟨_, rfl⟩
  have hcl : t.cs.length ≤ t.weight := by rw [Bt.weight_eq]; exact Bt.length_le_weights _
  have hs1 : W1.heap.size = w.heap.size + 1 := by rw [hW1]; simp
  have hb1 : Below w.heap.size w W1 := by rw [hW1]; exact (Below.refl _ _).alloc (Nat.le_refl _) _
  have kb : W1.heap[w.heap.size]? = some (.cells #[.int .i64 kk, .bool kr, .slice (some ⟨g, 0, none⟩) t.cs.length t.cs.length] 48 (0, 0)) := by rw [hW1, new_blk]
  have ht1 : TouchB w W1 := TouchB.of_below hb1 (Nat.le_refl _)
  obtain ⟨x1, x2, x3, x4, x5, x6⟩ := box3 kb
  have HC := Lib.hid (markBinS_c ht hw W1 k ht1 h0 (by omega))
  have HW1 := Lib.hid hW1
  have HX := Lib.hid hb1
  clear hW1 hb1 kb ht1 ht
  go_enter Try.func40, Try.ntmps40
  go_wp2_with fail
  rw [← HW1.out]
  refine HC.out.mono ?_
  rintro e w2 ⟨rfl, ht2, hbb2⟩
  have HZ := Lib.hid hbb2
  clear hbb2 ht2
  go_wp2_with fail
  go_ret
  exact ⟨_, rfl, by omega, (Span.of_below HX.out (Nat.le_refl _)).trans HZ.out⟩

end Go.Proofs.Ytodcapgmhginoaa
