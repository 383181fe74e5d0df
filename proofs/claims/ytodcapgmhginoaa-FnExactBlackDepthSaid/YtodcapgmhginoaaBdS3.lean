/- The contracts of the functions that copy a coloured tree into new memory: toBinS, toBin. -/
import Derived.Test.YtodcapgmhginoaaProg
import Derived.Test.YtodcapgmhginoaaBdS0
import Derived.Test.YtodcapgmhginoaaBdS2
import Derived.Deep.OwnRows
namespace Go.Proofs.Ytodcapgmhginoaa
open Go.RowKit

theorem Try.infoBin : (Try.prog.info? 48).map (fun i => (i.zero, i.size, i.bytes)) = some (some (.agg #[.int .i64 0, .bool false, .slice none 0 0]), 3, 40) := by kernel_rfl

/-- Three rows laid into one another. -/
def tri (a b c : Nat → Value) (q : Nat) : Value := if q % 3 = 0 then a (q / 3) else if q % 3 = 1 then b (q / 3) else c (q / 3)
theorem tri_0 (a b c : Nat → Value) (i : Nat) : tri a b c (i * 3) = a i := by unfold tri; rw [if_pos (by omega)]; congr 1; omega
theorem tri_1 (a b c : Nat → Value) (i : Nat) : tri a b c (i * 3 + 1) = b i := by unfold tri; rw [if_neg (by omega), if_pos (by omega)]; congr 1; omega
theorem tri_2 (a b c : Nat → Value) (i : Nat) : tri a b c (i * 3 + 2) = c i := by unfold tri; rw [if_neg (by omega), if_neg (by omega)]; congr 1; omega

/-- What toBinS and toBin leave: a coloured tree in rows of its own, from block lo on. -/
inductive BinNew (w : World) (lo : Nat) : Value → Bt → Prop where
  | mk (key : Int) (red : Bool) (cs : List Bt) (h : Nat) (kvs rvs cvs : Nat → Value) (hh : lo ≤ h)
      (hc : w.rowIs h 48 (cs.length * 3) (tri kvs rvs cvs)) (hkr : ∀ i (hi : i < cs.length), kvs i = .int .i64 cs[i].key ∧ rvs i = .bool cs[i].red)
      (hkids : ∀ i (hi : i < cs.length), BinNew w lo (cvs i) cs[i]) : BinNew w lo (.slice (some ⟨h, 0, none⟩) cs.length cs.length) (.mk key red cs)

theorem BinNew.later {w w' : World} {lo C : Nat} {cv : Value} {t : Bt} (h : BinNew w lo cv t) (hb : Below C w w') (hC : w.heap.size ≤ C) : BinNew w' lo cv t := by
  induction h with
  | mk key red cs h kvs rvs cvs hh hc hkr hkids ih => exact .mk key red cs h kvs rvs cvs hh (hc.of_block (hb.block _ (by have := hc.lt; omega))) hkr ih
theorem BinNew.lower {w : World} {lo lo' : Nat} {cv : Value} {t : Bt} (h : BinNew w lo cv t) (hl : lo' ≤ lo) : BinNew w lo' cv t := by
  induction h with
  | mk key red cs h kvs rvs cvs hh hc hkr hkids ih => exact .mk key red cs h kvs rvs cvs (by omega) hc hkr ih
theorem BinNew.same {w w' : World} {lo : Nat} {cv : Value} {t : Bt} (h : BinNew w lo cv t) (hb : ∀ k, lo ≤ k → k < w.heap.size → w'.heap[k]? = w.heap[k]?) : BinNew w' lo cv t := by
  induction h with
  | mk key red cs h kvs rvs cvs hh hc hkr hkids ih => exact .mk key red cs h kvs rvs cvs hh (hc.of_block (hb _ hh hc.lt)) hkr ih
theorem BinNew.shown {w : World} {lo : Nat} {cv : Value} {t : Bt} (h : BinNew w lo cv t) : ∃ g, cv = .slice (some ⟨g, 0, none⟩) t.cs.length t.cs.length := by
  cases h with
  | mk key red cs h kvs rvs cvs hh hc hkr hkids => exact ⟨_, rfl⟩

/-- Such a coloured tree is one in memory. -/
theorem BinNew.tree {w : World} {lo : Nat} {cv : Value} {t : Bt} (h : BinNew w lo cv t) (hw : t.weight ≤ 1048576) : BinIn w w.heap.size cv t := by
  induction h with
  | mk key red cs h kvs rvs cvs hh hc hkr hkids ih =>
    simp only [Bt.weight] at hw
    have hl := Bt.length_le_weights cs
    refine .mk key red cs _ _ cvs (Nat.le_refl _) (by unfold maxLen; omega) ?_ (fun i hi => ih i hi (by have := Bt.weight_get_le cs i hi; omega))
    refine .inr ⟨h, 0, rfl, hc.lt, fun i hi => ?_⟩
    have h0 := hc.cell (i := i * 3) (by omega)
    have h1 := hc.cell (i := i * 3 + 1) (by omega)
    have h2 := hc.cell (i := i * 3 + 2) (by omega)
    rw [tri_0, (hkr i hi).1] at h0
    rw [tri_1, (hkr i hi).2] at h1
    rw [tri_2] at h2
    rw [Nat.zero_add]
    exact ⟨h0, h1, h2⟩

theorem tri_step (a b c z : Nat → Value) (u v x : Value) (j q : Nat) :
    (if q = j * 3 + 2 then x else if q = j * 3 + 1 then v else if q = j * 3 then u else if q / 3 < j then tri a b c q else z q) =
    (if q / 3 < j + 1 then tri (fun i => if i = j then u else a i) (fun i => if i = j then v else b i) (fun i => if i = j then x else c i) q else z q) := by
  unfold tri
  by_cases e2 : q = j * 3 + 2
  · rw [if_pos e2, if_pos (by omega), if_neg (by omega), if_neg (by omega)]
    show x = if q / 3 = j then x else c (q / 3)
    rw [if_pos (by omega)]
  · rw [if_neg e2]
    by_cases e1 : q = j * 3 + 1
    · rw [if_pos e1, if_pos (by omega), if_neg (by omega), if_pos (by omega)]
      show v = if q / 3 = j then v else b (q / 3)
      rw [if_pos (by omega)]
    · rw [if_neg e1]
      by_cases e0 : q = j * 3
      · rw [if_pos e0, if_pos (by omega), if_pos (by omega)]
        show u = if q / 3 = j then u else a (q / 3)
        rw [if_pos (by omega)]
      · rw [if_neg e0]
        by_cases e3 : q / 3 < j
        · rw [if_pos e3, if_pos (show q / 3 < j + 1 by omega)]
          have e4 : ¬ q / 3 = j := by omega
          simp only [if_neg e4]
        · rw [if_neg e3, if_neg (by omega)]

set_option maxHeartbeats 1000000 in
theorem toBinS_c (cs : List Bt) (a : Option Addr) (cap : Nat) (w : World) (B : Nat) (cvs : Nat → Value) (hB : B ≤ w.heap.size)
    (hlen : cs.length ≤ cap) (hcap : cap ≤ maxLen) (hn : Bt.weights cs ≤ 1048576) (hat : BKidsIn w B a cs cvs)
    (hto : ∀ i (h : i < cs.length) w', Below B w w' → B ≤ w'.heap.size →
      Calls Try.prog 37 #[.agg #[.int .i64 cs[i].key, .bool cs[i].red, cvs i]] w' fun e w'' => ∃ cv, e = .returned (.agg #[.int .i64 cs[i].key, .bool cs[i].red, cv]) ∧ BinNew w'' w'.heap.size cv cs[i] ∧ Below w'.heap.size w' w'') :
    Calls Try.prog 77 #[.slice a cs.length cap] w fun e w' => ∃ (h : Nat) (kvs' rvs' cvs' : Nat → Value), e = .returned (.slice (some ⟨h, 0, none⟩) cs.length cs.length) ∧ w.heap.size ≤ h ∧
      w'.rowIs h 48 (cs.length * 3) (tri kvs' rvs' cvs') ∧ (∀ i (h : i < cs.length), kvs' i = .int .i64 cs[i].key ∧ rvs' i = .bool cs[i].red ∧ BinNew w' w.heap.size (cvs' i) cs[i]) ∧ Below w.heap.size w w' := by
  have HAT := Lib.hid hat
  have HTO := Lib.hid hto
  clear hat hto
  unfold maxLen at hcap
  have hl0 := Bt.length_le_weights cs
  obtain ⟨i0, hi0, hz0, hz1, hz2⟩ := info_parts Try.infoBin
  have hmk := fun w => run_make (P := Try.prog) w 46 48 i0 _ Try.underlying46 hi0 hz0 .i64 .i64 cs.length cs.length (by omega) (by omega) (by rw [hz2]; omega) (by omega)
  rw [hz1] at hmk
  simp only [Int.toNat_natCast, Value.cells] at hmk
  obtain ⟨Z, hZ⟩ : ∃ Z : Nat → Value, Z = fun i => if i % 3 = 0 then .int .i64 0 else if i % 3 = 1 then .bool false else .slice none 0 0 := ⟨_, rfl⟩
  have hrow0 : (w.alloc (.cells (madeCells #[.int .i64 0, .bool false, .slice none 0 0] (cs.length * 3)) 48)).rowIs w.heap.size 48 (cs.length * 3) Z := by
    have h := World.rowIs_alloc w (madeCells #[.int .i64 0, .bool false, .slice none 0 0] (cs.length * 3)) 48 Z (fun i hi => by
      rw [size_madeCells] at hi
      have h2 : i % 3 = 0 ∨ i % 3 = 1 ∨ i % 3 = 2 := by omega
      rcases h2 with h2 | h2 | h2 <;> simp [madeCells, hi, h2, hZ])
    rw [size_madeCells] at h
    exact h
  generalize hC : madeCells #[Value.int IntKind.i64 0, Value.bool false, Value.slice none 0 0] (cs.length * 3) = C at hmk hrow0
  have HR0 := Lib.hid hrow0
  clear hC hrow0 hz0 hz1 hz2 hi0 hZ
  go_enter Try.func77, Try.ntmps77
  go_wp2_with fail
  go_loopw [4] (fun i wr => ∃ (j : Nat) (kvs' rvs' cvs' : Nat → Value), j ≤ cs.length ∧ i = .int .i64 j ∧
      Hid (wr.rowIs w.heap.size 48 (cs.length * 3) (fun q => if q / 3 < j then tri kvs' rvs' cvs' q else Z q)) ∧
      Hid (∀ i (h : i < cs.length), i < j → kvs' i = .int .i64 cs[i].key ∧ rvs' i = .bool cs[i].red ∧ BinNew wr (w.heap.size + 1) (cvs' i) cs[i]) ∧ Below w.heap.size w wr) (fun i _ => cs.length - (intOf i).toNat)
  case atStart => exact ⟨0, fun _ => undef, fun _ => undef, fun _ => undef, Nat.zero_le _, rfl, Lib.hid (by simpa using HR0.out), Lib.hid (fun i _ h => by omega), (Below.refl _ _).alloc (Nat.le_refl _) _⟩
  case round =>
    obtain ⟨j, kvs', rvs', cvs', hj, rfl, HR, HN, hbel⟩ := hrel
    clear hmk HR0
    by_cases hlt : j < cs.length
    · rcases HAT.out with h | ⟨b, off, rfl, hb, hat⟩
      · omega
      obtain ⟨ha, hr, hc⟩ := hat j hlt
      rw [← below_cell hbel (by omega)] at ha hr hc
      have hlt0 := HR.out.lt
      have hsz := hbel.size
      have HC := Lib.hid (HTO.out j hlt wr (hbel.mono hB) (by omega))
      clear hat
      go_wp2_with fail
      refine HC.out.mono ?_
      rintro e w1 ⟨cv, rfl, hn1, hb1⟩
      obtain ⟨g1, rfl⟩ := hn1.shown
      have hrow1 := HR.out.of_block (hb1.block _ hlt0)
      have hc0 := hrow1.cell (i := j * 3) (by omega)
      have hc1 := hrow1.cell (i := j * 3 + 1) (by omega)
      have hc2 := hrow1.cell (i := j * 3 + 2) (by omega)
      have hf0 := hrow1.frozen (j * 3)
      have hf1 := hrow1.frozen (j * 3 + 1)
      have hf2 := hrow1.frozen (j * 3 + 2)
      have HN1 := Lib.hid hn1
      have HR1 := Lib.hid hrow1
      have HB1 := Lib.hid hb1
      clear hn1 hrow1 hb1 ha hr hc
      go_wp2_with fail
      go_roundw
      case rel =>
        have hs : ∀ (u v x : Value) k, w.heap.size + 1 ≤ k → (((w1.setCell ⟨w.heap.size, j * 3, none⟩ u).setCell ⟨w.heap.size, j * 3 + 1, none⟩ v).setCell ⟨w.heap.size, j * 3 + 2, none⟩ x).heap[k]? = w1.heap[k]? := fun u v x k hk => by
          rw [set_other _ _ _ _ _ (by omega), set_other _ _ _ _ _ (by omega), set_other _ _ _ _ _ (by omega)]
        refine ⟨j + 1, fun i => if i = j then .int .i64 cs[j].key else kvs' i, fun i => if i = j then .bool cs[j].red else rvs' i, fun i => if i = j then .slice (some ⟨g1, 0, none⟩) cs[j].cs.length cs[j].cs.length else cvs' i, by omega, by go_num, Lib.hid ?_, Lib.hid (fun i hi hij => ?_),
          (((hbel.trans (HB1.out.mono hsz)).setCell (p := ⟨w.heap.size, _, none⟩) (Nat.le_refl _) _).setCell (p := ⟨w.heap.size, _, none⟩) (Nat.le_refl _) _).setCell (p := ⟨w.heap.size, _, none⟩) (Nat.le_refl _) _⟩
        · refine (((HR1.out.set (j * 3) _).set (j * 3 + 1) _).set (j * 3 + 2) _).congr (fun q hq => ?_)
          exact tri_step kvs' rvs' cvs' Z _ _ _ j q
        · by_cases e : i = j
          · subst e
            simp only [if_pos]
            exact ⟨trivial, trivial, (HN1.out.lower (by omega)).same (fun k hk _ => hs _ _ _ k hk)⟩
          · simp only [if_neg e]
            obtain ⟨n1, n2, n3⟩ := HN.out i hi (by omega)
            exact ⟨n1, n2, (n3.later HB1.out (Nat.le_refl _)).same (fun k hk _ => hs _ _ _ k hk)⟩
      case measure => simp [intOf]; omega
    · obtain rfl : j = cs.length := by omega
      go_wp2_with fail
      go_ret
      exact ⟨_, kvs', rvs', cvs', rfl, Nat.le_refl _, HR.out.congr (fun q hq => by rw [if_pos (by omega)]), fun i hi => by
        obtain ⟨n1, n2, n3⟩ := HN.out i hi hi
        exact ⟨n1, n2, n3.lower (by omega)⟩, hbel⟩

set_option maxHeartbeats 1000000 in
theorem toBin_c {w : World} {B : Nat} {cv : Value} {t : Bt} (ht : BinIn w B cv t) (hw : t.weight ≤ 1048576) :
    ∀ w', Below B w w' → B ≤ w'.heap.size →
    Calls Try.prog 37 #[.agg #[.int .i64 t.key, .bool t.red, cv]] w' fun e w'' => ∃ cv', e = .returned (.agg #[.int .i64 t.key, .bool t.red, cv']) ∧ BinNew w'' w'.heap.size cv' t ∧ Below w'.heap.size w' w'' := by
  induction ht with
  | mk key red cs a cap cvs hlen hcap hat hkids ih =>
    intro w' hbw hB
    simp only [Bt.weight] at hw
    have hl0 := Bt.length_le_weights cs
    have HAT := Lib.hid hat
    have IH := Lib.hid ih
    clear hat ih hkids
    show Calls Try.prog 37 #[.agg #[.int .i64 key, .bool red, .slice a cs.length cap]] w' fun e w'' => ∃ cv', e = .returned (.agg #[.int .i64 key, .bool red, cv']) ∧ _
    go_enter Try.func37, Try.ntmps37
    go_wp2_with fail
    obtain ⟨W3, hW3⟩ : ∃ W3, W3 = (((w'.alloc (.cells #[.int .i64 key, .bool red, .slice a cs.length cap] 43)).alloc (.cells #[.int .i64 0, .bool false, .slice none 0 0] 48)).alloc (.cells #[.int .i64 key, .bool red, .slice none 0 0] 48)) := ⟨_, rfl⟩
    rw [← hW3]
    have hb3 : Below w'.heap.size w' W3 := by rw [hW3]; exact (((Below.refl _ _).alloc (Nat.le_refl _) _).alloc (by simp) _).alloc (by simp; omega) _
    have hs3 : W3.heap.size = w'.heap.size + 3 := by rw [hW3]; simp
    have k1 : W3.heap[w'.heap.size + 1]? = some (.cells #[.int .i64 0, .bool false, .slice none 0 0] 48 (0, 0)) := by
      rw [hW3, old_blk _ _ _ (by simp), show w'.heap.size + 1 = (w'.alloc (.cells #[.int .i64 key, .bool red, .slice a cs.length cap] 43)).heap.size by simp, new_blk]
    have k2 : W3.heap[w'.heap.size + 1 + 1]? = some (.cells #[.int .i64 key, .bool red, .slice none 0 0] 48 (0, 0)) := by
      rw [hW3, show w'.heap.size + 1 + 1 = ((w'.alloc (.cells #[.int .i64 key, .bool red, .slice a cs.length cap] 43)).alloc (.cells #[.int .i64 0, .bool false, .slice none 0 0] 48)).heap.size by simp, new_blk]
    have HS3 := Lib.hid (And.intro hs3 (And.intro hb3 (And.intro k1 k2)))
    clear hs3 hW3 hb3 k1 k2
    refine (toBinS_c cs a cap W3 B cvs (by have := HS3.out.1; omega) hlen hcap (by omega) ((HAT.out.later hbw (Nat.le_refl _)).later HS3.out.2.1 hB) (fun i hi w2 hb2 hs2 => ?_)).mono ?_
    · exact IH.out i hi (by have := Bt.weight_get_le cs i hi; omega) w2 (hbw.trans ((HS3.out.2.1.mono hB).trans hb2)) hs2
    rintro e w2 ⟨h, kvs', rvs', cvs', rfl, hh, hrow2, hnew2, hb2⟩
    have hs3 := HS3.out.1
    have i1 := (hb2.block (w'.heap.size + 1) (by omega)).trans HS3.out.2.2.1
    have i2 := (hb2.block (w'.heap.size + 1 + 1) (by omega)).trans HS3.out.2.2.2
    have hb2' : Below w'.heap.size w' w2 := HS3.out.2.1.trans (hb2.mono (by omega))
    have hlt2 := hrow2.lt
    obtain ⟨b1, b2, b3, b4, b5, b6⟩ := box3 i2
    obtain ⟨c1, c2, c3, c4, c5, c6⟩ := box3 i1
    have HX := Lib.hid (And.intro hs3 (And.intro hh (And.intro hrow2 (And.intro hnew2 (And.intro hb2' (And.intro i1 i2))))))
    clear hs3 hh hrow2 hnew2 hb2' hb2 i1 i2
    go_wp2_with fail
    obtain ⟨wf, hwf⟩ : ∃ wf, wf = ((((w2.setCell ⟨w'.heap.size + 1 + 1, 2, none⟩ (.slice (some ⟨h, 0, none⟩) cs.length cs.length)).setCell ⟨w'.heap.size + 1, 0, none⟩ (.int .i64 key)).setCell ⟨w'.heap.size + 1, 1, none⟩ (.bool red)).setCell ⟨w'.heap.size + 1, 2, none⟩ (.slice (some ⟨h, 0, none⟩) cs.length cs.length)) := ⟨_, rfl⟩
    have hs3 := HX.out.1
    have hh := HX.out.2.1
    have hfb : wf.heap[w'.heap.size + 1]? = some (.cells #[.int .i64 key, .bool red, .slice (some ⟨h, 0, none⟩) cs.length cs.length] 48 (0, 0)) := by
      rw [hwf]
      refine set_blk (o := 2) (c := #[.int .i64 key, .bool red, .slice none 0 0]) _ (set_blk (o := 1) (c := #[.int .i64 key, .bool false, .slice none 0 0]) _ (set_blk (o := 0) (c := #[.int .i64 0, .bool false, .slice none 0 0]) _ ?_))
      rw [set_other _ _ _ _ _ (by omega)]; exact HX.out.2.2.2.2.2.1
    have hall : ∀ k, k ≠ w'.heap.size + 1 → k ≠ w'.heap.size + 1 + 1 → wf.heap[k]? = w2.heap[k]? := fun k h1 h2 => by
      rw [hwf, set_other _ _ _ _ _ h1, set_other _ _ _ _ _ h1, set_other _ _ _ _ _ h1, set_other _ _ _ _ _ h2]
    have hbf : Below w'.heap.size w' wf := by
      rw [hwf]
      exact (((HX.out.2.2.2.2.1.setCell (by show w'.heap.size ≤ w'.heap.size + 1 + 1; omega) _).setCell (by show w'.heap.size ≤ w'.heap.size + 1; omega) _).setCell (by show w'.heap.size ≤ w'.heap.size + 1; omega) _).setCell (by show w'.heap.size ≤ w'.heap.size + 1; omega) _
    rw [← hwf]
    clear hwf b1 b2 b3 b4 b5 b6 c1 c2 c3 c4 c5 c6
    obtain ⟨c1, c2, c3, -, -, -⟩ := box3 hfb
    refine bodyPost_ret (v := .agg #[.int .i64 key, .bool red, .slice (some ⟨h, 0, none⟩) cs.length cs.length]) (by simp [results, Try.results37, go_sem, c1, c2, c3]) rfl ⟨_, rfl, ?_, hbf⟩
    refine .mk key red cs h kvs' rvs' cvs' (by omega) (HX.out.2.2.1.of_block (hall _ (by omega) (by omega))) (fun i hi => ⟨(HX.out.2.2.2.1 i hi).1, (HX.out.2.2.2.1 i hi).2.1⟩) (fun i hi => ?_)
    exact (((HX.out.2.2.2.1 i hi).2.2).same (fun k hk _ => hall _ (by omega) (by omega))).lower (by omega)
end Go.Proofs.Ytodcapgmhginoaa
