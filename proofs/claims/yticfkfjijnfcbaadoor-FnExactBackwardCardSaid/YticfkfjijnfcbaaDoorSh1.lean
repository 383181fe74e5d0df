/- Whether a number lies between two others; the model's l1In and l1Wide. -/
import Derived.Test.YticfkfjijnfcbaaDoorProg
import Derived.Test.YticfkfjijnfcbaaDoorSh0
import Derived.Deep.OwnRows
import Derived.Deep.QuietTactic
import Derived.BigQuiet
import Derived.StillTailTactics
import Derived.WalkSmall

/- The contracts of the functions that copy an argument into new memory: toIntS, toTreeS, toTree. -/
namespace Go.Proofs.YticfkfjijnfcbaaDoor
open Go.RowKit

theorem Tryd.infoInt : (Tryd.prog.info? 3).map (fun i => (i.zero, i.size, i.bytes)) = some (some (.int .i64 0), 1, 8) := by kernel_rfl

theorem toIntS_c (ks : List Int) (v : Value) (w : World) (B : Nat) (hB : B ≤ w.heap.size) (hk : IntsIn w B v ks) (hn : ks.length ≤ 1048576) :
    Calls Tryd.prog 59 #[v] w fun e w' => ∃ g, e = .returned (.slice (some ⟨g, 0, none⟩) ks.length ks.length) ∧ w.heap.size ≤ g ∧ w'.rowIs g 3 ks.length (fun i => .int .i64 (ks.getD i 0)) ∧ Below w.heap.size w w' := by
  obtain ⟨a, cap, rfl, h1, h2, _, h3⟩ := hk
  unfold maxLen at h2
  have HK := Lib.hid h3
  clear h3
  have hmk := run_make_row' (P := Tryd.prog) 22 3 (.int .i64 0) 8 Tryd.underlying22 Tryd.infoInt rfl .i64 .i64 ks.length (by omega) (by omega)
  have hrow0 := World.rowIs_made w (.int .i64 0) ks.length 3
  generalize hC : madeCells #[Value.int .i64 0] ks.length = C at hmk hrow0
  have HC := Lib.hid hC
  clear hC
  go_enter Tryd.func59, Tryd.ntmps59
  go_wp2_with fail
  go_loopw [4] (fun i wr => ∃ (j : Nat), j ≤ ks.length ∧ i = .int .i64 j ∧ wr.rowIs w.heap.size 3 ks.length (fun i => .int .i64 (if i < j then ks.getD i 0 else 0)) ∧ Below w.heap.size w wr) (fun i _ => ks.length - (intOf i).toNat)
  case atStart => exact ⟨0, Nat.zero_le _, rfl, by simpa using hrow0, (Below.refl _ _).alloc (Nat.le_refl _) _⟩
  case round =>
    obtain ⟨j, hj, rfl, hrow, hbel⟩ := hrel
    clear hmk hrow0
    by_cases hlt : j < ks.length
    · rcases HK.out with h | ⟨b, off, rfl, hb, hat⟩
      · simp [h] at hlt
      have ha' : wr.cell? ⟨b, off + j, none⟩ = some (.int .i64 (ks.getD j 0)) := by rw [below_cell hbel (by omega)]; exact hat j hlt
      have hc1 := hrow.cell hlt
      have hf1 := hrow.frozen j
      have HR := Lib.hid hrow
      clear hrow hat
      go_wp2_with fail
      go_roundw
      case rel =>
        refine ⟨j + 1, by omega, by go_num, (HR.out.set j _).congr (fun i hi => ?_), hbel.setCell (Nat.le_refl _) _⟩
        by_cases e : i = j
        · subst e; simp [hi]
        · simp only [if_neg e]
          by_cases h : i < j
          · rw [if_pos h, if_pos (by omega)]
          · rw [if_neg h, if_neg (by omega)]
      case measure => simp [intOf]; omega
    · obtain rfl : j = ks.length := by omega
      have HR := Lib.hid hrow
      clear hrow
      go_wp2_with fail
      go_ret
      exact ⟨_, rfl, Nat.le_refl _, HR.out.congr (fun i hi => by rw [if_pos hi]), hbel⟩

/-- What toTreeS and toTree leave: a tree in rows of its own, from block lo on. -/
inductive TreeNew (w : World) (lo : Nat) : Value → Value → Tr → Prop where
  | mk (ks : List Int) (cs : List Tr) (g h : Nat) (kvs cvs : Nat → Value) (hg : lo ≤ g) (hh : lo ≤ h)
      (hk : w.rowIs g 3 ks.length (fun i => .int .i64 (ks.getD i 0)))
      (hc : w.rowIs h 33 (cs.length * 2) (fun j => if j % 2 = 0 then kvs (j / 2) else cvs (j / 2)))
      (hkids : ∀ i (h : i < cs.length), TreeNew w lo (kvs i) (cvs i) cs[i]) :
      TreeNew w lo (.slice (some ⟨g, 0, none⟩) ks.length ks.length) (.slice (some ⟨h, 0, none⟩) cs.length cs.length) (.mk ks cs)

theorem TreeNew.later {w w' : World} {lo C : Nat} {kv cv : Value} {t : Tr} (h : TreeNew w lo kv cv t) (hb : Below C w w') (hC : w.heap.size ≤ C) : TreeNew w' lo kv cv t := by
  induction h with
  | mk ks cs g h kvs cvs hg hh hk hc hkids ih => exact .mk ks cs g h kvs cvs hg hh (hk.of_block (hb.block _ (by have := hk.lt; omega))) (hc.of_block (hb.block _ (by have := hc.lt; omega))) ih

theorem TreeNew.lower {w : World} {lo lo' : Nat} {kv cv : Value} {t : Tr} (h : TreeNew w lo kv cv t) (hl : lo' ≤ lo) : TreeNew w lo' kv cv t := by
  induction h with
  | mk ks cs g h kvs cvs hg hh hk hc hkids ih => exact .mk ks cs g h kvs cvs (by omega) (by omega) hk hc ih

theorem TreeNew.same {w w' : World} {lo : Nat} {kv cv : Value} {t : Tr} (h : TreeNew w lo kv cv t) (hb : ∀ k, lo ≤ k → k < w.heap.size → w'.heap[k]? = w.heap[k]?) (_ : True) : TreeNew w' lo kv cv t := by
  induction h with
  | mk ks cs g h kvs cvs hg hh hk hc hkids ih => exact .mk ks cs g h kvs cvs hg hh (hk.of_block (hb _ hg hk.lt)) (hc.of_block (hb _ hh hc.lt)) ih

theorem TreeNew.slices {w : World} {lo : Nat} {kv cv : Value} {t : Tr} (h : TreeNew w lo kv cv t) : ∃ g h n m, kv = .slice (some ⟨g, 0, none⟩) n n ∧ cv = .slice (some ⟨h, 0, none⟩) m m := by
  cases h with
  | mk ks cs g h kvs cvs hg hh hk hc hkids => exact ⟨_, _, _, _, rfl, rfl⟩

/-- Such a tree is a tree in memory. -/
theorem TreeNew.tree {w : World} {lo : Nat} {kv cv : Value} {t : Tr} (h : TreeNew w lo kv cv t) (hw : t.weight ≤ 1048576) : TreeIn w w.heap.size kv cv t := by
  induction h with
  | mk ks cs g h kvs cvs hg hh hk hc hkids ih =>
    simp only [Tr.weight] at hw
    have hl := Tr.length_le_weights cs
    refine .mk ks cs _ _ _ kvs cvs ⟨_, _, rfl, Nat.le_refl _, by unfold maxLen; omega, by simp, ?_⟩ (Nat.le_refl _) (by unfold maxLen; omega) ?_ (fun i hi => ih i hi (by have := Tr.weight_get_le cs i hi; omega))
    · exact .inr ⟨g, 0, rfl, hk.lt, fun i hi => by rw [Nat.zero_add]; exact hk.cell hi⟩
    · refine .inr ⟨h, 0, rfl, hc.lt, fun i hi => ?_⟩
      have h1 := hc.cell (i := i * 2) (by omega)
      have h2 := hc.cell (i := i * 2 + 1) (by omega)
      rw [if_pos (by omega), show i * 2 / 2 = i from by omega] at h1
      rw [if_neg (by omega), show (i * 2 + 1) / 2 = i from by omega] at h2
      rw [Nat.zero_add]
      exact ⟨h1, h2⟩

theorem pairRow_step (kvs cvs : Nat → Value) (z u v : Value) (j q : Nat) :
    (if q = j * 2 + 1 then v else if q = j * 2 then u else if q / 2 < j then (if q % 2 = 0 then kvs (q / 2) else cvs (q / 2)) else z) =
    (if q / 2 < j + 1 then (if q % 2 = 0 then (if q / 2 = j then u else kvs (q / 2)) else (if q / 2 = j then v else cvs (q / 2))) else z) := by
  by_cases e1 : q = j * 2 + 1
  · rw [if_pos e1, if_pos (by omega), if_neg (by omega), if_pos (by omega)]
  · rw [if_neg e1]
    by_cases e2 : q = j * 2
    · rw [if_pos e2, if_pos (by omega), if_pos (by omega), if_pos (by omega)]
    · rw [if_neg e2]
      by_cases e3 : q / 2 < j
      · rw [if_pos e3, if_pos (show q / 2 < j + 1 by omega)]
        have e4 : ¬ q / 2 = j := by omega
        simp only [if_neg e4]
      · rw [if_neg e3, if_neg (by omega)]

set_option maxHeartbeats 1000000 in
theorem toTreeS_c (cs : List Tr) (a : Option Addr) (cap : Nat) (w : World) (B : Nat) (kvs cvs : Nat → Value) (hB : B ≤ w.heap.size)
    (hlen : cs.length ≤ cap) (hcap : cap ≤ maxLen) (hn : Tr.weights cs ≤ 1048576) (hat : KidsIn w B a cs.length kvs cvs)
    (hto : ∀ i (h : i < cs.length) w', Below B w w' → B ≤ w'.heap.size →
      Calls Tryd.prog 17 #[.agg #[kvs i, cvs i]] w' fun e w'' => ∃ kv cv, e = .returned (.agg #[kv, cv]) ∧ TreeNew w'' w'.heap.size kv cv cs[i] ∧ Below w'.heap.size w' w'') :
    Calls Tryd.prog 60 #[.slice a cs.length cap] w fun e w' => ∃ (h : Nat) (kvs' cvs' : Nat → Value), e = .returned (.slice (some ⟨h, 0, none⟩) cs.length cs.length) ∧ w.heap.size ≤ h ∧
      w'.rowIs h 33 (cs.length * 2) (fun j => if j % 2 = 0 then kvs' (j / 2) else cvs' (j / 2)) ∧ (∀ i (h : i < cs.length), TreeNew w' w.heap.size (kvs' i) (cvs' i) cs[i]) ∧ Below w.heap.size w w' := by
  have HAT := Lib.hid hat
  have HTO := Lib.hid hto
  clear hat hto
  unfold maxLen at hcap
  have hl0 := Tr.length_le_weights cs
  obtain ⟨i0, hi0, hz0, hz1, hz2⟩ := info_parts Tryd.infoTree
  have hmk := fun w => run_make (P := Tryd.prog) w 31 33 i0 _ Tryd.underlying31 hi0 hz0 .i64 .i64 cs.length cs.length (by omega) (by omega) (by rw [hz2]; omega) (by omega)
  rw [hz1] at hmk
  simp only [Int.toNat_natCast, Value.cells] at hmk
  have hrow0 : (w.alloc (.cells (madeCells #[.slice none 0 0, .slice none 0 0] (cs.length * i0.size)) 33)).rowIs w.heap.size 33 (cs.length * 2) (fun _ => .slice none 0 0) := by
    rw [hz1]
    have h := World.rowIs_alloc w (madeCells #[.slice none 0 0, .slice none 0 0] (cs.length * 2)) 33 (fun _ => .slice none 0 0) (fun i hi => by
      rw [size_madeCells] at hi
      have h2 : i % 2 = 0 ∨ i % 2 = 1 := by omega
      rcases h2 with h2 | h2 <;> simp [madeCells, hi, h2])
    rw [size_madeCells] at h
    exact h
  rw [hz1] at hrow0
  generalize hC : madeCells #[Value.slice none 0 0, Value.slice none 0 0] (cs.length * 2) = C at hmk hrow0
  have HR0 := Lib.hid hrow0
  clear hC hrow0 hz0 hz1 hz2 hi0
  go_enter Tryd.func60, Tryd.ntmps60
  go_wp2_with fail
  go_loopw [4] (fun i wr => ∃ (j : Nat) (kvs' cvs' : Nat → Value), j ≤ cs.length ∧ i = .int .i64 j ∧
      wr.rowIs w.heap.size 33 (cs.length * 2) (fun q => if q / 2 < j then (if q % 2 = 0 then kvs' (q / 2) else cvs' (q / 2)) else .slice none 0 0) ∧
      (∀ i (h : i < cs.length), i < j → TreeNew wr (w.heap.size + 1) (kvs' i) (cvs' i) cs[i]) ∧ Below w.heap.size w wr) (fun i _ => cs.length - (intOf i).toNat)
  case atStart => exact ⟨0, fun _ => undef, fun _ => undef, Nat.zero_le _, rfl, by simpa using HR0.out, fun i _ h => by omega, (Below.refl _ _).alloc (Nat.le_refl _) _⟩
  case round =>
    obtain ⟨j, kvs', cvs', hj, rfl, hrow, hnew, hbel⟩ := hrel
    clear hmk HR0
    by_cases hlt : j < cs.length
    · rcases HAT.out with h | ⟨b, off, rfl, hb, hat⟩
      · omega
      obtain ⟨ha, hc⟩ := hat j hlt
      have ha' : wr.cell? ⟨b, off + j * 2, none⟩ = some (kvs j) := by rw [below_cell hbel (by omega)]; exact ha
      have hc' : wr.cell? ⟨b, off + j * 2 + 1, none⟩ = some (cvs j) := by rw [below_cell hbel (by omega)]; exact hc
      have hlt0 := hrow.lt
      have hsz := hbel.size
      have HC := Lib.hid (HTO.out j hlt wr (hbel.mono hB) (by omega))
      have HR := Lib.hid hrow
      have HN := Lib.hid hnew
      clear ha hc hat hrow hnew
      go_wp2_with fail
      refine HC.out.mono ?_
      rintro e w1 ⟨kv, cv, rfl, hn1, hb1⟩
      obtain ⟨g1, h1, n1, m1, rfl, rfl⟩ := hn1.slices
      have hrow1 := HR.out.of_block (hb1.block _ hlt0)
      have hc1 := hrow1.cell (i := j * 2) (by omega)
      have hc2 := hrow1.cell (i := j * 2 + 1) (by omega)
      have hf1 := hrow1.frozen (j * 2)
      have hf2 := hrow1.frozen (j * 2 + 1)
      have HN1 := Lib.hid hn1
      have HR1 := Lib.hid hrow1
      have HB1 := Lib.hid hb1
      clear hn1 hrow1 hb1
      go_wp2_with fail
      go_roundw
      case rel =>
        have hs : ∀ (u v : Value) k, w.heap.size + 1 ≤ k → ((w1.setCell ⟨w.heap.size, j * 2, none⟩ u).setCell ⟨w.heap.size, j * 2 + 1, none⟩ v).heap[k]? = w1.heap[k]? := fun u v k hk => by
          rw [Below.heap_setCell _ _ _ _ (by show k ≠ w.heap.size; omega), Below.heap_setCell _ _ _ _ (by show k ≠ w.heap.size; omega)]
        refine ⟨j + 1, fun i => if i = j then .slice (some ⟨g1, 0, none⟩) n1 n1 else kvs' i, fun i => if i = j then .slice (some ⟨h1, 0, none⟩) m1 m1 else cvs' i, by omega, by go_num, ?_, fun i hi hij => ?_, ((hbel.trans (HB1.out.mono hsz)).setCell (p := ⟨w.heap.size, _, none⟩) (Nat.le_refl _) _).setCell (p := ⟨w.heap.size, _, none⟩) (Nat.le_refl _) _⟩
        · refine ((HR1.out.set (j * 2) _).set (j * 2 + 1) _).congr (fun q hq => ?_)
          exact pairRow_step kvs' cvs' _ _ _ j q
        · by_cases e : i = j
          · subst e
            show TreeNew _ _ (if i = i then _ else _) (if i = i then _ else _) _
            rw [if_pos rfl, if_pos rfl]
            exact (HN1.out.lower (by omega)).same (fun k hk _ => hs _ _ k hk) trivial
          · show TreeNew _ _ (if i = j then _ else _) (if i = j then _ else _) _
            rw [if_neg e, if_neg e]
            exact ((HN.out i hi (by omega)).later HB1.out (Nat.le_refl _)).same (fun k hk _ => hs _ _ k hk) trivial
      case measure => simp [intOf]; omega
    · obtain rfl : j = cs.length := by omega
      have HR := Lib.hid hrow
      have HN := Lib.hid hnew
      clear hrow hnew
      go_wp2_with fail
      go_ret
      exact ⟨_, kvs', cvs', rfl, Nat.le_refl _, HR.out.congr (fun q hq => by rw [if_pos (by omega)]), fun i hi => (HN.out i hi hi).lower (by omega), hbel⟩

set_option maxHeartbeats 1000000 in
theorem toTree_c {w : World} {B : Nat} {kv cv : Value} {t : Tr} (ht : TreeIn w B kv cv t) (hw : t.weight ≤ 1048576) :
    ∀ w', Below B w w' → B ≤ w'.heap.size →
    Calls Tryd.prog 17 #[.agg #[kv, cv]] w' fun e w'' => ∃ kv' cv', e = .returned (.agg #[kv', cv']) ∧ TreeNew w'' w'.heap.size kv' cv' t ∧ Below w'.heap.size w' w'' := by
  induction ht with
  | mk ks cs kv a cap kvs cvs hk hlen hcap hat hkids ih =>
    intro w' hbw hB
    simp only [Tr.weight] at hw
    have hl0 := Tr.length_le_weights cs
    have HK := Lib.hid hk
    have HAT := Lib.hid hat
    have IH := Lib.hid ih
    clear hk hat ih hkids
    go_enter Tryd.func17, Tryd.ntmps17
    go_wp2_with fail
    -- the three boxes
    obtain ⟨W3, hW3⟩ : ∃ W3, W3 = (((w'.alloc (.cells #[kv, .slice a cs.length cap] 25)).alloc (.cells #[.slice none 0 0, .slice none 0 0] 33)).alloc (.cells #[.slice none 0 0, .slice none 0 0] 33)) := ⟨_, rfl⟩
    rw [← hW3]
    have hb3 : Below w'.heap.size w' W3 := by rw [hW3]; exact (((Below.refl _ _).alloc (Nat.le_refl _) _).alloc (by simp) _).alloc (by simp; omega) _
    have hs3 : W3.heap.size = w'.heap.size + 3 := by rw [hW3]; simp
    have k0 : W3.heap[w'.heap.size]? = some (.cells #[kv, .slice a cs.length cap] 25 (0, 0)) := by rw [hW3, old_blk _ _ _ (by simp; omega), old_blk _ _ _ (by simp), new_blk]
    have k1 : W3.heap[w'.heap.size + 1]? = some (.cells #[.slice none 0 0, .slice none 0 0] 33 (0, 0)) := by
      rw [hW3, old_blk _ _ _ (by simp), show w'.heap.size + 1 = (w'.alloc (.cells #[kv, .slice a cs.length cap] 25)).heap.size by simp, new_blk]
    have k2 : W3.heap[w'.heap.size + 1 + 1]? = some (.cells #[.slice none 0 0, .slice none 0 0] 33 (0, 0)) := by
      rw [hW3, show w'.heap.size + 1 + 1 = ((w'.alloc (.cells #[kv, .slice a cs.length cap] 25)).alloc (.cells #[.slice none 0 0, .slice none 0 0] 33)).heap.size by simp, new_blk]
    have hn0 : w'.heap.size ≤ W3.heap.size := by omega
    have HS3 := Lib.hid hs3
    clear hs3 hW3
    refine (toIntS_c ks kv _ B (by omega) ((HK.out.later hbw (Nat.le_refl _)).later hb3 hB) (by omega)).mono ?_
    rintro e w1 ⟨g, rfl, hg, hrow, hb1⟩
    have hs3 := HS3.out
    have j0 := (hb1.block w'.heap.size (by omega)).trans k0
    have j1 := (hb1.block (w'.heap.size + 1) (by omega)).trans k1
    have j2 := (hb1.block (w'.heap.size + 1 + 1) (by omega)).trans k2
    have hz1 := hb1.size
    obtain ⟨a1, a2, a3, a4⟩ := box2 j0
    obtain ⟨b1, b2, b3, b4⟩ := box2 j2
    have hb1' : Below w'.heap.size w' w1 := hb3.trans (hb1.mono hn0)
    have HR := Lib.hid hrow
    have HJ := Lib.hid (And.intro j0 (And.intro j1 j2))
    clear hrow hb1 hs3 j0 j1 j2 k0 k1 k2
    go_wp2_with fail
    obtain ⟨W4, hW4⟩ : ∃ W4, W4 = (w1.setCell ⟨w'.heap.size + 1 + 1, 0, none⟩ (.slice (some ⟨g, 0, none⟩) ks.length ks.length)) := ⟨_, rfl⟩
    rw [← hW4]
    have hs3 := HS3.out
    have hs4 : W4.heap.size = w1.heap.size := by rw [hW4]; simp
    have hb4 : Below w'.heap.size w' W4 := by rw [hW4]; exact hb1'.setCell (p := ⟨w'.heap.size + 1 + 1, 0, none⟩) (by show w'.heap.size ≤ w'.heap.size + 1 + 1; omega) _
    have hr4 : W4.rowIs g 3 ks.length (fun i => .int .i64 (ks.getD i 0)) := by rw [hW4]; exact HR.out.setOther (by show g ≠ w'.heap.size + 1 + 1; omega) _
    have hlt1 := HR.out.lt
    have j0 : W4.heap[w'.heap.size]? = some (.cells #[kv, .slice a cs.length cap] 25 (0, 0)) := by rw [hW4, set_other _ _ _ _ _ (by omega)]; exact HJ.out.1
    have j1 : W4.heap[w'.heap.size + 1]? = some (.cells #[.slice none 0 0, .slice none 0 0] 33 (0, 0)) := by rw [hW4, set_other _ _ _ _ _ (by omega)]; exact HJ.out.2.1
    have j2 : W4.heap[w'.heap.size + 1 + 1]? = some (.cells #[.slice (some ⟨g, 0, none⟩) ks.length ks.length, .slice none 0 0] 33 (0, 0)) := by rw [hW4]; exact set_blk _ HJ.out.2.2
    clear hW4
    refine (toTreeS_c cs a cap _ B kvs cvs (by omega) hlen hcap (by omega) ((HAT.out.later hbw (Nat.le_refl _)).later hb4 hB) (fun i hi w2 hb2 hs2 => ?_)).mono ?_
    · exact IH.out i hi (by have := Tr.weight_get_le cs i hi; omega) w2 (hbw.trans ((hb4.mono hB).trans hb2)) hs2
    rintro e w2 ⟨h, kvs', cvs', rfl, hh, hrow2, hnew2, hb2⟩
    have hr5 := hr4.of_block (hb2.block g (by omega))
    have i0 := (hb2.block w'.heap.size (by omega)).trans j0
    have i1 := (hb2.block (w'.heap.size + 1) (by omega)).trans j1
    have i2 := (hb2.block (w'.heap.size + 1 + 1) (by omega)).trans j2
    have hz2 := hb2.size
    have hb2' : Below w'.heap.size w' w2 := hb4.trans (hb2.mono (by omega))
    have hlt2 := hrow2.lt
    have hlt5 := hr5.lt
    clear a1 a2 a3 a4 b1 b2 b3 b4 j0 j1 j2 hb4 hr4 hb1' hb2
    obtain ⟨a1, a2, a3, a4⟩ := box2 i0
    obtain ⟨b1, b2, b3, b4⟩ := box2 i2
    obtain ⟨c1, c2, c3, c4⟩ := box2 i1
    have HR2 := Lib.hid hrow2
    have HN2 := Lib.hid hnew2
    have HR5 := Lib.hid hr5
    have HI := Lib.hid (And.intro i0 (And.intro i1 i2))
    have HX := Lib.hid (And.intro hs3 hs4)
    clear hrow2 hnew2 hr5 i0 i1 i2 hs3 hs4
    go_wp2_with fail
    refine bodyPost_ret (v := .agg #[.slice (some ⟨g, 0, none⟩) ks.length ks.length, .slice (some ⟨h, 0, none⟩) cs.length cs.length]) (by simp [results, Tryd.results17, go_sem, c1, c2]) rfl ⟨_, _, rfl, ?_, ?_⟩
    · have hs3 := HX.out.1
      have hs4 := HX.out.2
      have hall : ∀ (u v x : Value) k, k ≠ w'.heap.size + 1 → k ≠ w'.heap.size + 1 + 1 →
          (((w2.setCell ⟨w'.heap.size + 1 + 1, 1, none⟩ u).setCell ⟨w'.heap.size + 1, 0, none⟩ v).setCell ⟨w'.heap.size + 1, 1, none⟩ x).heap[k]? = w2.heap[k]? := fun u v x k h1 h2 => by
        rw [set_other _ _ _ _ _ h1, set_other _ _ _ _ _ h1, set_other _ _ _ _ _ h2]
      refine .mk ks cs g h kvs' cvs' (by omega) (by omega) (HR5.out.of_block (hall _ _ _ _ (by omega) (by omega))) (HR2.out.of_block (hall _ _ _ _ (by omega) (by omega))) (fun i hi => ?_)
      exact ((HN2.out i hi).same (fun k hk _ => hall _ _ _ _ (by omega) (by omega)) trivial).lower (by omega)
    · exact ((hb2'.setCell (by show w'.heap.size ≤ w'.heap.size + 1 + 1; omega) _).setCell (by show w'.heap.size ≤ w'.heap.size + 1; omega) _).setCell (by show w'.heap.size ≤ w'.heap.size + 1; omega) _

end Go.Proofs.YticfkfjijnfcbaaDoor

/- The contracts of the functions that compare: eqIntS, eqTreeS, eqTree: at two readings of one datum they answer true. -/
namespace Go.Proofs.YticfkfjijnfcbaaDoor
open Go.RowKit

set_option maxHeartbeats 400000 in
theorem eqIntS_c (ks : List Int) (v v' : Value) (w : World) (B : Nat) (hB : B ≤ w.heap.size) (hk : IntsIn w B v ks) (hk' : IntsIn w B v' ks) :
    Calls Tryd.prog 61 #[v, v'] w fun e w' => e = .returned (.bool true) ∧ Below w.heap.size w w' := by
  obtain ⟨a, cap, rfl, h1, h2, _, h3⟩ := hk
  obtain ⟨a', cap', rfl, h1', h2', _, h3'⟩ := hk'
  unfold maxLen at h2 h2'
  have HK := Lib.hid h3
  have HK' := Lib.hid h3'
  clear h3 h3'
  have hne : ((ks.length : Int) != ks.length) = false := by simp
  go_enter Tryd.func61, Tryd.ntmps61
  go_wp2_with fail
  go_loopw [5] (fun i wr => ∃ (j : Nat), j ≤ ks.length ∧ i = .int .i64 j ∧ Below w.heap.size w wr) (fun i _ => ks.length - (intOf i).toNat)
  case atStart => exact ⟨0, Nat.zero_le _, rfl, Below.refl _ _⟩
  case round =>
    obtain ⟨j, hj, rfl, hbel⟩ := hrel
    by_cases hlt : j < ks.length
    · rcases HK.out with h | ⟨b, off, rfl, hb, hat⟩
      · simp [h] at hlt
      rcases HK'.out with h | ⟨b', off', rfl, hb', hat'⟩
      · simp [h] at hlt
      have ha1 : wr.cell? ⟨b, off + j, none⟩ = some (.int .i64 (ks.getD j 0)) := by rw [below_cell hbel (by omega)]; exact hat j hlt
      have ha2 : wr.cell? ⟨b', off' + j, none⟩ = some (.int .i64 (ks.getD j 0)) := by rw [below_cell hbel (by omega)]; exact hat' j hlt
      have hne2 : ((ks.getD j 0 : Int) != ks.getD j 0) = false := by simp
      clear hat hat'
      generalize ks.getD j 0 = x at ha1 ha2 hne2
      go_wp2_with fail
      go_quiet (fail)
      go_wp2_with fail
      go_roundw
      case rel => exact ⟨j + 1, by omega, by go_num, below_drewN hbel _⟩
      case measure => simp [intOf]; omega
    · obtain rfl : j = ks.length := by omega
      go_wp2_with fail
      go_ret
      exact ⟨rfl, hbel⟩

set_option maxHeartbeats 1000000 in
set_option maxRecDepth 100000 in
theorem eqTreeS_c (cs : List Tr) (a a' : Option Addr) (cap cap' : Nat) (w : World) (B : Nat) (kvs cvs kvs' cvs' : Nat → Value) (hB : B ≤ w.heap.size)
    (hlen : cs.length ≤ cap) (hcap : cap ≤ maxLen) (hlen' : cs.length ≤ cap') (hcap' : cap' ≤ maxLen) (hat : KidsIn w B a cs.length kvs cvs) (hat' : KidsIn w B a' cs.length kvs' cvs')
    (hto : ∀ i (h : i < cs.length) w', Below B w w' → B ≤ w'.heap.size →
      Calls Tryd.prog 20 #[.agg #[kvs i, cvs i], .agg #[kvs' i, cvs' i]] w' fun e w'' => e = .returned (.bool true) ∧ Below w'.heap.size w' w'') :
    Calls Tryd.prog 62 #[.slice a cs.length cap, .slice a' cs.length cap'] w fun e w' => e = .returned (.bool true) ∧ Below w.heap.size w w' := by
  have HAT := Lib.hid hat
  have HAT' := Lib.hid hat'
  have HTO := Lib.hid hto
  clear hat hat' hto
  unfold maxLen at hcap hcap'
  have hne : ((cs.length : Int) != cs.length) = false := by simp
  go_enter Tryd.func62, Tryd.ntmps62
  go_wp2_with fail
  go_loopw [5] (fun i wr => ∃ (j : Nat), j ≤ cs.length ∧ i = .int .i64 j ∧ Below w.heap.size w wr) (fun i _ => cs.length - (intOf i).toNat)
  case atStart => exact ⟨0, Nat.zero_le _, rfl, Below.refl _ _⟩
  case round =>
    obtain ⟨j, hj, rfl, hbel⟩ := hrel
    by_cases hlt : j < cs.length
    · rcases HAT.out with h | ⟨b, off, rfl, hb, hat⟩
      · omega
      rcases HAT'.out with h | ⟨b', off', rfl, hb', hat'⟩
      · omega
      obtain ⟨ha, hc⟩ := hat j hlt
      obtain ⟨ha', hc'⟩ := hat' j hlt
      rw [← below_cell hbel (by omega)] at ha hc ha' hc'
      have hsz := hbel.size
      have HC := Lib.hid (fun w1 h1 h2 => HTO.out j hlt w1 h1 h2)
      clear hat hat'
      go_wp2_with fail
      go_still_tail 8, (by kernel_rfl)
      go_wp2_with fail
      refine (HC.out _ ((below_drewN hbel 1).mono hB) (by simp [World.drewN]; omega)).mono ?_
      rintro e w1 ⟨rfl, hb1⟩
      have hb1' : Below w.heap.size w w1 := (below_drewN hbel 1).trans (hb1.mono hsz)
      clear hb1
      go_wp2_with fail
      go_roundw
      case rel => exact ⟨j + 1, by omega, by go_num, hb1'⟩
      case measure => simp [intOf]; omega
    · obtain rfl : j = cs.length := by omega
      go_wp2_with fail
      go_ret
      exact ⟨rfl, hbel⟩

set_option maxHeartbeats 1000000 in
theorem eqTree_c {w : World} {B : Nat} {kv cv : Value} {t : Tr} (ht : TreeIn w B kv cv t) :
    ∀ kv' cv', TreeIn w B kv' cv' t → ∀ w', Below B w w' → B ≤ w'.heap.size →
    Calls Tryd.prog 20 #[.agg #[kv, cv], .agg #[kv', cv']] w' fun e w'' => e = .returned (.bool true) ∧ Below w'.heap.size w' w'' := by
  induction ht with
  | mk ks cs kv a cap kvs cvs hk hlen hcap hat hkids ih =>
    intro kv' cv' ht' w' hbw hB
    obtain ⟨a', cap', kvs', cvs', rfl, hk', hlen', hcap', hat', hkids'⟩ := ht'.parts
    have HK := Lib.hid (And.intro hk hk')
    have HAT := Lib.hid (And.intro hat hat')
    have IH := Lib.hid ih
    have HKI := Lib.hid hkids'
    clear hk hat ih hkids ht' hk' hat' hkids'
    go_enter Tryd.func20, Tryd.ntmps20
    go_wp2_with fail
    obtain ⟨W3, hW3⟩ : ∃ W3, W3 = ((w'.alloc (.cells #[kv, .slice a cs.length cap] 33)).alloc (.cells #[kv', .slice a' cs.length cap'] 33)) := ⟨_, rfl⟩
    rw [← hW3]
    have hb3 : Below w'.heap.size w' W3 := by rw [hW3]; exact ((Below.refl _ _).alloc (Nat.le_refl _) _).alloc (by simp) _
    have hs3 : W3.heap.size = w'.heap.size + 2 := by rw [hW3]; simp
    have k0 : W3.heap[w'.heap.size]? = some (.cells #[kv, .slice a cs.length cap] 33 (0, 0)) := by rw [hW3, old_blk _ _ _ (by simp), new_blk]
    have k1 : W3.heap[w'.heap.size + 1]? = some (.cells #[kv', .slice a' cs.length cap'] 33 (0, 0)) := by
      rw [hW3, show w'.heap.size + 1 = (w'.alloc (.cells #[kv, .slice a cs.length cap] 33)).heap.size by simp, new_blk]
    clear hW3
    refine (eqIntS_c ks kv kv' _ B (by omega) ((HK.out.1.later hbw (Nat.le_refl _)).later hb3 hB) ((HK.out.2.later hbw (Nat.le_refl _)).later hb3 hB)).mono ?_
    rintro e w1 ⟨rfl, hb1⟩
    have j0 := (hb1.block w'.heap.size (by omega)).trans k0
    have j1 := (hb1.block (w'.heap.size + 1) (by omega)).trans k1
    have hz1 := hb1.size
    have hb1' : Below w'.heap.size w' w1 := hb3.trans (hb1.mono (by omega))
    obtain ⟨a1, a2, a3, a4⟩ := box2 j0
    obtain ⟨b1, b2, b3, b4⟩ := box2 j1
    have HX := Lib.hid (And.intro hs3 hz1)
    clear j0 j1 hb1 hs3 k0 k1 hb3 hz1
    go_wp2_with fail
    have hs3 := HX.out.1
    have hz1 := HX.out.2
    refine (eqTreeS_c cs a a' cap cap' _ B kvs cvs kvs' cvs' (by omega) hlen hcap hlen' hcap' ((HAT.out.1.later hbw (Nat.le_refl _)).later hb1' hB) ((HAT.out.2.later hbw (Nat.le_refl _)).later hb1' hB) (fun i hi w2 hb2 hs2 => ?_)).mono ?_
    · exact IH.out i hi _ _ (HKI.out i hi) w2 (hbw.trans ((hb1'.mono hB).trans hb2)) hs2
    rintro e w2 ⟨rfl, hb2⟩
    have hb2' := hb1'.trans (hb2.mono (by omega))
    clear hb2 hs3 hz1
    go_wp2_with fail
    go_ret
    exact ⟨rfl, hb2'⟩

end Go.Proofs.YticfkfjijnfcbaaDoor

/- Whether a number lies between two others; the model's l1In and l1Wide. -/
namespace Go.Proofs.YticfkfjijnfcbaaDoor
open Go.RowKit

/-- Whether a number lies between two others. -/
def inB (n lo hi : Int) : Bool := decide (lo ≤ n) && decide (n ≤ hi)
theorem inB_true {n lo hi : Int} (h : lo ≤ n) (h' : n ≤ hi) : inB n lo hi = true := by simp [inB, h, h']
theorem inB_false {n lo hi : Int} (h : ¬ (lo ≤ n ∧ n ≤ hi)) : inB n lo hi = false := by
  simp only [inB, Bool.and_eq_false_iff, decide_eq_false_iff_not]; omega

theorem l1In_c (n lo hi : Int) (w : World) : Calls Tryd.prog 106 #[.int .i64 n, .int .i64 lo, .int .i64 hi] w fun e w' => e = .returned (.bool (inB n lo hi)) ∧ w = w' := by
  by_cases h1 : lo ≤ n
  · by_cases h2 : n ≤ hi
    · go_enter Tryd.func106, Tryd.ntmps106
      go_wp2_with fail
      go_ret
      exact ⟨ret_bool (inB_true h1 h2).symm, rfl⟩
    · go_enter Tryd.func106, Tryd.ntmps106
      go_wp2_with fail
      go_ret
      exact ⟨ret_bool (inB_false (by omega)).symm, rfl⟩
  · go_enter Tryd.func106, Tryd.ntmps106
    go_wp2_with fail
    go_ret
    exact ⟨ret_bool (inB_false (by omega)).symm, rfl⟩

theorem l1Wide_c (n : Int) (w : World) : Calls Tryd.prog 126 #[.int .i64 n] w fun e w' => e = .returned (.bool (inB n 2 6)) ∧ w = w' := by
  go_enter Tryd.func126, Tryd.ntmps126
  go_wp2_with fail
  refine (l1In_c n 2 6 _).mono ?_
  rintro e w1 ⟨rfl, rfl⟩
  go_wp2_with fail
  go_ret
  exact ⟨rfl, rfl⟩
end Go.Proofs.YticfkfjijnfcbaaDoor
