/- The model's InsertAll. -/
import Derived.Test.YtgbgdanbdbojaaaProg
import Derived.Test.YtgbgdanbdbojaaaSh0
import Derived.Test.YtgbgdanbdbojaaaSh8
import Derived.Test.YtgbgdanbdbojaaaSh4
import Derived.Test.YtgbgdanbdbojaaaSh15
import Derived.Test.YtgbgdanbdbojaaaSh28
import Derived.Test.YtgbgdanbdbojaaaSh21
import Derived.Deep.Cut
namespace Go.Proofs.Ytgbgdanbdbojaaa
open Go.RowKit

theorem leafO {w : World} {e : Ending} {w' : World} (h : Leafed w [] e w') : ∃ kv cv P, e = .returned (.agg #[kv, cv]) ∧ TreeO w' w.heap.size P kv cv (.mk [] []) ∧ Below w.heap.size w w' := by
  obtain ⟨kv, g, rfl, hk, hlt, hg, hcell, hb⟩ := h
  have hglt : g < w'.heap.size := (Array.getElem?_eq_some_iff.1 hcell).1
  refine ⟨_, _, fun b => ownB kv b ∨ b = g, rfl, ?_, hb⟩
  refine .mk [] [] _ _ _ (hk.lower (by omega)) ?_ (fun x h => by cases h) (fun b h => .inl h) (fun b h => .inr ?_) (fun x h => by cases h) ?_ ?_
  · exact ⟨rfl, .inr ⟨g, 0, #[], rfl, by omega, hcell, Nat.le_refl _, by unfold maxLen; omega, rfl, rfl⟩⟩
  · have : some g = some b := h
    exact (Option.some.inj this).symm
  · simp only [List.map_nil, List.pairwise_cons, List.mem_cons, List.not_mem_nil, or_false, forall_eq, false_implies, implies_true, List.Pairwise.nil, and_true]
    intro b h1 h2
    have : some g = some b := h2
    have := Option.some.inj this
    have := hlt b h1
    omega
  · rintro b (h | rfl)
    · have := hk.lt b h
      omega
    · omega

/-- What InsertAll leaves. -/
def AllGrown (w : World) (wide : Int) (ks : List Int) (e : Ending) (w' : World) : Prop :=
  ∃ kv cv P, e = .returned (.tuple #[.agg #[kv, cv], .bool (Tr.allOk wide ks)]) ∧ TreeO w' w.heap.size P kv cv (Tr.insAllT wide ks) ∧ Below w.heap.size w w'

/-- What the loop keeps: the tree in its box. -/
structure AllBox (w : World) (wide : Int) (ks : List Int) (tb j : Nat) (kv cv : Value) (P : Blocks) (wr : World) : Prop where
  box : wr.heap[tb]? = some (.cells #[kv, cv] 26 (0, 0))
  res : wr.heap[w.heap.size]? = some (.cells #[.slice none 0 0, .slice none 0 0] 26 (0, 0))
  tree : TreeO wr (w.heap.size + 1) P kv cv (Tr.allIn wide (ks.take j)).1
  out : ¬ P tb
  bel : Below w.heap.size w wr

theorem AllBox.keep {w wr w' : World} {wide : Int} {ks : List Int} {tb j : Nat} {kv cv : Value} {P : Blocks} (h : AllBox w wide ks tb j kv cv P wr) (hb : Below wr.heap.size wr w') : AllBox w wide ks tb j kv cv P w' :=
  ⟨(hb.block _ (Array.getElem?_eq_some_iff.1 h.box).1).trans h.box, (hb.block _ (Array.getElem?_eq_some_iff.1 h.res).1).trans h.res, h.tree.later hb (Nat.le_refl _), h.out, h.bel.trans (hb.mono h.bel.size)⟩

theorem AllBox.same {w wr : World} {wide : Int} {ks : List Int} {tb j : Nat} {kv cv : Value} {P : Blocks} (h : AllBox w wide ks tb j kv cv P wr) (hj : j < ks.length) (hp : ((Tr.allIn wide (ks.take j)).1.path (ks.getD j 0)).2 = true) : AllBox w wide ks tb (j + 1) kv cv P wr :=
  ⟨h.box, h.res, by rw [Tr.allIn_snoc wide hj, Tr.putKey, if_pos hp]; exact h.tree, h.out, h.bel⟩

theorem AllBox.put {w w5 w6 : World} {wide : Int} {ks : List Int} {tb j : Nat} {kv cv kv' cv' : Value} {P P' : Blocks} (h : AllBox w wide ks tb j kv cv P w5) (hj : j < ks.length) (htb : w.heap.size < tb) (hp : ((Tr.allIn wide (ks.take j)).1.path (ks.getD j 0)).2 = false)
    (ht : TreeO w6 w5.heap.size P' kv' cv' (Tr.insT wide (ks.getD j 0) (Tr.allIn wide (ks.take j)).1)) (hb : Below w5.heap.size w5 w6) : AllBox w wide ks tb (j + 1) kv' cv' P' ((w6.setCell ⟨tb, 0, none⟩ kv').setCell ⟨tb, 1, none⟩ cv') := by
  have hlt := (Array.getElem?_eq_some_iff.1 h.box).1
  have hbt : Below w.heap.size w w6 := h.bel.trans (hb.mono h.bel.size)
  refine ⟨set_blk (o := 1) _ (set_blk (o := 0) _ ((hb.block _ hlt).trans h.box)), ?_, ?_, fun e => ?_, (hbt.setCell (by show w.heap.size ≤ tb; omega) _).setCell (by show w.heap.size ≤ tb; omega) _⟩
  · rw [set_other _ _ _ _ _ (by omega), set_other _ _ _ _ _ (by omega)]
    exact (hb.block _ (Array.getElem?_eq_some_iff.1 h.res).1).trans h.res
  · rw [Tr.allIn_snoc wide hj, Tr.putKey, if_neg (by rw [hp]; decide)]
    exact (ht.same (by simp) (fun q e => by have := (ht.lt q e).1; rw [set_other _ _ _ _ _ (by omega), set_other _ _ _ _ _ (by omega)])).lower (by have := h.bel.size; omega)
  · have := (ht.lt _ e).1
    omega

set_option maxRecDepth 100000 in
set_option maxHeartbeats 1000000 in
theorem specInsertAll_c {v : Value} {ks : List Int} (w : World) (B : Nat) (hB : B ≤ w.heap.size) (hk : IntsIn w B v ks) (wide : Int) :
    Calls Try.prog 35 #[.int .i64 wide, v] w (AllGrown w wide ks) := by
  obtain ⟨W1, hW1⟩ : ∃ W1, W1 = w.alloc (.cells #[.slice none 0 0, .slice none 0 0] 26) := ⟨_, rfl⟩
  have hs1 : W1.heap.size = w.heap.size + 1 := by rw [hW1]; simp
  have hb1 : Below w.heap.size w W1 := by rw [hW1]; exact (Below.refl _ _).alloc (Nat.le_refl _) _
  have k1 : W1.heap[w.heap.size]? = some (.cells #[.slice none 0 0, .slice none 0 0] 26 (0, 0)) := by rw [hW1, new_blk]
  have HK := Lib.hid hk
  have HK1 := Lib.hid (hk.later hb1 hB)
  obtain ⟨a, cap, rfl, -, hcap, -, h3⟩ := hk
  have H3 := Lib.hid h3
  clear h3
  unfold maxLen at hcap
  have HW1 := Lib.hid hW1
  have H1 := Lib.hid (And.intro hb1 k1)
  have NO : Hid (∀ wf : World, Below w.heap.size w wf → Tr.allOk wide ks = false → AllGrown w wide ks (.returned (.tuple #[.agg #[.slice none 0 0, .slice none 0 0], .bool false])) wf) :=
    Lib.hid (fun wf hb h => ⟨_, _, _, by rw [h], by rw [show Tr.insAllT wide ks = .mk [] [] by simp [Tr.insAllT, h]]; exact TreeO.nil _ _, hb⟩)
  obtain ⟨x1, x2, x3, x4⟩ := box2 k1
  obtain ⟨wf, hwf⟩ : ∃ wf, wf = (W1.setCell ⟨w.heap.size, 0, none⟩ (.slice none 0 0)).setCell ⟨w.heap.size, 1, none⟩ (.slice none 0 0) := ⟨_, rfl⟩
  have hfb : wf.heap[w.heap.size]? = some (.cells #[.slice none 0 0, .slice none 0 0] 26 (0, 0)) := by
    rw [hwf]; exact set_blk (o := 1) _ (set_blk (o := 0) _ k1)
  have hbf : Below w.heap.size w wf := by rw [hwf]; exact (hb1.setCell (by show w.heap.size ≤ w.heap.size; omega) _).setCell (by show w.heap.size ≤ w.heap.size; omega) _
  have HF := Lib.hid (And.intro hwf (And.intro hfb hbf))
  clear hW1 hb1 k1 hwf hfb hbf
  go_enter Try.func35, Try.ntmps35
  go_wp2_with fail
  rw [← HW1.out]
  refine (l1Wide_c wide W1).mono ?_
  rintro e wA ⟨rfl, hwA⟩
  subst wA
  cases hw : inB wide 2 6 with
  | false =>
    have HNO := Lib.hid (NO.out wf HF.out.2.2 (by simp [Tr.allOk, hw]))
    clear hw
    go_wp2_with fail
    rw [← HF.out.1]
    obtain ⟨d1, d2, d3, d4⟩ := box2 HF.out.2.1
    exact bodyPost_ret (v := .tuple #[.agg #[.slice none 0 0, .slice none 0 0], .bool false]) (by simp [results, Try.results35, go_sem, d1, d2]) rfl HNO.out
  | true =>
  go_wp2_with fail
  refine (l3Keys_c W1 B HK1.out).mono ?_
  rintro e wB ⟨rfl, hwB⟩
  subst wB
  cases hko : keysOk ks with
  | false =>
    have HNO := Lib.hid (NO.out wf HF.out.2.2 (by simp [Tr.allOk, hko]))
    clear hw hko
    go_wp2_with fail
    rw [← HF.out.1]
    obtain ⟨d1, d2, d3, d4⟩ := box2 HF.out.2.1
    exact bodyPost_ret (v := .tuple #[.agg #[.slice none 0 0, .slice none 0 0], .bool false]) (by simp [results, Try.results35, go_sem, d1, d2]) rfl HNO.out
  | true =>
  have hwd : 2 ≤ wide ∧ wide ≤ 6 := by simpa [inB] using hw
  obtain ⟨hin, h200⟩ := keysOk_at hko
  have HOK := Lib.hid (show Tr.allOk wide ks = true by simp [Tr.allOk, hw, hko])
  have HV := Lib.hid (fun j hj => (Tr.allIn_valid hwd.1 hwd.2 hin j hj).1)
  have HIN := Lib.hid hin
  clear hw hko hin HF NO x1 x2 x3 x4 hwd
  obtain ⟨W2, hW2⟩ : ∃ W2, W2 = W1.alloc (.cells #[] 3) := ⟨_, rfl⟩
  have hs2 : W2.heap.size = W1.heap.size + 1 := by rw [hW2]; simp
  have hb2 : Below W1.heap.size W1 W2 := by rw [hW2]; exact (Below.refl _ _).alloc (Nat.le_refl _) _
  have H2 := Lib.hid (And.intro hb2 hW2)
  clear hb2 hW2
  go_wp2_with fail
  rw [← H2.out.2]
  refine (leaf_c W2 _ [] (fun w' hb => ⟨_, 0, rfl, fun _ => rfl, .inl rfl⟩) (by simp)).mono ?_
  intro e w3 hlf
  obtain ⟨lk, lc, LP, rfl, ht3, hb3⟩ := leafO hlf
  clear hlf
  obtain ⟨q1, q2, q3, q4, q5, q6, rfl, rfl⟩ := ht3.tree.slices
  have hs3 := hb3.size
  obtain ⟨W4, hW4⟩ : ∃ W4, W4 = w3.alloc (.cells #[.slice q1 q2 q3, .slice q4 q5 q6] 26) := ⟨_, rfl⟩
  have hb4 : Below w3.heap.size w3 W4 := by rw [hW4]; exact (Below.refl _ _).alloc (Nat.le_refl _) _
  have k4 : W4.heap[w3.heap.size]? = some (.cells #[.slice q1 q2 q3, .slice q4 q5 q6] 26 (0, 0)) := by rw [hW4, new_blk]
  have hb24 : Below W1.heap.size W1 W4 := H2.out.1.trans ((hb3.mono (by omega)).trans (hb4.mono (by omega)))
  have hall : AllBox w wide ks w3.heap.size 0 (.slice q1 q2 q3) (.slice q4 q5 q6) LP W4 :=
    ⟨k4, (hb24.block _ (by omega)).trans H1.out.2, (ht3.later hb4 (Nat.le_refl _)).lower (by omega), fun e => by have := (ht3.lt _ e).2; omega, H1.out.1.trans (hb24.mono (by omega))⟩
  have HW4 := Lib.hid hW4
  have HA := Lib.hid hall
  clear ht3 hb3 hb4 k4 hb24 hW4 hall
  have htb : w.heap.size < w3.heap.size := by omega
  go_wp2_with fail
  rw [← HW4.out]
  go_loopw [8, 22] (fun s8 i wr => ∃ (j : Nat) (kv cv : Value) (P : Blocks), j ≤ ks.length ∧ i = .int .i64 j ∧ AllBox w wide ks w3.heap.size j kv cv P wr) (fun _ i _ => ks.length - (intOf i).toNat)
  case atStart => exact ⟨0, _, _, LP, Nat.zero_le _, rfl, HA.out⟩
  case round =>
    obtain ⟨j, kv, cv, P, hj, rfl, hbox⟩ := hrel
    obtain ⟨p1, p2, p3, p4, p5, p6, rfl, rfl⟩ := hbox.tree.tree.slices
    obtain ⟨c1, c2, c3, c4⟩ := box2 hbox.box
    have HBX := Lib.hid hbox
    by_cases hlt : j < ks.length
    · rcases H3.out with h | ⟨b, off, rfl, hb, hat⟩
      · simp [h] at hlt
      have ha' : wr.cell? ⟨b, off + j, none⟩ = some (.int .i64 (ks.getD j 0)) := by rw [below_cell hbox.bel (by omega)]; exact hat j hlt
      have hsmall := Tr.valid_small (HV.out j hj)
      have HHAS := Lib.hid (specHasKey_c hbox.tree.tree (by omega) (ks.getD j 0) wr (Below.refl _ _) (Nat.le_refl _))
      have HPB := Lib.hid ((someB_path (ks.getD j 0) (Tr.allIn wide (ks.take j)).1).1 (Tr.valid_some (HV.out j hj)))
      obtain ⟨x, hx⟩ : ∃ x, x = ks.getD j 0 := ⟨_, rfl⟩
      have hjl : (j : Int) < (ks.length : Int) := by omega
      rw [← hx] at ha' HHAS HPB
      have HX := Lib.hid hx
      clear hbox hat hx
      go_wp2_with fail
      refine HHAS.out.mono ?_
      rintro e w5 ⟨rfl, hb5⟩
      rw [HPB.out]
      have h5 := HBX.out.keep hb5
      clear c1 c2 c3 c4
      obtain ⟨c1, c2, c3, c4⟩ := box2 h5.box
      cases hp : ((Tr.allIn wide (ks.take j)).1.path x).2 with
      | true =>
        have H6 := Lib.hid (h5.same hlt (by rw [← HX.out]; exact hp))
        clear h5 hb5 hp
        go_wp2_with fail
        go_roundw
        case rel => exact ⟨j + 1, _, _, P, by omega, by go_num, H6.out⟩
        case measure => simp [intOf]; omega
      | false =>
        have HK5 := Lib.hid (l3Key_c h5.tree.tree wide x (HV.out j hj) w5 (Below.refl _ _) (Nat.le_refl _))
        have HP := Lib.hid (show ((Tr.allIn wide (ks.take j)).1.path (ks.getD j 0)).2 = false by rw [← HX.out]; exact hp)
        have H5 := Lib.hid h5
        clear h5 hb5 hp
        go_wp2_with fail
        refine HK5.out.mono ?_
        rintro e w6 ⟨k6, c6, P6, rfl, ht6, hb6⟩
        rw [HX.out] at ht6
        obtain ⟨r1, r2, r3, r4, r5, r6, rfl, rfl⟩ := ht6.tree.slices
        have H7 := Lib.hid (H5.out.put hlt htb HP.out ht6 hb6)
        have kb6 := (hb6.block _ (Array.getElem?_eq_some_iff.1 H5.out.box).1).trans H5.out.box
        clear c1 c2 c3 c4
        obtain ⟨c1, c2, c3, c4⟩ := box2 kb6
        clear ht6 hb6 kb6
        go_wp2_with fail
        go_roundw
        case rel => exact ⟨j + 1, _, _, P6, by omega, by go_num, H7.out⟩
        case measure => simp [intOf]; omega
    · have hjn : j = ks.length := by omega
      have hjl : ¬ (j : Int) < (ks.length : Int) := by omega
      have HJN := Lib.hid hjn
      clear hjn hbox
      obtain ⟨y1, y2, y3, y4⟩ := box2 HBX.out.res
      go_wp2_with fail
      obtain ⟨wf, hwf⟩ : ∃ wf, wf = (wr.setCell ⟨w.heap.size, 0, none⟩ (.slice p1 p2 p3)).setCell ⟨w.heap.size, 1, none⟩ (.slice p4 p5 p6) := ⟨_, rfl⟩
      have hfb : wf.heap[w.heap.size]? = some (.cells #[.slice p1 p2 p3, .slice p4 p5 p6] 26 (0, 0)) := by
        rw [hwf]; exact set_blk (o := 1) _ (set_blk (o := 0) _ HBX.out.res)
      obtain ⟨d1, d2, d3, d4⟩ := box2 hfb
      rw [← hwf]
      refine bodyPost_ret (v := .tuple #[.agg #[.slice p1 p2 p3, .slice p4 p5 p6], .bool true]) (by simp [results, Try.results35, go_sem, d1, d2]) rfl ⟨_, _, P, by rw [HOK.out], ?_, ?_⟩
      · have ht := HBX.out.tree
        rw [HJN.out, List.take_length] at ht
        rw [show Tr.insAllT wide ks = (Tr.allIn wide ks).1 by simp [Tr.insAllT, HOK.out]]
        exact (ht.same (w' := wf) (by rw [hwf]; simp) (fun q e => by have := (ht.lt q e).1; rw [hwf, set_other _ _ _ _ _ (by omega), set_other _ _ _ _ _ (by omega)])).lower (by omega)
      · rw [hwf]; exact (HBX.out.bel.setCell (by show w.heap.size ≤ w.heap.size; omega) _).setCell (by show w.heap.size ≤ w.heap.size; omega) _
end Go.Proofs.Ytgbgdanbdbojaaa
