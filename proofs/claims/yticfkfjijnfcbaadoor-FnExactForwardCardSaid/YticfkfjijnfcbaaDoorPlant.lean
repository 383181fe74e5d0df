/- The contract of plant: a copy of a tree as nodes. -/
import Derived.Test.YticfkfjijnfcbaaDoorProg
import Derived.Test.YticfkfjijnfcbaaDoorSh0
import Derived.Test.YticfkfjijnfcbaaDoorSh3
import Derived.Deep.RegionLaw
import Derived.Deep.AppendLies
namespace Go.Proofs.YticfkfjijnfcbaaDoor
open Go.RowKit

/-- Where plant stands when j kids are planted: the node at block bn, its row of pointers, the kids in blocks that lie apart. -/
structure Planted (w : World) (lo bn : Nat) (kv vk : Value) (ks : List Int) (cs : List Tr) (ps s e : Nat → Nat) (j : Nat) : Prop where
  box : w.heap[bn]? = some (.cells #[kv, vk] 110 (0, 0))
  keys : IntsR w lo bn kv ks
  row : w.ownsRow (bn + 1) 99 1 vk j ((List.range j).map (fun i => .pointer (some ⟨ps i, 0, none⟩)))
  kids : ∀ i (h : i < cs.length), i < j → NodeIn w (s i) (e i) (ps i) cs[i]
  at' : ∀ i, i < j → bn < s i ∧ e i ≤ w.heap.size
  apart : ∀ i, i + 1 < j → e i ≤ s (i + 1)
  far : ∀ k, vk.ownBlock = some k → ∀ i, i < j → k < s i ∨ e i ≤ k

theorem ownsRow_shown1 {w : World} {base : Nat} {e : TypeId} {n : Nat} {v : Value} {xs : List Value} (h : w.ownsRow base e 1 v n xs) : ∃ a c, v = .slice a n c := by
  obtain ⟨h1, ⟨h2, h3⟩ | ⟨g, cap, cur, hv, hr⟩⟩ := h
  · exact ⟨_, _, by rw [h2, h3]⟩
  · exact ⟨_, _, hv⟩

theorem ownsRow_same {w w' : World} {base : Nat} {e : TypeId} {size n : Nat} {v : Value} {xs : List Value} (h : w.ownsRow base e size v n xs) (hb : ∀ k, k < w.heap.size → base ≤ k → w'.heap[k]? = w.heap[k]?) : w'.ownsRow base e size v n xs := by
  obtain ⟨h1, h2 | ⟨g, cap, cur, hv, hbb, hg, hr⟩⟩ := h
  · exact ⟨h1, .inl h2⟩
  · exact ⟨h1, .inr ⟨g, cap, cur, hv, hbb, (hb g (Array.getElem?_eq_some_iff.1 hg).1 hbb).trans hg, hr⟩⟩

theorem below_undrew {B : Nat} {w w' : World} (h : Below B w.drew w') : Below B w w' := ⟨h.os, h.tape, h.output, h.size, h.block⟩

theorem planted_step {wr W5 w6 w7 : World} {lo bn j rc gg cap7 pb : Nat} {kv : Value} {ra : Option Addr} {ks : List Int} {cs : List Tr} {ps s e : Nat → Nat}
    (hp : Planted wr lo bn kv (.slice ra j rc) ks cs ps s e j) (hj : j < cs.length) (h5 : Below wr.heap.size wr W5) (hs5 : W5.heap.size = wr.heap.size + 1)
    (hn : NodeIn w6 W5.heap.size w6.heap.size pb cs[j]) (h6 : Below W5.heap.size W5 w6)
    (hown : w7.ownsRow (bn + 1) 99 1 (.slice (some ⟨gg, 0, none⟩) (j + 1) cap7) (j + 1) ((List.range j).map (fun i => Value.pointer (some ⟨ps i, 0, none⟩)) ++ [.pointer (some ⟨pb, 0, none⟩)]))
    (hg : (w6.alloc (.cells #[.pointer (some ⟨pb, 0, none⟩)] 99)).grownBy w7 (Value.slice ra j rc).ownBlock)
    (hat : (Value.slice ra j rc).ownBlock = some gg ∨ gg = w6.heap.size + 1) :
    Planted (w7.setCell ⟨bn, 1, none⟩ (.slice (some ⟨gg, 0, none⟩) (j + 1) cap7)) lo bn kv (.slice (some ⟨gg, 0, none⟩) (j + 1) cap7) ks cs
      (fun i => if i = j then pb else ps i) (fun i => if i = j then W5.heap.size else s i) (fun i => if i = j then w6.heap.size else e i) (j + 1) ∧
    Below bn wr (w7.setCell ⟨bn, 1, none⟩ (.slice (some ⟨gg, 0, none⟩) (j + 1) cap7)) := by
  have hbn : bn < wr.heap.size := (Array.getElem?_eq_some_iff.1 hp.box).1
  have hsz6 : W5.heap.size ≤ w6.heap.size := h6.size
  have hsz7 : w6.heap.size + 1 ≤ w7.heap.size := by have := hg.size; simpa using this
  obtain ⟨wf, hwf⟩ : ∃ wf, wf = w7.setCell ⟨bn, 1, none⟩ (.slice (some ⟨gg, 0, none⟩) (j + 1) cap7) := ⟨_, rfl⟩
  have hsf : wf.heap.size = w7.heap.size := by rw [hwf]; simp
  -- what lay in w6 lies in wf, but for the node and the old row
  have old6 : ∀ k, k < w6.heap.size → (Value.slice ra j rc).ownBlock ≠ some k → w7.heap[k]? = w6.heap[k]? := fun k h1 h3 => by
    rw [hg.block k (by simp; omega) (fun e => h3 e.symm), old_blk _ _ _ h1]
  have old6f : ∀ k, k < w6.heap.size → k ≠ bn → (Value.slice ra j rc).ownBlock ≠ some k → wf.heap[k]? = w6.heap[k]? := fun k h1 h2 h3 => by
    rw [hwf, set_other _ _ _ _ _ h2, old6 k h1 h3]
  have oldr : ∀ k, k < wr.heap.size → w6.heap[k]? = wr.heap[k]? := fun k h1 => (h6.block k (by omega)).trans (h5.block k h1)
  have own : ∀ k, (Value.slice ra j rc).ownBlock = some k → bn + 1 ≤ k ∧ k < wr.heap.size := fun k h => hp.row.lt k h
  have hbox : wf.heap[bn]? = some (.cells #[kv, .slice (some ⟨gg, 0, none⟩) (j + 1) cap7] 110 (0, 0)) := by
    have h1 : w7.heap[bn]? = some (.cells #[kv, .slice ra j rc] 110 (0, 0)) := ((old6 bn (by omega) (fun e => by have := (own _ e).1; omega)).trans (oldr bn hbn)).trans hp.box
    rw [hwf]; exact set_blk _ h1
  have hbelow : Below bn wr wf := by
    refine ⟨?_, ?_, ?_, by omega, fun k hk => (old6f k (by omega) (by omega) (fun e => by have := (own _ e).1; omega)).trans (oldr k (by omega))⟩
    · rw [hwf]; exact (hg.os.trans h6.os).trans h5.os
    · rw [hwf]; exact (hg.tape.trans h6.tape).trans h5.tape
    · rw [hwf]; exact (hg.output.trans h6.output).trans h5.output
  rw [← hwf]
  refine ⟨⟨hbox, hp.keys.same (fun k _ h => hbelow.block k h), ?_, fun i hi hij => ?_, fun i hi => ?_, fun i hi => ?_, fun k hk i hi => ?_⟩, hbelow⟩
  · have h1 : (List.range (j + 1)).map (fun i => Value.pointer (some ⟨if i = j then pb else ps i, 0, none⟩)) = (List.range j).map (fun i => Value.pointer (some ⟨ps i, 0, none⟩)) ++ [.pointer (some ⟨pb, 0, none⟩)] := by
      rw [List.range_succ, List.map_append]
      simp only [List.map_cons, List.map_nil, if_true]
      congr 1
      refine List.map_congr_left (fun i hi => ?_)
      have := List.mem_range.1 hi
      rw [if_neg (by omega)]
    rw [h1, hwf]
    exact ownsRow_same hown (fun k _ h => set_other _ _ _ _ _ (by omega))
  · by_cases hij' : i = j
    · subst hij'
      simp only [if_true]
      exact hn.same (fun k h1 h2 => old6f k h2 (by omega) (fun e => by have := (own _ e).2; omega))
    · simp only [if_neg hij']
      obtain ⟨g1, g2⟩ := hp.at' i (by omega)
      refine (hp.kids i hi (by omega)).same (fun k h1 h2 => (old6f k (by omega) (by omega) (fun e => ?_)).trans (oldr k (by omega)))
      have := hp.far _ e i (by omega)
      omega
  · by_cases hij' : i = j
    · simp only [if_pos hij']; omega
    · simp only [if_neg hij']
      obtain ⟨g1, g2⟩ := hp.at' i (by omega)
      omega
  · have hij' : ¬ i = j := by omega
    simp only [if_neg hij']
    by_cases h : i + 1 = j
    · simp only [if_pos h]
      obtain ⟨g1, g2⟩ := hp.at' i (by omega)
      omega
    · simp only [if_neg h]
      exact hp.apart i (by omega)
  · simp only [Value.ownBlock, Option.some.injEq] at hk
    subst hk
    by_cases hij' : i = j
    · simp only [if_pos hij']
      rcases hat with h | h
      · have := (own _ h).2; left; omega
      · right; omega
    · simp only [if_neg hij']
      obtain ⟨g1, g2⟩ := hp.at' i (by omega)
      rcases hat with h | h
      · exact hp.far _ h i (by omega)
      · right; omega

theorem planted_done {w : World} {lo bn cap : Nat} {kv : Value} {ra : Option Addr} {ks : List Int} {cs : List Tr} {ps s e : Nat → Nat}
    (hp : Planted w lo bn kv (.slice ra cs.length cap) ks cs ps s e cs.length) (hlo : lo ≤ bn) : NodeIn w lo w.heap.size bn (.mk ks cs) := by
  have hbn : bn < w.heap.size := (Array.getElem?_eq_some_iff.1 hp.box).1
  have hrow := hp.row
  have hcap : cs.length ≤ cap ∧ cap ≤ maxLen := by
    obtain ⟨h1, ⟨h2, h3⟩ | ⟨g, cap', cur, hv, hb, hg, hn, hm, _⟩⟩ := hrow
    · simp only [Value.slice.injEq] at h2
      exact ⟨by omega, by unfold maxLen; omega⟩
    · cases hv; exact ⟨hn, hm⟩
  refine .mk ks cs lo w.heap.size bn kv ra cap ps (fun i => if i < cs.length then s i else w.heap.size) hlo hbn ?_ ?_ (fun i hi => ?_) hp.box (hp.keys.widen (Nat.le_refl _) (by omega)) hcap.1 hcap.2 ?_ (fun i hi => ?_)
  · by_cases h : 0 < cs.length
    · simp only [if_pos h]; exact (hp.at' 0 h).1
    · simp only [if_neg h]; exact hbn
  · simp
  · have h1 := (hp.kids i hi hi).range
    simp only [if_pos hi]
    by_cases h : i + 1 < cs.length
    · simp only [if_pos h]
      have := hp.apart i h
      omega
    · simp only [if_neg h]
      have := (hp.at' i hi).2
      omega
  · obtain ⟨h1, ⟨h2, h3⟩ | ⟨g, cap', cur, hv, hb, hg, hn, hm, hr⟩⟩ := hrow
    · exact .inl h3
    · cases hv
      refine .inr ⟨g, 0, rfl, by omega, (Array.getElem?_eq_some_iff.1 hg).1, fun i hi => ?_⟩
      rw [Nat.zero_add, World.ownsRow.cellAt hp.row i (by simpa using hi)]
      simp [hi]
  · have h1 := hp.kids i hi hi
    simp only [if_pos hi]
    by_cases h : i + 1 < cs.length
    · simp only [if_pos h]
      exact h1.widen (Nat.le_refl _) (hp.apart i h)
    · simp only [if_neg h]
      exact h1.widen (Nat.le_refl _) (hp.at' i hi).2

theorem Tryd.infoPtr : (Tryd.prog.info? 99).map (fun i => (i.zero, i.size, i.bytes)) = some (some (.pointer none), 1, 8) := by kernel_rfl

set_option maxRecDepth 100000 in
set_option maxHeartbeats 2000000 in
theorem plant_c {w : World} {B : Nat} {kv cv : Value} {t : Tr} (ht : TreeIn w B kv cv t) (hw : t.weight ≤ 1048576) :
    ∀ w', Below B w w' → B ≤ w'.heap.size →
    Calls Tryd.prog 87 #[.agg #[kv, cv]] w' fun e w'' => ∃ b, e = .returned (.pointer (some ⟨b, 0, none⟩)) ∧ NodeIn w'' w'.heap.size w''.heap.size b t ∧ Below w'.heap.size w' w'' := by
  induction ht with
  | mk ks cs kv a cap kvs cvs hk hlen hcap hat hkids ih =>
    intro w' hbw hB
    obtain ⟨i0, hi0, hz0, hz1, hz2⟩ := info_parts Tryd.infoPtr
    simp only [Tr.weight] at hw
    unfold maxLen at hcap
    have hl0 := Tr.length_le_weights cs
    have HK := Lib.hid (hk.later hbw (Nat.le_refl _))
    have HAT := Lib.hid (hat.later hbw (Nat.le_refl _))
    have IH := Lib.hid ih
    have HKI := Lib.hid hkids
    have HBW := Lib.hid hbw
    obtain ⟨W1, hW1⟩ : ∃ W1, W1 = w'.alloc (.cells #[kv, .slice a cs.length cap] 33) := ⟨_, rfl⟩
    have hs1 : W1.heap.size = w'.heap.size + 1 := by rw [hW1]; simp
    have hb1 : Below w'.heap.size w' W1 := by rw [hW1]; exact (Below.refl _ _).alloc (Nat.le_refl _) _
    have kb : W1.heap[w'.heap.size]? = some (.cells #[kv, .slice a cs.length cap] 33 (0, 0)) := by rw [hW1, new_blk]
    have HW1 := Lib.hid hW1
    obtain ⟨x1, x2, x3, x4⟩ := box2 kb
    have HB1 := Lib.hid (And.intro hb1 kb)
    clear hk hat ih hkids hbw hW1 hb1 kb
    go_enter Tryd.func87, Tryd.ntmps87
    go_wp2_with fail
    rw [← HW1.out]
    refine (clone_c W1 ((HK.out.later HB1.out.1 hB).at) (by omega)).mono ?_
    rintro e w2 ⟨v2, rfl, hown2, hb2⟩
    obtain ⟨a2, c2, rfl⟩ := hown2.shown
    have kb2 := (hb2.block w'.heap.size (by omega)).trans HB1.out.2
    clear x1 x2 x3 x4
    obtain ⟨x1, x2, x3, x4⟩ := box2 kb2
    have hs2 := hb2.size
    have hb2' := HB1.out.1.trans (hb2.mono (by omega))
    have y2 : (w2.alloc (.cells #[.slice a2 ks.length c2, .slice none 0 0] 110)).cell? ⟨w'.heap.size, 1, none⟩ = some (.slice a cs.length cap) := (box2 ((old_blk _ _ _ (by omega)).trans kb2)).2.1
    obtain ⟨W3, hW3⟩ : ∃ W3, W3 = w2.alloc (.cells #[.slice a2 ks.length c2, .slice none 0 0] 110) := ⟨_, rfl⟩
    have hs3 : W3.heap.size = w2.heap.size + 1 := by rw [hW3]; simp
    have hb3 : Below w2.heap.size w2 W3 := by rw [hW3]; exact (Below.refl _ _).alloc (Nat.le_refl _) _
    have hnode : W3.heap[w2.heap.size]? = some (.cells #[.slice a2 ks.length c2, .slice none 0 0] 110 (0, 0)) := by rw [hW3, new_blk]
    have hkeys : IntsR W3 w'.heap.size w2.heap.size (.slice a2 ks.length c2) ks := (hown2.inR.widen (by omega) (Nat.le_refl _)).same (fun k _ h => hb3.block k h)
    have H0 := Lib.hid (show Planted W3 w'.heap.size w2.heap.size (.slice a2 ks.length c2) (.slice none 0 0) ks cs (fun _ => 0) (fun _ => 0) (fun _ => 0) 0 from
      ⟨hnode, hkeys, ⟨rfl, .inl ⟨rfl, rfl⟩⟩, fun i _ h => by omega, fun i h => by omega, fun i h => by omega, fun k _ i h => by omega⟩)
    have HB3 := Lib.hid (hb2'.trans (hb3.mono (by omega)))
    have HW3 := Lib.hid hW3
    clear hb2 hb2' hown2 kb2 hb3 hnode hkeys hW3
    go_wp2_with fail
    rw [← HW3.out]
    clear x1 x2 x3 x4 y2
    go_loopw [15] (fun i wr => ∃ (j : Nat) (vk : Value) (ps s e : Nat → Nat), j ≤ cs.length ∧ i = .int .i64 j ∧ Planted wr w'.heap.size w2.heap.size (.slice a2 ks.length c2) vk ks cs ps s e j ∧ Below w'.heap.size w' wr) (fun i _ => cs.length - (intOf i).toNat)
    case atStart => exact ⟨0, _, _, _, _, Nat.zero_le _, rfl, H0.out, HB3.out⟩
    case round =>
      obtain ⟨j, vk, ps, s, e, hj, rfl, hpl, hbel⟩ := hrel
      by_cases hlt : j < cs.length
      · rcases HAT.out with h | ⟨b, off, rfl, hb, hat⟩
        · omega
        obtain ⟨ha, hc⟩ := hat j hlt
        have ha' : wr.cell? ⟨b, off + j * 2, none⟩ = some (kvs j) := by rw [below_cell hbel (by omega)]; exact ha
        have hc' : wr.cell? ⟨b, off + j * 2 + 1, none⟩ = some (cvs j) := by rw [below_cell hbel (by omega)]; exact hc
        have hcj := IH.out j hlt (by have := Tr.weight_get_le cs j hlt; omega)
        obtain ⟨a5, n5, c5, a6, n6, c6, e5, e6⟩ := (HKI.out j hlt).slices
        rw [e5] at ha'
        rw [e6] at hc'
        rw [e5, e6] at hcj
        have HCJ := Lib.hid hcj
        have HPL := Lib.hid hpl
        have HBEL := Lib.hid hbel
        obtain ⟨ra, rc, rfl⟩ := ownsRow_shown1 hpl.row
        obtain ⟨W5, hW5⟩ : ∃ W5, W5 = wr.alloc (.cells #[.slice a5 n5 c5, .slice a6 n6 c6] 33) := ⟨_, rfl⟩
        have hs5 : W5.heap.size = wr.heap.size + 1 := by rw [hW5]; simp
        have hlt2 : w2.heap.size < wr.heap.size := (Array.getElem?_eq_some_iff.1 hpl.box).1
        have hb5 : Below wr.heap.size wr W5 := by rw [hW5]; exact (Below.refl _ _).alloc (Nat.le_refl _) _
        have k5 : W5.heap[wr.heap.size]? = some (.cells #[.slice a5 n5 c5, .slice a6 n6 c6] 33 (0, 0)) := by rw [hW5, new_blk]
        have n5' : W5.heap[w2.heap.size]? = some (.cells #[.slice a2 ks.length c2, .slice ra j rc] 110 (0, 0)) := (hb5.block _ hlt2).trans hpl.box
        obtain ⟨y1, y2, y3, y4⟩ := box2 k5
        obtain ⟨u1, u2, u3, u4⟩ := box2 n5'
        have hbel5 : Below w'.heap.size w' W5 := hbel.trans (hb5.mono hbel.size)
        have HW5 := Lib.hid hW5
        have H5 := Lib.hid (And.intro hb5 (And.intro k5 (And.intro n5' hbel5)))
        have hszr := hbel.size
        have ne1 : some w2.heap.size ≠ (Value.slice ra j rc).ownBlock := fun e => by have := (hpl.row.lt _ e.symm).1; omega
        have ne2 : some wr.heap.size ≠ (Value.slice ra j rc).ownBlock := fun e => by have := (hpl.row.lt _ e.symm).2; omega
        have NE1 := Lib.hid ne1
        have NE2 := Lib.hid ne2
        clear ne1 ne2
        clear ha hc hat hpl hbel hcj e5 e6 hW5 hb5 k5 n5' hbel5
        go_wp2_with fail
        rw [← HW5.out]
        go_region_law
          (first
            | ((refine step_append_lies _ (by rfl) _ _ _ (by rfl) (w2.heap.size + 1) 99 i0 _ 1 8 Tryd.underlying106 hi0 hz0 hz1 hz2 rfl (by omega) _ j _ (by rfl) (H6.out.2.2.2.alloc _) ⟨w6.heap.size, 0, none⟩ 1 1 [.pointer (some ⟨pb, 0, none⟩)] (by rfl) (by rfl) (World.news_of_block (cs := #[.pointer (some ⟨pb, 0, none⟩)]) (t := 99) (fr := (0, 0)) (heap_alloc_new w6 _)) (by simp [Value.oneCell']) (by omega) (by unfold maxLen; omega) (by omega) (by simp; omega) (w6.heap.size + 1) (by simp) ?_; intro gg cap7 w7 hown7 hgrow7 hat7 hlt7; have v7c := (hgrow7.cell_far ⟨w2.heap.size, 1, none⟩ (by simp; omega) NE1.out).trans t2; have v7f := (hgrow7.frozen_far ⟨w2.heap.size, 1, none⟩ (by simp; omega) NE1.out).trans t4; have H7 := Lib.hid (And.intro hown7 (And.intro hgrow7 hat7)); clear hown7 hgrow7 hat7))
            | (go_simp; go_at_call 87; refine (HCJ.out _ (HBW.out.trans (H5.out.2.2.2.drew.mono hB)) (by simp; omega)).mono ?_; rintro e w6 ⟨pb, rfl, hnd6, hb6⟩; have hs6 : W5.heap.size ≤ w6.heap.size := hb6.size; have j6 := (hb6.block w2.heap.size (by simp; omega)).trans H5.out.2.2.1; have i6 := (hb6.block wr.heap.size (by simp; omega)).trans H5.out.2.1; obtain ⟨z1, z2, z3, z4⟩ := box2 j6; obtain ⟨q1, q2, q3, q4⟩ := box2 i6; obtain ⟨t1, t2, t3, t4⟩ := box2 ((old_blk w6 (.cells #[.pointer (some ⟨pb, 0, none⟩)] 99) _ (by omega)).trans j6); obtain ⟨p1, p2, p3, p4⟩ := box2 ((old_blk w6 (.cells #[.pointer (some ⟨pb, 0, none⟩)] 99) _ (by omega)).trans i6); have hr6 := ownsRow_same HPL.out.row (fun k h1 h2 => (hb6.block k (by simp; omega)).trans (H5.out.1.block k h1)); have H6 := Lib.hid (And.intro hnd6 (And.intro hb6 (And.intro j6 hr6))); clear hnd6 hb6 j6 i6 hr6))
        all_goals (
          go_wp2_with fail
          go_roundw
          case rel =>
            obtain ⟨hp', hb'⟩ := planted_step HPL.out hlt H5.out.1 hs5 H6.out.1 (below_undrew H6.out.2.1) H7.out.1 H7.out.2.1 H7.out.2.2
            exact ⟨j + 1, _, _, _, _, by omega, by go_num, hp', HBEL.out.trans (hb'.mono (by omega))⟩
          case measure => simp [intOf]; omega)
      · obtain rfl : j = cs.length := by omega
        obtain ⟨ra, rc, rfl⟩ := ownsRow_shown1 hpl.row
        have hnd := planted_done hpl (by omega)
        have HND := Lib.hid hnd
        have HBEL := Lib.hid hbel
        clear hnd hpl hbel
        go_wp2_with fail
        go_ret
        exact ⟨_, rfl, HND.out, HBEL.out⟩
end Go.Proofs.YticfkfjijnfcbaaDoor
