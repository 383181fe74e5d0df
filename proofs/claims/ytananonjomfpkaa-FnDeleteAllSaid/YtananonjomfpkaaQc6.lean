/- The contract of the model's l1Leaf. -/
import Derived.Test.YtananonjomfpkaaQc5
import Derived.Deep.RegionLaw
/- The keys that one comes by are the keys in order. -/
namespace Go.Proofs.Ytananonjomfpkaa
open Go.RowKit
theorem keysOf_evs : ∀ n (a : ATr), a.weight ≤ n → keysOf a.evs = a.tr.keys := by
 intro n
 induction n with
 | zero =>
   intro a ha
   have hc : a.cs.length = 0 := by have := ATr.ks_le a; omega
   have hk0 : a.ks.length = 0 := by have := ATr.ks_le a; omega
   rw [evs_eq, remS_end (by omega)]
   cases a with
   | mk nb no k cs =>
     have e1 : cs = [] := List.length_eq_zero_iff.1 hc
     have e2 : k = [] := List.length_eq_zero_iff.1 hk0
     subst e1 e2; rfl
 | succ n ih =>
   intro a ha
   have hlen : (Tr.keyss (ATr.trs a.cs)).length = a.cs.length := by rw [Tr.length_keyss, ATr.trs_length]
   have hkid : ∀ i, keysOf (hev a (ATr.evss a.cs) (2 * i)) = ((Tr.keyss (ATr.trs a.cs))[i]?).getD [] := fun i => by
     by_cases hk : i < a.cs.length
     · rw [hev_kid hk, ih a.cs[i] (by have := ATr.weight_kid hk; omega), Tr.keyss_get _ i (by rw [ATr.trs_length]; exact hk), ATr.trs_get a.cs i hk]; rfl
     · rw [hev_nokid hk, List.getElem?_eq_none (by omega)]; rfl
   have hkey : ∀ i, keysOf (hev a (ATr.evss a.cs) (2 * i + 1)) = (a.ks[i]?).toList := fun i => by
     by_cases hk : i < a.ks.length
     · rw [hev_key hk]; simp [keysOf, hk, List.getD_eq_getElem?_getD]
     · rw [hev_nokey hk, List.getElem?_eq_none (by omega)]; rfl
   have hrem : ∀ m i, max a.cs.length a.ks.length - i = m → keysOf (remS (a, 2 * i)) = (List.range' i m).flatMap (Tr.part (Tr.keyss (ATr.trs a.cs)) a.ks) := by
     intro m
     induction m with
     | zero => intro i hi; rw [remS_end (by omega)]; rfl
     | succ m ihm =>
       intro i hi
       rw [remS_step (by omega), remS_step (p := 2 * i + 1) (by omega), show 2 * i + 1 + 1 = 2 * (i + 1) by omega, keysOf_append, keysOf_append, hkid, hkey, ihm (i + 1) (by omega), List.range'_succ, List.flatMap_cons, Tr.part, List.append_assoc]
   rw [evs_eq]
   show keysOf (remS (a, 2 * 0)) = _
   rw [hrem _ 0 rfl]
   cases a with
   | mk nb no k cs =>
     simp only [ATr.tr, Tr.keys, Tr.upto, ATr.cs, ATr.ks, Nat.sub_zero]
     rw [List.range_eq_range', ATr.trs_length, Nat.max_comm]
end Go.Proofs.Ytananonjomfpkaa
/- The contract of plant: a copy of a tree as nodes. -/
namespace Go.Proofs.Ytananonjomfpkaa
open Go.RowKit
structure Planted (w : World) (lo bn : Nat) (kv vk : Value) (ks : List Int) (cs : List Tr) (ps s e : Nat → Nat) (j : Nat) : Prop where
 box : w.heap[bn]? = some (.cells #[kv, vk] 99 (0, 0))
 keys : IntsR w lo bn kv ks
 row : w.ownsRow (bn + 1) 70 1 vk j ((List.range j).map (fun i => .pointer (some ⟨ps i, 0, none⟩)))
 kids : ∀ i (h : i < cs.length), i < j → NodeIn w (s i) (e i) (ps i) cs[i]
 at' : ∀ i, i < j → bn < s i ∧ e i ≤ w.heap.size
 apart : ∀ i, i + 1 < j → e i ≤ s (i + 1)
 far : ∀ k, vk.ownBlock = some k → ∀ i, i < j → k < s i ∨ e i ≤ k
theorem ownsRow_shown1 {w : World} {base : Nat} {e : TypeId} {n : Nat} {v : Value} {xs : List Value} (h : w.ownsRow base e 1 v n xs) : ∃ a c, v = .slice a n c := by
 obtain ⟨h1, ⟨h2, h3⟩ | ⟨g, cap, cur, hv, hr⟩⟩ := h
 · exact ⟨_, _, by rw [h2, h3]⟩
 · exact ⟨_, _, hv⟩
theorem ownsRow_same {w w' : World} {base : Nat} {e : TypeId} {size n : Nat} {v : Value} {xs : List Value} (h : w.ownsRow base e size v n xs) (hb : ∀ k, k < w.heap.size → base ≤ k → w'.heap[k]? = w.heap[k]?) : w'.ownsRow base e size v n xs := by
 obtain ⟨h1, h2 | ⟨g, cap, cur, hv, hbb, hg, hr⟩⟩ := h
 · exact ⟨h1, .inl h2⟩
 · exact ⟨h1, .inr ⟨g, cap, cur, hv, hbb, (hb g (Array.getElem?_eq_some_iff.1 hg).1 hbb).trans hg, hr⟩⟩
theorem below_undrew {B : Nat} {w w' : World} (h : Below B w.drew w') : Below B w w' := ⟨h.os, h.tape, h.output, h.size, h.block⟩
theorem planted_step {wr W5 w6 w7 : World} {lo bn j rc gg cap7 pb : Nat} {kv : Value} {ra : Option Addr} {ks : List Int} {cs : List Tr} {ps s e : Nat → Nat}
   (hp : Planted wr lo bn kv (.slice ra j rc) ks cs ps s e j) (hj : j < cs.length) (h5 : Below wr.heap.size wr W5) (hs5 : W5.heap.size = wr.heap.size + 1)
   (hn : NodeIn w6 W5.heap.size w6.heap.size pb cs[j]) (h6 : Below W5.heap.size W5 w6)
   (hown : w7.ownsRow (bn + 1) 70 1 (.slice (some ⟨gg, 0, none⟩) (j + 1) cap7) (j + 1) ((List.range j).map (fun i => Value.pointer (some ⟨ps i, 0, none⟩)) ++ [.pointer (some ⟨pb, 0, none⟩)]))
   (hg : (w6.alloc (.cells #[.pointer (some ⟨pb, 0, none⟩)] 70)).grownBy w7 (Value.slice ra j rc).ownBlock)
   (hat : (Value.slice ra j rc).ownBlock = some gg ∨ gg = w6.heap.size + 1) :
   Planted (w7.setCell ⟨bn, 1, none⟩ (.slice (some ⟨gg, 0, none⟩) (j + 1) cap7)) lo bn kv (.slice (some ⟨gg, 0, none⟩) (j + 1) cap7) ks cs
     (fun i => if i = j then pb else ps i) (fun i => if i = j then W5.heap.size else s i) (fun i => if i = j then w6.heap.size else e i) (j + 1) ∧
   Below bn wr (w7.setCell ⟨bn, 1, none⟩ (.slice (some ⟨gg, 0, none⟩) (j + 1) cap7)) := by
 have hbn : bn < wr.heap.size := (Array.getElem?_eq_some_iff.1 hp.box).1
 have hsz6 : W5.heap.size ≤ w6.heap.size := h6.size
 have hsz7 : w6.heap.size + 1 ≤ w7.heap.size := by have := hg.size; simpa using this
 obtain ⟨wf, hwf⟩ : ∃ wf, wf = w7.setCell ⟨bn, 1, none⟩ (.slice (some ⟨gg, 0, none⟩) (j + 1) cap7) := ⟨_, rfl⟩
 have hsf : wf.heap.size = w7.heap.size := by rw [hwf]; simp
 -- what lay in w6 lies in wf, but for the node and the old row
 have old6 : ∀ k, k < w6.heap.size → (Value.slice ra j rc).ownBlock ≠ some k → w7.heap[k]? = w6.heap[k]? := fun k h1 h3 => by
   rw [hg.block k (by simp; omega) (fun e => h3 e.symm), old_blk _ _ _ h1]
 have old6f : ∀ k, k < w6.heap.size → k ≠ bn → (Value.slice ra j rc).ownBlock ≠ some k → wf.heap[k]? = w6.heap[k]? := fun k h1 h2 h3 => by
   rw [hwf, set_other _ _ _ _ _ h2, old6 k h1 h3]
 have oldr : ∀ k, k < wr.heap.size → w6.heap[k]? = wr.heap[k]? := fun k h1 => (h6.block k (by omega)).trans (h5.block k h1)
 have own : ∀ k, (Value.slice ra j rc).ownBlock = some k → bn + 1 ≤ k ∧ k < wr.heap.size := fun k h => hp.row.lt k h
 have hbox : wf.heap[bn]? = some (.cells #[kv, .slice (some ⟨gg, 0, none⟩) (j + 1) cap7] 99 (0, 0)) := by
   have h1 : w7.heap[bn]? = some (.cells #[kv, .slice ra j rc] 99 (0, 0)) := ((old6 bn (by omega) (fun e => by have := (own _ e).1; omega)).trans (oldr bn hbn)).trans hp.box
   rw [hwf]; exact set_blk _ h1
 have hbelow : Below bn wr wf := by
   refine ⟨?_, ?_, ?_, by omega, fun k hk => (old6f k (by omega) (by omega) (fun e => by have := (own _ e).1; omega)).trans (oldr k (by omega))⟩
   · rw [hwf]; exact (hg.os.trans h6.os).trans h5.os
   · rw [hwf]; exact (hg.tape.trans h6.tape).trans h5.tape
   · rw [hwf]; exact (hg.output.trans h6.output).trans h5.output
 rw [← hwf]
 refine ⟨⟨hbox, hp.keys.same (fun k _ h => hbelow.block k h), ?_, fun i hi hij => ?_, fun i hi => ?_, fun i hi => ?_, fun k hk i hi => ?_⟩, hbelow⟩
 · have h1 : (List.range (j + 1)).map (fun i => Value.pointer (some ⟨if i = j then pb else ps i, 0, none⟩)) = (List.range j).map (fun i => Value.pointer (some ⟨ps i, 0, none⟩)) ++ [.pointer (some ⟨pb, 0, none⟩)] := by
     rw [List.range_succ, List.map_append]
     simp only [List.map_cons, List.map_nil, if_true]
     congr 1
     refine List.map_congr_left (fun i hi => ?_)
     have := List.mem_range.1 hi
     rw [if_neg (by omega)]
   rw [h1, hwf]
   exact ownsRow_same hown (fun k _ h => set_other _ _ _ _ _ (by omega))
 · by_cases hij' : i = j
   · subst hij'
     simp only [if_true]
     exact hn.same (fun k h1 h2 => old6f k h2 (by omega) (fun e => by have := (own _ e).2; omega))
   · simp only [if_neg hij']
     obtain ⟨g1, g2⟩ := hp.at' i (by omega)
     refine (hp.kids i hi (by omega)).same (fun k h1 h2 => (old6f k (by omega) (by omega) (fun e => ?_)).trans (oldr k (by omega)))
     have := hp.far _ e i (by omega)
     omega
 · by_cases hij' : i = j
   · simp only [if_pos hij']; omega
   · simp only [if_neg hij']
     obtain ⟨g1, g2⟩ := hp.at' i (by omega)
     omega
 · have hij' : ¬ i = j := by omega
   simp only [if_neg hij']
   by_cases h : i + 1 = j
   · simp only [if_pos h]
     obtain ⟨g1, g2⟩ := hp.at' i (by omega)
     omega
   · simp only [if_neg h]
     exact hp.apart i (by omega)
 · simp only [Value.ownBlock, Option.some.injEq] at hk
   subst hk
   by_cases hij' : i = j
   · simp only [if_pos hij']
     rcases hat with h | h
     · have := (own _ h).2; left; omega
     · right; omega
   · simp only [if_neg hij']
     obtain ⟨g1, g2⟩ := hp.at' i (by omega)
     rcases hat with h | h
     · exact hp.far _ h i (by omega)
     · right; omega
theorem planted_done {w : World} {lo bn cap : Nat} {kv : Value} {ra : Option Addr} {ks : List Int} {cs : List Tr} {ps s e : Nat → Nat}
   (hp : Planted w lo bn kv (.slice ra cs.length cap) ks cs ps s e cs.length) (hlo : lo ≤ bn) : NodeIn w lo w.heap.size bn (.mk ks cs) := by
 have hbn : bn < w.heap.size := (Array.getElem?_eq_some_iff.1 hp.box).1
 have hrow := hp.row
 have hcap : cs.length ≤ cap ∧ cap ≤ maxLen := by
   obtain ⟨h1, ⟨h2, h3⟩ | ⟨g, cap', cur, hv, hb, hg, hn, hm, _⟩⟩ := hrow
   · simp only [Value.slice.injEq] at h2
     exact ⟨by omega, by unfold maxLen; omega⟩
   · cases hv; exact ⟨hn, hm⟩
 refine .mk ks cs lo w.heap.size bn kv ra cap ps (fun i => if i < cs.length then s i else w.heap.size) hlo hbn ?_ ?_ (fun i hi => ?_) hp.box (hp.keys.widen (Nat.le_refl _) (by omega)) hcap.1 hcap.2 ?_ (fun i hi => ?_)
 · by_cases h : 0 < cs.length
   · simp only [if_pos h]; exact (hp.at' 0 h).1
   · simp only [if_neg h]; exact hbn
 · simp
 · have h1 := (hp.kids i hi hi).range
   simp only [if_pos hi]
   by_cases h : i + 1 < cs.length
   · simp only [if_pos h]
     have := hp.apart i h
     omega
   · simp only [if_neg h]
     have := (hp.at' i hi).2
     omega
 · obtain ⟨h1, ⟨h2, h3⟩ | ⟨g, cap', cur, hv, hb, hg, hn, hm, hr⟩⟩ := hrow
   · exact .inl h3
   · cases hv
     refine .inr ⟨g, 0, rfl, by omega, (Array.getElem?_eq_some_iff.1 hg).1, fun i hi => ?_⟩
     rw [Nat.zero_add, World.ownsRow.cellAt hp.row i (by simpa using hi)]
     simp [hi]
 · have h1 := hp.kids i hi hi
   simp only [if_pos hi]
   by_cases h : i + 1 < cs.length
   · simp only [if_pos h]
     exact h1.widen (Nat.le_refl _) (hp.apart i h)
   · simp only [if_neg h]
     exact h1.widen (Nat.le_refl _) (hp.at' i hi).2
theorem Try.infoPtr : (Try.prog.info? 70).map (fun i => (i.zero, i.size, i.bytes)) = some (some (.pointer none), 1, 8) := by kernel_rfl
set_option maxRecDepth 100000 in
set_option maxHeartbeats 2000000 in
theorem plant_c {w : World} {B : Nat} {kv cv : Value} {t : Tr} (ht : TreeIn w B kv cv t) (hw : t.weight ≤ 1048576) :
   ∀ w', Below B w w' → B ≤ w'.heap.size →
   Calls Try.prog 63 #[.agg #[kv, cv]] w' fun e w'' => ∃ b, e = .returned (.pointer (some ⟨b, 0, none⟩)) ∧ NodeIn w'' w'.heap.size w''.heap.size b t ∧ Below w'.heap.size w' w'' := by
 induction ht with
 | mk ks cs kv a cap kvs cvs hk hlen hcap hat hkids ih =>
   intro w' hbw hB
   obtain ⟨i0, hi0, hz0, hz1, hz2⟩ := info_parts Try.infoPtr
   simp only [Tr.weight] at hw
   unfold maxLen at hcap
   have hl0 := Tr.length_le_weights cs
   have HK := Lib.hid (hk.later hbw (Nat.le_refl _))
   have HAT := Lib.hid (hat.later hbw (Nat.le_refl _))
   have IH := Lib.hid ih
   have HKI := Lib.hid hkids
   have HBW := Lib.hid hbw
   obtain ⟨W1, hW1⟩ : ∃ W1, W1 = w'.alloc (.cells #[kv, .slice a cs.length cap] 26) := ⟨_, rfl⟩
   have hs1 : W1.heap.size = w'.heap.size + 1 := by rw [hW1]; simp
   have hb1 : Below w'.heap.size w' W1 := by rw [hW1]; exact (Below.refl _ _).alloc (Nat.le_refl _) _
   have kb : W1.heap[w'.heap.size]? = some (.cells #[kv, .slice a cs.length cap] 26 (0, 0)) := by rw [hW1, new_blk]
   have HW1 := Lib.hid hW1
   obtain ⟨x1, x2, x3, x4⟩ := box2 kb
   have HB1 := Lib.hid (And.intro hb1 kb)
   clear hk hat ih hkids hbw hW1 hb1 kb
   go_enter Try.func63, Try.ntmps63
   go_wp2_with fail
   rw [← HW1.out]
   refine (clone_c W1 ((HK.out.later HB1.out.1 hB).at) (by omega)).mono ?_
   rintro e w2 ⟨v2, rfl, hown2, hb2⟩
   obtain ⟨a2, c2, rfl⟩ := hown2.shown
   have kb2 := (hb2.block w'.heap.size (by omega)).trans HB1.out.2
   clear x1 x2 x3 x4
   obtain ⟨x1, x2, x3, x4⟩ := box2 kb2
   have hs2 := hb2.size
   have hb2' := HB1.out.1.trans (hb2.mono (by omega))
   have y2 : (w2.alloc (.cells #[.slice a2 ks.length c2, .slice none 0 0] 99)).cell? ⟨w'.heap.size, 1, none⟩ = some (.slice a cs.length cap) := (box2 ((old_blk _ _ _ (by omega)).trans kb2)).2.1
   obtain ⟨W3, hW3⟩ : ∃ W3, W3 = w2.alloc (.cells #[.slice a2 ks.length c2, .slice none 0 0] 99) := ⟨_, rfl⟩
   have hs3 : W3.heap.size = w2.heap.size + 1 := by rw [hW3]; simp
   have hb3 : Below w2.heap.size w2 W3 := by rw [hW3]; exact (Below.refl _ _).alloc (Nat.le_refl _) _
   have hnode : W3.heap[w2.heap.size]? = some (.cells #[.slice a2 ks.length c2, .slice none 0 0] 99 (0, 0)) := by rw [hW3, new_blk]
   have hkeys : IntsR W3 w'.heap.size w2.heap.size (.slice a2 ks.length c2) ks := (hown2.inR.widen (by omega) (Nat.le_refl _)).same (fun k _ h => hb3.block k h)
   have H0 := Lib.hid (show Planted W3 w'.heap.size w2.heap.size (.slice a2 ks.length c2) (.slice none 0 0) ks cs (fun _ => 0) (fun _ => 0) (fun _ => 0) 0 from
     ⟨hnode, hkeys, ⟨rfl, .inl ⟨rfl, rfl⟩⟩, fun i _ h => by omega, fun i h => by omega, fun i h => by omega, fun k _ i h => by omega⟩)
   have HB3 := Lib.hid (hb2'.trans (hb3.mono (by omega)))
   have HW3 := Lib.hid hW3
   clear hb2 hb2' hown2 kb2 hb3 hnode hkeys hW3
   go_wp2_with fail
   rw [← HW3.out]
   clear x1 x2 x3 x4 y2
   go_loopw [15] (fun i wr => ∃ (j : Nat) (vk : Value) (ps s e : Nat → Nat), j ≤ cs.length ∧ i = .int .i64 j ∧ Planted wr w'.heap.size w2.heap.size (.slice a2 ks.length c2) vk ks cs ps s e j ∧ Below w'.heap.size w' wr) (fun i _ => cs.length - (intOf i).toNat)
   case atStart => exact ⟨0, _, _, _, _, Nat.zero_le _, rfl, H0.out, HB3.out⟩
   case round =>
     obtain ⟨j, vk, ps, s, e, hj, rfl, hpl, hbel⟩ := hrel
     by_cases hlt : j < cs.length
     · rcases HAT.out with h | ⟨b, off, rfl, hb, hat⟩
       · omega
       obtain ⟨ha, hc⟩ := hat j hlt
       have ha' : wr.cell? ⟨b, off + j * 2, none⟩ = some (kvs j) := by rw [below_cell hbel (by omega)]; exact ha
       have hc' : wr.cell? ⟨b, off + j * 2 + 1, none⟩ = some (cvs j) := by rw [below_cell hbel (by omega)]; exact hc
       have hcj := IH.out j hlt (by have := Tr.weight_get_le cs j hlt; omega)
       obtain ⟨a5, n5, c5, a6, n6, c6, e5, e6⟩ := (HKI.out j hlt).slices
       rw [e5] at ha'
       rw [e6] at hc'
       rw [e5, e6] at hcj
       have HCJ := Lib.hid hcj
       have HPL := Lib.hid hpl
       have HBEL := Lib.hid hbel
       obtain ⟨ra, rc, rfl⟩ := ownsRow_shown1 hpl.row
       obtain ⟨W5, hW5⟩ : ∃ W5, W5 = wr.alloc (.cells #[.slice a5 n5 c5, .slice a6 n6 c6] 26) := ⟨_, rfl⟩
       have hs5 : W5.heap.size = wr.heap.size + 1 := by rw [hW5]; simp
       have hlt2 : w2.heap.size < wr.heap.size := (Array.getElem?_eq_some_iff.1 hpl.box).1
       have hb5 : Below wr.heap.size wr W5 := by rw [hW5]; exact (Below.refl _ _).alloc (Nat.le_refl _) _
       have k5 : W5.heap[wr.heap.size]? = some (.cells #[.slice a5 n5 c5, .slice a6 n6 c6] 26 (0, 0)) := by rw [hW5, new_blk]
       have n5' : W5.heap[w2.heap.size]? = some (.cells #[.slice a2 ks.length c2, .slice ra j rc] 99 (0, 0)) := (hb5.block _ hlt2).trans hpl.box
       obtain ⟨y1, y2, y3, y4⟩ := box2 k5
       obtain ⟨u1, u2, u3, u4⟩ := box2 n5'
       have hbel5 : Below w'.heap.size w' W5 := hbel.trans (hb5.mono hbel.size)
       have HW5 := Lib.hid hW5
       have H5 := Lib.hid (And.intro hb5 (And.intro k5 (And.intro n5' hbel5)))
       have hszr := hbel.size
       have ne1 : some w2.heap.size ≠ (Value.slice ra j rc).ownBlock := fun e => by have := (hpl.row.lt _ e.symm).1; omega
       have ne2 : some wr.heap.size ≠ (Value.slice ra j rc).ownBlock := fun e => by have := (hpl.row.lt _ e.symm).2; omega
       have NE1 := Lib.hid ne1
       have NE2 := Lib.hid ne2
       clear ne1 ne2
       clear ha hc hat hpl hbel hcj e5 e6 hW5 hb5 k5 n5' hbel5
       go_wp2_with fail
       rw [← HW5.out]
       go_region_law
         (first
           | ((refine step_append_lies _ (by rfl) _ _ _ (by rfl) (w2.heap.size + 1) 70 i0 _ 1 8 Try.underlying95 hi0 hz0 hz1 hz2 rfl (by omega) _ j _ (by rfl) (H6.out.2.2.2.alloc _) ⟨w6.heap.size, 0, none⟩ 1 1 [.pointer (some ⟨pb, 0, none⟩)] (by rfl) (by rfl) (World.news_of_block (cs := #[.pointer (some ⟨pb, 0, none⟩)]) (t := 70) (fr := (0, 0)) (heap_alloc_new w6 _)) (by simp [Value.oneCell']) (by omega) (by unfold maxLen; omega) (by omega) (by simp; omega) (w6.heap.size + 1) (by simp) ?_; intro gg cap7 w7 hown7 hgrow7 hat7 hlt7; have v7c := (hgrow7.cell_far ⟨w2.heap.size, 1, none⟩ (by simp; omega) NE1.out).trans t2; have v7f := (hgrow7.frozen_far ⟨w2.heap.size, 1, none⟩ (by simp; omega) NE1.out).trans t4; have H7 := Lib.hid (And.intro hown7 (And.intro hgrow7 hat7)); clear hown7 hgrow7 hat7))
           | (go_simp; go_at_call 63; refine (HCJ.out _ (HBW.out.trans (H5.out.2.2.2.drew.mono hB)) (by simp; omega)).mono ?_; rintro e w6 ⟨pb, rfl, hnd6, hb6⟩; have hs6 : W5.heap.size ≤ w6.heap.size := hb6.size; have j6 := (hb6.block w2.heap.size (by simp; omega)).trans H5.out.2.2.1; have i6 := (hb6.block wr.heap.size (by simp; omega)).trans H5.out.2.1; obtain ⟨z1, z2, z3, z4⟩ := box2 j6; obtain ⟨q1, q2, q3, q4⟩ := box2 i6; obtain ⟨t1, t2, t3, t4⟩ := box2 ((old_blk w6 (.cells #[.pointer (some ⟨pb, 0, none⟩)] 70) _ (by omega)).trans j6); obtain ⟨p1, p2, p3, p4⟩ := box2 ((old_blk w6 (.cells #[.pointer (some ⟨pb, 0, none⟩)] 70) _ (by omega)).trans i6); have hr6 := ownsRow_same HPL.out.row (fun k h1 h2 => (hb6.block k (by simp; omega)).trans (H5.out.1.block k h1)); have H6 := Lib.hid (And.intro hnd6 (And.intro hb6 (And.intro j6 hr6))); clear hnd6 hb6 j6 i6 hr6))
       all_goals (
         go_wp2_with fail
         go_roundw
         case rel =>
           obtain ⟨hp', hb'⟩ := planted_step HPL.out hlt H5.out.1 hs5 H6.out.1 (below_undrew H6.out.2.1) H7.out.1 H7.out.2.1 H7.out.2.2
           exact ⟨j + 1, _, _, _, _, by omega, by go_num, hp', HBEL.out.trans (hb'.mono (by omega))⟩
         case measure => simp [intOf]; omega)
     · obtain rfl : j = cs.length := by omega
       obtain ⟨ra, rc, rfl⟩ := ownsRow_shown1 hpl.row
       have hnd := planted_done hpl (by omega)
       have HND := Lib.hid hnd
       have HBEL := Lib.hid hbel
       clear hnd hpl hbel
       go_wp2_with fail
       go_ret
       exact ⟨_, rfl, HND.out, HBEL.out⟩
end Go.Proofs.Ytananonjomfpkaa
/- The contract, over plain blocks, of the program's KeysOf. -/
namespace Go.Proofs.Ytananonjomfpkaa
open Go.RowKit
attribute [local go_sem] Oper.semAt_some
theorem ownsRow_keepA {w w' : World} {base : Nat} {e : TypeId} {size n : Nat} {v : Value} {xs : List Value} (h : w.ownsRow base e size v n xs) (hb : ∀ k, v.ownBlock = some k → w'.heap[k]? = w.heap[k]?) : w'.ownsRow base e size v n xs := by
 obtain ⟨h1, h2 | ⟨g, cap, cur, hv, hbb, hg, hr⟩⟩ := h
 · exact ⟨h1, .inl h2⟩
 · exact ⟨h1, .inr ⟨g, cap, cur, hv, hbb, (hb g (by rw [hv]; rfl)).trans hg, hr⟩⟩
set_option maxRecDepth 100000 in
set_option maxHeartbeats 4000000 in
theorem impl_keys_a {w' : World} {kv cv : Value} {t : Tr} (ht' : TreeA w' kv cv t) (hwt : t.weight ≤ 1048576) :
   Calls Try.prog 21 #[.agg #[kv, cv]] w' fun e w'' => ∃ v, e = .returned v ∧ IntsOwn w'' w'.heap.size v (t.keys) ∧ Below w'.heap.size w' w'' := by
 obtain ⟨sA1, sA2, sA3, sA4, sA5, sA6, rfl, rfl⟩ := ht'.slices
 obtain ⟨W1, hW1⟩ : ∃ W1, W1 = w'.alloc (.cells #[.slice sA1 sA2 sA3, .slice sA4 sA5 sA6] 26) := ⟨_, rfl⟩
 have hs1 : W1.heap.size = w'.heap.size + 1 := by rw [hW1]; simp
 have hb1 : Below w'.heap.size w' W1 := by rw [hW1]; exact (Below.refl _ _).alloc (Nat.le_refl _) _
 have kb : W1.heap[w'.heap.size]? = some (.cells #[.slice sA1 sA2 sA3, .slice sA4 sA5 sA6] 26 (0, 0)) := by rw [hW1, new_blk]
 obtain ⟨a, ha1, ha2, ha3, ha4⟩ := (ht'.later hb1 (Nat.le_refl _)).at w'.heap.size 0 ⟨_, _, kb⟩ (box2 kb).1 (box2 kb).2.1
 have haw : a.weight ≤ 1048576 := by unfold ATr.weight; rw [ha3]; exact hwt
 have hit := steps_iter ha4 haw
 have had : a.addr = ⟨w'.heap.size, 0, none⟩ := by unfold ATr.addr; rw [ha1, ha2]
 rw [had] at hit
 have hcnt := keysOf_evs a.weight a (Nat.le_refl _)
 rw [ha3] at hcnt
 have hcl : t.keys.length ≤ 1048576 := by have := Tr.keys_length_le t; omega
 obtain ⟨i0, hi0, hz0, hz1, hz2⟩ := info_parts Try.appInfo
 have HIT := Lib.hid hit
 have HCNT := Lib.hid hcnt
 have HW1 := Lib.hid hW1
 have HB1 := Lib.hid hb1
 clear hit hcnt hW1 hb1 kb ht' ha1 ha2 ha3 ha4 haw had
 refine (callsIn_wide (n := 9)).1 (callsIn_of_wp_marks Try.func21 rfl trivial ?_ rfl)
 simp only [Try.ntmps21, List.size_toArray, List.length_cons, List.length_nil, Nat.reduceAdd, Nat.reduceSub, Array.replicate_succ, Array.replicate_zero, List.push_toArray, List.append_toArray, List.nil_append, List.cons_append]
 gi_wp2
 rw [← HW1.out]
 obtain ⟨W2, hW2⟩ : ∃ W2, W2 = W1.alloc (.cells #[.slice none 0 0] 23) := ⟨_, rfl⟩
 rw [← hW2]
 have hs2 : W2.heap.size = w'.heap.size + 2 := by rw [hW2]; simp; omega
 have hk2 : ∀ K, Keep K W1 W2 := fun K => by rw [hW2]; exact Keep.alloc K _ _
 have b3 : W2.heap[w'.heap.size + 1]? = some (.cells #[.slice none 0 0] 23 (0, 0)) := by rw [hW2, ← hs1]; exact new_blk _ _
 have B3 := Lib.hid b3
 clear hW2 b3
 refine wp_loopA (fb := #[.pointer (some ⟨w'.heap.size, 0, none⟩)]) (lb := #[]) rfl (enters_of Try.func66 (by kernel_rfl) rfl) HIT.out (hk2 _) (fun x => by cases x <;> rfl)
   (fun k => k < W1.heap.size) (fun k h => h) (fun k h => by omega)
   (fun pre Pv W => ¬ Pv (w'.heap.size + 1) ∧ ∃ v, W.heap[w'.heap.size + 1]? = some (.cells #[v] 23 (0, 0)) ∧ IntsOwn W (w'.heap.size + 2) v (keysOf pre) ∧ ∀ k, v.ownBlock = some k → ¬ Pv k)
   (fun c pre Pv W => False)
   (fun pre Pv A Pv' B h hk hp => by
     obtain ⟨h1, v, h2, h3, h4⟩ := h
     have l2 := (Array.getElem?_eq_some_iff.1 h2).1
     refine ⟨fun h => ?_, v, (hk.block _ l2 h1).trans h2, ownsRow_keepA h3 (fun k e => hk.block _ (h3.lt k e).2 (h4 k e)), fun k e h => ?_⟩
     · rcases hp _ h with h | h
       · exact h1 h
       · omega
     · rcases hp _ h with h | h
       · exact h4 k e h
       · have := (h3.lt k e).2; omega)
   (fun c pre Pv A Pv' B h hk hp => h)
   ⟨by omega, _, B3.out, ⟨rfl, .inl ⟨rfl, rfl⟩⟩, fun k e => by cases e⟩
   (fun x a' Pv W => ∃ bx, ¬ Pv bx ∧ bx ≠ w'.heap.size + 1 ∧ W.heap[bx]? = some (.cells #[.pointer (some x.node.addr), .int .i64 x.what, .int .i64 x.kk] 87 (0, 0)) ∧
     a' = { tmps := #[.agg #[.slice sA1 sA2 sA3, .slice sA4 sA5 sA6], .pointer (some ⟨w'.heap.size, 0, none⟩), .slice none 0 0, .pointer (some ⟨w'.heap.size + 1, 0, none⟩), .pointer (some ⟨bx, 0, none⟩), .func (.func 66) #[.pointer (some ⟨w'.heap.size, 0, none⟩)] #[], .agg #[.pointer (some x.node.addr), .int .i64 x.what, .int .i64 x.kk], undef, undef, undef, undef, undef, undef, undef, undef, undef], defers := [] })
   (fun x a' Pv A B h hk => by
     obtain ⟨bx, h1, h2, h3, h4⟩ := h
     exact ⟨bx, h1, h2, (hk.block _ (Array.getElem?_eq_some_iff.1 h3).1 h1).trans h3, h4⟩)
   ?assign ?body ?done ?stop
 case assign =>
   intro l m pre x Pv W hI hbnd
   rw [Step.enc_eq]
   obtain ⟨h1, v, h2, h3, h4⟩ := hI
   have HI' := Lib.hid (And.intro h2 (And.intro h3 h4))
   have HB := Lib.hid hbnd
   clear h2 h3 h4 hbnd
   gi_wp2
   have hlt := (Array.getElem?_eq_some_iff.1 HI'.out.1).1
   refine ⟨Keep.alloc _ _ _, ⟨h1, v, (old_blk _ _ _ hlt).trans HI'.out.1, IntsOwn.alloc' HI'.out.2.1 _, HI'.out.2.2⟩, W.heap.size, fun h => ?_, by omega, new_blk _ _, rfl⟩
   have := HB.out _ h
   omega
 case body =>
   rintro l m pre x a' Pv W ⟨h1, v, h2, h3, h4⟩ ⟨bx, h5', h6, h7, rfl⟩ hkW hsub hbnd hp
   obtain ⟨va, vc, rfl⟩ := IntsOwn.shown h3
   obtain ⟨c1, f1⟩ := box1 h2
   have c2 : W.cell? ⟨bx, 1, none⟩ = some (.int .i64 x.what) := by simp [World.cell?, h7]
   have c3 : W.cell? ⟨bx, 2, none⟩ = some (.int .i64 x.kk) := by simp [World.cell?, h7]
   have hle : (keysOf pre).length + (keysOf [x]).length ≤ 1048576 := by
     obtain ⟨r, hr⟩ := hp
     have := HCNT.out
     rw [← hr, keysOf_append, keysOf_append] at this
     have h := congrArg List.length this
     simp only [List.length_append] at h
     omega
   have hnx : keysOf (pre ++ [x]) = keysOf pre ++ keysOf [x] := keysOf_append _ _
   have hszW : w'.heap.size + 2 ≤ W.heap.size := by have := hkW.size; omega
   have HNX := Lib.hid hnx
   have HH := Lib.hid (And.intro h2 (And.intro h3 h4))
   have HBND := Lib.hid hbnd
   clear hnx h2 h3 h4 h7 hp hsub hbnd hkW
   cases x with
   | beg b =>
     have hb : keysOf (pre ++ [Step.beg b]) = keysOf pre := by rw [HNX.out]; simp [keysOf]
     have HBB := Lib.hid hb
     clear hb
     dsimp only [Step.what] at c2
     gi_wp2
     refine ⟨Keep.refl _ _, h1, _, HH.out.1, ?_, HH.out.2.2⟩
     rw [HBB.out]
     exact HH.out.2.1
   | fin b =>
     have hb : keysOf (pre ++ [Step.fin b]) = keysOf pre := by rw [HNX.out]; simp [keysOf]
     have HBB := Lib.hid hb
     clear hb
     dsimp only [Step.what] at c2
     gi_wp2
     refine ⟨Keep.refl _ _, h1, _, HH.out.1, ?_, HH.out.2.2⟩
     rw [HBB.out]
     exact HH.out.2.1
   | key b k =>
     have hb : keysOf (pre ++ [Step.key b k]) = keysOf pre ++ [k] := by rw [HNX.out]; rfl
     have HBB := Lib.hid hb
     have hle' : (keysOf pre).length + 1 ≤ 1048576 := hle
     clear hb hle
     dsimp only [Step.what] at c2
     dsimp only [Step.kk] at c3
     have hown : (W.alloc (.cells #[.int .i64 k] 3)).ownsRow (w'.heap.size + 2) 3 1 (.slice va (keysOf pre).length vc) (keysOf pre).length ((keysOf pre).map (Value.int .i64)) := IntsOwn.alloc' HH.out.2.1 _
     have hbase : w'.heap.size + 2 ≤ (W.alloc (.cells #[.int .i64 k] 3)).heap.size := by simp; omega
     have HOWN := Lib.hid hown
     have HBASE := Lib.hid hbase
     clear hown hbase
     gi_wp2_with (gi_at_builtin; refine wpListIn_append_own_at _ (by rfl) _ _ _ (by rfl) (w'.heap.size + 2) 3 i0 _ 1 8 Try.underlying23 hi0 hz0 hz1 hz2 rfl (by decide) (.slice va (keysOf pre).length vc) (keysOf pre).length ((keysOf pre).map (Value.int .i64)) (by rfl) HOWN.out ⟨W.heap.size, 0, none⟩ 1 1 [.int .i64 k] (by rfl) (by rfl) (World.news_of_block (cs := #[.int .i64 k]) (t := 3) (fr := (0, 0)) (heap_alloc_new W _)) (by simp [Value.oneCell']) (by unfold maxLen; omega) (by omega) HBASE.out ?_; intro v8 w8 hown8 hgrow8 hnil8 hat8; obtain ⟨g8, cap8, rfl, _, _⟩ := hown8.form (by omega); have c1' := (hgrow8.cell_far ⟨w'.heap.size + 1, 0, none⟩ (by simp; omega) (fun e => absurd (show w'.heap.size + 2 ≤ w'.heap.size + 1 from (HOWN.out.lt _ e.symm).1) (by omega))).trans ((cell_of_blk (old_blk _ _ _ (by omega))).trans c1); have f1' := (hgrow8.frozen_far ⟨w'.heap.size + 1, 0, none⟩ (by simp; omega) (fun e => absurd (show w'.heap.size + 2 ≤ w'.heap.size + 1 from (HOWN.out.lt _ e.symm).1) (by omega))).trans ((World.frozen?_of_block (w := W) (old_blk _ _ _ (show w'.heap.size + 1 < W.heap.size by omega))).trans f1); have H8 := Lib.hid (And.intro hown8 (And.intro hgrow8 hat8)); clear hown8 hgrow8 hat8 hnil8)
     have hs8 : W.heap.size + 1 ≤ w8.heap.size := by have := H8.out.2.1.size; simpa using this
     have hold : ∀ q, q < W.heap.size → (Value.slice va (keysOf pre).length vc).ownBlock ≠ some q → w8.heap[q]? = W.heap[q]? := fun q h1 h2 => by
       rw [H8.out.2.1.block q (by simp; omega) (fun e => h2 e.symm), old_blk _ _ _ h1]
     have hob : ∀ q, (Value.slice va (keysOf pre).length vc).ownBlock = some q → w'.heap.size + 2 ≤ q := fun q h => (HOWN.out.lt q h).1
     have hk8 : Keep Pv W w8 := ⟨H8.out.2.1.os, H8.out.2.1.tape, H8.out.2.1.output, by omega, fun q h1 h2 => hold q h1 (fun e => HH.out.2.2 q e h2)⟩
     refine ⟨hk8.trans (Keep.setCell _ _ _ _ h1), h1, _, set_blk (o := 0) _ ((hold _ (by omega) (fun e => by have := hob _ e; omega)).trans HH.out.1), ?_, fun q e h => ?_⟩
     · rw [HBB.out]
       unfold IntsOwn
       rw [List.length_append, List.map_append]
       exact ownsRow_same H8.out.1 (fun q _ hq => set_other _ _ _ _ _ (by omega))
     · simp only [Value.ownBlock, Option.some.injEq] at e
       subst e
       rcases H8.out.2.2 with h' | h'
       · exact HH.out.2.2 _ h'.symm h
       · simp only [Value.ownBlock, Option.some.injEq, World.size_alloc] at h'
         have := HBND.out _ h
         omega
 case done =>
   intro W3 hk3 hI hlt hD
   obtain ⟨h1, v, h2, h3, h4⟩ := hI
   rw [HCNT.out] at h3
   obtain ⟨va, vc, rfl⟩ := IntsOwn.shown h3
   obtain ⟨c1, f1⟩ := box1 h2
   rw [hs2] at hD
   have hD4 : ∀ q, (Value.slice va t.keys.length vc).ownBlock = some q → q ≠ w'.heap.size + 2 := fun q e e2 => h4 q e (.inr (.inl (by omega)))
   have HD := Lib.hid hD
   have HH := Lib.hid (And.intro h3 hD4)
   clear h2 h3 h4 hD hD4
   gi_wp2
   refine ⟨by simp, .inl ⟨_, _, rfl, run_takeDeferred HD.out, ?_⟩⟩
   refine ⟨_, results_tmp rfl _ _ _, _, rfl, ?_, ?_⟩
   · exact IntsOwn.lower (lo := w'.heap.size + 2) (ownsRow_keepA HH.out.1 (fun q e => World.putObj_heap_other (HH.out.2 q e))) (by omega)
   · have hk5 : Keep (fun k => k < W1.heap.size) W3 (W3.putObj (w'.heap.size + 2) (.deferred none)) := Keep.putObj _ _ _ _ (by omega)
     exact HB1.out.trans ((((hk2 _).trans hk3).trans hk5).below (B := w'.heap.size) (by omega) (fun k h => by omega))
 case stop =>
   rintro c pre' W3 hk3 hp h hlt hD
   exact h.elim
end Go.Proofs.Ytananonjomfpkaa
/- append of ints at a step of a region that draws its order. -/
namespace Go.Proofs.Ytananonjomfpkaa
open Go.RowKit
theorem IntsAt.of_block {w : World} {m : Nat} {x : Int} {ty : TypeId} {fr : Nat × Nat} (h : w.heap[m]? = some (.cells #[.int .i64 x] ty fr)) : IntsAt w (.slice (some ⟨m, 0, none⟩) 1 1) [x] :=
 ⟨_, _, rfl, by simp, .inr ⟨_, 0, rfl, fun i hi => by
   obtain rfl : i = 0 := by simpa using hi
   rw [cell_of_row w m 0 _ ty fr h]; rfl⟩⟩
theorem step_append_ints {w : World} {ops : Array Oper} {o : Oper} {a : Act} {K : Act → World → Prop} {Q : Exit → Act → World → Prop} {E : Prop} (hgd : o.guard = none) (s x : Operand)
   (ho : o.op = .call { callee := .builtin .append, args := #[s, x], argTypes := #[23, 23] })
   (lo : Nat) (v y : Value) (xs ms : List Int) (hs : a.eval s = v) (hown : IntsOwn w lo v xs) (hx : a.eval x = y) (hsrc : IntsAt w y ms)
   (hlen : xs.length + ms.length ≤ 17592186044416) (hlo : lo ≤ w.heap.size)
   (h : ∀ v' w', IntsOwn w' lo v' (xs ++ ms) → Below lo w w' → w.grownBy w' v.ownBlock → (∃ a c, v' = .slice a (xs ++ ms).length c) → K (a.put o.dst v') w') :
   if Region.wanted o (yielded ops a.tmps) = true then Oper.wp Try.prog o a w K Q else E := by
 have hw : Region.wanted o (yielded ops a.tmps) = true := by simp [Region.wanted, hgd]
 rw [if_pos hw]
 obtain ⟨i0, hi, hz0, hz1, hz2⟩ := info_parts Try.appInfo
 obtain ⟨pa, cap, rfl, hnl, hat⟩ := hsrc
 rcases pa with _ | p
 · obtain rfl := hnl rfl
   obtain rfl : ms = [] := by
     rcases hat with h | ⟨b, o, h, _⟩
     · exact h
     · cases h
   have hk := h v w (by simpa using hown) (Below.refl _ _) (World.grownBy.refl _ _) (by simpa using IntsOwn.shown hown)
   have hrun := run_append_owned_none (P := Try.prog) (w := w) lo 23 o.type 3 i0 1 Try.underlying23 hi v _ _ hown
   unfold Oper.wp
   simp only [List.length_nil] at hx
   simp [execOp, ho, resolve, invoke, builtin, hs, hx, hrun, Result.andThen]
   exact hk
 · refine wp_append_own w s x 23 ho lo 3 i0 (.int .i64 0) 1 8 Try.underlying23 hi hz0 hz1 hz2 rfl (by decide) v _ _ hs hown p ms.length cap (ms.map (Value.int .i64)) hx (by simp) (fun j u hj => ?_) (ints_oneCell .i64 ms) (by unfold maxLen; omega) (by omega) hlo (fun v' w' hown' hgrow _ => ?_)
   · have hjl : j < ms.length := by
       have := (List.getElem?_eq_some_iff.1 hj).1
       simpa using this
     rcases hat with h | ⟨b, o, h, hc⟩
     · simp [h] at hjl
     · cases h
       have hu : u = .int .i64 (ms.getD j 0) := by
         rw [List.getElem?_map] at hj
         simp [hjl] at hj
         simp [← hj, hjl]
       rw [hu, Addr.add_lit]
       exact hc j hjl
   · have hown2 : IntsOwn w' lo v' (xs ++ ms) := by
       unfold IntsOwn
       rw [List.length_append, List.map_append]
       exact hown'
     exact h v' w' hown2 ((Below.refl lo w).grown hgrow hlo (fun k hk => (hown.lt k hk).1)) hgrow (IntsOwn.shown hown2)
theorem made1 (w : World) : IntsOwn (w.alloc (.cells #[] 3)).drew w.heap.size (.slice (some ⟨w.heap.size, 0, none⟩) 0 0) [] := World.ownsRow_made w #[] 0 (Nat.le_refl _) (by unfold maxLen; omega) rfl
theorem key2 {w w' : World} {o : Obj} {x : Int} {r : Option Nat} (hg : ((w.alloc (.cells #[.int .i64 x] 3)).alloc o).drew.grownBy w' r) (hr : some w.heap.size ≠ r) : IntsAt w' (.slice (some ⟨w.heap.size, 0, none⟩) 1 1) [x] := by
 refine IntsAt.of_block (ty := 3) (fr := (0, 0)) ((hg.block w.heap.size (by simp; omega) hr).trans ?_)
 show ((w.alloc (.cells #[.int .i64 x] 3)).alloc o).heap[w.heap.size]? = _
 rw [old_blk _ _ _ (by simp), new_blk]
end Go.Proofs.Ytananonjomfpkaa
/- Whether a number lies between two others; the model's l1In and l1Wide. -/
namespace Go.Proofs.Ytananonjomfpkaa
open Go.RowKit
def inB (n lo hi : Int) : Bool := decide (lo ≤ n) && decide (n ≤ hi)
theorem inB_true {n lo hi : Int} (h : lo ≤ n) (h' : n ≤ hi) : inB n lo hi = true := by simp [inB, h, h']
theorem inB_false {n lo hi : Int} (h : ¬ (lo ≤ n ∧ n ≤ hi)) : inB n lo hi = false := by
 simp only [inB, Bool.and_eq_false_iff, decide_eq_false_iff_not]; omega
theorem l1In_c (n lo hi : Int) (w : World) : Calls Try.prog 88 #[.int .i64 n, .int .i64 lo, .int .i64 hi] w fun e w' => e = .returned (.bool (inB n lo hi)) ∧ w = w' := by
 by_cases h1 : lo ≤ n
 · by_cases h2 : n ≤ hi
   · go_enter Try.func88, Try.ntmps88
     go_wp2_with fail
     go_ret
     exact ⟨ret_bool (inB_true h1 h2).symm, rfl⟩
   · go_enter Try.func88, Try.ntmps88
     go_wp2_with fail
     go_ret
     exact ⟨ret_bool (inB_false (by omega)).symm, rfl⟩
 · go_enter Try.func88, Try.ntmps88
   go_wp2_with fail
   go_ret
   exact ⟨ret_bool (inB_false (by omega)).symm, rfl⟩
theorem l1Wide_c (n : Int) (w : World) : Calls Try.prog 110 #[.int .i64 n] w fun e w' => e = .returned (.bool (inB n 2 6)) ∧ w = w' := by
 go_enter Try.func110, Try.ntmps110
 go_wp2_with fail
 refine (l1In_c n 2 6 _).mono ?_
 rintro e w1 ⟨rfl, rfl⟩
 go_wp2_with fail
 go_ret
 exact ⟨rfl, rfl⟩
end Go.Proofs.Ytananonjomfpkaa
/- The contract of the model's l1Leaf. -/
namespace Go.Proofs.Ytananonjomfpkaa
open Go.RowKit
def Leafed (w : World) (ks : List Int) (e : Ending) (w' : World) : Prop :=
 ∃ (kv : Value) (g : Nat), e = .returned (.agg #[kv, .slice (some ⟨g, 0, none⟩) 0 0]) ∧ IntsOwn w' (w.heap.size + 1) kv ks ∧ (∀ k, kv.ownBlock = some k → k < g) ∧
   w.heap.size < g ∧ w'.heap[g]? = some (.cells #[] 26 (0, 0)) ∧ Below w.heap.size w w'
set_option maxHeartbeats 1000000 in
theorem leaf_c (w : World) (v : Value) (ks : List Int) (hk : ∀ w', Below w.heap.size w w' → IntsAt w' v ks) (hl : ks.length ≤ 1048576) :
   Calls Try.prog 108 #[v] w (Leafed w ks) := by
 obtain ⟨W1, hW1⟩ : ∃ W1, W1 = w.alloc (.cells #[.slice none 0 0, .slice none 0 0] 26) := ⟨_, rfl⟩
 have hs1 : W1.heap.size = w.heap.size + 1 := by rw [hW1]; simp
 have hb1 : Below w.heap.size w W1 := by rw [hW1]; exact (Below.refl _ _).alloc (Nat.le_refl _) _
 have h00 : IntsOwn (W1.alloc (.cells #[] 3)) (w.heap.size + 1) (.slice (some ⟨w.heap.size + 1, 0, none⟩) 0 0) [] := by
   rw [← hs1]; exact World.ownsRow_made W1 #[] 0 (Nat.le_refl _) (by unfold maxLen; omega) rfl
 have hsrc : IntsAt (W1.alloc (.cells #[] 3)) v ks := hk _ (hb1.alloc (by omega) _)
 have hlo : w.heap.size + 1 ≤ (W1.alloc (.cells #[] 3)).heap.size := by simp; omega
 have hln : ([] : List Int).length + ks.length ≤ 17592186044416 := by simp; omega
 have kb0 : (W1.alloc (.cells #[] 3)).heap[w.heap.size]? = some (.cells #[.slice none 0 0, .slice none 0 0] 26 (0, 0)) := by rw [old_blk _ _ _ (by omega), hW1, new_blk]
 have hb2 : Below w.heap.size w (W1.alloc (.cells #[] 3)) := hb1.alloc (by omega) _
 have hs2 : (W1.alloc (.cells #[] 3)).heap.size = w.heap.size + 2 := by simp; omega
 have H00 := Lib.hid h00
 have HSRC := Lib.hid hsrc
 have HLN := Lib.hid hln
 have HB2 := Lib.hid (And.intro kb0 (And.intro hb2 hs2))
 rw [hW1] at H00 HSRC hlo HB2
 clear h00 hsrc hln hb1 hk hW1 hs1 kb0 hb2 hs2 W1
 go_enter Try.func108, Try.ntmps108
 go_wp2_with (at_builtin; refine wpList_append_ints rfl _ _ rfl (w.heap.size + 1) _ _ [] ks rfl H00.out rfl HSRC.out HLN.out hlo ?_; intro v2 w2 hown2 hbel2 _ hsh2; obtain ⟨a2, c2, rfl⟩ := hsh2; have hsz2 := hbel2.size; have hsz0 := HB2.out.2.2; have hlt2 : w.heap.size < w2.heap.size := (by omega); have kb2 := (hbel2.block w.heap.size (by omega)).trans HB2.out.1; obtain ⟨c1, c2', c3, c4⟩ := box2 kb2; have HOX := Lib.hid (And.intro hown2 (And.intro hbel2 (And.intro kb2 hsz2))); clear hown2 hbel2 kb2 hsz2 hsz0)
 obtain ⟨F, hF⟩ : ∃ F, F = (((w2.setCell ⟨w.heap.size, 0, none⟩ (.slice a2 ks.length c2)).setCell ⟨w.heap.size, 1, none⟩ (.slice (some ⟨w2.heap.size, 0, none⟩) 0 0)).alloc (.cells #[] 26)) := ⟨_, rfl⟩
 have hsF : ((w2.setCell ⟨w.heap.size, 0, none⟩ (.slice a2 ks.length c2)).setCell ⟨w.heap.size, 1, none⟩ (.slice (some ⟨w2.heap.size, 0, none⟩) 0 0)).heap.size = w2.heap.size := by simp
 have kF : F.heap[w.heap.size]? = some (.cells #[.slice a2 ks.length c2, .slice (some ⟨w2.heap.size, 0, none⟩) 0 0] 26 (0, 0)) := by
   rw [hF, old_blk _ _ _ (by rw [hsF]; exact hlt2)]
   exact set_blk (o := 1) _ (set_blk (o := 0) _ HOX.out.2.2.1)
 have kG : F.heap[w2.heap.size]? = some (.cells #[] 26 (0, 0)) := by
   have h := new_blk ((w2.setCell ⟨w.heap.size, 0, none⟩ (.slice a2 ks.length c2)).setCell ⟨w.heap.size, 1, none⟩ (.slice (some ⟨w2.heap.size, 0, none⟩) 0 0)) (.cells #[] 26)
   rw [hsF] at h; rw [hF]; exact h
 have kE : ∀ k, k ≠ w.heap.size → k < w2.heap.size → F.heap[k]? = w2.heap[k]? := fun k h1 h2 => by
   rw [hF, old_blk _ _ _ (by rw [hsF]; exact h2), set_other _ _ _ _ _ h1, set_other _ _ _ _ _ h1]
 have hzF : F.heap.size = w2.heap.size + 1 := by rw [hF]; simp
 rw [← hF]
 have hoF : F.os = w2.os ∧ F.tape = w2.tape ∧ F.output = w2.output := by rw [hF]; exact ⟨rfl, rfl, rfl⟩
 clear hF c1 c2' c3 c4
 obtain ⟨d1, d2, d3, d4⟩ := box2 kF
 have hb2 := HB2.out.2.1
 have hbe := HOX.out.2.1
 refine bodyPost_ret (v := .agg #[.slice a2 ks.length c2, .slice (some ⟨w2.heap.size, 0, none⟩) 0 0]) (by simp [results, Try.results108, go_sem, d1, d2]) rfl ⟨_, w2.heap.size, rfl, ?_, ?_, hlt2, kG, ?_⟩
 · have h := HOX.out.1
   rw [List.nil_append] at h
   exact h.keep (fun k h1 h2 => kE k (by omega) h2)
 · intro k hk
   have h := HOX.out.1
   rw [List.nil_append] at h
   exact (h.lt k hk).2
 · refine ⟨hoF.1.trans (hbe.os.trans hb2.os), hoF.2.1.trans (hbe.tape.trans hb2.tape), hoF.2.2.trans (hbe.output.trans hb2.output), by omega, fun k hk => ?_⟩
   rw [kE k (by omega) (by omega), hbe.block k (by omega), hb2.block k hk]
end Go.Proofs.Ytananonjomfpkaa
