/- The contract of plant: a copy of a tree as nodes, each with the cells that are its own. -/
import Derived.Test.YtananonjomfpkaaQg18
/- What is left behind a deletion is hardly larger. Plain data. -/
namespace Go.Proofs.Ytananonjomfpkaa
open Go.RowKit
namespace Tr
theorem kidAt_nil (m : Nat) : kidAt [] m = .mk [] [] := by simp [kidAt]
theorem kidAt_zero (t : Tr) (r : List Tr) : kidAt (t :: r) 0 = t := by simp [kidAt]
theorem kidAt_succ (t : Tr) (r : List Tr) (m : Nat) : kidAt (t :: r) (m + 1) = kidAt r m := by simp [kidAt]
theorem weight_nil : (Tr.mk [] []).weight = 0 := by simp [weight, weights]
theorem take_kid (c : List Tr) (m : Nat) : weights (c.take m) + (kidAt c m).weight + weights (c.drop (m + 1)) ≤ weights c := by
 induction c generalizing m with
 | nil => rw [kidAt_nil, weight_nil]; simp [weights]
 | cons t r ih =>
   cases m with
   | zero => rw [kidAt_zero]; simp [weights]
   | succ m => rw [kidAt_succ]; have := ih m; simp only [List.take_succ_cons, List.drop_succ_cons, weights]; omega
theorem take_two (c : List Tr) (i : Nat) : weights (c.take i) + (kidAt c i).weight + (kidAt c (i + 1)).weight + weights (c.drop (i + 2)) ≤ weights c := by
 induction c generalizing i with
 | nil => rw [kidAt_nil, kidAt_nil, weight_nil]; simp [weights]
 | cons t r ih =>
   cases i with
   | zero =>
     rw [kidAt_zero, kidAt_succ]
     have := take_kid r 0
     simp only [List.take_zero, List.drop_succ_cons, weights, Nat.zero_add] at this ⊢
     omega
   | succ i => rw [kidAt_succ, kidAt_succ]; have := ih i; simp only [List.take_succ_cons, List.drop_succ_cons, weights]; omega
theorem setTwo_weights (c : List Tr) (i : Nat) (x y : Tr) : weights (setTwo c i x y) = weights (c.take i) + (1 + x.weight + (1 + y.weight + weights (c.drop (i + 2)))) := by
 unfold setTwo; rw [weights_append, weights, weights]
theorem setOne_weights (c : List Tr) (i : Nat) (x : Tr) : weights (setOne c i x) = weights (c.take i) + (1 + x.weight + weights (c.drop (i + 2))) := by
 unfold setOne; rw [weights_append, weights]
theorem weight_eq (t : Tr) : t.weight = t.ks.length + weights t.cs := by cases t; rfl
theorem ahead_weight (k : List Int) (c : List Tr) (i : Nat) : (ahead k c i).weight ≤ (Tr.mk k c).weight + 4 := by
 unfold ahead
 dsimp only
 simp only [weight, setTwo_weights, List.length_set]
 have h := take_two c i
 rw [weight_eq (kidAt c i), weight_eq (kidAt c (i + 1))] at h
 generalize kidAt c i = x at h ⊢
 generalize kidAt c (i + 1) = y at h ⊢
 have h2 := take_kid x.cs (x.ks.length - 1 + 1)
 simp only [List.length_take, List.length_cons]
 split
 · omega
 · simp only [weights]; omega
theorem behind_weight (k : List Int) (c : List Tr) (i : Nat) : (behind k c i).weight ≤ (Tr.mk k c).weight + 4 := by
 unfold behind
 dsimp only
 simp only [weight, setTwo_weights, List.length_set]
 have h := take_two c i
 rw [weight_eq (kidAt c i), weight_eq (kidAt c (i + 1))] at h
 generalize kidAt c i = x at h ⊢
 generalize kidAt c (i + 1) = y at h ⊢
 have h2 := take_kid y.cs 0
 simp only [List.take_zero, weights, Nat.zero_add] at h2
 simp only [List.length_append, List.length_drop, List.length_cons, List.length_nil]
 split
 · omega
 · rw [weights_append]; simp only [weights]; omega
theorem joined_weight (k : List Int) (c : List Tr) (i : Nat) : (joined k c i).weight ≤ (Tr.mk k c).weight + 4 := by
 unfold joined
 dsimp only
 simp only [weight, setOne_weights]
 have h := take_two c i
 rw [weight_eq (kidAt c i), weight_eq (kidAt c (i + 1))] at h
 generalize kidAt c i = x at h ⊢
 generalize kidAt c (i + 1) = y at h ⊢
 have h3 : (takeAt k i).length ≤ k.length := by simp [takeAt]; omega
 rw [weights_append]
 simp only [List.length_append, List.length_cons]
 omega
theorem repair_weight (half : Int) (k : List Int) (c : List Tr) (i b j : Nat) : (repair half k c i b j).t.weight ≤ (Tr.mk k c).weight + 4 := by
 unfold repair
 split
 · show (Tr.mk k c).weight ≤ _; omega
 · split
   · exact ahead_weight _ _ _
   · exact behind_weight _ _ _
   · exact joined_weight _ _ _
   · exact joined_weight _ _ _
theorem setKid_weights (c : List Tr) (i : Nat) (u : Tr) (n : Nat) (h : u.weight ≤ (kidAt c i).weight + n) : weights (setKid c i u) ≤ weights c + n + 1 := by
 unfold setKid
 rw [weights_append, weights]
 have := take_kid c i
 omega
theorem del_weight (half : Int) : ∀ (n : Nat) (key : Int) (t : Tr), (del half n key t).t.weight ≤ t.weight + 5 * n := by
 intro n
 induction n with
 | zero => rintro key ⟨k, c⟩; simp [del]
 | succ n ih =>
   rintro key ⟨k, c⟩
   by_cases h0 : c.length = 0
   · rw [del_leaf h0]
     have h3 : (takeAt k (place key k)).length ≤ k.length := by simp [takeAt]; omega
     simp only [weight, weights]
     omega
   · by_cases ho : ownKey key k
     · rw [del_hit h0 ho]
       have h1 := setKid_weights c (place key k) _ _ (ih (kidAt c (place key k)).greatest (kidAt c (place key k)))
       refine Nat.le_trans (repair_weight _ _ _ _ _ _) ?_
       simp only [weight, List.length_set]
       omega
     · rw [del_miss h0 ho]
       have h1 := setKid_weights c (place key k) _ _ (ih key (kidAt c (place key k)))
       refine Nat.le_trans (repair_weight _ _ _ _ _ _) ?_
       simp only [weight]
       omega
end Tr
end Go.Proofs.Ytananonjomfpkaa
/- The contract of plant: a copy of a tree as nodes, each with the cells that are its own. -/
namespace Go.Proofs.Ytananonjomfpkaa
open Go.RowKit
def span (lo hi : Nat) : Cells := fun x _ => lo ≤ x ∧ x < hi
theorem RowF.sameB {w w' : World} {F : Cells} {v : Value} {xs : List Value} (h : RowF w F v xs) (hz : w.heap.size ≤ w'.heap.size) (hb : ∀ k o, F k o → w'.heap[k]? = w.heap[k]?) : RowF w' F v xs := by
 obtain ⟨hlt, a, cap, hv, h1, h2, h3, h4⟩ := h
 refine ⟨fun x q h => Nat.lt_of_lt_of_le (hlt x q h) hz, a, cap, hv, h1, h2, h3, ?_⟩
 rcases h4 with h4 | ⟨b, o, h5, h6, h7⟩
 · exact .inl h4
 · refine .inr ⟨b, o, h5, fun i hi => ?_, fun i hi => ?_⟩
   · obtain ⟨g1, g2, g3⟩ := h6 i hi
     have hh := hb _ _ g1
     exact ⟨g1, by rw [cell_of_blk hh]; exact g2, by rw [World.frozen?_of_block (a := ⟨b, o + i, none⟩) hh]; exact g3⟩
   · rw [cell_of_blk (hb _ _ (h6 i (by omega)).1)]; exact h7 i hi
theorem Nd.sameB {w w' : World} {F : Cells} {b : Nat} {t : Tr} (h : Nd w F b t) (hz : w.heap.size ≤ w'.heap.size) (hb : ∀ k o, F k o → w'.heap[k]? = w.heap[k]?) : Nd w' F b t := by
 induction h with
 | mk ks kids F Fk Fc b kv cv hbox hkr hc hkids sb sk sc ss ap lt ih =>
   exact .mk ks kids F Fk Fc b kv cv ((hb b 0 (sb 0)).trans hbox) (hkr.sameB hz (fun k o h => hb k o (sk k o h))) (hc.sameB hz (fun k o h => hb k o (sc k o h)))
     (fun x hx => ih x hx (fun k o h => hb k o (ss x hx k o h))) sb sk sc ss ap (fun x o h => Nat.lt_of_lt_of_le (lt x o h) hz)
structure PlantedN (w : World) (lo bn : Nat) (kv vk : Value) (ks : List Int) (cs : List Tr) (ps s e : Nat → Nat) (j : Nat) : Prop where
 box : w.heap[bn]? = some (.cells #[kv, vk] 99 (0, 0))
 keys : w.ownsRow lo 3 1 kv ks.length (ks.map (Value.int .i64)) ∧ ∀ k, kv.ownBlock = some k → k < bn
 row : w.ownsRow (bn + 1) 70 1 vk j ((List.range j).map (fun i => .pointer (some ⟨ps i, 0, none⟩)))
 kids : ∀ i (h : i < cs.length), i < j → Nd w (span (s i) (e i)) (ps i) cs[i]
 at' : ∀ i, i < j → bn < s i ∧ e i ≤ w.heap.size
 apart : ∀ i, i + 1 < j → e i ≤ s (i + 1)
 far : ∀ k, vk.ownBlock = some k → ∀ i, i < j → k < s i ∨ e i ≤ k
theorem plantedN_step {wr W5 w6 w7 : World} {lo bn j rc gg cap7 pb : Nat} {kv : Value} {ra : Option Addr} {ks : List Int} {cs : List Tr} {ps s e : Nat → Nat}
   (hp : PlantedN wr lo bn kv (.slice ra j rc) ks cs ps s e j) (hj : j < cs.length) (h5 : Below wr.heap.size wr W5) (hs5 : W5.heap.size = wr.heap.size + 1)
   (hn : Nd w6 (span W5.heap.size w6.heap.size) pb cs[j]) (h6 : Below W5.heap.size W5 w6)
   (hown : w7.ownsRow (bn + 1) 70 1 (.slice (some ⟨gg, 0, none⟩) (j + 1) cap7) (j + 1) ((List.range j).map (fun i => Value.pointer (some ⟨ps i, 0, none⟩)) ++ [.pointer (some ⟨pb, 0, none⟩)]))
   (hg : (w6.alloc (.cells #[.pointer (some ⟨pb, 0, none⟩)] 70)).grownBy w7 (Value.slice ra j rc).ownBlock)
   (hat : (Value.slice ra j rc).ownBlock = some gg ∨ gg = w6.heap.size + 1) :
   PlantedN (w7.setCell ⟨bn, 1, none⟩ (.slice (some ⟨gg, 0, none⟩) (j + 1) cap7)) lo bn kv (.slice (some ⟨gg, 0, none⟩) (j + 1) cap7) ks cs
     (fun i => if i = j then pb else ps i) (fun i => if i = j then W5.heap.size else s i) (fun i => if i = j then w6.heap.size else e i) (j + 1) ∧
   Below bn wr (w7.setCell ⟨bn, 1, none⟩ (.slice (some ⟨gg, 0, none⟩) (j + 1) cap7)) := by
 have hbn : bn < wr.heap.size := (Array.getElem?_eq_some_iff.1 hp.box).1
 have hsz6 : W5.heap.size ≤ w6.heap.size := h6.size
 have hsz7 : w6.heap.size + 1 ≤ w7.heap.size := by have := hg.size; simpa using this
 obtain ⟨wf, hwf⟩ : ∃ wf, wf = w7.setCell ⟨bn, 1, none⟩ (.slice (some ⟨gg, 0, none⟩) (j + 1) cap7) := ⟨_, rfl⟩
 have hsf : wf.heap.size = w7.heap.size := by rw [hwf]; simp
 -- what lay in w6 lies in wf, but for the node and the old row
 have old6 : ∀ k, k < w6.heap.size → (Value.slice ra j rc).ownBlock ≠ some k → w7.heap[k]? = w6.heap[k]? := fun k h1 h3 => by
   rw [hg.block k (by simp; omega) (fun e => h3 e.symm), old_blk _ _ _ h1]
 have old6f : ∀ k, k < w6.heap.size → k ≠ bn → (Value.slice ra j rc).ownBlock ≠ some k → wf.heap[k]? = w6.heap[k]? := fun k h1 h2 h3 => by
   rw [hwf, set_other _ _ _ _ _ h2, old6 k h1 h3]
 have oldr : ∀ k, k < wr.heap.size → w6.heap[k]? = wr.heap[k]? := fun k h1 => (h6.block k (by omega)).trans (h5.block k h1)
 have own : ∀ k, (Value.slice ra j rc).ownBlock = some k → bn + 1 ≤ k ∧ k < wr.heap.size := fun k h => hp.row.lt k h
 have hbox : wf.heap[bn]? = some (.cells #[kv, .slice (some ⟨gg, 0, none⟩) (j + 1) cap7] 99 (0, 0)) := by
   have h1 : w7.heap[bn]? = some (.cells #[kv, .slice ra j rc] 99 (0, 0)) := ((old6 bn (by omega) (fun e => by have := (own _ e).1; omega)).trans (oldr bn hbn)).trans hp.box
   rw [hwf]; exact set_blk _ h1
 have hbelow : Below bn wr wf := by
   refine ⟨?_, ?_, ?_, by omega, fun k hk => (old6f k (by omega) (by omega) (fun e => by have := (own _ e).1; omega)).trans (oldr k (by omega))⟩
   · rw [hwf]; exact (hg.os.trans h6.os).trans h5.os
   · rw [hwf]; exact (hg.tape.trans h6.tape).trans h5.tape
   · rw [hwf]; exact (hg.output.trans h6.output).trans h5.output
 rw [← hwf]
 refine ⟨⟨hbox, ⟨ownsRow_held hp.keys.1 (fun k e => hbelow.block k (hp.keys.2 k e)), hp.keys.2⟩, ?_, fun i hi hij => ?_, fun i hi => ?_, fun i hi => ?_, fun k hk i hi => ?_⟩, hbelow⟩
 · have h1 : (List.range (j + 1)).map (fun i => Value.pointer (some ⟨if i = j then pb else ps i, 0, none⟩)) = (List.range j).map (fun i => Value.pointer (some ⟨ps i, 0, none⟩)) ++ [.pointer (some ⟨pb, 0, none⟩)] := by
     rw [List.range_succ, List.map_append]
     simp only [List.map_cons, List.map_nil, if_true]
     congr 1
     refine List.map_congr_left (fun i hi => ?_)
     have := List.mem_range.1 hi
     rw [if_neg (by omega)]
   rw [h1, hwf]
   exact ownsRow_same hown (fun k _ h => set_other _ _ _ _ _ (by omega))
 · by_cases hij' : i = j
   · subst hij'
     simp only [if_true]
     exact hn.sameB (by omega) (fun k o ⟨h1, h2⟩ => old6f k h2 (by omega) (fun e => by have := (own _ e).2; omega))
   · simp only [if_neg hij']
     obtain ⟨g1, g2⟩ := hp.at' i (by omega)
     refine (hp.kids i hi (by omega)).sameB (by omega) (fun k o ⟨h1, h2⟩ => (old6f k (by omega) (by omega) (fun e => ?_)).trans (oldr k (by omega)))
     have := hp.far _ e i (by omega)
     omega
 · by_cases hij' : i = j
   · simp only [if_pos hij']; omega
   · simp only [if_neg hij']
     obtain ⟨g1, g2⟩ := hp.at' i (by omega)
     omega
 · have hij' : ¬ i = j := by omega
   simp only [if_neg hij']
   by_cases h : i + 1 = j
   · simp only [if_pos h]
     obtain ⟨g1, g2⟩ := hp.at' i (by omega)
     omega
   · simp only [if_neg h]
     exact hp.apart i (by omega)
 · simp only [Value.ownBlock, Option.some.injEq] at hk
   subst hk
   by_cases hij' : i = j
   · simp only [if_pos hij']
     rcases hat with h | h
     · have := (own _ h).2; left; omega
     · right; omega
   · simp only [if_neg hij']
     obtain ⟨g1, g2⟩ := hp.at' i (by omega)
     rcases hat with h | h
     · exact hp.far _ h i (by omega)
     · right; omega
theorem plantedN_done {w : World} {lo bn cap : Nat} {kv : Value} {ra : Option Addr} {ks : List Int} {cs : List Tr} {ps s e : Nat → Nat}
   (hp : PlantedN w lo bn kv (.slice ra cs.length cap) ks cs ps s e cs.length) (hlo : lo ≤ bn) : Nd w (span lo w.heap.size) bn (.mk ks cs) := by
 have hbn : bn < w.heap.size := (Array.getElem?_eq_some_iff.1 hp.box).1
 obtain ⟨kids, hkids⟩ : ∃ kids : List KidD, kids = List.ofFn (fun i : Fin cs.length => (⟨ps i, span (s i) (e i), cs[i]⟩ : KidD)) := ⟨_, rfl⟩
 have hlen : kids.length = cs.length := by rw [hkids]; simp
 have hget : ∀ i (h : i < kids.length), kids[i] = ⟨ps i, span (s i) (e i), cs[i]'(by omega)⟩ := fun i h => by simp [hkids]
 have ht : kids.map KidD.t = cs := by
   apply List.ext_getElem (by simp [hlen])
   intro i h1 h2
   rw [List.getElem_map, hget i (by simpa using h1)]
 have hptr : kids.map KidD.ptr = (List.range cs.length).map (fun i => Value.pointer (some ⟨ps i, 0, none⟩)) := by
   apply List.ext_getElem (by simp [hlen])
   intro i h1 h2
   rw [List.getElem_map, hget i (by simpa using h1)]
   simp [KidD.ptr]
 have hse : ∀ i, i < cs.length → s i < e i := fun i hi => by
   have h := hp.kids i hi hi
   generalize cs[i] = t at h
   cases t with
   | mk a c => obtain ⟨_, _, _, _, _, _, _, _, _, _, sb, _⟩ := h.parts; have := sb 0; exact Nat.lt_of_le_of_lt this.1 this.2
 have hmono : ∀ d i j, j = i + d + 1 → j < cs.length → e i ≤ s j := by
   intro d
   induction d with
   | zero => intro i j hj hjl; subst hj; exact hp.apart i hjl
   | succ d ih =>
     intro i j hj hjl
     have h1 := ih i (j - 1) (by omega) (by omega)
     have h2 := hse (j - 1) (by omega)
     have h3 := hp.apart (j - 1) (by omega)
     rw [show j - 1 + 1 = j by omega] at h3
     omega
 have hrow := RowF.of_owns hp.row
 rw [← hptr] at hrow
 have hkey := RowF.of_owns hp.keys.1
 have hmem : ∀ y, y ∈ kids → ∃ i, ∃ h : i < cs.length, y = ⟨ps i, span (s i) (e i), cs[i]⟩ := fun y hy => by
   obtain ⟨i, hi, rfl⟩ := List.mem_iff_getElem.1 hy
   exact ⟨i, by omega, hget i hi⟩
 have hklt := hp.keys.1.lt
 have hrlt := hp.row.lt
 have hsep : Sep bn (fun x _ => kv.ownBlock = some x) (fun x _ => (Value.slice ra cs.length cap).ownBlock = some x) kids := by
   refine ⟨fun q r h g => ?_, fun q r h g => ?_, fun y hy q r h g => ?_, fun q r h g => ?_, fun y hy q r h g => ?_, fun y hy q r h g => ?_, ?_⟩
   · have h' : q = bn := h; have := hp.keys.2 q g; omega
   · have h' : q = bn := h; have := (hrlt q g).1; omega
   · obtain ⟨i, hi, rfl⟩ := hmem y hy
     have h' : q = bn := h; have := (hp.at' i hi).1; have := g.1; omega
   · have := hp.keys.2 q h; have := (hrlt q g).1; omega
   · obtain ⟨i, hi, rfl⟩ := hmem y hy
     have := hp.keys.2 q h; have := (hp.at' i hi).1; have := g.1; omega
   · obtain ⟨i, hi, rfl⟩ := hmem y hy
     have h1 := hp.far q h i hi
     have h2 := g.1; have h3 := g.2; omega
   · rw [List.pairwise_iff_getElem]
     intro i j hi hj hij
     rw [hget i hi, hget j hj]
     intro q r h g
     have h1 := hmono (j - i - 1) i j (by omega) (by omega)
     have h2 := h.2; have h3 := g.1; omega
 have hnd := Nd.intro (ks := ks) (kids := kids) hp.box hkey hrow (fun y hy => by
   obtain ⟨i, hi, rfl⟩ := hmem y hy
   exact hp.kids i hi hi) hsep
 rw [ht] at hnd
 refine hnd.mono ?_ (fun x o h => h.2)
 rintro q r (h | h | h | ⟨y, hy, h⟩)
 · exact ⟨by omega, by omega⟩
 · exact ⟨(hklt q h).1, (hklt q h).2⟩
 · exact ⟨by have := (hrlt q h).1; omega, (hrlt q h).2⟩
 · obtain ⟨i, hi, rfl⟩ := hmem y hy
   have h1 := hp.at' i hi
   have h2 := h.1; have h3 := h.2
   exact ⟨by omega, by omega⟩
set_option maxRecDepth 100000 in
set_option maxHeartbeats 2000000 in
theorem plant_nd {w : World} {B : Nat} {kv cv : Value} {t : Tr} (ht : TreeIn w B kv cv t) (hw : t.weight ≤ 1048576) :
   ∀ w', Below B w w' → B ≤ w'.heap.size →
   Calls Try.prog 63 #[.agg #[kv, cv]] w' fun e w'' => ∃ b, e = .returned (.pointer (some ⟨b, 0, none⟩)) ∧ Nd w'' (span w'.heap.size w''.heap.size) b t ∧ Below w'.heap.size w' w'' := by
 induction ht with
 | mk ks cs kv a cap kvs cvs hk hlen hcap hat hkids ih =>
   intro w' hbw hB
   obtain ⟨i0, hi0, hz0, hz1, hz2⟩ := info_parts Try.infoPtr
   simp only [Tr.weight] at hw
   unfold maxLen at hcap
   have hl0 := Tr.length_le_weights cs
   have HK := Lib.hid (hk.later hbw (Nat.le_refl _))
   have HAT := Lib.hid (hat.later hbw (Nat.le_refl _))
   have IH := Lib.hid ih
   have HKI := Lib.hid hkids
   have HBW := Lib.hid hbw
   obtain ⟨W1, hW1⟩ : ∃ W1, W1 = w'.alloc (.cells #[kv, .slice a cs.length cap] 26) := ⟨_, rfl⟩
   have hs1 : W1.heap.size = w'.heap.size + 1 := by rw [hW1]; simp
   have hb1 : Below w'.heap.size w' W1 := by rw [hW1]; exact (Below.refl _ _).alloc (Nat.le_refl _) _
   have kb : W1.heap[w'.heap.size]? = some (.cells #[kv, .slice a cs.length cap] 26 (0, 0)) := by rw [hW1, new_blk]
   have HW1 := Lib.hid hW1
   obtain ⟨x1, x2, x3, x4⟩ := box2 kb
   have HB1 := Lib.hid (And.intro hb1 kb)
   clear hk hat ih hkids hbw hW1 hb1 kb
   go_enter Try.func63, Try.ntmps63
   go_wp2_with fail
   rw [← HW1.out]
   refine (clone_c W1 ((HK.out.later HB1.out.1 hB).at) (by omega)).mono ?_
   rintro e w2 ⟨v2, rfl, hown2, hb2⟩
   obtain ⟨a2, c2, rfl⟩ := hown2.shown
   have kb2 := (hb2.block w'.heap.size (by omega)).trans HB1.out.2
   clear x1 x2 x3 x4
   obtain ⟨x1, x2, x3, x4⟩ := box2 kb2
   have hs2 := hb2.size
   have hb2' := HB1.out.1.trans (hb2.mono (by omega))
   have y2 : (w2.alloc (.cells #[.slice a2 ks.length c2, .slice none 0 0] 99)).cell? ⟨w'.heap.size, 1, none⟩ = some (.slice a cs.length cap) := (box2 ((old_blk _ _ _ (by omega)).trans kb2)).2.1
   obtain ⟨W3, hW3⟩ : ∃ W3, W3 = w2.alloc (.cells #[.slice a2 ks.length c2, .slice none 0 0] 99) := ⟨_, rfl⟩
   have hs3 : W3.heap.size = w2.heap.size + 1 := by rw [hW3]; simp
   have hb3 : Below w2.heap.size w2 W3 := by rw [hW3]; exact (Below.refl _ _).alloc (Nat.le_refl _) _
   have hnode : W3.heap[w2.heap.size]? = some (.cells #[.slice a2 ks.length c2, .slice none 0 0] 99 (0, 0)) := by rw [hW3, new_blk]
   have hkeys : W3.ownsRow w'.heap.size 3 1 (.slice a2 ks.length c2) ks.length (ks.map (Value.int .i64)) ∧ ∀ k, (Value.slice a2 ks.length c2).ownBlock = some k → k < w2.heap.size := ⟨ownsRow_held (IntsOwn.lower hown2 (by omega)) (fun k e => hb3.block k (hown2.lt k e).2), fun k e => (hown2.lt k e).2⟩
   have H0 := Lib.hid (show PlantedN W3 w'.heap.size w2.heap.size (.slice a2 ks.length c2) (.slice none 0 0) ks cs (fun _ => 0) (fun _ => 0) (fun _ => 0) 0 from
     ⟨hnode, hkeys, ⟨rfl, .inl ⟨rfl, rfl⟩⟩, fun i _ h => by omega, fun i h => by omega, fun i h => by omega, fun k _ i h => by omega⟩)
   have HB3 := Lib.hid (hb2'.trans (hb3.mono (by omega)))
   have HW3 := Lib.hid hW3
   clear hb2 hb2' hown2 kb2 hb3 hnode hkeys hW3
   go_wp2_with fail
   rw [← HW3.out]
   clear x1 x2 x3 x4 y2
   go_loopw [15] (fun i wr => ∃ (j : Nat) (vk : Value) (ps s e : Nat → Nat), j ≤ cs.length ∧ i = .int .i64 j ∧ PlantedN wr w'.heap.size w2.heap.size (.slice a2 ks.length c2) vk ks cs ps s e j ∧ Below w'.heap.size w' wr) (fun i _ => cs.length - (intOf i).toNat)
   case atStart => exact ⟨0, _, _, _, _, Nat.zero_le _, rfl, H0.out, HB3.out⟩
   case round =>
     obtain ⟨j, vk, ps, s, e, hj, rfl, hpl, hbel⟩ := hrel
     by_cases hlt : j < cs.length
     · rcases HAT.out with h | ⟨b, off, rfl, hb, hat⟩
       · omega
       obtain ⟨ha, hc⟩ := hat j hlt
       have ha' : wr.cell? ⟨b, off + j * 2, none⟩ = some (kvs j) := by rw [below_cell hbel (by omega)]; exact ha
       have hc' : wr.cell? ⟨b, off + j * 2 + 1, none⟩ = some (cvs j) := by rw [below_cell hbel (by omega)]; exact hc
       have hcj := IH.out j hlt (by have := Tr.weight_get_le cs j hlt; omega)
       obtain ⟨a5, n5, c5, a6, n6, c6, e5, e6⟩ := (HKI.out j hlt).slices
       rw [e5] at ha'
       rw [e6] at hc'
       rw [e5, e6] at hcj
       have HCJ := Lib.hid hcj
       have HPL := Lib.hid hpl
       have HBEL := Lib.hid hbel
       obtain ⟨ra, rc, rfl⟩ := ownsRow_shown1 hpl.row
       obtain ⟨W5, hW5⟩ : ∃ W5, W5 = wr.alloc (.cells #[.slice a5 n5 c5, .slice a6 n6 c6] 26) := ⟨_, rfl⟩
       have hs5 : W5.heap.size = wr.heap.size + 1 := by rw [hW5]; simp
       have hlt2 : w2.heap.size < wr.heap.size := (Array.getElem?_eq_some_iff.1 hpl.box).1
       have hb5 : Below wr.heap.size wr W5 := by rw [hW5]; exact (Below.refl _ _).alloc (Nat.le_refl _) _
       have k5 : W5.heap[wr.heap.size]? = some (.cells #[.slice a5 n5 c5, .slice a6 n6 c6] 26 (0, 0)) := by rw [hW5, new_blk]
       have n5' : W5.heap[w2.heap.size]? = some (.cells #[.slice a2 ks.length c2, .slice ra j rc] 99 (0, 0)) := (hb5.block _ hlt2).trans hpl.box
       obtain ⟨y1, y2, y3, y4⟩ := box2 k5
       obtain ⟨u1, u2, u3, u4⟩ := box2 n5'
       have hbel5 : Below w'.heap.size w' W5 := hbel.trans (hb5.mono hbel.size)
       have HW5 := Lib.hid hW5
       have H5 := Lib.hid (And.intro hb5 (And.intro k5 (And.intro n5' hbel5)))
       have hszr := hbel.size
       have ne1 : some w2.heap.size ≠ (Value.slice ra j rc).ownBlock := fun e => by have := (hpl.row.lt _ e.symm).1; omega
       have ne2 : some wr.heap.size ≠ (Value.slice ra j rc).ownBlock := fun e => by have := (hpl.row.lt _ e.symm).2; omega
       have NE1 := Lib.hid ne1
       have NE2 := Lib.hid ne2
       clear ne1 ne2
       clear ha hc hat hpl hbel hcj e5 e6 hW5 hb5 k5 n5' hbel5
       go_wp2_with fail
       rw [← HW5.out]
       go_region_law
         (first
           | ((refine step_append_lies _ (by rfl) _ _ _ (by rfl) (w2.heap.size + 1) 70 i0 _ 1 8 Try.underlying95 hi0 hz0 hz1 hz2 rfl (by omega) _ j _ (by rfl) (H6.out.2.2.2.alloc _) ⟨w6.heap.size, 0, none⟩ 1 1 [.pointer (some ⟨pb, 0, none⟩)] (by rfl) (by rfl) (World.news_of_block (cs := #[.pointer (some ⟨pb, 0, none⟩)]) (t := 70) (fr := (0, 0)) (heap_alloc_new w6 _)) (by simp [Value.oneCell']) (by omega) (by unfold maxLen; omega) (by omega) (by simp; omega) (w6.heap.size + 1) (by simp) ?_; intro gg cap7 w7 hown7 hgrow7 hat7 hlt7; have v7c := (hgrow7.cell_far ⟨w2.heap.size, 1, none⟩ (by simp; omega) NE1.out).trans t2; have v7f := (hgrow7.frozen_far ⟨w2.heap.size, 1, none⟩ (by simp; omega) NE1.out).trans t4; have H7 := Lib.hid (And.intro hown7 (And.intro hgrow7 hat7)); clear hown7 hgrow7 hat7))
           | (go_simp; go_at_call 63; refine (HCJ.out _ (HBW.out.trans (H5.out.2.2.2.drew.mono hB)) (by simp; omega)).mono ?_; rintro e w6 ⟨pb, rfl, hnd6, hb6⟩; have hs6 : W5.heap.size ≤ w6.heap.size := hb6.size; have j6 := (hb6.block w2.heap.size (by simp; omega)).trans H5.out.2.2.1; have i6 := (hb6.block wr.heap.size (by simp; omega)).trans H5.out.2.1; obtain ⟨z1, z2, z3, z4⟩ := box2 j6; obtain ⟨q1, q2, q3, q4⟩ := box2 i6; obtain ⟨t1, t2, t3, t4⟩ := box2 ((old_blk w6 (.cells #[.pointer (some ⟨pb, 0, none⟩)] 70) _ (by omega)).trans j6); obtain ⟨p1, p2, p3, p4⟩ := box2 ((old_blk w6 (.cells #[.pointer (some ⟨pb, 0, none⟩)] 70) _ (by omega)).trans i6); have hr6 := ownsRow_same HPL.out.row (fun k h1 h2 => (hb6.block k (by simp; omega)).trans (H5.out.1.block k h1)); have H6 := Lib.hid (And.intro hnd6 (And.intro hb6 (And.intro j6 hr6))); clear hnd6 hb6 j6 i6 hr6))
       all_goals (
         go_wp2_with fail
         go_roundw
         case rel =>
           obtain ⟨hp', hb'⟩ := plantedN_step HPL.out hlt H5.out.1 hs5 H6.out.1 (below_undrew H6.out.2.1) H7.out.1 H7.out.2.1 H7.out.2.2
           exact ⟨j + 1, _, _, _, _, by omega, by go_num, hp', HBEL.out.trans (hb'.mono (by omega))⟩
         case measure => simp [intOf]; omega)
     · obtain rfl : j = cs.length := by omega
       obtain ⟨ra, rc, rfl⟩ := ownsRow_shown1 hpl.row
       have hnd := plantedN_done hpl (by omega)
       have HND := Lib.hid hnd
       have HBEL := Lib.hid hbel
       clear hnd hpl hbel
       go_wp2_with fail
       go_ret
       exact ⟨_, rfl, HND.out, HBEL.out⟩
end Go.Proofs.Ytananonjomfpkaa
