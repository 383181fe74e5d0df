/- The contract of tree: a node's tree, in rows of the call's own. -/
import Derived.Test.YtananonjomfpkaaQfS12
/- The model's SplitsBy and GrowsBy. -/
namespace Go.Proofs.Ytananonjomfpkaa
open Go.RowKit
def Tr.splitsB (wide key : Int) (t : Tr) : Int := if Tr.askedB wide key t then (Tr.insN wide key t : Int) else -1
def Tr.growsB (wide key : Int) (t : Tr) : Bool := Tr.askedB wide key t && Tr.insG wide key t
theorem run_splits (w : World) (x0 x1 x2 x3 x4 x5 : Value) (n : Int) : Sem.run Try.prog (Instr.field 146 (.agg #[x0, x1, x2, x3, x4, x5, .int .i64 n]) 4) w = .ok (.int .i64 n) w := by
 first
   | kernel_rfl
   | rfl
   | (simp [Instr.field, Try.underlying146]; trace_state; done)
theorem run_splits2 (w : World) (x0 x1 x2 x3 x4 : Value) (g : Bool) (n : Value) : Sem.run Try.prog (Instr.field 146 (.agg #[x0, x1, x2, x3, x4, .bool g, n]) 3) w = .ok (.bool g) w := by
 first
   | kernel_rfl
   | rfl
   | (simp [Instr.field, Try.underlying146]; trace_state; done)
attribute [local go_sem] run_splits run_splits2
set_option maxRecDepth 100000 in
set_option maxHeartbeats 2000000 in
theorem specAsked_c {w : World} {B : Nat} {kv cv : Value} {t : Tr} (ht : TreeIn w B kv cv t) (hw : t.weight ≤ 1048576) (wide key : Int) (w' : World) (hbw : Below B w w') (hB : B ≤ w'.heap.size) :
   Calls Try.prog 90 #[.agg #[kv, cv], .int .i64 wide, .int .i64 key] w' fun e w'' => e = .returned (.bool (Tr.askedB wide key t)) ∧ Below w'.heap.size w' w'' := by
 obtain ⟨a5, n5, m5, a6, n6, m6, rfl, rfl⟩ := ht.slices
 obtain ⟨W1, hW1⟩ : ∃ W1, W1 = w'.alloc (.cells #[.slice a5 n5 m5, .slice a6 n6 m6] 26) := ⟨_, rfl⟩
 have hs1 : W1.heap.size = w'.heap.size + 1 := by rw [hW1]; simp
 have hb1 : Below w'.heap.size w' W1 := by rw [hW1]; exact (Below.refl _ _).alloc (Nat.le_refl _) _
 have k0 : W1.heap[w'.heap.size]? = some (.cells #[.slice a5 n5 m5, .slice a6 n6 m6] 26 (0, 0)) := by rw [hW1, new_blk]
 obtain ⟨x1, x2, x3, x4⟩ := box2 k0
 have HT := Lib.hid ht
 have HBW := Lib.hid hbw
 have HW1 := Lib.hid hW1
 have H1 := Lib.hid (And.intro hb1 k0)
 clear ht hbw hW1 hb1 k0
 go_enter Try.func90, Try.ntmps90
 go_wp2_with fail
 rw [← HW1.out]
 refine (specTreeValid_c HT.out hw wide W1 (HBW.out.trans (H1.out.1.mono hB)) (by omega)).mono ?_
 rintro e w2 ⟨rfl, hb2⟩
 have hs2 := hb2.size
 clear x1 x2 x3 x4
 have j0 := (hb2.block _ (by omega)).trans H1.out.2
 obtain ⟨x1, x2, x3, x4⟩ := box2 j0
 have hb2' := H1.out.1.trans (hb2.mono (by omega))
 have H2 := Lib.hid (And.intro hb2' j0)
 clear hb2 hb2' j0
 cases hv : Tr.validB wide t with
 | false =>
   have HA := Lib.hid (show Tr.askedB wide key t = false by simp [Tr.askedB, hv])
   clear hv
   go_wp2_with fail
   go_ret
   exact ⟨by rw [HA.out]; rfl, H2.out.1⟩
 | true =>
 have HV := Lib.hid hv
 clear hv
 go_wp2_with fail
 refine (l1In_c key 0 99 w2).mono ?_
 rintro e w3 ⟨rfl, rfl⟩
 cases hk : inB key 0 99 with
 | false =>
   have HA := Lib.hid (show Tr.askedB wide key t = false by simp [Tr.askedB, hk])
   clear hk
   go_wp2_with fail
   go_ret
   exact ⟨by rw [HA.out]; rfl, H2.out.1⟩
 | true =>
 have HK := Lib.hid hk
 clear hk
 go_wp2_with fail
 refine (specHasKey_c HT.out hw key _ (HBW.out.trans (H2.out.1.mono hB)) (by omega)).mono ?_
 rintro e w4 ⟨rfl, hb4⟩
 have HA := Lib.hid (show Tr.askedB wide key t = !(t.pathB key).2 by simp [Tr.askedB, HV.out, HK.out])
 have H4 := Lib.hid (H2.out.1.trans (hb4.mono (by omega)))
 clear hb4
 go_wp2_with fail
 go_ret
 exact ⟨by rw [HA.out]; rfl, H4.out⟩
-- END
-- END
end Go.Proofs.Ytananonjomfpkaa
/- How heavy a tree becomes by a key. -/
namespace Go.Proofs.Ytananonjomfpkaa
open Go.RowKit
namespace Tr
theorem part_weight (u : Tr) : u.leftOf.weight + u.rightOf.weight ≤ u.weight := by
 obtain ⟨k, c⟩ := u
 have h := weights_append (c.take (k.length / 2 + 1)) (c.drop (k.length / 2 + 1))
 rw [List.take_append_drop] at h
 simp only [leftOf, rightOf, weight, List.length_take, List.length_drop]
 omega
mutual
theorem grow_weight (wide key : Int) : ∀ t : Tr, (grow wide key t).1.weight ≤ t.weight + 1 + 2 * (grow wide key t).2
 | .mk k c => by
   have hp := place_le key k
   rw [grow]
   split
   · simp only [weight, putAt_length hp, weights]
     omega
   · rename_i hc
     by_cases hi : place key k < c.length
     · have h := grows_weight wide key c (place key k) hi
       have hs : weights c = weights (c.take (place key k)) + (1 + c[place key k].weight + weights (c.drop (place key k + 1))) := by
         have e := weights_append (c.take (place key k)) (c.drop (place key k))
         rw [List.take_append_drop, ← List.getElem_cons_drop hi] at e
         simpa [weights] using e
       unfold growStep
       split
       · have hpw := part_weight ((grows wide key c).getD (place key k) (.mk [] [], 0)).1
         simp only [splitKid, weight, putAt_length hp, weights_append, weights]
         omega
       · simp only [weight, setKid, weights_append, weights]
         omega
     · have hn : (grows wide key c).getD (place key k) (.mk [] [], 0) = (.mk [] [], 0) := by
         have : (grows wide key c).length = c.length := by
           clear hc hi hp
           induction c with
           | nil => rfl
           | cons t r ih => simp [grows, ih]
         rw [List.getD_eq_getElem?_getD, List.getElem?_eq_none (by omega)]
         rfl
       rw [hn]
       have hd : c.take (place key k) = c := List.take_of_length_le (by omega)
       have hd2 : c.drop (place key k + 1) = [] := List.drop_of_length_le (by omega)
       unfold growStep
       split
       · simp only [splitKid, weight, putAt_length hp, weights_append, weights, hd, hd2, leftOf, rightOf, List.take_nil, List.drop_nil, List.length_nil]
         omega
       · simp only [weight, setKid, weights_append, weights, hd, hd2, List.length_nil]
         omega
theorem grows_weight (wide key : Int) : ∀ (c : List Tr) (i : Nat) (h : i < c.length), ((grows wide key c).getD i (.mk [] [], 0)).1.weight ≤ c[i].weight + 1 + 2 * ((grows wide key c).getD i (.mk [] [], 0)).2
 | [], i, h => by simp at h
 | t :: r, i, h => by
   have h1 := grow_weight wide key t
   cases i with
   | zero => simpa [grows] using h1
   | succ i =>
     have h2 := grows_weight wide key r i (by simpa using h)
     simpa [grows] using h2
end
theorem insT_weight (wide key : Int) (t : Tr) : (insT wide key t).weight ≤ 3 * t.weight + 5 := by
 have h1 := grow_weight wide key t
 have h2 := grow_count wide key t
 have h3 := part_weight (grow wide key t).1
 unfold insT
 simp only
 split
 · simp only [weight, weights, List.length_cons, List.length_nil]
   omega
 · omega
end Tr
end Go.Proofs.Ytananonjomfpkaa
/- The contract of tree: a node's tree, in rows of the call's own. -/
namespace Go.Proofs.Ytananonjomfpkaa
open Go.RowKit
theorem rowF_ints {w : World} {F : Cells} {v : Value} {k : List Int} (h : RowF w F v (k.map (Value.int .i64))) : IntsAt w v k := by
 obtain ⟨_, ka, kcap, rfl, k1, k2, k3, k4⟩ := h
 refine ⟨ka, kcap, by simp, k3, ?_⟩
 rcases k4 with k4 | ⟨kb, ko, rfl, g1, g2⟩
 · subst k4
   simp at k1
   exact .inl k1
 · refine .inr ⟨kb, ko, rfl, fun i hi => ?_⟩
   rw [g2 i (by simpa using hi)]
   simp [hi]
theorem treeO_step {wr w6 w7 : World} {lo bt j rc gg cap7 : Nat} {kv xk xc : Value} {ra : Option Addr} {ks : List Int} {cs : List Tr} {kids : List KidO} {P Q : Blocks}
   (hbox : wr.heap[bt]? = some (.cells #[kv, .slice ra j rc] 26 (0, 0))) (hj : j < cs.length) (hkt : cs.take j = kids.map KidO.t) (hlo : lo ≤ bt)
   (htr : TreeO wr lo P kv (.slice ra j rc) (.mk ks (cs.take j))) (hP : ¬ P bt)
   (hn : TreeO w6 wr.heap.size Q xk xc cs[j]) (h6 : Below wr.heap.size wr w6)
   (hpar : IntsOwn wr lo kv ks ∧ (∀ x, x ∈ kids → TreeO wr lo x.P x.kv x.cv x.t) ∧ (∀ b, ownB kv b → P b) ∧ (∀ b, ownB (.slice ra j rc) b → P b) ∧ (∀ x, x ∈ kids → ∀ b, x.P b → P b) ∧ (ownB kv :: ownB (.slice ra j rc) :: kids.map KidO.P).Pairwise ApartB ∧ (∀ b, P b → lo ≤ b ∧ b < wr.heap.size))
   (hown : w7.ownsRow lo 26 2 (.slice (some ⟨gg, 0, none⟩) (j + 1) cap7) (j + 1) (flatT (kids.map KidO.pair) ++ [xk, xc]))
   (hg : (w6.alloc (.cells #[xk, xc] 26)).grownBy w7 (Value.slice ra j rc).ownBlock)
   (hat : (Value.slice ra j rc).ownBlock = some gg ∨ gg = w6.heap.size + 1) :
   ∃ P' : Blocks, (w7.setCell ⟨bt, 1, none⟩ (.slice (some ⟨gg, 0, none⟩) (j + 1) cap7)).heap[bt]? = some (.cells #[kv, .slice (some ⟨gg, 0, none⟩) (j + 1) cap7] 26 (0, 0)) ∧
     TreeO (w7.setCell ⟨bt, 1, none⟩ (.slice (some ⟨gg, 0, none⟩) (j + 1) cap7)) lo P' kv (.slice (some ⟨gg, 0, none⟩) (j + 1) cap7) (.mk ks (cs.take (j + 1))) ∧ ¬ P' bt ∧
     Below lo wr (w7.setCell ⟨bt, 1, none⟩ (.slice (some ⟨gg, 0, none⟩) (j + 1) cap7)) := by
 obtain ⟨hk, hkids, sk, sc, ss, ap, lt⟩ := hpar
 have hbt : bt < wr.heap.size := (Array.getElem?_eq_some_iff.1 hbox).1
 have hsz6 : wr.heap.size ≤ w6.heap.size := h6.size
 have hsz7 : w6.heap.size + 1 ≤ w7.heap.size := by have := hg.size; simpa using this
 obtain ⟨wf, hwf⟩ : ∃ wf, wf = w7.setCell ⟨bt, 1, none⟩ (.slice (some ⟨gg, 0, none⟩) (j + 1) cap7) := ⟨_, rfl⟩
 have hsf : wf.heap.size = w7.heap.size := by rw [hwf]; simp
 have own : ∀ k, (Value.slice ra j rc).ownBlock = some k → P k := fun k h => sc k h
 have old6 : ∀ k, k < w6.heap.size → (Value.slice ra j rc).ownBlock ≠ some k → w7.heap[k]? = w6.heap[k]? := fun k h1 h3 => by
   rw [hg.block k (by simp; omega) (fun e => h3 e.symm), old_blk _ _ _ h1]
 have old6f : ∀ k, k < w6.heap.size → k ≠ bt → (Value.slice ra j rc).ownBlock ≠ some k → wf.heap[k]? = w6.heap[k]? := fun k h1 h2 h3 => by
   rw [hwf, set_other _ _ _ _ _ h2, old6 k h1 h3]
 have hbox' : wf.heap[bt]? = some (.cells #[kv, .slice (some ⟨gg, 0, none⟩) (j + 1) cap7] 26 (0, 0)) := by
   have h1 : w7.heap[bt]? = some (.cells #[kv, .slice ra j rc] 26 (0, 0)) := ((old6 bt (by omega) (fun e => hP (own _ e))).trans (h6.block bt hbt)).trans hbox
   rw [hwf]; exact set_blk _ h1
 have hrow : TreesOwn wf lo (.slice (some ⟨gg, 0, none⟩) (j + 1) cap7) (kids.map KidO.pair ++ [(xk, xc)]) := by
   have hl : (kids.map KidO.pair ++ [(xk, xc)]).length = j + 1 := by
     have := congrArg List.length hkt
     simp at this ⊢
     omega
   unfold TreesOwn
   rw [hl, flatT_append]
   refine ownsRow_held (by simpa [flatT] using hown) (fun k e => ?_)
   have e' : gg = k := by simpa [Value.ownBlock] using e
   rw [hwf, set_other _ _ _ _ _ (fun e2 => ?_)]
   subst e'; subst e2
   rcases hat with h | h
   · exact hP (own _ h)
   · omega
 have hpush := TreeO.push (w' := wf) (u := cs[j]) hk hkids sk sc ss ap lt (by omega)
   (fun b h1 h2 => (old6f b (by have := (lt b h1).2; omega) (fun e => hP (e ▸ h1)) h2).trans (h6.block b (lt b h1).2))
   ((hn.same (w' := wf) (by omega) (fun b h => old6f b (hn.lt b h).2 (by have := (hn.lt b h).1; omega) (fun e => by have := (lt b (own b e)).2; have := (hn.lt b h).1; omega))).lower (by omega)) (fun b h => (hn.lt b h).1) hrow
   (fun b h => by
     have e' : gg = b := by simpa [ownB, Value.ownBlock] using h
     subst e'
     rcases hat with h2 | h2
     · exact .inl h2
     · exact .inr ⟨by omega, fun hq => by have := (hn.lt _ hq).2; omega⟩)
 rw [← hkt, List.take_append_getElem] at hpush
 rw [← hwf]
 refine ⟨_, hbox', hpush.1, fun h => ?_, ?_, ?_, ?_, by omega, fun k hk => ?_⟩
 · rcases hpush.2 bt h with h | h
   · exact hP h
   · omega
 · rw [hwf]; exact hg.os.trans h6.os
 · rw [hwf]; exact hg.tape.trans h6.tape
 · rw [hwf]; exact hg.output.trans h6.output
 · exact (old6f k (by omega) (by omega) (fun e => by have := (lt k (own k e)).1; omega)).trans (h6.block k (by omega))
set_option maxRecDepth 100000 in
set_option maxHeartbeats 2000000 in
theorem tree_c {w : World} {F : Cells} {b : Nat} {t : Tr} (ht : Nd w F b t) (hw : t.weight ≤ 1048576) :
   ∀ w', Below w.heap.size w w' →
   Calls Try.prog 56 #[.pointer (some ⟨b, 0, none⟩)] w' fun e w'' => ∃ kv cv P, e = .returned (.agg #[kv, cv]) ∧ TreeO w'' w'.heap.size P kv cv t ∧ Below w'.heap.size w' w'' := by
 induction ht with
 | mk ks kds F Fk Fc b kv cv hbox hkr hcr hkids sb sk sc ss ap lt ih =>
   intro w' hbw
   obtain ⟨i0, hi0, hz0, hz1, hz2⟩ := info_parts Try.infoTree
   simp only [Tr.weight] at hw
   obtain ⟨cs, hcs⟩ : ∃ cs, cs = kds.map KidD.t := ⟨_, rfl⟩
   rw [← hcs] at hw ⊢
   have hcl : cs.length = kds.length := by rw [hcs]; simp
   have hl0 := Tr.length_le_weights cs
   have hB := hbw.size
   have hblt : b < w.heap.size := (Array.getElem?_eq_some_iff.1 hbox).1
   have hka := rowF_ints (hkr.keep (KeptF.of_below (F := fun _ _ => False) hbw (Nat.le_refl _)) (fun _ _ _ h => h))
   have hcr' := hcr.keep (KeptF.of_below (F := fun _ _ => False) hbw (Nat.le_refl _)) (fun _ _ _ h => h)
   have hbox' := (hbw.block b hblt).trans hbox
   obtain ⟨_, ca, ccap, rfl, c1, c2, c3, c4⟩ := hcr'
   rw [List.length_map, ← hcl] at c1 hbox'
   have hat : ∀ (i : Nat) (h : i < cs.length), ∃ (cb co : Nat) (p : Nat), ca = some ⟨cb, co, none⟩ ∧ cb < w'.heap.size ∧ w'.cell? ⟨cb, co + i, none⟩ = some (.pointer (some ⟨p, 0, none⟩)) ∧
       ∀ w2, Below w.heap.size w w2 → Calls Try.prog 56 #[.pointer (some ⟨p, 0, none⟩)] w2 fun e w3 => ∃ kv cv P, e = .returned (.agg #[kv, cv]) ∧ TreeO w3 w2.heap.size P kv cv cs[i] ∧ Below w2.heap.size w2 w3 := fun i hi => by
     have hi' : i < kds.length := by omega
     rcases c4 with h | ⟨cb, co, rfl, g1, g2⟩
     · omega
     · have hx := g2 i (by simpa using hi')
       have hwt := Tr.weight_get_le cs i hi
       have he : cs[i] = kds[i].t := by simp [hcs]
       refine ⟨cb, co, kds[i].p, rfl, lt_of_there (o := co + i) (by rw [hx]; rfl), by rw [hx]; simp [KidD.ptr], ?_⟩
       rw [he] at hwt ⊢
       exact ih kds[i] (List.getElem_mem hi') (by omega)
   have hka0 := hka
   obtain ⟨ka, kcp, hkv, -⟩ := hka0
   subst hkv
   have HAT := Lib.hid hat
   have HKA := Lib.hid hka
   have HBW := Lib.hid hbw
   obtain ⟨W1, hW1⟩ : ∃ W1, W1 = w'.alloc (.cells #[.slice none 0 0, .slice none 0 0] 26) := ⟨_, rfl⟩
   have hs1 : W1.heap.size = w'.heap.size + 1 := by rw [hW1]; simp
   have hb1 : Below w'.heap.size w' W1 := by rw [hW1]; exact (Below.refl _ _).alloc (Nat.le_refl _) _
   have kb : W1.heap[w'.heap.size]? = some (.cells #[.slice none 0 0, .slice none 0 0] 26 (0, 0)) := by rw [hW1, new_blk]
   have nb : W1.heap[b]? = some (.cells #[.slice ka ks.length kcp, .slice ca cs.length ccap] 99 (0, 0)) := (hb1.block b (by omega)).trans hbox'
   have hcl1 := clone_c W1 (ks := ks) (v := .slice ka ks.length kcp) (by
     obtain ⟨a, cap, e1, e2, e3⟩ := hka
     refine ⟨a, cap, e1, e2, ?_⟩
     rcases e3 with e3 | ⟨kb, ko, e4, e5⟩
     · exact .inl e3
     · exact .inr ⟨kb, ko, e4, fun i hi => by rw [below_cell hb1 (World.block_lt_of_cell? w' _ (e5 i hi))]; exact e5 i hi⟩) (by omega)
   have HCL := Lib.hid hcl1
   have HW1 := Lib.hid hW1
   have HB1 := Lib.hid (And.intro hb1 (And.intro kb nb))
   have nbx := nb
   rw [hW1] at nbx
   obtain ⟨x1, x2, x3, x4⟩ := box2 nbx
   clear hcl nbx hbox hkr hcr hkids sb sk sc ss ap lt ih hbw hka hbox' c4 hat hcl1 hW1 hb1 kb nb hcs
   go_enter Try.func56, Try.ntmps56
   go_wp2_with fail
   rw [← HW1.out]
   refine HCL.out.mono ?_
   rintro e w2 ⟨v2, rfl, hown2, hb2⟩
   obtain ⟨a2, q2, rfl⟩ := hown2.shown
   have nb2 := (hb2.block b (by omega)).trans HB1.out.2.2
   clear x1 x2 x3 x4
   obtain ⟨x1, x2, x3, x4⟩ := box2 nb2
   have hs2 := hb2.size
   have hb2' := HB1.out.1.trans (hb2.mono (by omega))
   obtain ⟨y1, y2, y3, y4⟩ := box2 ((old_blk w2 (.cells #[.slice a2 ks.length q2, .slice none 0 0] 26) _ (by omega)).trans nb2)
   obtain ⟨W3, hW3⟩ : ∃ W3, W3 = w2.alloc (.cells #[.slice a2 ks.length q2, .slice none 0 0] 26) := ⟨_, rfl⟩
   have hs3 : W3.heap.size = w2.heap.size + 1 := by rw [hW3]; simp
   have hb3 : Below w2.heap.size w2 W3 := by rw [hW3]; exact (Below.refl _ _).alloc (Nat.le_refl _) _
   have hbx3 : W3.heap[w2.heap.size]? = some (.cells #[.slice a2 ks.length q2, .slice none 0 0] 26 (0, 0)) := by rw [hW3, new_blk]
   have htr3 : TreeO W3 (w'.heap.size + 1) (fun x => ownB (.slice a2 ks.length q2) x) (.slice a2 ks.length q2) (.slice none 0 0) (.mk ks (cs.take 0)) := by
     refine .mk ks [] _ _ _ (ownsRow_held (IntsOwn.lower hown2 (by omega)) (fun k e => hb3.block k (hown2.lt k e).2)) ⟨rfl, .inl ⟨rfl, rfl⟩⟩ (fun x h => by cases h) (fun b h => h) (fun b h => by cases h) (fun x h => by cases h) ?_ (fun q e => ⟨by have := (hown2.lt q e).1; omega, by have := (hown2.lt q e).2; omega⟩)
     exact List.pairwise_cons.2 ⟨fun R hR b _ h => (by simp at hR; subst hR; cases h), List.pairwise_cons.2 ⟨fun _ h => (by cases h), List.Pairwise.nil⟩⟩
   have H0 := Lib.hid (And.intro hbx3 (And.intro htr3 (show ¬ ownB (.slice a2 ks.length q2) w2.heap.size from fun e => by have := (hown2.lt _ e).2; omega)))
   have HB3 := Lib.hid (Below.trans (hb2.mono (show w'.heap.size + 1 ≤ W1.heap.size by omega)) (hb3.mono (by omega)))
   have HW3 := Lib.hid hW3
   clear hb2 hb2' hown2 nb2 hb3 hbx3 htr3 hW3
   go_wp2_with fail
   rw [← HW3.out]
   clear x1 x2 x3 x4 y1 y2 y3 y4
   go_loopw [18] (fun i wr => ∃ (j : Nat) (vk : Value) (P : Blocks), j ≤ cs.length ∧ i = .int .i64 j ∧ wr.heap[w2.heap.size]? = some (.cells #[.slice a2 ks.length q2, vk] 26 (0, 0)) ∧ TreeO wr (w'.heap.size + 1) P (.slice a2 ks.length q2) vk (.mk ks (cs.take j)) ∧ ¬ P w2.heap.size ∧ Below (w'.heap.size + 1) W1 wr) (fun i _ => cs.length - (intOf i).toNat)
   case atStart => exact ⟨0, _, _, Nat.zero_le _, rfl, H0.out.1, H0.out.2.1, H0.out.2.2, HB3.out⟩
   case round =>
     obtain ⟨j, vk, P, hj, rfl, hbx, htr, hP, hbel1⟩ := hrel
     have hbel : Below w'.heap.size w' wr := HB1.out.1.trans (hbel1.mono (by omega))
     by_cases hlt : j < cs.length
     · obtain ⟨cb, co, p, rfl, hcb, hcell, hcall⟩ := HAT.out j hlt
       have hcell' : wr.cell? ⟨cb, co + j, none⟩ = some (.pointer (some ⟨p, 0, none⟩)) := by rw [below_cell hbel (by omega)]; exact hcell
       obtain ⟨kids, hkt, hpk, hpc, hpx, psk, psc, pss, pap, plt⟩ := htr.parts
       have hlk : kids.length = j := by
         have := congrArg List.length hkt
         simp at this
         omega
       obtain ⟨ra, rc, hvk⟩ := TreesOwn.shown hpc
       rw [List.length_map, hlk] at hvk
       subst hvk
       have hrow : wr.ownsRow (w'.heap.size + 1) 26 2 (.slice ra j rc) j (flatT (kids.map KidO.pair)) := by
         have h := hpc
         unfold TreesOwn at h
         rw [List.length_map, hlk] at h
         exact h
       have hcl := hcall wr (HBW.out.trans (hbel.mono hB))
       have hszr := hbel.size
       have hlt2 : w2.heap.size < wr.heap.size := (Array.getElem?_eq_some_iff.1 hbx).1
       have ne1 : some w2.heap.size ≠ (Value.slice ra j rc).ownBlock := fun e => hP (psc _ e.symm)
       obtain ⟨u1, u2, u3, u4⟩ := box2 hbx
       have NE1 := Lib.hid ne1
       have HCALL := Lib.hid (hcall wr.drew (HBW.out.trans ((hbel.mono hB).drew)))
       have HPAR := Lib.hid (And.intro hpk (And.intro hpx (And.intro psk (And.intro psc (And.intro pss (And.intro pap plt))))))
       have HTR := Lib.hid (And.intro hbx (And.intro hkt (And.intro htr hP)))
       have HROW := Lib.hid hrow
       have HBEL := Lib.hid hbel1
       clear hbel1 hcell hcall hkt hpk hpc hpx psk psc pss pap plt hrow hcl ne1 hbx htr hP hbel
       go_wp2_with fail
       go_region_law
         (first
           | ((refine step_append_lies _ (by rfl) _ _ _ (by rfl) (w'.heap.size + 1) 26 i0 _ 2 48 Try.underlying24 hi0 hz0 hz1 hz2 rfl (by omega) _ j _ (by rfl) (H6.out.2.2.2.alloc _) ⟨w6.heap.size, 0, none⟩ 1 1 [.slice p1 p2 p3, .slice p4 p5 p6] (by rfl) (by rfl) (World.news_of_block (cs := #[.slice p1 p2 p3, .slice p4 p5 p6]) (t := 26) (fr := (0, 0)) (heap_alloc_new w6 _)) (by simp [Value.oneCell']) (by omega) (by unfold maxLen; omega) (by omega) (by simp; omega) (w6.heap.size + 1) (by simp) ?_; intro gg cap7 w7 hown7 hgrow7 hat7 hlt7; have v7c := (hgrow7.cell_far ⟨w2.heap.size, 1, none⟩ (by simp; omega) NE1.out).trans t2; have v7f := (hgrow7.frozen_far ⟨w2.heap.size, 1, none⟩ (by simp; omega) NE1.out).trans t4; have H7 := Lib.hid (And.intro hown7 (And.intro hgrow7 hat7)); clear hown7 hgrow7 hat7))
           | (go_simp; go_at_call 56; refine HCALL.out.mono ?_; rintro e w6 ⟨xk, xc, Q, rfl, htr6, hb6⟩; obtain ⟨p1, p2, p3, p4, p5, p6, rfl, rfl⟩ := htr6.tree.slices; have hs6 : wr.heap.size ≤ w6.heap.size := hb6.size; have j6 := (hb6.block w2.heap.size (by simp; omega)).trans HTR.out.1; obtain ⟨z1, z2, z3, z4⟩ := box2 j6; obtain ⟨t1, t2, t3, t4⟩ := box2 ((old_blk w6 (.cells #[.slice p1 p2 p3, .slice p4 p5 p6] 26) _ (by omega)).trans j6); have hr6 := ownsRow_same HROW.out (fun k h1 h2 => hb6.block k (by simp; omega)); have H6 := Lib.hid (And.intro htr6 (And.intro hb6 (And.intro j6 hr6))); clear htr6 hb6 j6 hr6))
       all_goals (
         go_wp2_with fail
         go_roundw
         case rel =>
           obtain ⟨P', g1, g2, g3, g4⟩ := treeO_step HTR.out.1 hlt HTR.out.2.1 (by omega) HTR.out.2.2.1 HTR.out.2.2.2 H6.out.1 (below_undrew H6.out.2.1) HPAR.out H7.out.1 H7.out.2.1 H7.out.2.2
           exact ⟨j + 1, _, P', by omega, by go_num, g1, g2, g3, HBEL.out.trans g4⟩
         case measure => simp [intOf]; omega)
     · obtain rfl : j = cs.length := by omega
       rw [List.take_length] at htr
       obtain ⟨_, _, va, vc, -, rfl⟩ := htr.shown
       have hrb := (hbel1.block w'.heap.size (by omega)).trans HB1.out.2.1
       obtain ⟨u1, u2, u3, u4⟩ := box2 hbx
       obtain ⟨r1, r2, r3, r4⟩ := box2 hrb
       have hszr := hbel.size
       have HTR := Lib.hid htr
       have HBEL := Lib.hid hbel
       have HRB := Lib.hid hrb
       clear htr hbel hbel1 hbx hrb
       go_wp2_with fail
       obtain ⟨wf, hwf⟩ : ∃ wf, wf = (wr.setCell ⟨w'.heap.size, 0, none⟩ (.slice a2 ks.length q2)).setCell ⟨w'.heap.size, 1, none⟩ (.slice va cs.length vc) := ⟨_, rfl⟩
       have hfb : wf.heap[w'.heap.size]? = some (.cells #[.slice a2 ks.length q2, .slice va cs.length vc] 26 (0, 0)) := by
         rw [hwf]; exact set_blk (o := 1) _ (set_blk (o := 0) _ HRB.out)
       obtain ⟨d1, d2, d3, d4⟩ := box2 hfb
       rw [← hwf]
       refine bodyPost_ret (v := .agg #[.slice a2 ks.length q2, .slice va cs.length vc]) (by simp [results, Try.results56, go_sem, d1, d2]) rfl ⟨_, _, P, rfl, ?_, ?_⟩
       · exact (HTR.out.same (w' := wf) (by rw [hwf]; simp) (fun q e => by have := (HTR.out.lt q e).1; rw [hwf, set_other _ _ _ _ _ (by omega), set_other _ _ _ _ _ (by omega)])).lower (by omega)
       · rw [hwf]; exact (HBEL.out.setCell (by show w'.heap.size ≤ w'.heap.size; omega) _).setCell (by show w'.heap.size ≤ w'.heap.size; omega) _
end Go.Proofs.Ytananonjomfpkaa
