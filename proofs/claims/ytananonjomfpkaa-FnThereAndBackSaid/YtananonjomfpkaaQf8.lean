/- A region that draws its order, by an invariant: what each operation of its head leaves, whenever it comes. -/
import Derived.Test.YtananonjomfpkaaQf7
import Derived.StillTail
/- The contract, over plain blocks, of the program's KeysOf. -/
namespace Go.Proofs.Ytananonjomfpkaa
open Go.RowKit
attribute [local go_sem] Oper.semAt_some
theorem ownsRow_keepA {w w' : World} {base : Nat} {e : TypeId} {size n : Nat} {v : Value} {xs : List Value} (h : w.ownsRow base e size v n xs) (hb : ∀ k, v.ownBlock = some k → w'.heap[k]? = w.heap[k]?) : w'.ownsRow base e size v n xs := by
 obtain ⟨h1, h2 | ⟨g, cap, cur, hv, hbb, hg, hr⟩⟩ := h
 · exact ⟨h1, .inl h2⟩
 · exact ⟨h1, .inr ⟨g, cap, cur, hv, hbb, (hb g (by rw [hv]; rfl)).trans hg, hr⟩⟩
set_option maxRecDepth 100000 in
set_option maxHeartbeats 4000000 in
theorem impl_keys_a {w' : World} {kv cv : Value} {t : Tr} (ht' : TreeA w' kv cv t) (hwt : t.weight ≤ 1048576) :
   Calls Try.prog 21 #[.agg #[kv, cv]] w' fun e w'' => ∃ v, e = .returned v ∧ IntsOwn w'' w'.heap.size v (t.keys) ∧ Below w'.heap.size w' w'' := by
 obtain ⟨sA1, sA2, sA3, sA4, sA5, sA6, rfl, rfl⟩ := ht'.slices
 obtain ⟨W1, hW1⟩ : ∃ W1, W1 = w'.alloc (.cells #[.slice sA1 sA2 sA3, .slice sA4 sA5 sA6] 26) := ⟨_, rfl⟩
 have hs1 : W1.heap.size = w'.heap.size + 1 := by rw [hW1]; simp
 have hb1 : Below w'.heap.size w' W1 := by rw [hW1]; exact (Below.refl _ _).alloc (Nat.le_refl _) _
 have kb : W1.heap[w'.heap.size]? = some (.cells #[.slice sA1 sA2 sA3, .slice sA4 sA5 sA6] 26 (0, 0)) := by rw [hW1, new_blk]
 obtain ⟨a, ha1, ha2, ha3, ha4⟩ := (ht'.later hb1 (Nat.le_refl _)).at w'.heap.size 0 ⟨_, _, kb⟩ (box2 kb).1 (box2 kb).2.1
 have haw : a.weight ≤ 1048576 := by unfold ATr.weight; rw [ha3]; exact hwt
 have hit := steps_iter ha4 haw
 have had : a.addr = ⟨w'.heap.size, 0, none⟩ := by unfold ATr.addr; rw [ha1, ha2]
 rw [had] at hit
 have hcnt := keysOf_evs a.weight a (Nat.le_refl _)
 rw [ha3] at hcnt
 have hcl : t.keys.length ≤ 1048576 := by have := Tr.keys_length_le t; omega
 obtain ⟨i0, hi0, hz0, hz1, hz2⟩ := info_parts Try.appInfo
 have HIT := Lib.hid hit
 have HCNT := Lib.hid hcnt
 have HW1 := Lib.hid hW1
 have HB1 := Lib.hid hb1
 clear hit hcnt hW1 hb1 kb ht' ha1 ha2 ha3 ha4 haw had
 refine (callsIn_wide (n := 9)).1 (callsIn_of_wp_marks Try.func21 rfl trivial ?_ rfl)
 simp only [Try.ntmps21, List.size_toArray, List.length_cons, List.length_nil, Nat.reduceAdd, Nat.reduceSub, Array.replicate_succ, Array.replicate_zero, List.push_toArray, List.append_toArray, List.nil_append, List.cons_append]
 gi_wp2
 rw [← HW1.out]
 obtain ⟨W2, hW2⟩ : ∃ W2, W2 = W1.alloc (.cells #[.slice none 0 0] 23) := ⟨_, rfl⟩
 rw [← hW2]
 have hs2 : W2.heap.size = w'.heap.size + 2 := by rw [hW2]; simp; omega
 have hk2 : ∀ K, Keep K W1 W2 := fun K => by rw [hW2]; exact Keep.alloc K _ _
 have b3 : W2.heap[w'.heap.size + 1]? = some (.cells #[.slice none 0 0] 23 (0, 0)) := by rw [hW2, ← hs1]; exact new_blk _ _
 have B3 := Lib.hid b3
 clear hW2 b3
 refine wp_loopA (fb := #[.pointer (some ⟨w'.heap.size, 0, none⟩)]) (lb := #[]) rfl (enters_of Try.func66 (by kernel_rfl) rfl) HIT.out (hk2 _) (fun x => by cases x <;> rfl)
   (fun k => k < W1.heap.size) (fun k h => h) (fun k h => by omega)
   (fun pre Pv W => ¬ Pv (w'.heap.size + 1) ∧ ∃ v, W.heap[w'.heap.size + 1]? = some (.cells #[v] 23 (0, 0)) ∧ IntsOwn W (w'.heap.size + 2) v (keysOf pre) ∧ ∀ k, v.ownBlock = some k → ¬ Pv k)
   (fun c pre Pv W => False)
   (fun pre Pv A Pv' B h hk hp => by
     obtain ⟨h1, v, h2, h3, h4⟩ := h
     have l2 := (Array.getElem?_eq_some_iff.1 h2).1
     refine ⟨fun h => ?_, v, (hk.block _ l2 h1).trans h2, ownsRow_keepA h3 (fun k e => hk.block _ (h3.lt k e).2 (h4 k e)), fun k e h => ?_⟩
     · rcases hp _ h with h | h
       · exact h1 h
       · omega
     · rcases hp _ h with h | h
       · exact h4 k e h
       · have := (h3.lt k e).2; omega)
   (fun c pre Pv A Pv' B h hk hp => h)
   ⟨by omega, _, B3.out, ⟨rfl, .inl ⟨rfl, rfl⟩⟩, fun k e => by cases e⟩
   (fun x a' Pv W => ∃ bx, ¬ Pv bx ∧ bx ≠ w'.heap.size + 1 ∧ W.heap[bx]? = some (.cells #[.pointer (some x.node.addr), .int .i64 x.what, .int .i64 x.kk] 87 (0, 0)) ∧
     a' = { tmps := #[.agg #[.slice sA1 sA2 sA3, .slice sA4 sA5 sA6], .pointer (some ⟨w'.heap.size, 0, none⟩), .slice none 0 0, .pointer (some ⟨w'.heap.size + 1, 0, none⟩), .pointer (some ⟨bx, 0, none⟩), .func (.func 66) #[.pointer (some ⟨w'.heap.size, 0, none⟩)] #[], .agg #[.pointer (some x.node.addr), .int .i64 x.what, .int .i64 x.kk], undef, undef, undef, undef, undef, undef, undef, undef, undef], defers := [] })
   (fun x a' Pv A B h hk => by
     obtain ⟨bx, h1, h2, h3, h4⟩ := h
     exact ⟨bx, h1, h2, (hk.block _ (Array.getElem?_eq_some_iff.1 h3).1 h1).trans h3, h4⟩)
   ?assign ?body ?done ?stop
 case assign =>
   intro l m pre x Pv W hI hbnd
   rw [Step.enc_eq]
   obtain ⟨h1, v, h2, h3, h4⟩ := hI
   have HI' := Lib.hid (And.intro h2 (And.intro h3 h4))
   have HB := Lib.hid hbnd
   clear h2 h3 h4 hbnd
   gi_wp2
   have hlt := (Array.getElem?_eq_some_iff.1 HI'.out.1).1
   refine ⟨Keep.alloc _ _ _, ⟨h1, v, (old_blk _ _ _ hlt).trans HI'.out.1, IntsOwn.alloc' HI'.out.2.1 _, HI'.out.2.2⟩, W.heap.size, fun h => ?_, by omega, new_blk _ _, rfl⟩
   have := HB.out _ h
   omega
 case body =>
   rintro l m pre x a' Pv W ⟨h1, v, h2, h3, h4⟩ ⟨bx, h5', h6, h7, rfl⟩ hkW hsub hbnd hp
   obtain ⟨va, vc, rfl⟩ := IntsOwn.shown h3
   obtain ⟨c1, f1⟩ := box1 h2
   have c2 : W.cell? ⟨bx, 1, none⟩ = some (.int .i64 x.what) := by simp [World.cell?, h7]
   have c3 : W.cell? ⟨bx, 2, none⟩ = some (.int .i64 x.kk) := by simp [World.cell?, h7]
   have hle : (keysOf pre).length + (keysOf [x]).length ≤ 1048576 := by
     obtain ⟨r, hr⟩ := hp
     have := HCNT.out
     rw [← hr, keysOf_append, keysOf_append] at this
     have h := congrArg List.length this
     simp only [List.length_append] at h
     omega
   have hnx : keysOf (pre ++ [x]) = keysOf pre ++ keysOf [x] := keysOf_append _ _
   have hszW : w'.heap.size + 2 ≤ W.heap.size := by have := hkW.size; omega
   have HNX := Lib.hid hnx
   have HH := Lib.hid (And.intro h2 (And.intro h3 h4))
   have HBND := Lib.hid hbnd
   clear hnx h2 h3 h4 h7 hp hsub hbnd hkW
   cases x with
   | beg b =>
     have hb : keysOf (pre ++ [Step.beg b]) = keysOf pre := by rw [HNX.out]; simp [keysOf]
     have HBB := Lib.hid hb
     clear hb
     dsimp only [Step.what] at c2
     gi_wp2
     refine ⟨Keep.refl _ _, h1, _, HH.out.1, ?_, HH.out.2.2⟩
     rw [HBB.out]
     exact HH.out.2.1
   | fin b =>
     have hb : keysOf (pre ++ [Step.fin b]) = keysOf pre := by rw [HNX.out]; simp [keysOf]
     have HBB := Lib.hid hb
     clear hb
     dsimp only [Step.what] at c2
     gi_wp2
     refine ⟨Keep.refl _ _, h1, _, HH.out.1, ?_, HH.out.2.2⟩
     rw [HBB.out]
     exact HH.out.2.1
   | key b k =>
     have hb : keysOf (pre ++ [Step.key b k]) = keysOf pre ++ [k] := by rw [HNX.out]; rfl
     have HBB := Lib.hid hb
     have hle' : (keysOf pre).length + 1 ≤ 1048576 := hle
     clear hb hle
     dsimp only [Step.what] at c2
     dsimp only [Step.kk] at c3
     have hown : (W.alloc (.cells #[.int .i64 k] 3)).ownsRow (w'.heap.size + 2) 3 1 (.slice va (keysOf pre).length vc) (keysOf pre).length ((keysOf pre).map (Value.int .i64)) := IntsOwn.alloc' HH.out.2.1 _
     have hbase : w'.heap.size + 2 ≤ (W.alloc (.cells #[.int .i64 k] 3)).heap.size := by simp; omega
     have HOWN := Lib.hid hown
     have HBASE := Lib.hid hbase
     clear hown hbase
     gi_wp2_with (gi_at_builtin; refine wpListIn_append_own_at _ (by rfl) _ _ _ (by rfl) (w'.heap.size + 2) 3 i0 _ 1 8 Try.underlying23 hi0 hz0 hz1 hz2 rfl (by decide) (.slice va (keysOf pre).length vc) (keysOf pre).length ((keysOf pre).map (Value.int .i64)) (by rfl) HOWN.out ⟨W.heap.size, 0, none⟩ 1 1 [.int .i64 k] (by rfl) (by rfl) (World.news_of_block (cs := #[.int .i64 k]) (t := 3) (fr := (0, 0)) (heap_alloc_new W _)) (by simp [Value.oneCell']) (by unfold maxLen; omega) (by omega) HBASE.out ?_; intro v8 w8 hown8 hgrow8 hnil8 hat8; obtain ⟨g8, cap8, rfl, _, _⟩ := hown8.form (by omega); have c1' := (hgrow8.cell_far ⟨w'.heap.size + 1, 0, none⟩ (by simp; omega) (fun e => absurd (show w'.heap.size + 2 ≤ w'.heap.size + 1 from (HOWN.out.lt _ e.symm).1) (by omega))).trans ((cell_of_blk (old_blk _ _ _ (by omega))).trans c1); have f1' := (hgrow8.frozen_far ⟨w'.heap.size + 1, 0, none⟩ (by simp; omega) (fun e => absurd (show w'.heap.size + 2 ≤ w'.heap.size + 1 from (HOWN.out.lt _ e.symm).1) (by omega))).trans ((World.frozen?_of_block (w := W) (old_blk _ _ _ (show w'.heap.size + 1 < W.heap.size by omega))).trans f1); have H8 := Lib.hid (And.intro hown8 (And.intro hgrow8 hat8)); clear hown8 hgrow8 hat8 hnil8)
     have hs8 : W.heap.size + 1 ≤ w8.heap.size := by have := H8.out.2.1.size; simpa using this
     have hold : ∀ q, q < W.heap.size → (Value.slice va (keysOf pre).length vc).ownBlock ≠ some q → w8.heap[q]? = W.heap[q]? := fun q h1 h2 => by
       rw [H8.out.2.1.block q (by simp; omega) (fun e => h2 e.symm), old_blk _ _ _ h1]
     have hob : ∀ q, (Value.slice va (keysOf pre).length vc).ownBlock = some q → w'.heap.size + 2 ≤ q := fun q h => (HOWN.out.lt q h).1
     have hk8 : Keep Pv W w8 := ⟨H8.out.2.1.os, H8.out.2.1.tape, H8.out.2.1.output, by omega, fun q h1 h2 => hold q h1 (fun e => HH.out.2.2 q e h2)⟩
     refine ⟨hk8.trans (Keep.setCell _ _ _ _ h1), h1, _, set_blk (o := 0) _ ((hold _ (by omega) (fun e => by have := hob _ e; omega)).trans HH.out.1), ?_, fun q e h => ?_⟩
     · rw [HBB.out]
       unfold IntsOwn
       rw [List.length_append, List.map_append]
       exact ownsRow_same H8.out.1 (fun q _ hq => set_other _ _ _ _ _ (by omega))
     · simp only [Value.ownBlock, Option.some.injEq] at e
       subst e
       rcases H8.out.2.2 with h' | h'
       · exact HH.out.2.2 _ h'.symm h
       · simp only [Value.ownBlock, Option.some.injEq, World.size_alloc] at h'
         have := HBND.out _ h
         omega
 case done =>
   intro W3 hk3 hI hlt hD
   obtain ⟨h1, v, h2, h3, h4⟩ := hI
   rw [HCNT.out] at h3
   obtain ⟨va, vc, rfl⟩ := IntsOwn.shown h3
   obtain ⟨c1, f1⟩ := box1 h2
   rw [hs2] at hD
   have hD4 : ∀ q, (Value.slice va t.keys.length vc).ownBlock = some q → q ≠ w'.heap.size + 2 := fun q e e2 => h4 q e (.inr (.inl (by omega)))
   have HD := Lib.hid hD
   have HH := Lib.hid (And.intro h3 hD4)
   clear h2 h3 h4 hD hD4
   gi_wp2
   refine ⟨by simp, .inl ⟨_, _, rfl, run_takeDeferred HD.out, ?_⟩⟩
   refine ⟨_, results_tmp rfl _ _ _, _, rfl, ?_, ?_⟩
   · exact IntsOwn.lower (lo := w'.heap.size + 2) (ownsRow_keepA HH.out.1 (fun q e => World.putObj_heap_other (HH.out.2 q e))) (by omega)
   · have hk5 : Keep (fun k => k < W1.heap.size) W3 (W3.putObj (w'.heap.size + 2) (.deferred none)) := Keep.putObj _ _ _ _ (by omega)
     exact HB1.out.trans ((((hk2 _).trans hk3).trans hk5).below (B := w'.heap.size) (by omega) (fun k h => by omega))
 case stop =>
   rintro c pre' W3 hk3 hp h hlt hD
   exact h.elim
end Go.Proofs.Ytananonjomfpkaa
/- A region that draws its order, by an invariant: what each operation of its head leaves, whenever it comes. -/
namespace Go.Proofs.Ytananonjomfpkaa
section
variable {P : Program} {ops : Array Oper} {md : Region.Mode}
def left (listed : Array Bool) : Nat → Nat
 | 0 => 0
 | n + 1 => left listed n + (if listed.getD n true = false then 1 else 0)
theorem left_set {listed : Array Bool} {i : Nat} (hi : listed.getD i true = false) (hs : i < listed.size) : ∀ n, left (listed.setIfInBounds i true) n + (if i < n then 1 else 0) = left listed n
 | 0 => by simp [left]
 | n + 1 => by
   have ih := left_set hi hs n
   unfold left
   by_cases h : i = n
   · subst h
     have e : (listed.setIfInBounds i true).getD i true = true := by simp [hs]
     rw [e, hi]
     rw [if_neg (by omega)] at ih
     rw [if_neg (by simp), if_pos rfl, if_pos (by omega)]
     omega
   · have e : (listed.setIfInBounds i true).getD n true = listed.getD n true := getD_set_ne true h
     rw [e]
     by_cases hin : i < n
     · rw [if_pos hin] at ih
       rw [if_pos (show i < n + 1 by omega)]
       omega
     · rw [if_neg hin] at ih
       rw [if_neg (show ¬ i < n + 1 by omega)]
       omega
theorem left_zero {listed : Array Bool} : ∀ n, left listed n = 0 → ∀ j, j < n → listed.getD j true = true
 | 0, _, j, hj => by omega
 | n + 1, h, j, hj => by
   simp only [left] at h
   by_cases e : j = n
   · subst e
     cases hh : listed.getD j true with
     | true => rfl
     | false => rw [hh] at h; simp at h
   · exact left_zero n (by omega) j (by omega)
theorem left_pos {listed : Array Bool} : ∀ n, 0 < left listed n → ∃ j, j < n ∧ listed.getD j true = false
 | 0, h => by simp [left] at h
 | n + 1, h => by
   simp only [left] at h
   by_cases e : listed.getD n true = false
   · exact ⟨n, by omega, e⟩
   · rw [if_neg e] at h
     obtain ⟨j, h1, h2⟩ := left_pos n (by omega)
     exact ⟨j, by omega, h2⟩
def headDone (n m : Nat) : Array Bool := Array.ofFn (fun i : Fin m => decide (i.val < n))
def backB (md : Region.Mode) (ops : Array Oper) : Bool := (List.range ops.size).all fun j => ((ops[j]?).map fun o => o.after.all fun e => !Region.binds md e || decide (e.on < j)).getD true
theorem ready_some {n : Nat} {listed : Array Bool} (hb : backB md ops = true) (inv : HeadInv md ops n listed) (hn : n ≤ ops.size) : ∀ j, j < n → listed.getD j true = false → Region.ready md ops listed ≠ [] := by
 intro j
 induction j using Nat.strongRecOn with
 | _ j ih =>
   intro hj hu
   by_cases h : ∃ i, i < j ∧ listed.getD i true = false
   · obtain ⟨i, h1, h2⟩ := h
     exact ih i h1 (by omega) h2
   · intro hr
     have hjs : j < ops.size := by omega
     have hm : j ∈ Region.ready md ops listed := by
       refine mem_ready.2 ⟨hu, ops[j], Array.getElem?_eq_getElem hjs, fun e he hbd => ?_⟩
       have h1 := List.all_eq_true.1 hb j (List.mem_range.2 hjs)
       rw [Array.getElem?_eq_getElem hjs] at h1
       simp only [Option.map_some, Option.getD_some] at h1
       have h2 := Array.all_eq_true'.1 h1 e he
       have h3 : e.on < j := by simpa [hbd] using h2
       have h4 : listed.getD e.on true = true := by
         cases hh : listed.getD e.on true with
         | true => rfl
         | false => exact absurd ⟨e.on, h3, hh⟩ h
       have h5 : e.on < listed.size := by rw [inv.size]; omega
       simp [h5] at h4 ⊢
       exact h4
     rw [hr] at hm
     cases hm
theorem wpAny_head {Q : Exit → Act → World → Prop} {n : Nat} (hs : Region.sinkB md ops n = true) (hc : Region.chainB md ops n = true) (hn : n < ops.size)
   (B : Act → World → Prop) (I : Nat → Act → World → Prop)
   (hback : backB md ops = true)
   (hg : ∀ i oi, i < n → ops[i]? = some oi → oi.guard = none)
   (hstep : ∀ i oi, i < n → ops[i]? = some oi → ∀ a w, B a w → (∀ e, e ∈ oi.after → Region.binds md e = true → I e.on a w) →
     Oper.wp P oi a w (fun a' w' => B a' w' ∧ I i a' w' ∧ ∀ j, j < n → j ≠ i → I j a w → I j a' w') Q)
   (htail : ∀ a w, B a w → (∀ j, j < n → I j a w) → wpAny P md ops Q (ops.size - n) (headDone n ops.size) a w) :
   ∀ (d : Nat) (listed : Array Bool) (a : Act) (w : World), HeadInv md ops n listed → left listed n = d → B a w → (∀ j, j < n → listed.getD j true = true → I j a w) →
     wpAny P md ops Q (d + (ops.size - n)) listed a w := by
 intro d
 induction d with
 | zero =>
   intro listed a w inv hl hB hI
   have hall := left_zero n hl
   have e : listed = headDone n ops.size := by
     apply Array.ext
     · rw [inv.size]; simp [headDone]
     · intro i h1 h2
       have hsz := inv.size
       by_cases hi : i < n
       · have := hall i hi
         simp [h1] at this
         simp [headDone, hi, this]
       · have := inv.tail i (by omega) (by omega)
         simp [h1] at this
         simp [headDone, hi, this]
   rw [e, Nat.zero_add]
   exact htail a w hB (fun j hj => hI j hj (hall j hj))
 | succ d ih =>
   intro listed a w inv hl hB hI
   obtain ⟨j0, hj0, hu0⟩ := left_pos n (by omega : 0 < left listed n)
   rw [show d + 1 + (ops.size - n) = (d + (ops.size - n)) + 1 by omega]
   refine ⟨fun hr => ?_, fun i hi => ?_⟩
   · exact absurd hr (ready_some hback inv (by omega) j0 hj0 hu0)
   · have hin : i < n := by
       rcases Nat.lt_or_ge i n with h | h
       · exact h
       · exact absurd hi (tail_waits hs hc hn inv _ j0 rfl hj0 hu0 i h)
     obtain ⟨hu, oi, hoi, hall⟩ := mem_ready.1 hi
     have hst := hstep i oi hin hoi a w hB (fun e he hb => ?_)
     · unfold wpOp
       rw [hoi]
       have hw : Region.wanted oi (yielded ops a.tmps) = true := by simp [Region.wanted, hg i oi hin hoi]
       simp only [hw, if_true]
       left
       refine Oper.wp_mono (fun a' w' h => ?_) hst
       obtain ⟨h1, h2, h3⟩ := h
       have hisz : i < listed.size := by rw [inv.size]; omega
       have hls := left_set hu hisz n
       rw [if_pos hin] at hls
       refine ih _ a' w' (inv.set hi hin) (by omega) h1 (fun j hj hlj => ?_)
       by_cases e : j = i
       · subst e; exact h2
       · refine h3 j hj e (hI j hj ?_)
         exact (getD_set_ne true (Ne.symm e)).symm.trans hlj
     · have hl2 := hall e he hb
       have hlt : e.on < n := by
         rcases Nat.lt_or_ge e.on n with h | h
         · exact h
         · have := inv.tail e.on h (by
             rcases Nat.lt_or_ge e.on listed.size with h' | h'
             · rw [inv.size] at h'; exact h'
             · simp [Array.getElem?_eq_none h'] at hl2)
           exfalso
           rcases Nat.lt_or_ge e.on listed.size with h' | h'
           · simp [h'] at this hl2; rw [this] at hl2; cases hl2
           · simp [Array.getElem?_eq_none h'] at hl2
       refine hI e.on hlt ?_
       rcases Nat.lt_or_ge e.on listed.size with h' | h'
       · simp [h'] at hl2 ⊢; exact hl2
       · simp [Array.getElem?_eq_none h'] at hl2
structure Agree (a0 a : Act) (sl : Nat → Nat) (n : Nat) : Prop where
 defers : a.defers = a0.defers
 size : a.tmps.size = a0.tmps.size
 other : ∀ j, (∀ i, i < n → sl i ≠ j) → a.tmps[j]? = a0.tmps[j]?
theorem Agree.put {a0 a : Act} {sl : Nat → Nat} {n i : Nat} (h : Agree a0 a sl n) (hi : i < n) (v : Value) : Agree a0 (a.put (some (sl i)) v) sl n := by
 refine ⟨h.defers, by simp [Act.put, h.size], fun j hj => ?_⟩
 have := hj i hi
 simp only [Act.put]
 rw [Array.getElem?_setIfInBounds_ne this]
 exact h.other j hj
theorem foldl_set (a : Act) (sl : Nat → Nat) : ∀ (L : List Nat) (t : Array Value) (j : Nat), t.size = a.tmps.size →
   (L.foldl (fun t i => t.setIfInBounds (sl i) (a.tmps[sl i]?.getD undef)) t)[j]? = (if ∃ i, i ∈ L ∧ sl i = j then a.tmps[j]? else t[j]?)
 | [], t, j, _ => by simp
 | i :: L, t, j, hz => by
   rw [List.foldl_cons, foldl_set a sl L _ j (by simpa using hz)]
   by_cases h1 : ∃ i, i ∈ L ∧ sl i = j
   · rw [if_pos h1, if_pos (by obtain ⟨q, h2, h3⟩ := h1; exact ⟨q, by simp [h2], h3⟩)]
   · rw [if_neg h1]
     by_cases h2 : sl i = j
     · rw [if_pos ⟨i, by simp, h2⟩, h2]
       by_cases h3 : j < t.size
       · rw [Array.getElem?_setIfInBounds_self_of_lt h3]
         have : j < a.tmps.size := by omega
         simp [this]
       · rw [Array.getElem?_eq_none (by simp; omega), Array.getElem?_eq_none (by omega)]
     · rw [if_neg (by rintro ⟨q, h3, h4⟩; rcases List.mem_cons.1 h3 with rfl | h3; exact h2 h4; exact h1 ⟨q, h3, h4⟩), Array.getElem?_setIfInBounds_ne h2]
theorem Agree.eq {a0 a : Act} {sl : Nat → Nat} {n : Nat} (h : Agree a0 a sl n) : a = { tmps := (List.range n).foldl (fun t i => t.setIfInBounds (sl i) (a.tmps[sl i]?.getD undef)) a0.tmps, defers := a0.defers } := by
 obtain ⟨t, d⟩ := a
 have h1 := h.defers
 dsimp only at h1
 subst h1
 congr 1
 apply Array.ext_getElem?
 intro j
 rw [foldl_set ⟨t, a0.defers⟩ sl (List.range n) a0.tmps j h.size.symm]
 by_cases hj : ∃ i, i ∈ List.range n ∧ sl i = j
 · rw [if_pos hj]
 · rw [if_neg hj]
   exact h.other j (fun i hi e => hj ⟨i, List.mem_range.2 hi, e⟩)
structure News (al : Nat → Bool) (sl : Nat → Nat) (n : Nat) (a : Act) (w : World) : Prop where
 low : ∀ j, j < n → al j = true → a.tmps[sl j]?.getD undef = undef ∨ ∃ p, a.tmps[sl j]?.getD undef = .pointer (some ⟨p, 0, none⟩) ∧ p < w.heap.size
 apart : ∀ i j, i < n → j < n → i ≠ j → al i = true → al j = true → ∀ p, a.tmps[sl i]?.getD undef = .pointer (some ⟨p, 0, none⟩) → a.tmps[sl j]?.getD undef ≠ .pointer (some ⟨p, 0, none⟩)
theorem wp_region_head {rid : Nat} {a0 : Act} {w0 : World} {Q : Exit → Act → World → Prop} {n : Nat} (hm : P.follows .mixedOrders = true) (hs : Region.sinkB .any ops n = true) (hc : Region.chainB .any ops n = true) (hn : n < ops.size) (hback : backB .any ops = true)
   (sl : Nat → Nat) (hsl : ∀ i j, i < n → j < n → sl i = sl j → i = j) (R : World → World → Prop) (hRr : ∀ w, R w w) (hRt : ∀ a b c, R a b → R b c → R a c) (hRs : ∀ a b, R a b → a.heap.size ≤ b.heap.size)
   (al : Nat → Bool) (ha0 : ∀ j, j < n → al j = true → a0.tmps[sl j]?.getD undef = undef)
   (J : Nat → Value → World → Prop) (hJ : ∀ j v w w', J j v w → R w w' → J j v w')
   (hg : ∀ i oi, i < n → ops[i]? = some oi → oi.guard = none ∧ oi.dst = some (sl i))
   (hstep : ∀ i oi, i < n → ops[i]? = some oi → ∀ a w, Agree a0 a sl n → R w0.drew w → (∀ e, e ∈ oi.after → Region.binds .any e = true → J e.on (a.tmps[sl e.on]?.getD undef) w) →
     Oper.wp P oi a w (fun a' w' => ∃ v, a' = a.put oi.dst v ∧ sl i < a.tmps.size ∧ J i v w' ∧ R w w' ∧ (al i = true → v = .pointer (some ⟨w.heap.size, 0, none⟩) ∧ w.heap.size < w'.heap.size)) Q)
   (htail : ∀ a w, Agree a0 a sl n → R w0.drew w → News al sl n a w → (∀ j, j < n → J j (a.tmps[sl j]?.getD undef) w) → wpAny P .any ops Q (ops.size - n) (headDone n ops.size) a w) :
   (Code.region rid ops true).wp P Q a0 w0 := by
 refine wp_region_any hm ?_
 have h := wpAny_head (P := P) (ops := ops) (md := .any) (Q := Q) hs hc hn (fun a w => Agree a0 a sl n ∧ R w0.drew w ∧ News al sl n a w) (fun j a w => J j (a.tmps[sl j]?.getD undef) w) hback
   (fun i oi hi ho => (hg i oi hi ho).1)
   (fun i oi hi ho a w hB hI => by
     refine Oper.wp_mono (fun a' w' h => ?_) (hstep i oi hi ho a w hB.1 hB.2.1 hI)
     obtain ⟨v, rfl, hsz, hv, hR, hal⟩ := h
     rw [(hg i oi hi ho).2]
     have hself : (a.put (some (sl i)) v).tmps[sl i]?.getD undef = v := by
       simp only [Act.put]
       rw [Array.getElem?_setIfInBounds_self_of_lt hsz]
       rfl
     have hoth : ∀ j, j < n → j ≠ i → (a.put (some (sl i)) v).tmps[sl j]?.getD undef = a.tmps[sl j]?.getD undef := fun j hj hne => by
       simp only [Act.put]
       rw [Array.getElem?_setIfInBounds_ne (fun e => hne (hsl j i hj hi e.symm))]
     have hgrow := hRs _ _ hR
     refine ⟨⟨hB.1.put hi v, hRt _ _ _ hB.2.1 hR, ⟨fun j hj haj => ?_, fun q j hq hj hne haq haj p hp hp2 => ?_⟩⟩, ?_, fun j hj hne hIj => ?_⟩
     · by_cases e : j = i
       · subst e
         rw [hself]
         obtain ⟨h1, h2⟩ := hal haj
         exact .inr ⟨_, h1, h2⟩
       · rw [hoth j hj e]
         exact (hB.2.2.low j hj haj).imp id (fun ⟨p, h1, h2⟩ => ⟨p, h1, by omega⟩)
     · by_cases e : q = i
       · subst e
         rw [hself] at hp
         rw [hoth j hj (Ne.symm hne)] at hp2
         obtain ⟨h1, _⟩ := hal haq
         rw [h1] at hp
         rcases hB.2.2.low j hj haj with h | ⟨p', h3, h4⟩
         · rw [h] at hp2; cases hp2
         · rw [h3] at hp2
           simp only [Value.pointer.injEq, Option.some.injEq, Addr.mk.injEq, and_true] at hp hp2
           omega
       · rw [hoth q hq e] at hp
         by_cases e2 : j = i
         · subst e2
           rw [hself] at hp2
           obtain ⟨h1, _⟩ := hal haj
           rw [h1] at hp2
           rcases hB.2.2.low q hq haq with h | ⟨p', h3, h4⟩
           · rw [h] at hp; cases hp
           · rw [h3] at hp
             simp only [Value.pointer.injEq, Option.some.injEq, Addr.mk.injEq, and_true] at hp hp2
             omega
         · rw [hoth j hj e2] at hp2
           exact hB.2.2.apart q j hq hj hne haq haj p hp hp2
     · rw [hself]; exact hv
     · rw [hoth j hj hne]
       exact hJ j _ w w' hIj hR)
   (fun a w hB hI => htail a w hB.1 hB.2.1 hB.2.2 hI) n (Array.replicate ops.size false) a0 w0.drew
   ⟨by simp, fun j oj _ hl => (by rw [getD_replicate_false] at hl; exact absurd hl (by simp)), fun t _ ht => (by simp [ht])⟩ ?_
   ⟨⟨rfl, rfl, fun _ _ => rfl⟩, hRr _, ⟨fun j hj haj => .inl (ha0 j hj haj), fun q j hq hj hne haq haj p hp => by rw [ha0 q hq haq] at hp; cases hp⟩⟩ (fun j hj hl => ?_)
 · rw [show n + (ops.size - n) = ops.size by omega] at h
   exact h
 · have : ∀ m, m ≤ ops.size → left (Array.replicate ops.size false) m = m := by
     intro m
     induction m with
     | zero => intro _; rfl
     | succ m ih => intro hm; unfold left; rw [ih (by omega)]; simp [show m < ops.size by omega]
   exact this n (by omega)
 · simp [show j < ops.size by omega] at hl
end
end Go.Proofs.Ytananonjomfpkaa
