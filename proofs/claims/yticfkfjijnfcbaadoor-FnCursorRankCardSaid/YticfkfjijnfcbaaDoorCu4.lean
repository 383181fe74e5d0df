/- A region that draws its order and holds one operation that turns more than the others: an invariant with what holds before and behind it. -/
import Derived.Test.YticfkfjijnfcbaaDoorProg
import Derived.StillTail
/- A region that draws its order, by an invariant: what each operation of its head leaves, whenever it comes. -/
namespace Go.Proofs.YticfkfjijnfcbaaDoor
section
variable {P : Program} {ops : Array Oper} {md : Region.Mode}
def left (listed : Array Bool) : Nat → Nat
 | 0 => 0
 | n + 1 => left listed n + (if listed.getD n true = false then 1 else 0)
theorem left_set {listed : Array Bool} {i : Nat} (hi : listed.getD i true = false) (hs : i < listed.size) : ∀ n, left (listed.setIfInBounds i true) n + (if i < n then 1 else 0) = left listed n
 | 0 => by simp [left]
 | n + 1 => by
   have ih := left_set hi hs n
   unfold left
   by_cases h : i = n
   · subst h
     have e : (listed.setIfInBounds i true).getD i true = true := by simp [hs]
     rw [e, hi]
     rw [if_neg (by omega)] at ih
     rw [if_neg (by simp), if_pos rfl, if_pos (by omega)]
     omega
   · have e : (listed.setIfInBounds i true).getD n true = listed.getD n true := getD_set_ne true h
     rw [e]
     by_cases hin : i < n
     · rw [if_pos hin] at ih
       rw [if_pos (show i < n + 1 by omega)]
       omega
     · rw [if_neg hin] at ih
       rw [if_neg (show ¬ i < n + 1 by omega)]
       omega
theorem left_zero {listed : Array Bool} : ∀ n, left listed n = 0 → ∀ j, j < n → listed.getD j true = true
 | 0, _, j, hj => by omega
 | n + 1, h, j, hj => by
   simp only [left] at h
   by_cases e : j = n
   · subst e
     cases hh : listed.getD j true with
     | true => rfl
     | false => rw [hh] at h; simp at h
   · exact left_zero n (by omega) j (by omega)
theorem left_pos {listed : Array Bool} : ∀ n, 0 < left listed n → ∃ j, j < n ∧ listed.getD j true = false
 | 0, h => by simp [left] at h
 | n + 1, h => by
   simp only [left] at h
   by_cases e : listed.getD n true = false
   · exact ⟨n, by omega, e⟩
   · rw [if_neg e] at h
     obtain ⟨j, h1, h2⟩ := left_pos n (by omega)
     exact ⟨j, by omega, h2⟩
def headDone (n m : Nat) : Array Bool := Array.ofFn (fun i : Fin m => decide (i.val < n))
def backB (md : Region.Mode) (ops : Array Oper) : Bool := (List.range ops.size).all fun j => ((ops[j]?).map fun o => o.after.all fun e => !Region.binds md e || decide (e.on < j)).getD true
theorem ready_some {n : Nat} {listed : Array Bool} (hb : backB md ops = true) (inv : HeadInv md ops n listed) (hn : n ≤ ops.size) : ∀ j, j < n → listed.getD j true = false → Region.ready md ops listed ≠ [] := by
 intro j
 induction j using Nat.strongRecOn with
 | _ j ih =>
   intro hj hu
   by_cases h : ∃ i, i < j ∧ listed.getD i true = false
   · obtain ⟨i, h1, h2⟩ := h
     exact ih i h1 (by omega) h2
   · intro hr
     have hjs : j < ops.size := by omega
     have hm : j ∈ Region.ready md ops listed := by
       refine mem_ready.2 ⟨hu, ops[j], Array.getElem?_eq_getElem hjs, fun e he hbd => ?_⟩
       have h1 := List.all_eq_true.1 hb j (List.mem_range.2 hjs)
       rw [Array.getElem?_eq_getElem hjs] at h1
       simp only [Option.map_some, Option.getD_some] at h1
       have h2 := Array.all_eq_true'.1 h1 e he
       have h3 : e.on < j := by simpa [hbd] using h2
       have h4 : listed.getD e.on true = true := by
         cases hh : listed.getD e.on true with
         | true => rfl
         | false => exact absurd ⟨e.on, h3, hh⟩ h
       have h5 : e.on < listed.size := by rw [inv.size]; omega
       simp [h5] at h4 ⊢
       exact h4
     rw [hr] at hm
     cases hm
theorem wpAny_head {Q : Exit → Act → World → Prop} {n : Nat} (hs : Region.sinkB md ops n = true) (hc : Region.chainB md ops n = true) (hn : n < ops.size)
   (B : Act → World → Prop) (I : Nat → Act → World → Prop)
   (hback : backB md ops = true)
   (hg : ∀ i oi, i < n → ops[i]? = some oi → oi.guard = none)
   (hstep : ∀ i oi, i < n → ops[i]? = some oi → ∀ a w, B a w → (∀ e, e ∈ oi.after → Region.binds md e = true → I e.on a w) →
     Oper.wp P oi a w (fun a' w' => B a' w' ∧ I i a' w' ∧ ∀ j, j < n → j ≠ i → I j a w → I j a' w') Q)
   (htail : ∀ a w, B a w → (∀ j, j < n → I j a w) → wpAny P md ops Q (ops.size - n) (headDone n ops.size) a w) :
   ∀ (d : Nat) (listed : Array Bool) (a : Act) (w : World), HeadInv md ops n listed → left listed n = d → B a w → (∀ j, j < n → listed.getD j true = true → I j a w) →
     wpAny P md ops Q (d + (ops.size - n)) listed a w := by
 intro d
 induction d with
 | zero =>
   intro listed a w inv hl hB hI
   have hall := left_zero n hl
   have e : listed = headDone n ops.size := by
     apply Array.ext
     · rw [inv.size]; simp [headDone]
     · intro i h1 h2
       have hsz := inv.size
       by_cases hi : i < n
       · have := hall i hi
         simp [h1] at this
         simp [headDone, hi, this]
       · have := inv.tail i (by omega) (by omega)
         simp [h1] at this
         simp [headDone, hi, this]
   rw [e, Nat.zero_add]
   exact htail a w hB (fun j hj => hI j hj (hall j hj))
 | succ d ih =>
   intro listed a w inv hl hB hI
   obtain ⟨j0, hj0, hu0⟩ := left_pos n (by omega : 0 < left listed n)
   rw [show d + 1 + (ops.size - n) = (d + (ops.size - n)) + 1 by omega]
   refine ⟨fun hr => ?_, fun i hi => ?_⟩
   · exact absurd hr (ready_some hback inv (by omega) j0 hj0 hu0)
   · have hin : i < n := by
       rcases Nat.lt_or_ge i n with h | h
       · exact h
       · exact absurd hi (tail_waits hs hc hn inv _ j0 rfl hj0 hu0 i h)
     obtain ⟨hu, oi, hoi, hall⟩ := mem_ready.1 hi
     have hst := hstep i oi hin hoi a w hB (fun e he hb => ?_)
     · unfold wpOp
       rw [hoi]
       have hw : Region.wanted oi (yielded ops a.tmps) = true := by simp [Region.wanted, hg i oi hin hoi]
       simp only [hw, if_true]
       left
       refine Oper.wp_mono (fun a' w' h => ?_) hst
       obtain ⟨h1, h2, h3⟩ := h
       have hisz : i < listed.size := by rw [inv.size]; omega
       have hls := left_set hu hisz n
       rw [if_pos hin] at hls
       refine ih _ a' w' (inv.set hi hin) (by omega) h1 (fun j hj hlj => ?_)
       by_cases e : j = i
       · subst e; exact h2
       · refine h3 j hj e (hI j hj ?_)
         exact (getD_set_ne true (Ne.symm e)).symm.trans hlj
     · have hl2 := hall e he hb
       have hlt : e.on < n := by
         rcases Nat.lt_or_ge e.on n with h | h
         · exact h
         · have := inv.tail e.on h (by
             rcases Nat.lt_or_ge e.on listed.size with h' | h'
             · rw [inv.size] at h'; exact h'
             · simp [Array.getElem?_eq_none h'] at hl2)
           exfalso
           rcases Nat.lt_or_ge e.on listed.size with h' | h'
           · simp [h'] at this hl2; rw [this] at hl2; cases hl2
           · simp [Array.getElem?_eq_none h'] at hl2
       refine hI e.on hlt ?_
       rcases Nat.lt_or_ge e.on listed.size with h' | h'
       · simp [h'] at hl2 ⊢; exact hl2
       · simp [Array.getElem?_eq_none h'] at hl2
structure Agree (a0 a : Act) (sl : Nat → Nat) (n : Nat) : Prop where
 defers : a.defers = a0.defers
 size : a.tmps.size = a0.tmps.size
 other : ∀ j, (∀ i, i < n → sl i ≠ j) → a.tmps[j]? = a0.tmps[j]?
theorem Agree.put {a0 a : Act} {sl : Nat → Nat} {n i : Nat} (h : Agree a0 a sl n) (hi : i < n) (v : Value) : Agree a0 (a.put (some (sl i)) v) sl n := by
 refine ⟨h.defers, by simp [Act.put, h.size], fun j hj => ?_⟩
 have := hj i hi
 simp only [Act.put]
 rw [Array.getElem?_setIfInBounds_ne this]
 exact h.other j hj
theorem foldl_set (a : Act) (sl : Nat → Nat) : ∀ (L : List Nat) (t : Array Value) (j : Nat), t.size = a.tmps.size →
   (L.foldl (fun t i => t.setIfInBounds (sl i) (a.tmps[sl i]?.getD undef)) t)[j]? = (if ∃ i, i ∈ L ∧ sl i = j then a.tmps[j]? else t[j]?)
 | [], t, j, _ => by simp
 | i :: L, t, j, hz => by
   rw [List.foldl_cons, foldl_set a sl L _ j (by simpa using hz)]
   by_cases h1 : ∃ i, i ∈ L ∧ sl i = j
   · rw [if_pos h1, if_pos (by obtain ⟨q, h2, h3⟩ := h1; exact ⟨q, by simp [h2], h3⟩)]
   · rw [if_neg h1]
     by_cases h2 : sl i = j
     · rw [if_pos ⟨i, by simp, h2⟩, h2]
       by_cases h3 : j < t.size
       · rw [Array.getElem?_setIfInBounds_self_of_lt h3]
         have : j < a.tmps.size := by omega
         simp [this]
       · rw [Array.getElem?_eq_none (by simp; omega), Array.getElem?_eq_none (by omega)]
     · rw [if_neg (by rintro ⟨q, h3, h4⟩; rcases List.mem_cons.1 h3 with rfl | h3; exact h2 h4; exact h1 ⟨q, h3, h4⟩), Array.getElem?_setIfInBounds_ne h2]
theorem Agree.eq {a0 a : Act} {sl : Nat → Nat} {n : Nat} (h : Agree a0 a sl n) : a = { tmps := (List.range n).foldl (fun t i => t.setIfInBounds (sl i) (a.tmps[sl i]?.getD undef)) a0.tmps, defers := a0.defers } := by
 obtain ⟨t, d⟩ := a
 have h1 := h.defers
 dsimp only at h1
 subst h1
 congr 1
 apply Array.ext_getElem?
 intro j
 rw [foldl_set ⟨t, a0.defers⟩ sl (List.range n) a0.tmps j h.size.symm]
 by_cases hj : ∃ i, i ∈ List.range n ∧ sl i = j
 · rw [if_pos hj]
 · rw [if_neg hj]
   exact h.other j (fun i hi e => hj ⟨i, List.mem_range.2 hi, e⟩)
structure News (al : Nat → Bool) (sl : Nat → Nat) (n : Nat) (a : Act) (w : World) : Prop where
 low : ∀ j, j < n → al j = true → a.tmps[sl j]?.getD undef = undef ∨ ∃ p, a.tmps[sl j]?.getD undef = .pointer (some ⟨p, 0, none⟩) ∧ p < w.heap.size
 apart : ∀ i j, i < n → j < n → i ≠ j → al i = true → al j = true → ∀ p, a.tmps[sl i]?.getD undef = .pointer (some ⟨p, 0, none⟩) → a.tmps[sl j]?.getD undef ≠ .pointer (some ⟨p, 0, none⟩)
theorem wp_region_head {rid : Nat} {a0 : Act} {w0 : World} {Q : Exit → Act → World → Prop} {n : Nat} (hm : P.follows .mixedOrders = true) (hs : Region.sinkB .any ops n = true) (hc : Region.chainB .any ops n = true) (hn : n < ops.size) (hback : backB .any ops = true)
   (sl : Nat → Nat) (hsl : ∀ i j, i < n → j < n → sl i = sl j → i = j) (R : World → World → Prop) (hRr : ∀ w, R w w) (hRt : ∀ a b c, R a b → R b c → R a c) (hRs : ∀ a b, R a b → a.heap.size ≤ b.heap.size)
   (al : Nat → Bool) (ha0 : ∀ j, j < n → al j = true → a0.tmps[sl j]?.getD undef = undef)
   (J : Nat → Value → World → Prop) (hJ : ∀ j v w w', J j v w → R w w' → J j v w')
   (hg : ∀ i oi, i < n → ops[i]? = some oi → oi.guard = none ∧ oi.dst = some (sl i))
   (hstep : ∀ i oi, i < n → ops[i]? = some oi → ∀ a w, Agree a0 a sl n → R w0.drew w → (∀ e, e ∈ oi.after → Region.binds .any e = true → J e.on (a.tmps[sl e.on]?.getD undef) w) →
     Oper.wp P oi a w (fun a' w' => ∃ v, a' = a.put oi.dst v ∧ sl i < a.tmps.size ∧ J i v w' ∧ R w w' ∧ (al i = true → v = .pointer (some ⟨w.heap.size, 0, none⟩) ∧ w.heap.size < w'.heap.size)) Q)
   (htail : ∀ a w, Agree a0 a sl n → R w0.drew w → News al sl n a w → (∀ j, j < n → J j (a.tmps[sl j]?.getD undef) w) → wpAny P .any ops Q (ops.size - n) (headDone n ops.size) a w) :
   (Code.region rid ops true).wp P Q a0 w0 := by
 refine wp_region_any hm ?_
 have h := wpAny_head (P := P) (ops := ops) (md := .any) (Q := Q) hs hc hn (fun a w => Agree a0 a sl n ∧ R w0.drew w ∧ News al sl n a w) (fun j a w => J j (a.tmps[sl j]?.getD undef) w) hback
   (fun i oi hi ho => (hg i oi hi ho).1)
   (fun i oi hi ho a w hB hI => by
     refine Oper.wp_mono (fun a' w' h => ?_) (hstep i oi hi ho a w hB.1 hB.2.1 hI)
     obtain ⟨v, rfl, hsz, hv, hR, hal⟩ := h
     rw [(hg i oi hi ho).2]
     have hself : (a.put (some (sl i)) v).tmps[sl i]?.getD undef = v := by
       simp only [Act.put]
       rw [Array.getElem?_setIfInBounds_self_of_lt hsz]
       rfl
     have hoth : ∀ j, j < n → j ≠ i → (a.put (some (sl i)) v).tmps[sl j]?.getD undef = a.tmps[sl j]?.getD undef := fun j hj hne => by
       simp only [Act.put]
       rw [Array.getElem?_setIfInBounds_ne (fun e => hne (hsl j i hj hi e.symm))]
     have hgrow := hRs _ _ hR
     refine ⟨⟨hB.1.put hi v, hRt _ _ _ hB.2.1 hR, ⟨fun j hj haj => ?_, fun q j hq hj hne haq haj p hp hp2 => ?_⟩⟩, ?_, fun j hj hne hIj => ?_⟩
     · by_cases e : j = i
       · subst e
         rw [hself]
         obtain ⟨h1, h2⟩ := hal haj
         exact .inr ⟨_, h1, h2⟩
       · rw [hoth j hj e]
         exact (hB.2.2.low j hj haj).imp id (fun ⟨p, h1, h2⟩ => ⟨p, h1, by omega⟩)
     · by_cases e : q = i
       · subst e
         rw [hself] at hp
         rw [hoth j hj (Ne.symm hne)] at hp2
         obtain ⟨h1, _⟩ := hal haq
         rw [h1] at hp
         rcases hB.2.2.low j hj haj with h | ⟨p', h3, h4⟩
         · rw [h] at hp2; cases hp2
         · rw [h3] at hp2
           simp only [Value.pointer.injEq, Option.some.injEq, Addr.mk.injEq, and_true] at hp hp2
           omega
       · rw [hoth q hq e] at hp
         by_cases e2 : j = i
         · subst e2
           rw [hself] at hp2
           obtain ⟨h1, _⟩ := hal haj
           rw [h1] at hp2
           rcases hB.2.2.low q hq haq with h | ⟨p', h3, h4⟩
           · rw [h] at hp; cases hp
           · rw [h3] at hp
             simp only [Value.pointer.injEq, Option.some.injEq, Addr.mk.injEq, and_true] at hp hp2
             omega
         · rw [hoth j hj e2] at hp2
           exact hB.2.2.apart q j hq hj hne haq haj p hp hp2
     · rw [hself]; exact hv
     · rw [hoth j hj hne]
       exact hJ j _ w w' hIj hR)
   (fun a w hB hI => htail a w hB.1 hB.2.1 hB.2.2 hI) n (Array.replicate ops.size false) a0 w0.drew
   ⟨by simp, fun j oj _ hl => (by rw [getD_replicate_false] at hl; exact absurd hl (by simp)), fun t _ ht => (by simp [ht])⟩ ?_
   ⟨⟨rfl, rfl, fun _ _ => rfl⟩, hRr _, ⟨fun j hj haj => .inl (ha0 j hj haj), fun q j hq hj hne haq haj p hp => by rw [ha0 q hq haq] at hp; cases hp⟩⟩ (fun j hj hl => ?_)
 · rw [show n + (ops.size - n) = ops.size by omega] at h
   exact h
 · have : ∀ m, m ≤ ops.size → left (Array.replicate ops.size false) m = m := by
     intro m
     induction m with
     | zero => intro _; rfl
     | succ m ih => intro hm; unfold left; rw [ih (by omega)]; simp [show m < ops.size by omega]
   exact this n (by omega)
 · simp [show j < ops.size by omega] at hl
end
end Go.Proofs.YticfkfjijnfcbaaDoor
/- A region that draws its order and holds one operation that turns more than the others: an invariant with what holds before and behind it. -/
namespace Go.Proofs.YticfkfjijnfcbaaDoor
section
variable {P : Program} {ops : Array Oper} {md : Region.Mode}
theorem wpAny_headL {Q : Exit → Act → World → Prop} {n : Nat} (hs : Region.sinkB md ops n = true) (hc : Region.chainB md ops n = true) (hn : n < ops.size)
   (B : Array Bool → Act → World → Prop) (I : Nat → Act → World → Prop)
   (hback : backB md ops = true)
   (hg : ∀ i oi, i < n → ops[i]? = some oi → oi.guard = none)
   (hstep : ∀ i oi, i < n → ops[i]? = some oi → ∀ listed a w, listed.size = ops.size → listed.getD i true = false → B listed a w → (∀ e, e ∈ oi.after → Region.binds md e = true → I e.on a w) →
     Oper.wp P oi a w (fun a' w' => B (listed.setIfInBounds i true) a' w' ∧ I i a' w' ∧ ∀ j, j < n → j ≠ i → I j a w → I j a' w') Q)
   (htail : ∀ a w, B (headDone n ops.size) a w → (∀ j, j < n → I j a w) → wpAny P md ops Q (ops.size - n) (headDone n ops.size) a w) :
   ∀ (d : Nat) (listed : Array Bool) (a : Act) (w : World), HeadInv md ops n listed → left listed n = d → B listed a w → (∀ j, j < n → listed.getD j true = true → I j a w) →
     wpAny P md ops Q (d + (ops.size - n)) listed a w := by
 intro d
 induction d with
 | zero =>
   intro listed a w inv hl hB hI
   have hall := left_zero n hl
   have e : listed = headDone n ops.size := by
     apply Array.ext
     · rw [inv.size]; simp [headDone]
     · intro i h1 h2
       have hsz := inv.size
       by_cases hi : i < n
       · have := hall i hi
         simp [h1] at this
         simp [headDone, hi, this]
       · have := inv.tail i (by omega) (by omega)
         simp [h1] at this
         simp [headDone, hi, this]
   rw [e] at hB
   rw [e, Nat.zero_add]
   exact htail a w hB (fun j hj => hI j hj (hall j hj))
 | succ d ih =>
   intro listed a w inv hl hB hI
   obtain ⟨j0, hj0, hu0⟩ := left_pos n (by omega : 0 < left listed n)
   rw [show d + 1 + (ops.size - n) = (d + (ops.size - n)) + 1 by omega]
   refine ⟨fun hr => ?_, fun i hi => ?_⟩
   · exact absurd hr (ready_some hback inv (by omega) j0 hj0 hu0)
   · have hin : i < n := by
       rcases Nat.lt_or_ge i n with h | h
       · exact h
       · exact absurd hi (tail_waits hs hc hn inv _ j0 rfl hj0 hu0 i h)
     obtain ⟨hu, oi, hoi, hall⟩ := mem_ready.1 hi
     have hst := hstep i oi hin hoi listed a w inv.size hu hB (fun e he hb => ?_)
     · unfold wpOp
       rw [hoi]
       have hw : Region.wanted oi (yielded ops a.tmps) = true := by simp [Region.wanted, hg i oi hin hoi]
       simp only [hw, if_true]
       left
       refine Oper.wp_mono (fun a' w' h => ?_) hst
       obtain ⟨h1, h2, h3⟩ := h
       have hisz : i < listed.size := by rw [inv.size]; omega
       have hls := left_set hu hisz n
       rw [if_pos hin] at hls
       refine ih _ a' w' (inv.set hi hin) (by omega) h1 (fun j hj hlj => ?_)
       by_cases e : j = i
       · subst e; exact h2
       · refine h3 j hj e (hI j hj ?_)
         exact (getD_set_ne true (Ne.symm e)).symm.trans hlj
     · have hl2 := hall e he hb
       have hlt : e.on < n := by
         rcases Nat.lt_or_ge e.on n with h | h
         · exact h
         · have := inv.tail e.on h (by
             rcases Nat.lt_or_ge e.on listed.size with h' | h'
             · rw [inv.size] at h'; exact h'
             · simp [Array.getElem?_eq_none h'] at hl2)
           exfalso
           rcases Nat.lt_or_ge e.on listed.size with h' | h'
           · simp [h'] at this hl2; rw [this] at hl2; cases hl2
           · simp [Array.getElem?_eq_none h'] at hl2
       refine hI e.on hlt ?_
       rcases Nat.lt_or_ge e.on listed.size with h' | h'
       · simp [h'] at hl2 ⊢; exact hl2
       · simp [Array.getElem?_eq_none h'] at hl2
theorem wp_region_one {rid : Nat} {a0 : Act} {w0 : World} {Q : Exit → Act → World → Prop} {n : Nat} (hm : P.follows .mixedOrders = true) (hs : Region.sinkB .any ops n = true) (hc : Region.chainB .any ops n = true) (hn : n < ops.size) (hback : backB .any ops = true)
   (sl : Nat → Nat) (hsl : ∀ i j, i < n → j < n → sl i = sl j → i = j) (R : World → World → Prop) (hRr : ∀ w, R w w) (hRt : ∀ a b c, R a b → R b c → R a c)
   (c : Nat) (hcn : c < n) (G : Bool → World → Prop) (hG0 : G false w0.drew)
   (J : Nat → Value → World → Prop) (hJ : ∀ j v w w', J j v w → R w w' → J j v w')
   (hg : ∀ i oi, i < n → ops[i]? = some oi → oi.guard = none ∧ oi.dst = some (sl i))
   (hstep : ∀ i oi, i < n → i ≠ c → ops[i]? = some oi → ∀ a w b, Agree a0 a sl n → R w0.drew w → G b w → (∀ e, e ∈ oi.after → Region.binds .any e = true → J e.on (a.tmps[sl e.on]?.getD undef) w) →
     Oper.wp P oi a w (fun a' w' => ∃ v, a' = a.put oi.dst v ∧ sl i < a.tmps.size ∧ J i v w' ∧ R w w' ∧ G b w') Q)
   (hcall : ∀ oi, ops[c]? = some oi → ∀ a w, Agree a0 a sl n → R w0.drew w → G false w → (∀ e, e ∈ oi.after → Region.binds .any e = true → J e.on (a.tmps[sl e.on]?.getD undef) w) →
     Oper.wp P oi a w (fun a' w' => ∃ v, a' = a.put oi.dst v ∧ sl c < a.tmps.size ∧ J c v w' ∧ R w w' ∧ G true w') Q)
   (htail : ∀ a w, Agree a0 a sl n → R w0.drew w → G true w → (∀ j, j < n → J j (a.tmps[sl j]?.getD undef) w) → wpAny P .any ops Q (ops.size - n) (headDone n ops.size) a w) :
   (Code.region rid ops true).wp P Q a0 w0 := by
 refine wp_region_any hm ?_
 have hput : ∀ (i : Nat) (a : Act) (v : Value), i < n → sl i < a.tmps.size → (a.put (some (sl i)) v).tmps[sl i]?.getD undef = v ∧ ∀ j, j < n → j ≠ i → (a.put (some (sl i)) v).tmps[sl j]?.getD undef = a.tmps[sl j]?.getD undef := fun i a v hi hsz => by
   refine ⟨?_, fun j hj hne => ?_⟩
   · simp only [Act.put]
     rw [Array.getElem?_setIfInBounds_self_of_lt hsz]
     rfl
   · simp only [Act.put]
     rw [Array.getElem?_setIfInBounds_ne (fun e => hne (hsl j i hj hi e.symm))]
 have h := wpAny_headL (P := P) (ops := ops) (md := .any) (Q := Q) hs hc hn (fun listed a w => Agree a0 a sl n ∧ R w0.drew w ∧ G (listed.getD c true) w) (fun j a w => J j (a.tmps[sl j]?.getD undef) w) hback
   (fun i oi hi ho => (hg i oi hi ho).1)
   (fun i oi hi ho listed a w hls hu hB hI => by
     by_cases hic : i = c
     · subst hic
       rw [hu] at hB
       refine Oper.wp_mono (fun a' w' h => ?_) (hcall oi ho a w hB.1 hB.2.1 hB.2.2 hI)
       obtain ⟨v, rfl, hsz, hv, hR, hG⟩ := h
       rw [(hg i oi hi ho).2]
       obtain ⟨hself, hoth⟩ := hput i a v hi hsz
       refine ⟨⟨hB.1.put hi v, hRt _ _ _ hB.2.1 hR, ?_⟩, ?_, fun j hj hne hIj => ?_⟩
       · have : (listed.setIfInBounds i true).getD i true = true := by simp [show i < listed.size by omega]
         rw [this]; exact hG
       · rw [hself]; exact hv
       · rw [hoth j hj hne]; exact hJ j _ w w' hIj hR
     · refine Oper.wp_mono (fun a' w' h => ?_) (hstep i oi hi hic ho a w _ hB.1 hB.2.1 hB.2.2 hI)
       obtain ⟨v, rfl, hsz, hv, hR, hG⟩ := h
       rw [(hg i oi hi ho).2]
       obtain ⟨hself, hoth⟩ := hput i a v hi hsz
       refine ⟨⟨hB.1.put hi v, hRt _ _ _ hB.2.1 hR, ?_⟩, ?_, fun j hj hne hIj => ?_⟩
       · rw [getD_set_ne true hic]; exact hG
       · rw [hself]; exact hv
       · rw [hoth j hj hne]; exact hJ j _ w w' hIj hR)
   (fun a w hB hI => htail a w hB.1 hB.2.1 (by
     have h := hB.2.2
     have e : (headDone n ops.size).getD c true = true := by
       have : c < ops.size := by omega
       simp [headDone, hcn, this]
     rw [e] at h
     exact h) hI) n (Array.replicate ops.size false) a0 w0.drew
   ⟨by simp, fun j oj _ hl => (by rw [getD_replicate_false] at hl; exact absurd hl (by simp)), fun t _ ht => (by simp [ht])⟩ ?_
   ⟨⟨rfl, rfl, fun _ _ => rfl⟩, hRr _, by
     have e : (Array.replicate ops.size false).getD c true = false := by simp [show c < ops.size by omega]
     rw [e]; exact hG0⟩ (fun j hj hl => ?_)
 · rw [show n + (ops.size - n) = ops.size by omega] at h
   exact h
 · have : ∀ m, m ≤ ops.size → left (Array.replicate ops.size false) m = m := by
     intro m
     induction m with
     | zero => intro _; rfl
     | succ m ih => intro hm; unfold left; rw [ih (by omega)]; simp [show m < ops.size by omega]
   exact this n (by omega)
 · simp [show j < ops.size by omega] at hl
end
end Go.Proofs.YticfkfjijnfcbaaDoor
