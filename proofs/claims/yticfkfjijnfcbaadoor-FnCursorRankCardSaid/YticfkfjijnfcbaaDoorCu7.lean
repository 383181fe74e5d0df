/- A region that draws its order and holds several operations that turn more than the others, stores among them. -/
import Derived.Test.YticfkfjijnfcbaaDoorCuS6
/- The model draws a tree and a number to look for. -/
namespace Go.Proofs.YticfkfjijnfcbaaDoor
open Go.RowKit
def HasDrawn (w : World) (e : Ending) (w' : World) : Prop :=
 ∃ (kv cv : Value) (t : Tr) (key : Int), e = .returned (.tuple #[.agg #[kv, cv], .int .i64 key]) ∧ TreeQ w' (fun k => w.heap.size ≤ k ∧ k < w'.heap.size) kv cv t ∧ t.weight ≤ 400000 ∧ (key ∈ t.keys ∨ (-1 ≤ key ∧ key ≤ 100)) ∧ Below w.heap.size w w'
def J3h (r : Nat) (tv : Value) (t : Tr) (j : Nat) (v : Value) (_W : World) : Prop :=
 match j with
 | 0 => v = tv
 | 1 => v = .pointer (some ⟨r, 0, none⟩)
 | 2 => v = tv
 | 3 => ∃ key, v = .int .i64 key ∧ (key ∈ t.keys ∨ (-1 ≤ key ∧ key ≤ 100))
 | _ => True
end Go.Proofs.YticfkfjijnfcbaaDoor
/- append of ints at a step of a region that draws its order. -/
namespace Go.Proofs.YticfkfjijnfcbaaDoor
open Go.RowKit
theorem IntsAt.of_block {w : World} {m : Nat} {x : Int} {ty : TypeId} {fr : Nat × Nat} (h : w.heap[m]? = some (.cells #[.int .i64 x] ty fr)) : IntsAt w (.slice (some ⟨m, 0, none⟩) 1 1) [x] :=
 ⟨_, _, rfl, by simp, .inr ⟨_, 0, rfl, fun i hi => by
   obtain rfl : i = 0 := by simpa using hi
   rw [cell_of_row w m 0 _ ty fr h]; rfl⟩⟩
theorem key2 {w w' : World} {o : Obj} {x : Int} {r : Option Nat} (hg : ((w.alloc (.cells #[.int .i64 x] 3)).alloc o).drew.grownBy w' r) (hr : some w.heap.size ≠ r) : IntsAt w' (.slice (some ⟨w.heap.size, 0, none⟩) 1 1) [x] := by
 refine IntsAt.of_block (ty := 3) (fr := (0, 0)) ((hg.block w.heap.size (by simp; omega) hr).trans ?_)
 show ((w.alloc (.cells #[.int .i64 x] 3)).alloc o).heap[w.heap.size]? = _
 rw [old_blk _ _ _ (by simp), new_blk]
end Go.Proofs.YticfkfjijnfcbaaDoor
/- A region that draws its order and holds several operations that turn more than the others, stores among them. -/
namespace Go.Proofs.YticfkfjijnfcbaaDoor
section
variable {P : Program} {ops : Array Oper} {md : Region.Mode}
theorem wp_region_stores {rid : Nat} {a0 : Act} {w0 : World} {Q : Exit → Act → World → Prop} {n : Nat} (hm : P.follows .mixedOrders = true) (hs : Region.sinkB .any ops n = true) (hc : Region.chainB .any ops n = true) (hn : n < ops.size) (hback : backB .any ops = true)
   (sl : Nat → Nat) (hsl : ∀ i j, i < n → j < n → sl i = sl j → i = j) (R : World → World → Prop) (hRr : ∀ w, R w w) (hRt : ∀ a b c, R a b → R b c → R a c)
   (G : (Nat → Bool) → World → Prop) (hG0 : G (fun _ => false) w0.drew) (hGe : ∀ f g w, (∀ j, j < n → f j = g j) → G f w → G g w)
   (J : Nat → Value → World → Prop) (hJ : ∀ j v w w', J j v w → R w w' → J j v w')
   (hg : ∀ i oi, i < n → ops[i]? = some oi → oi.guard = none ∧ (oi.dst = some (sl i) ∨ (oi.dst = none ∧ ∀ v v' w, J i v w → J i v' w)))
   (hstep : ∀ i oi, i < n → ops[i]? = some oi → ∀ a w f, f i = false → Agree a0 a sl n → R w0.drew w → G f w → (∀ e, e ∈ oi.after → Region.binds .any e = true → J e.on (a.tmps[sl e.on]?.getD undef) w) →
     Oper.wp P oi a w (fun a' w' => ∃ v, a' = a.put oi.dst v ∧ sl i < a.tmps.size ∧ J i v w' ∧ R w w' ∧ G (fun j => if j = i then true else f j) w') Q)
   (htail : ∀ a w, Agree a0 a sl n → R w0.drew w → G (fun _ => true) w → (∀ j, j < n → J j (a.tmps[sl j]?.getD undef) w) → wpAny P .any ops Q (ops.size - n) (headDone n ops.size) a w) :
   (Code.region rid ops true).wp P Q a0 w0 := by
 refine wp_region_any hm ?_
 have hput : ∀ (i : Nat) (a : Act) (v : Value), i < n → sl i < a.tmps.size → (a.put (some (sl i)) v).tmps[sl i]?.getD undef = v ∧ ∀ j, j < n → j ≠ i → (a.put (some (sl i)) v).tmps[sl j]?.getD undef = a.tmps[sl j]?.getD undef := fun i a v hi hsz => by
   refine ⟨?_, fun j hj hne => ?_⟩
   · simp only [Act.put]
     rw [Array.getElem?_setIfInBounds_self_of_lt hsz]
     rfl
   · simp only [Act.put]
     rw [Array.getElem?_setIfInBounds_ne (fun e => hne (hsl j i hj hi e.symm))]
 have h := wpAny_headL (P := P) (ops := ops) (md := .any) (Q := Q) hs hc hn (fun listed a w => Agree a0 a sl n ∧ R w0.drew w ∧ G (fun j => listed.getD j true) w) (fun j a w => J j (a.tmps[sl j]?.getD undef) w) hback
   (fun i oi hi ho => (hg i oi hi ho).1)
   (fun i oi hi ho listed a w hls hu hB hI => by
     refine Oper.wp_mono (fun a' w' h => ?_) (hstep i oi hi ho a w _ hu hB.1 hB.2.1 hB.2.2 hI)
     obtain ⟨v, rfl, hsz, hv, hR, hG⟩ := h
     rcases (hg i oi hi ho).2 with hd | ⟨hd, hjn⟩
     · rw [hd]
       obtain ⟨hself, hoth⟩ := hput i a v hi hsz
       refine ⟨⟨hB.1.put hi v, hRt _ _ _ hB.2.1 hR, hGe _ _ _ (fun j hj => ?_) hG⟩, ?_, fun j hj hne hIj => ?_⟩
       · by_cases e : j = i
         · subst e
           rw [if_pos rfl]
           simp [show j < listed.size by omega]
         · rw [if_neg e, getD_set_ne true (Ne.symm e)]
       · rw [hself]; exact hv
       · rw [hoth j hj hne]; exact hJ j _ w w' hIj hR
     · rw [hd]
       refine ⟨⟨hB.1, hRt _ _ _ hB.2.1 hR, hGe _ _ _ (fun j hj => ?_) hG⟩, hjn _ _ _ hv, fun j hj hne hIj => hJ j _ w w' hIj hR⟩
       by_cases e : j = i
       · subst e
         rw [if_pos rfl]
         simp [show j < listed.size by omega]
       · rw [if_neg e, getD_set_ne true (Ne.symm e)])
   (fun a w hB hI => htail a w hB.1 hB.2.1 (hGe _ _ _ (fun j hj => by
     have : j < ops.size := by omega
     simp [headDone, hj, this]) hB.2.2) hI) n (Array.replicate ops.size false) a0 w0.drew
   ⟨by simp, fun j oj _ hl => (by rw [getD_replicate_false] at hl; exact absurd hl (by simp)), fun t _ ht => (by simp [ht])⟩ ?_
   ⟨⟨rfl, rfl, fun _ _ => rfl⟩, hRr _, hGe _ _ _ (fun j hj => by simp [show j < ops.size by omega]) hG0⟩ (fun j hj hl => ?_)
 · rw [show n + (ops.size - n) = ops.size by omega] at h
   exact h
 · have : ∀ m, m ≤ ops.size → left (Array.replicate ops.size false) m = m := by
     intro m
     induction m with
     | zero => intro _; rfl
     | succ m ih => intro hm; unfold left; rw [ih (by omega)]; simp [show m < ops.size by omega]
   exact this n (by omega)
 · simp [show j < ops.size by omega] at hl
end
end Go.Proofs.YticfkfjijnfcbaaDoor
