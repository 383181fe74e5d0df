/- Keys in order: plain data, and the contract of the model's l1Keys. -/
import Derived.Test.YtananonjomfpkaaQg3
import Derived.Maps.AppendAt
/- Trees in rows of a call's own, no two of which share a block. -/
namespace Go.Proofs.Ytananonjomfpkaa
open Go.RowKit
abbrev Blocks := Nat → Prop
def ownB (v : Value) : Blocks := fun b => v.ownBlock = some b
def ApartB (P Q : Blocks) : Prop := ∀ b, P b → ¬ Q b
structure KidO where
 kv : Value
 cv : Value
 P : Blocks
 t : Tr
def KidO.pair (x : KidO) : Value × Value := (x.kv, x.cv)
inductive TreeO (w : World) (lo : Nat) : Blocks → Value → Value → Tr → Prop where
 | mk (ks : List Int) (kids : List KidO) (P : Blocks) (kv cv : Value)
     (hk : IntsOwn w lo kv ks) (hc : TreesOwn w lo cv (kids.map KidO.pair))
     (hkids : ∀ x, x ∈ kids → TreeO w lo x.P x.kv x.cv x.t)
     (sk : ∀ b, ownB kv b → P b) (sc : ∀ b, ownB cv b → P b) (ss : ∀ x, x ∈ kids → ∀ b, x.P b → P b)
     (ap : (ownB kv :: ownB cv :: kids.map KidO.P).Pairwise ApartB) (lt : ∀ b, P b → lo ≤ b ∧ b < w.heap.size) : TreeO w lo P kv cv (.mk ks (kids.map KidO.t))
theorem TreeO.parts {w : World} {lo : Nat} {P : Blocks} {kv cv : Value} {ks : List Int} {cs : List Tr} (h : TreeO w lo P kv cv (.mk ks cs)) : ∃ kids : List KidO, cs = kids.map KidO.t ∧
   IntsOwn w lo kv ks ∧ TreesOwn w lo cv (kids.map KidO.pair) ∧ (∀ x, x ∈ kids → TreeO w lo x.P x.kv x.cv x.t) ∧ (∀ b, ownB kv b → P b) ∧ (∀ b, ownB cv b → P b) ∧ (∀ x, x ∈ kids → ∀ b, x.P b → P b) ∧
   (ownB kv :: ownB cv :: kids.map KidO.P).Pairwise ApartB ∧ (∀ b, P b → lo ≤ b ∧ b < w.heap.size) := by
 cases h with
 | mk _ kids _ _ _ hk hc hkids sk sc ss ap lt => exact ⟨kids, rfl, hk, hc, hkids, sk, sc, ss, ap, lt⟩
theorem ownsRow_heldB {w w' : World} {lo : Nat} {e : TypeId} {c : Nat} {v : Value} {n : Nat} {xs : List Value} (h : w.ownsRow lo e c v n xs) (hb : ∀ b, ownB v b → w'.heap[b]? = w.heap[b]?) : w'.ownsRow lo e c v n xs := ownsRow_held h (fun k e => hb k e)
theorem TreeO.same {w w' : World} {lo : Nat} {P : Blocks} {kv cv : Value} {t : Tr} (h : TreeO w lo P kv cv t) (hz : w.heap.size ≤ w'.heap.size) (hb : ∀ b, P b → w'.heap[b]? = w.heap[b]?) : TreeO w' lo P kv cv t := by
 induction h with
 | mk ks kids P kv cv hk hc hkids sk sc ss ap lt ih =>
   exact .mk ks kids P kv cv (ownsRow_heldB hk (fun b e => hb b (sk b e))) (ownsRow_heldB hc (fun b e => hb b (sc b e))) (fun x hx => ih x hx (fun b e => hb b (ss x hx b e))) sk sc ss ap
     (fun b e => ⟨(lt b e).1, Nat.lt_of_lt_of_le (lt b e).2 hz⟩)
theorem TreeO.later {w w' : World} {lo C : Nat} {P : Blocks} {kv cv : Value} {t : Tr} (h : TreeO w lo P kv cv t) (hb : Below C w w') (hC : w.heap.size ≤ C) : TreeO w' lo P kv cv t := by
 refine h.same hb.size (fun b e => hb.block b ?_)
 cases h with
 | mk ks kids _ _ _ hk hc hkids sk sc ss ap lt => have := (lt b e).2; omega
theorem TreeO.lt {w : World} {lo : Nat} {P : Blocks} {kv cv : Value} {t : Tr} (h : TreeO w lo P kv cv t) : ∀ b, P b → lo ≤ b ∧ b < w.heap.size := by
 cases h with
 | mk ks kids _ _ _ hk hc hkids sk sc ss ap lt => exact lt
theorem ownsRow_lower {w : World} {lo lo' : Nat} {e : TypeId} {c : Nat} {v : Value} {n : Nat} {xs : List Value} (h : w.ownsRow lo e c v n xs) (hl : lo' ≤ lo) : w.ownsRow lo' e c v n xs := by
 obtain ⟨h1, h2 | ⟨g, cap, cur, hv, hb, hr⟩⟩ := h
 · exact ⟨h1, .inl h2⟩
 · exact ⟨h1, .inr ⟨g, cap, cur, hv, by omega, hr⟩⟩
theorem TreeO.lower {w : World} {lo lo' : Nat} {P : Blocks} {kv cv : Value} {t : Tr} (h : TreeO w lo P kv cv t) (hl : lo' ≤ lo) : TreeO w lo' P kv cv t := by
 induction h with
 | mk ks kids P kv cv hk hc hkids sk sc ss ap lt ih =>
   exact .mk ks kids P kv cv (ownsRow_lower hk hl) (ownsRow_lower hc hl) ih sk sc ss ap (fun b e => ⟨by have := (lt b e).1; omega, (lt b e).2⟩)
theorem TreeO.tree {w : World} {lo : Nat} {P : Blocks} {kv cv : Value} {t : Tr} (h : TreeO w lo P kv cv t) : TreeIn w w.heap.size kv cv t := by
 induction h with
 | mk ks kids P kv cv hk hc hkids sk sc ss ap lt ih =>
   obtain ⟨a, cap, rfl, hn, hm, hat⟩ := TreesOwn.kids hc
   have e1 : (kids.map KidO.pair).length = (kids.map KidO.t).length := by simp
   rw [e1] at hn hat ⊢
   refine .mk ks (kids.map KidO.t) _ a cap _ _ (IntsOwn.in hk) hn hm hat (fun i hi => ?_)
   simp at hi
   have := ih kids[i] (List.getElem_mem hi)
   simpa [hi, KidO.pair] using this
theorem TreeO.nil (w : World) (lo : Nat) : TreeO w lo (fun _ => False) (.slice none 0 0) (.slice none 0 0) (.mk [] []) :=
 .mk [] [] _ _ _ ⟨rfl, .inl ⟨rfl, rfl⟩⟩ ⟨rfl, .inl ⟨rfl, rfl⟩⟩ (fun x h => by cases h) (fun b h => by cases h) (fun b h => by cases h) (fun x h => by cases h)
   (List.pairwise_cons.2 ⟨fun _ _ b h => (by cases h), List.pairwise_cons.2 ⟨fun _ _ b h => (by cases h), List.Pairwise.nil⟩⟩) (fun b h => h.elim)
theorem TreeO.shown {w : World} {lo : Nat} {P : Blocks} {kv cv : Value} {ks : List Int} {cs : List Tr} (h : TreeO w lo P kv cv (.mk ks cs)) : ∃ a c a' c', kv = .slice a ks.length c ∧ cv = .slice a' cs.length c' := by
 obtain ⟨kids, rfl, hk, hc, _⟩ := h.parts
 obtain ⟨a, c, e⟩ := IntsOwn.shown hk
 obtain ⟨a', c', e'⟩ := TreesOwn.shown hc
 exact ⟨a, c, a', c', e, by simpa using e'⟩
theorem TreeO.push {w w' : World} {lo : Nat} {P Q : Blocks} {kv cv v' xk xc : Value} {ks : List Int} {kids : List KidO} {u : Tr}
   (hk : IntsOwn w lo kv ks) (hkids : ∀ x, x ∈ kids → TreeO w lo x.P x.kv x.cv x.t) (sk : ∀ b, ownB kv b → P b) (sc : ∀ b, ownB cv b → P b) (ss : ∀ x, x ∈ kids → ∀ b, x.P b → P b)
   (ap : (ownB kv :: ownB cv :: kids.map KidO.P).Pairwise ApartB) (lt : ∀ b, P b → lo ≤ b ∧ b < w.heap.size) (hz : w.heap.size ≤ w'.heap.size)
   (hb : ∀ b, P b → ¬ ownB cv b → w'.heap[b]? = w.heap[b]?) (hx : TreeO w' lo Q xk xc u) (hQ : ∀ b, Q b → w.heap.size ≤ b)
   (hrow : TreesOwn w' lo v' (kids.map KidO.pair ++ [(xk, xc)])) (hv : ∀ b, ownB v' b → ownB cv b ∨ (w.heap.size ≤ b ∧ ¬ Q b)) :
   TreeO w' lo (fun b => P b ∨ Q b ∨ ownB v' b) kv v' (.mk ks (kids.map KidO.t ++ [u])) ∧ (∀ b, (P b ∨ Q b ∨ ownB v' b) → P b ∨ w.heap.size ≤ b) := by
 have hap := List.pairwise_cons.1 ap
 have hap2 := List.pairwise_cons.1 hap.2
 have hPQ : ∀ b, P b → ¬ Q b := fun b h1 h2 => by have := (lt b h1).2; have := hQ b h2; omega
 have he : kids.map KidO.t ++ [u] = (kids ++ [(⟨xk, xc, Q, u⟩ : KidO)]).map KidO.t := by simp
 rw [he]
 refine ⟨.mk ks (kids ++ [⟨xk, xc, Q, u⟩]) _ kv v' (ownsRow_heldB hk (fun b e => hb b (sk b e) (fun g => hap.1 (ownB cv) (by simp) b e g))) (by rw [List.map_append]; exact hrow) (fun x h => ?_) (fun b e => .inl (sk b e)) (fun b e => .inr (.inr e)) (fun x h b e => ?_) ?_ (fun b e => ?_), fun b e => ?_⟩
 · rcases List.mem_append.1 h with h | h
   · exact (hkids x h).same hz (fun b e => hb b (ss x h b e) (fun g => hap2.1 x.P (List.mem_map_of_mem h) b g e))
   · simp at h; subst h; exact hx
 · rcases List.mem_append.1 h with h | h
   · exact .inl (ss x h b e)
   · simp at h; subst h; exact .inr (.inl e)
 · have hvP : ∀ R : Blocks, (∀ b, R b → P b) → (∀ b, ownB cv b → ¬ R b) → ∀ b, ownB v' b → ¬ R b := fun R h1 h2 b e g => by
     rcases hv b e with h | h
     · exact h2 b h g
     · have := (lt b (h1 b g)).2; omega
   rw [List.map_append, List.map_cons, List.map_nil]
   refine List.pairwise_cons.2 ⟨fun R hR => ?_, List.pairwise_cons.2 ⟨fun R hR => ?_, ?_⟩⟩
   · simp only [List.mem_cons, List.mem_append, List.not_mem_nil, or_false] at hR
     rcases hR with rfl | hR | rfl
     · intro b e g; exact hvP (ownB kv) sk (fun b h1 h2 => hap.1 (ownB cv) (by simp) b h2 h1) b g e
     · exact hap.1 R (List.mem_cons_of_mem _ hR)
     · exact fun b e => hPQ b (sk b e)
   · simp only [List.mem_append, List.mem_cons, List.not_mem_nil, or_false] at hR
     rcases hR with hR | rfl
     · obtain ⟨x, hx', rfl⟩ := List.mem_map.1 hR
       exact hvP x.P (ss x hx') (hap2.1 x.P hR)
     · intro b e g
       rcases hv b e with h | h
       · exact hPQ b (sc b h) g
       · exact h.2 g
   · refine List.pairwise_append.2 ⟨hap2.2, List.pairwise_singleton _ _, fun R hR S hS => ?_⟩
     simp only [List.mem_cons, List.not_mem_nil, or_false] at hS
     subst hS
     obtain ⟨x, hx', rfl⟩ := List.mem_map.1 hR
     exact fun b e => hPQ b (ss x hx' b e)
 · rcases e with e | e | e
   · exact ⟨(lt b e).1, Nat.lt_of_lt_of_le (lt b e).2 hz⟩
   · exact hx.lt b e
   · exact hrow.lt b e
 · rcases e with e | e | e
   · exact .inl e
   · exact .inr (hQ b e)
   · rcases hv b e with h | h
     · exact .inl (sc b h)
     · exact .inr h.1
namespace Tr
mutual
def nkeys : Tr → Nat
 | .mk k c => k.length + nkeysL c
def nkeysL : List Tr → Nat
 | [] => 0
 | t :: r => nkeys t + nkeysL r
end
mutual
def remark (k : Int) : Tr → Tr
 | .mk ks cs => .mk (marks k ks.length) (remarks (k + ks.length) cs)
def remarks (k : Int) : List Tr → List Tr
 | [] => []
 | t :: r => remark k t :: remarks (k + nkeys t) r
end
mutual
theorem nkeys_le : ∀ t : Tr, nkeys t ≤ t.weight
 | .mk k c => by have := nkeysL_le c; simp only [nkeys, weight]; omega
theorem nkeysL_le : ∀ c : List Tr, nkeysL c ≤ weights c
 | [] => by simp [nkeysL]
 | t :: r => by have := nkeys_le t; have := nkeysL_le r; simp only [nkeysL, weights]; omega
end
def upTo (k : Int) (j : Nat) (cs : List Tr) : List Tr := remarks k (cs.take j) ++ cs.drop j
mutual
theorem remark_weight (k : Int) : ∀ t : Tr, (remark k t).weight = t.weight
 | .mk ks cs => by simp only [remark, weight, marks_length, remarks_weights]
theorem remarks_weights (k : Int) : ∀ cs : List Tr, weights (remarks k cs) = weights cs
 | [] => rfl
 | t :: r => by simp only [remarks, weights, remark_weight, remarks_weights]
end
end Tr
end Go.Proofs.Ytananonjomfpkaa
/- A tree in rows of a call's own lies in plain blocks. -/
namespace Go.Proofs.Ytananonjomfpkaa
open Go.RowKit
theorem TreeO.a {w : World} {lo : Nat} {P : Blocks} {kv cv : Value} {t : Tr} (h : TreeO w lo P kv cv t) : TreeA w kv cv t := by
 unfold TreeA
 induction h with
 | mk ks kids P kv cv hk hc hkids sk sc ss ap lt ih =>
   obtain ⟨a, c, rfl⟩ := TreesOwn.shown hc
   refine treeQ_row (Q := fun k => k < w.heap.size) ((IntsOwn.p hk).same (fun _ _ => rfl) (fun k e => e.2)) hc (fun q _ h2 => h2) (by simp) (fun i hi => ?_)
   simp at hi
   have := ih kids[i] (List.getElem_mem hi)
   simpa [hi, KidO.pair] using this
end Go.Proofs.Ytananonjomfpkaa
/- append of ints at a step of a region that draws its order. -/
namespace Go.Proofs.Ytananonjomfpkaa
open Go.RowKit
theorem IntsAt.of_block {w : World} {m : Nat} {x : Int} {ty : TypeId} {fr : Nat × Nat} (h : w.heap[m]? = some (.cells #[.int .i64 x] ty fr)) : IntsAt w (.slice (some ⟨m, 0, none⟩) 1 1) [x] :=
 ⟨_, _, rfl, by simp, .inr ⟨_, 0, rfl, fun i hi => by
   obtain rfl : i = 0 := by simpa using hi
   rw [cell_of_row w m 0 _ ty fr h]; rfl⟩⟩
theorem step_append_ints {w : World} {ops : Array Oper} {o : Oper} {a : Act} {K : Act → World → Prop} {Q : Exit → Act → World → Prop} {E : Prop} (hgd : o.guard = none) (s x : Operand)
   (ho : o.op = .call { callee := .builtin .append, args := #[s, x], argTypes := #[23, 23] })
   (lo : Nat) (v y : Value) (xs ms : List Int) (hs : a.eval s = v) (hown : IntsOwn w lo v xs) (hx : a.eval x = y) (hsrc : IntsAt w y ms)
   (hlen : xs.length + ms.length ≤ 17592186044416) (hlo : lo ≤ w.heap.size)
   (h : ∀ v' w', IntsOwn w' lo v' (xs ++ ms) → Below lo w w' → w.grownBy w' v.ownBlock → (∃ a c, v' = .slice a (xs ++ ms).length c) → K (a.put o.dst v') w') :
   if Region.wanted o (yielded ops a.tmps) = true then Oper.wp Try.prog o a w K Q else E := by
 have hw : Region.wanted o (yielded ops a.tmps) = true := by simp [Region.wanted, hgd]
 rw [if_pos hw]
 obtain ⟨i0, hi, hz0, hz1, hz2⟩ := info_parts Try.appInfo
 obtain ⟨pa, cap, rfl, hnl, hat⟩ := hsrc
 rcases pa with _ | p
 · obtain rfl := hnl rfl
   obtain rfl : ms = [] := by
     rcases hat with h | ⟨b, o, h, _⟩
     · exact h
     · cases h
   have hk := h v w (by simpa using hown) (Below.refl _ _) (World.grownBy.refl _ _) (by simpa using IntsOwn.shown hown)
   have hrun := run_append_owned_none (P := Try.prog) (w := w) lo 23 o.type 3 i0 1 Try.underlying23 hi v _ _ hown
   unfold Oper.wp
   simp only [List.length_nil] at hx
   simp [execOp, ho, resolve, invoke, builtin, hs, hx, hrun, Result.andThen]
   exact hk
 · refine wp_append_own w s x 23 ho lo 3 i0 (.int .i64 0) 1 8 Try.underlying23 hi hz0 hz1 hz2 rfl (by decide) v _ _ hs hown p ms.length cap (ms.map (Value.int .i64)) hx (by simp) (fun j u hj => ?_) (ints_oneCell .i64 ms) (by unfold maxLen; omega) (by omega) hlo (fun v' w' hown' hgrow _ => ?_)
   · have hjl : j < ms.length := by
       have := (List.getElem?_eq_some_iff.1 hj).1
       simpa using this
     rcases hat with h | ⟨b, o, h, hc⟩
     · simp [h] at hjl
     · cases h
       have hu : u = .int .i64 (ms.getD j 0) := by
         rw [List.getElem?_map] at hj
         simp [hjl] at hj
         simp [← hj, hjl]
       rw [hu, Addr.add_lit]
       exact hc j hjl
   · have hown2 : IntsOwn w' lo v' (xs ++ ms) := by
       unfold IntsOwn
       rw [List.length_append, List.map_append]
       exact hown'
     exact h v' w' hown2 ((Below.refl lo w).grown hgrow hlo (fun k hk => (hown.lt k hk).1)) hgrow (IntsOwn.shown hown2)
theorem made1 (w : World) : IntsOwn (w.alloc (.cells #[] 3)).drew w.heap.size (.slice (some ⟨w.heap.size, 0, none⟩) 0 0) [] := World.ownsRow_made w #[] 0 (Nat.le_refl _) (by unfold maxLen; omega) rfl
theorem key2 {w w' : World} {o : Obj} {x : Int} {r : Option Nat} (hg : ((w.alloc (.cells #[.int .i64 x] 3)).alloc o).drew.grownBy w' r) (hr : some w.heap.size ≠ r) : IntsAt w' (.slice (some ⟨w.heap.size, 0, none⟩) 1 1) [x] := by
 refine IntsAt.of_block (ty := 3) (fr := (0, 0)) ((hg.block w.heap.size (by simp; omega) hr).trans ?_)
 show ((w.alloc (.cells #[.int .i64 x] 3)).alloc o).heap[w.heap.size]? = _
 rw [old_blk _ _ _ (by simp), new_blk]
end Go.Proofs.Ytananonjomfpkaa
/- Keys in order: plain data, and the contract of the model's l1Keys. -/
namespace Go.Proofs.Ytananonjomfpkaa
open Go.RowKit
namespace Tr
def part (kss : List (List Int)) (ks : List Int) (i : Nat) : List Int := (kss[i]?).getD [] ++ (ks[i]?).toList
def upto (kss : List (List Int)) (ks : List Int) (n : Nat) : List Int := (List.range n).flatMap (part kss ks)
mutual
def keys : Tr → List Int
 | .mk k c => upto (keyss c) k (max k.length c.length)
def keyss : List Tr → List (List Int)
 | [] => []
 | t :: r => keys t :: keyss r
end
theorem upto_succ (kss : List (List Int)) (ks : List Int) (n : Nat) : upto kss ks (n + 1) = upto kss ks n ++ part kss ks n := by
 simp [upto, List.range_succ]
theorem upto_mono (kss : List (List Int)) (ks : List Int) (j n : Nat) (h : j ≤ n) : (upto kss ks j).length ≤ (upto kss ks n).length := by
 induction h with
 | refl => exact Nat.le_refl _
 | step _ ih => rw [upto_succ, List.length_append]; omega
theorem length_keyss (c : List Tr) : (keyss c).length = c.length := by
 induction c with
 | nil => rfl
 | cons t r ih => simp [keyss, ih]
theorem keyss_get (c : List Tr) (i : Nat) (h : i < c.length) : (keyss c)[i]? = some c[i].keys := by
 induction c generalizing i with
 | nil => simp at h
 | cons t r ih =>
   cases i with
   | zero => simp [keyss]
   | succ i => simpa [keyss] using ih i (by simpa using h)
def lens : List (List Int) → Nat
 | [] => 0
 | a :: r => a.length + lens r
theorem lens_append (a b : List (List Int)) : lens (a ++ b) = lens a + lens b := by
 induction a with
 | nil => simp [lens]
 | cons t r ih => simp [lens, ih]; omega
theorem upto_length (kss : List (List Int)) (ks : List Int) (n : Nat) : (upto kss ks n).length = lens (kss.take n) + (ks.take n).length := by
 induction n with
 | zero => simp [upto, lens]
 | succ n ih =>
   rw [upto_succ, List.length_append, ih]
   have e1 : lens (kss.take (n + 1)) = lens (kss.take n) + ((kss[n]?).getD []).length := by
     by_cases h : n < kss.length
     · rw [List.take_succ_eq_append_getElem h, lens_append]; simp [lens, h]
     · rw [List.take_of_length_le (by omega), List.take_of_length_le (by omega)]; simp [List.getElem?_eq_none (Nat.le_of_not_lt h)]
   have e2 : (ks.take (n + 1)).length = (ks.take n).length + ((ks[n]?).toList).length := by
     by_cases h : n < ks.length
     · rw [List.take_succ_eq_append_getElem h, List.length_append]; simp [h]
     · rw [List.take_of_length_le (by omega), List.take_of_length_le (by omega)]; simp [List.getElem?_eq_none (Nat.le_of_not_lt h)]
   rw [e1, e2]
   simp only [part, List.length_append]
   omega
mutual
theorem keys_length_le : ∀ t : Tr, t.keys.length ≤ t.weight
 | .mk k c => by
   have h := keyss_lens_le c
   have hk := length_keyss c
   simp only [keys, weight, upto_length]
   rw [List.take_of_length_le (by omega), List.take_of_length_le (by omega)]
   omega
theorem keyss_lens_le : ∀ c : List Tr, lens (keyss c) ≤ weights c
 | [] => by simp [keyss, lens]
 | t :: r => by
   have h1 := keys_length_le t
   have h2 := keyss_lens_le r
   simp only [keyss, lens, weights]
   omega
end
end Tr
set_option maxHeartbeats 1000000 in
theorem specKeys_c {w : World} {B : Nat} {kv cv : Value} {t : Tr} (ht : TreeIn w B kv cv t) (hw : t.weight ≤ 1048576) :
   ∀ w', Below B w w' → B ≤ w'.heap.size →
   Calls Try.prog 74 #[.agg #[kv, cv]] w' fun e w'' => ∃ v, e = .returned v ∧ IntsOwn w'' w'.heap.size v t.keys ∧ Below w'.heap.size w' w'' := by
 induction ht with
 | mk ks cs kv a cap kvs cvs hk hlen hcap hat hkids ih =>
   intro w' hbw hB
   have hkl := Tr.keys_length_le (.mk ks cs)
   simp only [Tr.weight] at hw hkl
   unfold maxLen at hcap
   obtain ⟨ka, kcap, rfl, k1, k2, knl, k3⟩ := hk.later hbw (Nat.le_refl _)
   unfold maxLen at k2
   have HK := Lib.hid k3
   have HAT := Lib.hid (hat.later hbw (Nat.le_refl _))
   have IH := Lib.hid ih
   have HKI := Lib.hid hkids
   clear hk k3 hat ih hkids
   rcases Nat.lt_or_ge ks.length cs.length with hmx | hmx
   · have hmax : max ks.length cs.length = cs.length := by omega
     go_enter Try.func74, Try.ntmps74
     go_wp2_with fail
     obtain ⟨W1, hW1⟩ : ∃ W1, W1 = w'.alloc (.cells #[.slice ka ks.length kcap, .slice a cs.length cap] 26) := ⟨_, rfl⟩
     rw [← hW1]
     have hs1 : W1.heap.size = w'.heap.size + 1 := by rw [hW1]; simp
     have hb1 : Below w'.heap.size w' W1 := by rw [hW1]; exact (Below.refl _ _).alloc (Nat.le_refl _) _
     have kb : W1.heap[w'.heap.size]? = some (.cells #[.slice ka ks.length kcap, .slice a cs.length cap] 26 (0, 0)) := by rw [hW1, new_blk]
     clear hW1
     have h00 : IntsOwn (W1.alloc (.cells #[] 3)) (w'.heap.size + 1) (.slice (some ⟨w'.heap.size + 1, 0, none⟩) 0 0) [] := by
       rw [← hs1]; exact World.ownsRow_made W1 #[] 0 (Nat.le_refl _) (by unfold maxLen; omega) rfl
     have H00 := Lib.hid h00
     have HB1 := Lib.hid hb1
     have HKB := Lib.hid kb
     clear h00 hb1 kb
     go_loopw [3, 13] (fun l i wr => ∃ (j : Nat), j ≤ cs.length ∧ i = .int .i64 j ∧ IntsOwn wr (w'.heap.size + 1) l (Tr.upto (Tr.keyss cs) ks j) ∧ Below (w'.heap.size + 1) W1 wr) (fun _ i _ => cs.length - (intOf i).toNat)
     case atStart => exact ⟨0, Nat.zero_le _, rfl, H00.out, (Below.refl _ _).alloc (by omega) _⟩
     case round =>
       obtain ⟨j, hj, rfl, hown, hbel⟩ := hrel
       have hsz := hbel.size
       have hbx := (hbel.block w'.heap.size (by omega)).trans HKB.out
       obtain ⟨x1, x2, x3, x4⟩ := box2 hbx
       have hbw' : Below w'.heap.size w' wr := HB1.out.trans (hbel.mono (by omega))
       clear hbx
       by_cases hlt : j < cs.length
       · have hm := Tr.upto_mono (Tr.keyss cs) ks (j + 1) cs.length hlt
         have hsu := Tr.upto_succ (Tr.keyss cs) ks j
         have hfin : (Tr.upto (Tr.keyss cs) ks cs.length).length ≤ 1048576 := by simp only [Tr.keys, hmax] at hkl; omega
         have hfin2 : (Tr.upto (Tr.keyss cs) ks (j + 1)).length ≤ 1048576 := by omega
         have HSU := Lib.hid hsu
         have HM := Lib.hid hfin2
         clear hm hsu hfin hfin2
         by_cases hkey : j < ks.length
         · have hkid : j < cs.length := by omega
           rcases HAT.out with h | ⟨b, off, rfl, hb, hat⟩
           · omega
           obtain ⟨ha, hc⟩ := hat j hkid
           rw [← below_cell hbw' (by omega)] at ha hc
           have hC := fun w1 h1 h2 => IH.out j hkid (by have := Tr.weight_get_le cs j hkid; omega) w1 h1 h2
           have HC := Lib.hid hC
           have HKF := Lib.hid (Tr.keyss_get cs j hkid)
           obtain ⟨oa, oc, rfl⟩ := IntsOwn.shown hown
           have HO := Lib.hid hown
           clear hat hC hown
           rcases HK.out with h | ⟨b2, off2, rfl, hb2, hat2⟩
           · simp [h] at hkey
           have hk2 := hat2 j hkey
           have hk3 : ks[j]? = some (ks.getD j 0) := by simp [hkey]
           have HK3 := Lib.hid hk3
           have HAT2 := Lib.hid hk2
           clear hat2 hk3 hk2
           generalize ks.getD j 0 = x at HK3 HAT2
           have hp : Tr.part (Tr.keyss cs) ks j = cs[j].keys ++ [x] := by simp only [Tr.part, HKF.out, HK3.out]; simp
           have HP := Lib.hid hp
           clear hp
           go_wp2_with fail
           refine (HC.out _ (hbw.trans (hbw'.mono hB)) (by omega)).mono ?_
           rintro e w1 ⟨v1, rfl, hv1, hb1⟩
           obtain ⟨va, vc, rfl⟩ := IntsOwn.shown hv1
           have hz1 := hb1.size
           have HV := Lib.hid (IntsIn.at (IntsOwn.in hv1))
           have HO1 := Lib.hid (IntsOwn.later HO.out hb1 (Nat.le_refl _))
           have hbel1 : Below (w'.heap.size + 1) W1 w1 := hbel.trans (hb1.mono (by omega))
           have HB2 := Lib.hid hbel1
           clear hv1 hb1 hbel1
           have hlen : (Tr.upto (Tr.keyss cs) ks j).length + cs[j].keys.length ≤ 17592186044416 := by
             have h := HM.out; rw [HSU.out] at h; simp only [Tr.part, HKF.out, List.length_append, Option.getD_some] at h; omega
           have hloo : w'.heap.size + 1 ≤ w1.heap.size := by omega
           have HLEN := Lib.hid hlen
           clear hlen
           go_wp2_with (first | (at_builtin; refine wpList_append_ints rfl _ _ rfl (w'.heap.size + 1) _ _ _ cs[j].keys rfl HO1.out rfl HV.out HLEN.out hloo ?_; intro v2 w2 hown2 hbel2 _ hsh2; obtain ⟨a2, c2, rfl⟩ := hsh2; have hcur := HB2.out.trans hbel2; have hsz2 := hcur.size; have hbw2 : Below w'.heap.size w' w2 := HB1.out.trans (hcur.mono (by omega)); have hbx2 := (hcur.block w'.heap.size (by omega)).trans HKB.out; clear x1 x2 x3 x4; obtain ⟨x1, x2, x3, x4⟩ := box2 hbx2; generalize hL2 : Tr.upto (Tr.keyss cs) ks j ++ cs[j].keys = L2 at hown2 ⊢; have HL2 := Lib.hid hL2; have HOX := Lib.hid hown2; clear hbx2 hbel2 hown2 hL2 HO1 HV; have hk2 := HAT2.out; rw [← below_cell hbw2 (by omega)] at hk2; have HOXX := Lib.hid (IntsOwn.alloc' HOX.out (.cells #[.int .i64 x] 3)); have HSX := Lib.hid (IntsAt.one w2 x); have hlo9 : w'.heap.size + 1 ≤ (w2.alloc (.cells #[.int .i64 x] 3)).heap.size := (by rw [World.size_alloc]; omega); have HLEN9 : Hid (L2.length + [x].length ≤ 17592186044416) := Lib.hid (by have h := HM.out; rw [HSU.out, HP.out, ← List.append_assoc, HL2.out, List.length_append] at h; omega)) | (at_builtin; refine wpList_append_ints rfl _ _ rfl (w'.heap.size + 1) _ _ _ [x] rfl HOXX.out rfl HSX.out HLEN9.out hlo9 ?_; intro v9 w9 hown9 hbel9 _ hsh9; obtain ⟨a9, c9, rfl⟩ := hsh9; have hbn : Below (w'.heap.size + 1) W1 w9 := (hcur.alloc (by omega) _).trans hbel9; generalize hL3 : L2 ++ [x] = L3 at hown9 ⊢; have HL3 := Lib.hid hL3; have HN := Lib.hid (And.intro hown9 hbn); clear hown9 hbel9 hbn hL3))
           go_roundw
           case rel => exact ⟨j + 1, by omega, by go_num, by rw [HSU.out, HP.out, ← List.append_assoc, HL2.out, HL3.out]; exact HN.out.1, HN.out.2⟩
           case measure => simp [intOf]; omega
         · have hkid : j < cs.length := by omega
           rcases HAT.out with h | ⟨b, off, rfl, hb, hat⟩
           · omega
           obtain ⟨ha, hc⟩ := hat j hkid
           rw [← below_cell hbw' (by omega)] at ha hc
           have hC := fun w1 h1 h2 => IH.out j hkid (by have := Tr.weight_get_le cs j hkid; omega) w1 h1 h2
           have HC := Lib.hid hC
           have HKF := Lib.hid (Tr.keyss_get cs j hkid)
           obtain ⟨oa, oc, rfl⟩ := IntsOwn.shown hown
           have HO := Lib.hid hown
           clear hat hC hown
           have hk3 : ks[j]? = none := List.getElem?_eq_none (by omega)
           have hp : Tr.part (Tr.keyss cs) ks j = cs[j].keys := by simp only [Tr.part, HKF.out, hk3]; simp
           have HP := Lib.hid hp
           clear hp
           clear hk3
           go_wp2_with fail
           refine (HC.out _ (hbw.trans (hbw'.mono hB)) (by omega)).mono ?_
           rintro e w1 ⟨v1, rfl, hv1, hb1⟩
           obtain ⟨va, vc, rfl⟩ := IntsOwn.shown hv1
           have hz1 := hb1.size
           have HV := Lib.hid (IntsIn.at (IntsOwn.in hv1))
           have HO1 := Lib.hid (IntsOwn.later HO.out hb1 (Nat.le_refl _))
           have hbel1 : Below (w'.heap.size + 1) W1 w1 := hbel.trans (hb1.mono (by omega))
           have HB2 := Lib.hid hbel1
           clear hv1 hb1 hbel1
           have hlen : (Tr.upto (Tr.keyss cs) ks j).length + cs[j].keys.length ≤ 17592186044416 := by
             have h := HM.out; rw [HSU.out] at h; simp only [Tr.part, HKF.out, List.length_append, Option.getD_some] at h; omega
           have hloo : w'.heap.size + 1 ≤ w1.heap.size := by omega
           have HLEN := Lib.hid hlen
           clear hlen
           go_wp2_with (at_builtin; refine wpList_append_ints rfl _ _ rfl (w'.heap.size + 1) _ _ _ cs[j].keys rfl HO1.out rfl HV.out HLEN.out hloo ?_; intro v2 w2 hown2 hbel2 _ hsh2; obtain ⟨a2, c2, rfl⟩ := hsh2; have hcur := HB2.out.trans hbel2; have hsz2 := hcur.size; have hbw2 : Below w'.heap.size w' w2 := HB1.out.trans (hcur.mono (by omega)); have hbx2 := (hcur.block w'.heap.size (by omega)).trans HKB.out; clear x1 x2 x3 x4; obtain ⟨x1, x2, x3, x4⟩ := box2 hbx2; generalize hL2 : Tr.upto (Tr.keyss cs) ks j ++ cs[j].keys = L2 at hown2 ⊢; have HL2 := Lib.hid hL2; have HOX := Lib.hid hown2; clear hbx2 hbel2 hown2 hL2 HO1 HV)
           go_roundw
           case rel => exact ⟨j + 1, by omega, by go_num, by rw [HSU.out, HP.out, HL2.out]; exact HOX.out, hcur⟩
           case measure => simp [intOf]; omega
       · obtain rfl : j = cs.length := by omega
         have HO := Lib.hid hown
         clear hown
         go_wp2_with fail
         go_ret
         exact ⟨_, rfl, by simp only [Tr.keys, hmax]; exact IntsOwn.lower HO.out (by omega), hbw'⟩
   · have hmax : max ks.length cs.length = ks.length := by omega
     go_enter Try.func74, Try.ntmps74
     go_wp2_with fail
     obtain ⟨W1, hW1⟩ : ∃ W1, W1 = w'.alloc (.cells #[.slice ka ks.length kcap, .slice a cs.length cap] 26) := ⟨_, rfl⟩
     rw [← hW1]
     have hs1 : W1.heap.size = w'.heap.size + 1 := by rw [hW1]; simp
     have hb1 : Below w'.heap.size w' W1 := by rw [hW1]; exact (Below.refl _ _).alloc (Nat.le_refl _) _
     have kb : W1.heap[w'.heap.size]? = some (.cells #[.slice ka ks.length kcap, .slice a cs.length cap] 26 (0, 0)) := by rw [hW1, new_blk]
     clear hW1
     have h00 : IntsOwn (W1.alloc (.cells #[] 3)) (w'.heap.size + 1) (.slice (some ⟨w'.heap.size + 1, 0, none⟩) 0 0) [] := by
       rw [← hs1]; exact World.ownsRow_made W1 #[] 0 (Nat.le_refl _) (by unfold maxLen; omega) rfl
     have H00 := Lib.hid h00
     have HB1 := Lib.hid hb1
     have HKB := Lib.hid kb
     clear h00 hb1 kb
     go_loopw [3, 13] (fun l i wr => ∃ (j : Nat), j ≤ ks.length ∧ i = .int .i64 j ∧ IntsOwn wr (w'.heap.size + 1) l (Tr.upto (Tr.keyss cs) ks j) ∧ Below (w'.heap.size + 1) W1 wr) (fun _ i _ => ks.length - (intOf i).toNat)
     case atStart => exact ⟨0, Nat.zero_le _, rfl, H00.out, (Below.refl _ _).alloc (by omega) _⟩
     case round =>
       obtain ⟨j, hj, rfl, hown, hbel⟩ := hrel
       have hsz := hbel.size
       have hbx := (hbel.block w'.heap.size (by omega)).trans HKB.out
       obtain ⟨x1, x2, x3, x4⟩ := box2 hbx
       have hbw' : Below w'.heap.size w' wr := HB1.out.trans (hbel.mono (by omega))
       clear hbx
       by_cases hlt : j < ks.length
       · have hm := Tr.upto_mono (Tr.keyss cs) ks (j + 1) ks.length hlt
         have hsu := Tr.upto_succ (Tr.keyss cs) ks j
         have hfin : (Tr.upto (Tr.keyss cs) ks ks.length).length ≤ 1048576 := by simp only [Tr.keys, hmax] at hkl; omega
         have hfin2 : (Tr.upto (Tr.keyss cs) ks (j + 1)).length ≤ 1048576 := by omega
         have HSU := Lib.hid hsu
         have HM := Lib.hid hfin2
         clear hm hsu hfin hfin2
         by_cases hkid : j < cs.length
         · have hkey : j < ks.length := by omega
           rcases HAT.out with h | ⟨b, off, rfl, hb, hat⟩
           · omega
           obtain ⟨ha, hc⟩ := hat j hkid
           rw [← below_cell hbw' (by omega)] at ha hc
           have hC := fun w1 h1 h2 => IH.out j hkid (by have := Tr.weight_get_le cs j hkid; omega) w1 h1 h2
           have HC := Lib.hid hC
           have HKF := Lib.hid (Tr.keyss_get cs j hkid)
           obtain ⟨oa, oc, rfl⟩ := IntsOwn.shown hown
           have HO := Lib.hid hown
           clear hat hC hown
           rcases HK.out with h | ⟨b2, off2, rfl, hb2, hat2⟩
           · simp [h] at hkey
           have hk2 := hat2 j hkey
           have hk3 : ks[j]? = some (ks.getD j 0) := by simp [hkey]
           have HK3 := Lib.hid hk3
           have HAT2 := Lib.hid hk2
           clear hat2 hk3 hk2
           generalize ks.getD j 0 = x at HK3 HAT2
           have hp : Tr.part (Tr.keyss cs) ks j = cs[j].keys ++ [x] := by simp only [Tr.part, HKF.out, HK3.out]; simp
           have HP := Lib.hid hp
           clear hp
           go_wp2_with fail
           refine (HC.out _ (hbw.trans (hbw'.mono hB)) (by omega)).mono ?_
           rintro e w1 ⟨v1, rfl, hv1, hb1⟩
           obtain ⟨va, vc, rfl⟩ := IntsOwn.shown hv1
           have hz1 := hb1.size
           have HV := Lib.hid (IntsIn.at (IntsOwn.in hv1))
           have HO1 := Lib.hid (IntsOwn.later HO.out hb1 (Nat.le_refl _))
           have hbel1 : Below (w'.heap.size + 1) W1 w1 := hbel.trans (hb1.mono (by omega))
           have HB2 := Lib.hid hbel1
           clear hv1 hb1 hbel1
           have hlen : (Tr.upto (Tr.keyss cs) ks j).length + cs[j].keys.length ≤ 17592186044416 := by
             have h := HM.out; rw [HSU.out] at h; simp only [Tr.part, HKF.out, List.length_append, Option.getD_some] at h; omega
           have hloo : w'.heap.size + 1 ≤ w1.heap.size := by omega
           have HLEN := Lib.hid hlen
           clear hlen
           go_wp2_with (first | (at_builtin; refine wpList_append_ints rfl _ _ rfl (w'.heap.size + 1) _ _ _ cs[j].keys rfl HO1.out rfl HV.out HLEN.out hloo ?_; intro v2 w2 hown2 hbel2 _ hsh2; obtain ⟨a2, c2, rfl⟩ := hsh2; have hcur := HB2.out.trans hbel2; have hsz2 := hcur.size; have hbw2 : Below w'.heap.size w' w2 := HB1.out.trans (hcur.mono (by omega)); have hbx2 := (hcur.block w'.heap.size (by omega)).trans HKB.out; clear x1 x2 x3 x4; obtain ⟨x1, x2, x3, x4⟩ := box2 hbx2; generalize hL2 : Tr.upto (Tr.keyss cs) ks j ++ cs[j].keys = L2 at hown2 ⊢; have HL2 := Lib.hid hL2; have HOX := Lib.hid hown2; clear hbx2 hbel2 hown2 hL2 HO1 HV; have hk2 := HAT2.out; rw [← below_cell hbw2 (by omega)] at hk2; have HOXX := Lib.hid (IntsOwn.alloc' HOX.out (.cells #[.int .i64 x] 3)); have HSX := Lib.hid (IntsAt.one w2 x); have hlo9 : w'.heap.size + 1 ≤ (w2.alloc (.cells #[.int .i64 x] 3)).heap.size := (by rw [World.size_alloc]; omega); have HLEN9 : Hid (L2.length + [x].length ≤ 17592186044416) := Lib.hid (by have h := HM.out; rw [HSU.out, HP.out, ← List.append_assoc, HL2.out, List.length_append] at h; omega)) | (at_builtin; refine wpList_append_ints rfl _ _ rfl (w'.heap.size + 1) _ _ _ [x] rfl HOXX.out rfl HSX.out HLEN9.out hlo9 ?_; intro v9 w9 hown9 hbel9 _ hsh9; obtain ⟨a9, c9, rfl⟩ := hsh9; have hbn : Below (w'.heap.size + 1) W1 w9 := (hcur.alloc (by omega) _).trans hbel9; generalize hL3 : L2 ++ [x] = L3 at hown9 ⊢; have HL3 := Lib.hid hL3; have HN := Lib.hid (And.intro hown9 hbn); clear hown9 hbel9 hbn hL3))
           go_roundw
           case rel => exact ⟨j + 1, by omega, by go_num, by rw [HSU.out, HP.out, ← List.append_assoc, HL2.out, HL3.out]; exact HN.out.1, HN.out.2⟩
           case measure => simp [intOf]; omega
         · have hkey : j < ks.length := by omega
           have hkf : (Tr.keyss cs)[j]? = none := List.getElem?_eq_none (by rw [Tr.length_keyss]; omega)
           obtain ⟨oa, oc, rfl⟩ := IntsOwn.shown hown
           have HOX := Lib.hid hown
           have hcur := hbel
           rcases HK.out with h | ⟨b2, off2, rfl, hb2, hat2⟩
           · simp [h] at hkey
           have hk2 := hat2 j hkey
           have hk3 : ks[j]? = some (ks.getD j 0) := by simp [hkey]
           have HK3 := Lib.hid hk3
           have HAT2 := Lib.hid hk2
           clear hat2 hk3 hk2
           generalize ks.getD j 0 = x at HK3 HAT2
           have hp : Tr.part (Tr.keyss cs) ks j = [x] := by simp only [Tr.part, hkf, HK3.out]; simp
           have HP := Lib.hid hp
           clear hp
           clear hkf hown
           have hk2 := HAT2.out
           rw [← below_cell hbw' (by omega)] at hk2
           have HOXX := Lib.hid (IntsOwn.alloc' HOX.out (.cells #[.int .i64 x] 3))
           have HSX := Lib.hid (IntsAt.one wr x)
           have hlo9 : w'.heap.size + 1 ≤ (wr.alloc (.cells #[.int .i64 x] 3)).heap.size := by rw [World.size_alloc]; omega
           have HLEN9 : Hid ((Tr.upto (Tr.keyss cs) ks j).length + [x].length ≤ 17592186044416) := Lib.hid (by have h := HM.out; rw [HSU.out, HP.out, List.length_append] at h; omega)
           go_wp2_with (at_builtin; refine wpList_append_ints rfl _ _ rfl (w'.heap.size + 1) _ _ _ [x] rfl HOXX.out rfl HSX.out HLEN9.out hlo9 ?_; intro v9 w9 hown9 hbel9 _ hsh9; obtain ⟨a9, c9, rfl⟩ := hsh9; have hbn : Below (w'.heap.size + 1) W1 w9 := (hcur.alloc (by omega) _).trans hbel9; generalize hL3 : Tr.upto (Tr.keyss cs) ks j ++ [x] = L3 at hown9 ⊢; have HL3 := Lib.hid hL3; have HN := Lib.hid (And.intro hown9 hbn); clear hown9 hbel9 hbn hL3)
           go_roundw
           case rel => exact ⟨j + 1, by omega, by go_num, by rw [HSU.out, HP.out, HL3.out]; exact HN.out.1, HN.out.2⟩
           case measure => simp [intOf]; omega
       · obtain rfl : j = ks.length := by omega
         have HO := Lib.hid hown
         clear hown
         go_wp2_with fail
         go_ret
         exact ⟨_, rfl, by simp only [Tr.keys, hmax]; exact IntsOwn.lower HO.out (by omega), hbw'⟩
end Go.Proofs.Ytananonjomfpkaa
