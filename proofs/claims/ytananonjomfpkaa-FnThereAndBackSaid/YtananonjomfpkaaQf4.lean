/- Trees in rows of a call's own, no two of which share a block. -/
import Derived.Deep.AppendLies
import Derived.Lib.SliceRun
import Derived.Test.YtananonjomfpkaaQf3
/- The program's own copy of a tree: nodes behind pointers; how they lie in memory; the contract of slices.Clone at ints. -/
namespace Go.Proofs.Ytananonjomfpkaa
open Go.RowKit
def IntsR (w : World) (lo hi : Nat) (v : Value) (ks : List Int) : Prop :=
 ∃ (a : Option Addr) (cap : Nat), v = .slice a ks.length cap ∧ ks.length ≤ cap ∧ cap ≤ maxLen ∧ (a = none → cap = 0) ∧
   (ks = [] ∨ ∃ b o, a = some ⟨b, o, none⟩ ∧ lo ≤ b ∧ b < hi ∧ ∀ i, i < ks.length → w.cell? ⟨b, o + i, none⟩ = some (.int .i64 (ks.getD i 0)))
def PtrsR (w : World) (lo hi : Nat) (a : Option Addr) (n : Nat) (ps : Nat → Nat) : Prop :=
 n = 0 ∨ ∃ b o, a = some ⟨b, o, none⟩ ∧ lo ≤ b ∧ b < hi ∧ ∀ i, i < n → w.cell? ⟨b, o + i, none⟩ = some (.pointer (some ⟨ps i, 0, none⟩))
inductive NodeIn (w : World) : Nat → Nat → Nat → Tr → Prop where
 | mk (ks : List Int) (cs : List Tr) (lo hi b : Nat) (kv : Value) (a : Option Addr) (cap : Nat) (ps s : Nat → Nat)
     (hlo : lo ≤ b) (hhi : b < hi) (hs0 : b < s 0) (hsn : s cs.length ≤ hi) (hs : ∀ i, i < cs.length → s i ≤ s (i + 1))
     (hbox : w.heap[b]? = some (.cells #[kv, .slice a cs.length cap] 99 (0, 0)))
     (hk : IntsR w lo hi kv ks) (hlen : cs.length ≤ cap) (hcap : cap ≤ maxLen) (hat : PtrsR w lo hi a cs.length ps)
     (hkids : ∀ i (h : i < cs.length), NodeIn w (s i) (s (i + 1)) (ps i) cs[i]) :
     NodeIn w lo hi b (.mk ks cs)
theorem cell_of_blk {w w' : World} {b o : Nat} (h : w'.heap[b]? = w.heap[b]?) : w'.cell? ⟨b, o, none⟩ = w.cell? ⟨b, o, none⟩ := World.cell?_of_block (w := w) (a := ⟨b, o, none⟩) h
theorem IntsR.same {w w' : World} {lo hi : Nat} {v : Value} {ks : List Int} (h : IntsR w lo hi v ks) (hb : ∀ k, lo ≤ k → k < hi → w'.heap[k]? = w.heap[k]?) : IntsR w' lo hi v ks := by
 obtain ⟨a, cap, hv, h1, h2, hnl, h3⟩ := h
 refine ⟨a, cap, hv, h1, h2, hnl, ?_⟩
 rcases h3 with h3 | ⟨b, o, h3, h4, h5, h6⟩
 · exact .inl h3
 · exact .inr ⟨b, o, h3, h4, h5, fun i hi => by rw [cell_of_blk (hb b h4 h5)]; exact h6 i hi⟩
theorem IntsR.widen {w : World} {lo hi lo' hi' : Nat} {v : Value} {ks : List Int} (h : IntsR w lo hi v ks) (h1 : lo' ≤ lo) (h2 : hi ≤ hi') : IntsR w lo' hi' v ks := by
 obtain ⟨a, cap, hv, g1, g2, hnl, h3⟩ := h
 refine ⟨a, cap, hv, g1, g2, hnl, ?_⟩
 rcases h3 with h3 | ⟨b, o, h3, h4, h5, h6⟩
 · exact .inl h3
 · exact .inr ⟨b, o, h3, by omega, by omega, h6⟩
theorem IntsR.in {w : World} {lo hi : Nat} {v : Value} {ks : List Int} (h : IntsR w lo hi v ks) : IntsIn w hi v ks := by
 obtain ⟨a, cap, hv, g1, g2, hnl, h3⟩ := h
 refine ⟨a, cap, hv, g1, g2, hnl, ?_⟩
 rcases h3 with h3 | ⟨b, o, h3, h4, h5, h6⟩
 · exact .inl h3
 · exact .inr ⟨b, o, h3, h5, h6⟩
theorem PtrsR.same {w w' : World} {lo hi n : Nat} {a : Option Addr} {ps : Nat → Nat} (h : PtrsR w lo hi a n ps) (hb : ∀ k, lo ≤ k → k < hi → w'.heap[k]? = w.heap[k]?) : PtrsR w' lo hi a n ps := by
 rcases h with h3 | ⟨b, o, h3, h4, h5, h6⟩
 · exact .inl h3
 · exact .inr ⟨b, o, h3, h4, h5, fun i hi => by rw [cell_of_blk (hb b h4 h5)]; exact h6 i hi⟩
theorem PtrsR.widen {w : World} {lo hi lo' hi' n : Nat} {a : Option Addr} {ps : Nat → Nat} (h : PtrsR w lo hi a n ps) (h1 : lo' ≤ lo) (h2 : hi ≤ hi') : PtrsR w lo' hi' a n ps := by
 rcases h with h3 | ⟨b, o, h3, h4, h5, h6⟩
 · exact .inl h3
 · exact .inr ⟨b, o, h3, by omega, by omega, h6⟩
theorem steps_le {s : Nat → Nat} {n : Nat} (hs : ∀ i, i < n → s i ≤ s (i + 1)) : ∀ i j, i ≤ j → j ≤ n → s i ≤ s j := by
 intro i j hij
 induction hij with
 | refl => intro _; exact Nat.le_refl _
 | step h ih => intro hj; exact Nat.le_trans (ih (by omega)) (hs _ (by omega))
theorem NodeIn.widen {w : World} {lo hi b : Nat} {t : Tr} (h : NodeIn w lo hi b t) : ∀ {lo' hi' : Nat}, lo' ≤ lo → hi ≤ hi' → NodeIn w lo' hi' b t := by
 cases h with
 | mk ks cs lo hi b kv a cap ps s hlo hhi hs0 hsn hs hbox hk hlen hcap hat hkids =>
   intro lo' hi' h1 h2
   exact .mk ks cs lo' hi' b kv a cap ps s (by omega) (by omega) hs0 (by omega) hs hbox (hk.widen h1 h2) hlen hcap (hat.widen h1 h2) hkids
theorem NodeIn.same {w w' : World} {lo hi b : Nat} {t : Tr} (h : NodeIn w lo hi b t) : (∀ k, lo ≤ k → k < hi → w'.heap[k]? = w.heap[k]?) → NodeIn w' lo hi b t := by
 induction h with
 | mk ks cs lo hi b kv a cap ps s hlo hhi hs0 hsn hs hbox hk hlen hcap hat hkids ih =>
   intro hb
   refine .mk ks cs lo hi b kv a cap ps s hlo hhi hs0 hsn hs ((hb b hlo hhi).trans hbox) (hk.same hb) hlen hcap (hat.same hb) (fun i hi' => ih i hi' (fun k h1 h2 => hb k ?_ ?_))
   · have := steps_le hs 0 i (by omega) (by omega); omega
   · have := steps_le hs (i + 1) cs.length (by omega) (by omega); omega
theorem NodeIn.range {w : World} {lo hi b : Nat} {t : Tr} (h : NodeIn w lo hi b t) : lo ≤ b ∧ b < hi ∧ b < w.heap.size := by
 cases h with
 | mk ks cs lo hi b kv a cap ps s hlo hhi hs0 hsn hs hbox hk hlen hcap hat hkids => exact ⟨hlo, hhi, (Array.getElem?_eq_some_iff.1 hbox).1⟩
theorem IntsOwn.inR {w : World} {lo : Nat} {v : Value} {ks : List Int} (h : IntsOwn w lo v ks) : IntsR w lo w.heap.size v ks := by
 have h0 := h
 obtain ⟨h1, ⟨h2, h3⟩ | ⟨g, cap, cur, hv, hb, hg, hn, hm, hs, ht⟩⟩ := h
 · obtain rfl : ks = [] := List.length_eq_zero_iff.1 h3
   exact ⟨none, 0, h2, by simp, by unfold maxLen; omega, fun _ => rfl, .inl rfl⟩
 · refine ⟨_, cap, hv, hn, hm, by simp, .inr ⟨g, 0, rfl, hb, (Array.getElem?_eq_some_iff.1 hg).1, fun i hi => ?_⟩⟩
   subst hv
   rw [Nat.zero_add, World.ownsRow.cellAt h0 i (by omega)]
   simp [hi]
set_option maxRecDepth 100000 in
set_option maxHeartbeats 1000000 in
theorem clone_c {v : Value} {ks : List Int} (w : World) (hk : IntsAt w v ks) (hn : ks.length ≤ 1048576) :
   Calls Try.prog 97 #[v] w fun e w' => ∃ v', e = .returned v' ∧ IntsOwn w' w.heap.size v' ks ∧ Below w.heap.size w w' := by
 obtain ⟨a, cap, rfl, hnl, h3⟩ := hk
 have q22 : ∀ (w : World) (a : Option Addr) (n c n' c' : Nat), (binOp .eql 23 (.slice a n c) (.slice none n' c')).run Try.prog w = .ok (.bool a.isNone) w := fun w a n c n' c' => Lib.run_eql_slice_nil w _ _ a n c n' c' Try.underlying23
 have h00 : IntsOwn (w.alloc (.cells #[] 3)) w.heap.size (.slice (some ⟨w.heap.size, 0, none⟩) 0 0) [] := World.ownsRow_made w #[] 0 (Nat.le_refl _) (by unfold maxLen; omega) rfl
 have hb0 : Below w.heap.size w (w.alloc (.cells #[] 3)) := (Below.refl _ _).alloc (Nat.le_refl _) _
 rcases a with _ | p
 · obtain rfl := hnl rfl
   obtain rfl : ks = [] := by
     rcases h3 with h | ⟨b, o, h, _⟩
     · exact h
     · cases h
   clear h3 h00 hb0
   go_enter Try.func97, Try.ntmps97
   go_wp2_with fail
   go_ret
   exact ⟨_, rfl, ⟨rfl, .inl ⟨rfl, rfl⟩⟩, Below.refl _ _⟩
 · have hsrc : IntsAt (w.alloc (.cells #[] 3)) (.slice (some p) ks.length cap) ks := by
     refine ⟨some p, cap, rfl, by simp, ?_⟩
     rcases h3 with h | ⟨b, o, h, hc⟩
     · exact .inl h
     · refine .inr ⟨b, o, h, fun i hi => ?_⟩
       have h1 := hc i hi
       rw [below_cell hb0 (World.block_lt_of_cell? w _ h1)]
       exact h1
   have H00 := Lib.hid h00
   have HB0 := Lib.hid hb0
   have HSRC := Lib.hid hsrc
   have hln : ([] : List Int).length + ks.length ≤ 17592186044416 := by simp; omega
   have hlo : w.heap.size ≤ (w.alloc (.cells #[] 3)).heap.size := by simp
   have HLN := Lib.hid hln
   have HLO := Lib.hid hlo
   clear h3 h00 hb0 hsrc hn hnl hln hlo
   go_enter Try.func97, Try.ntmps97
   go_wp2_with (at_builtin; refine wpList_append_ints rfl _ _ rfl w.heap.size _ _ [] ks rfl H00.out rfl HSRC.out HLN.out HLO.out ?_; intro v2 w2 hown2 hbel2 _ hsh2; obtain ⟨a2, c2, rfl⟩ := hsh2; have HOX := Lib.hid hown2; have HBX := Lib.hid hbel2; clear hown2 hbel2)
   go_ret
   exact ⟨_, rfl, by simpa using HOX.out, HB0.out.trans HBX.out⟩
end Go.Proofs.Ytananonjomfpkaa
/- Finding: what the planting of a tree and the making of the iterator over the way down leave. -/
namespace Go.Proofs.Ytananonjomfpkaa
open Go.RowKit
def DownAt (B gf : Nat) (n : Int) (t : Tr) (s : Value) (W : World) : Prop :=
 ∃ lo hi b q bn bf : Nat, s = .func (.func 104) #[] #[.pointer (some ⟨bn, 0, none⟩), .pointer (some ⟨bf, 0, none⟩)] ∧ NodeIn W lo hi b t ∧ B ≤ lo ∧ hi ≤ W.heap.size ∧ B ≤ q ∧ B ≤ bn ∧ B ≤ bf ∧
   W.heap[bn]? = some (.cells #[.pointer (some ⟨b, 0, none⟩)] 70 (0, 0)) ∧
   W.heap[bf]? = some (.cells #[.func (.func gf) #[] #[.pointer (some ⟨q, 0, none⟩)]] 81 (0, 0)) ∧
   W.heap[q]? = some (.cells #[.int .i64 n] 3 (0, 0))
theorem ownsRow_held {w w' : World} {base : Nat} {e : TypeId} {size n : Nat} {v : Value} {xs : List Value} (h : w.ownsRow base e size v n xs) (hb : ∀ k, v.ownBlock = some k → w'.heap[k]? = w.heap[k]?) : w'.ownsRow base e size v n xs := by
 obtain ⟨h1, h2 | ⟨g, cap, cur, hv, hbb, hg, hr⟩⟩ := h
 · exact ⟨h1, .inl h2⟩
 · exact ⟨h1, .inr ⟨g, cap, cur, hv, hbb, (hb g (by rw [hv]; rfl)).trans hg, hr⟩⟩
end Go.Proofs.Ytananonjomfpkaa
/- Trees in rows of a call's own, no two of which share a block. -/
namespace Go.Proofs.Ytananonjomfpkaa
open Go.RowKit
abbrev Blocks := Nat → Prop
def ownB (v : Value) : Blocks := fun b => v.ownBlock = some b
def ApartB (P Q : Blocks) : Prop := ∀ b, P b → ¬ Q b
structure KidO where
 kv : Value
 cv : Value
 P : Blocks
 t : Tr
def KidO.pair (x : KidO) : Value × Value := (x.kv, x.cv)
inductive TreeO (w : World) (lo : Nat) : Blocks → Value → Value → Tr → Prop where
 | mk (ks : List Int) (kids : List KidO) (P : Blocks) (kv cv : Value)
     (hk : IntsOwn w lo kv ks) (hc : TreesOwn w lo cv (kids.map KidO.pair))
     (hkids : ∀ x, x ∈ kids → TreeO w lo x.P x.kv x.cv x.t)
     (sk : ∀ b, ownB kv b → P b) (sc : ∀ b, ownB cv b → P b) (ss : ∀ x, x ∈ kids → ∀ b, x.P b → P b)
     (ap : (ownB kv :: ownB cv :: kids.map KidO.P).Pairwise ApartB) (lt : ∀ b, P b → lo ≤ b ∧ b < w.heap.size) : TreeO w lo P kv cv (.mk ks (kids.map KidO.t))
theorem TreeO.parts {w : World} {lo : Nat} {P : Blocks} {kv cv : Value} {ks : List Int} {cs : List Tr} (h : TreeO w lo P kv cv (.mk ks cs)) : ∃ kids : List KidO, cs = kids.map KidO.t ∧
   IntsOwn w lo kv ks ∧ TreesOwn w lo cv (kids.map KidO.pair) ∧ (∀ x, x ∈ kids → TreeO w lo x.P x.kv x.cv x.t) ∧ (∀ b, ownB kv b → P b) ∧ (∀ b, ownB cv b → P b) ∧ (∀ x, x ∈ kids → ∀ b, x.P b → P b) ∧
   (ownB kv :: ownB cv :: kids.map KidO.P).Pairwise ApartB ∧ (∀ b, P b → lo ≤ b ∧ b < w.heap.size) := by
 cases h with
 | mk _ kids _ _ _ hk hc hkids sk sc ss ap lt => exact ⟨kids, rfl, hk, hc, hkids, sk, sc, ss, ap, lt⟩
theorem ownsRow_heldB {w w' : World} {lo : Nat} {e : TypeId} {c : Nat} {v : Value} {n : Nat} {xs : List Value} (h : w.ownsRow lo e c v n xs) (hb : ∀ b, ownB v b → w'.heap[b]? = w.heap[b]?) : w'.ownsRow lo e c v n xs := ownsRow_held h (fun k e => hb k e)
theorem TreeO.same {w w' : World} {lo : Nat} {P : Blocks} {kv cv : Value} {t : Tr} (h : TreeO w lo P kv cv t) (hz : w.heap.size ≤ w'.heap.size) (hb : ∀ b, P b → w'.heap[b]? = w.heap[b]?) : TreeO w' lo P kv cv t := by
 induction h with
 | mk ks kids P kv cv hk hc hkids sk sc ss ap lt ih =>
   exact .mk ks kids P kv cv (ownsRow_heldB hk (fun b e => hb b (sk b e))) (ownsRow_heldB hc (fun b e => hb b (sc b e))) (fun x hx => ih x hx (fun b e => hb b (ss x hx b e))) sk sc ss ap
     (fun b e => ⟨(lt b e).1, Nat.lt_of_lt_of_le (lt b e).2 hz⟩)
theorem TreeO.later {w w' : World} {lo C : Nat} {P : Blocks} {kv cv : Value} {t : Tr} (h : TreeO w lo P kv cv t) (hb : Below C w w') (hC : w.heap.size ≤ C) : TreeO w' lo P kv cv t := by
 refine h.same hb.size (fun b e => hb.block b ?_)
 cases h with
 | mk ks kids _ _ _ hk hc hkids sk sc ss ap lt => have := (lt b e).2; omega
theorem TreeO.lt {w : World} {lo : Nat} {P : Blocks} {kv cv : Value} {t : Tr} (h : TreeO w lo P kv cv t) : ∀ b, P b → lo ≤ b ∧ b < w.heap.size := by
 cases h with
 | mk ks kids _ _ _ hk hc hkids sk sc ss ap lt => exact lt
theorem ownsRow_lower {w : World} {lo lo' : Nat} {e : TypeId} {c : Nat} {v : Value} {n : Nat} {xs : List Value} (h : w.ownsRow lo e c v n xs) (hl : lo' ≤ lo) : w.ownsRow lo' e c v n xs := by
 obtain ⟨h1, h2 | ⟨g, cap, cur, hv, hb, hr⟩⟩ := h
 · exact ⟨h1, .inl h2⟩
 · exact ⟨h1, .inr ⟨g, cap, cur, hv, by omega, hr⟩⟩
theorem TreeO.lower {w : World} {lo lo' : Nat} {P : Blocks} {kv cv : Value} {t : Tr} (h : TreeO w lo P kv cv t) (hl : lo' ≤ lo) : TreeO w lo' P kv cv t := by
 induction h with
 | mk ks kids P kv cv hk hc hkids sk sc ss ap lt ih =>
   exact .mk ks kids P kv cv (ownsRow_lower hk hl) (ownsRow_lower hc hl) ih sk sc ss ap (fun b e => ⟨by have := (lt b e).1; omega, (lt b e).2⟩)
theorem TreeO.tree {w : World} {lo : Nat} {P : Blocks} {kv cv : Value} {t : Tr} (h : TreeO w lo P kv cv t) : TreeIn w w.heap.size kv cv t := by
 induction h with
 | mk ks kids P kv cv hk hc hkids sk sc ss ap lt ih =>
   obtain ⟨a, cap, rfl, hn, hm, hat⟩ := TreesOwn.kids hc
   have e1 : (kids.map KidO.pair).length = (kids.map KidO.t).length := by simp
   rw [e1] at hn hat ⊢
   refine .mk ks (kids.map KidO.t) _ a cap _ _ (IntsOwn.in hk) hn hm hat (fun i hi => ?_)
   simp at hi
   have := ih kids[i] (List.getElem_mem hi)
   simpa [hi, KidO.pair] using this
theorem TreeO.nil (w : World) (lo : Nat) : TreeO w lo (fun _ => False) (.slice none 0 0) (.slice none 0 0) (.mk [] []) :=
 .mk [] [] _ _ _ ⟨rfl, .inl ⟨rfl, rfl⟩⟩ ⟨rfl, .inl ⟨rfl, rfl⟩⟩ (fun x h => by cases h) (fun b h => by cases h) (fun b h => by cases h) (fun x h => by cases h)
   (List.pairwise_cons.2 ⟨fun _ _ b h => (by cases h), List.pairwise_cons.2 ⟨fun _ _ b h => (by cases h), List.Pairwise.nil⟩⟩) (fun b h => h.elim)
theorem TreeO.shown {w : World} {lo : Nat} {P : Blocks} {kv cv : Value} {ks : List Int} {cs : List Tr} (h : TreeO w lo P kv cv (.mk ks cs)) : ∃ a c a' c', kv = .slice a ks.length c ∧ cv = .slice a' cs.length c' := by
 obtain ⟨kids, rfl, hk, hc, _⟩ := h.parts
 obtain ⟨a, c, e⟩ := IntsOwn.shown hk
 obtain ⟨a', c', e'⟩ := TreesOwn.shown hc
 exact ⟨a, c, a', c', e, by simpa using e'⟩
theorem TreeO.push {w w' : World} {lo : Nat} {P Q : Blocks} {kv cv v' xk xc : Value} {ks : List Int} {kids : List KidO} {u : Tr}
   (hk : IntsOwn w lo kv ks) (hkids : ∀ x, x ∈ kids → TreeO w lo x.P x.kv x.cv x.t) (sk : ∀ b, ownB kv b → P b) (sc : ∀ b, ownB cv b → P b) (ss : ∀ x, x ∈ kids → ∀ b, x.P b → P b)
   (ap : (ownB kv :: ownB cv :: kids.map KidO.P).Pairwise ApartB) (lt : ∀ b, P b → lo ≤ b ∧ b < w.heap.size) (hz : w.heap.size ≤ w'.heap.size)
   (hb : ∀ b, P b → ¬ ownB cv b → w'.heap[b]? = w.heap[b]?) (hx : TreeO w' lo Q xk xc u) (hQ : ∀ b, Q b → w.heap.size ≤ b)
   (hrow : TreesOwn w' lo v' (kids.map KidO.pair ++ [(xk, xc)])) (hv : ∀ b, ownB v' b → ownB cv b ∨ (w.heap.size ≤ b ∧ ¬ Q b)) :
   TreeO w' lo (fun b => P b ∨ Q b ∨ ownB v' b) kv v' (.mk ks (kids.map KidO.t ++ [u])) ∧ (∀ b, (P b ∨ Q b ∨ ownB v' b) → P b ∨ w.heap.size ≤ b) := by
 have hap := List.pairwise_cons.1 ap
 have hap2 := List.pairwise_cons.1 hap.2
 have hPQ : ∀ b, P b → ¬ Q b := fun b h1 h2 => by have := (lt b h1).2; have := hQ b h2; omega
 have he : kids.map KidO.t ++ [u] = (kids ++ [(⟨xk, xc, Q, u⟩ : KidO)]).map KidO.t := by simp
 rw [he]
 refine ⟨.mk ks (kids ++ [⟨xk, xc, Q, u⟩]) _ kv v' (ownsRow_heldB hk (fun b e => hb b (sk b e) (fun g => hap.1 (ownB cv) (by simp) b e g))) (by rw [List.map_append]; exact hrow) (fun x h => ?_) (fun b e => .inl (sk b e)) (fun b e => .inr (.inr e)) (fun x h b e => ?_) ?_ (fun b e => ?_), fun b e => ?_⟩
 · rcases List.mem_append.1 h with h | h
   · exact (hkids x h).same hz (fun b e => hb b (ss x h b e) (fun g => hap2.1 x.P (List.mem_map_of_mem h) b g e))
   · simp at h; subst h; exact hx
 · rcases List.mem_append.1 h with h | h
   · exact .inl (ss x h b e)
   · simp at h; subst h; exact .inr (.inl e)
 · have hvP : ∀ R : Blocks, (∀ b, R b → P b) → (∀ b, ownB cv b → ¬ R b) → ∀ b, ownB v' b → ¬ R b := fun R h1 h2 b e g => by
     rcases hv b e with h | h
     · exact h2 b h g
     · have := (lt b (h1 b g)).2; omega
   rw [List.map_append, List.map_cons, List.map_nil]
   refine List.pairwise_cons.2 ⟨fun R hR => ?_, List.pairwise_cons.2 ⟨fun R hR => ?_, ?_⟩⟩
   · simp only [List.mem_cons, List.mem_append, List.not_mem_nil, or_false] at hR
     rcases hR with rfl | hR | rfl
     · intro b e g; exact hvP (ownB kv) sk (fun b h1 h2 => hap.1 (ownB cv) (by simp) b h2 h1) b g e
     · exact hap.1 R (List.mem_cons_of_mem _ hR)
     · exact fun b e => hPQ b (sk b e)
   · simp only [List.mem_append, List.mem_cons, List.not_mem_nil, or_false] at hR
     rcases hR with hR | rfl
     · obtain ⟨x, hx', rfl⟩ := List.mem_map.1 hR
       exact hvP x.P (ss x hx') (hap2.1 x.P hR)
     · intro b e g
       rcases hv b e with h | h
       · exact hPQ b (sc b h) g
       · exact h.2 g
   · refine List.pairwise_append.2 ⟨hap2.2, List.pairwise_singleton _ _, fun R hR S hS => ?_⟩
     simp only [List.mem_cons, List.not_mem_nil, or_false] at hS
     subst hS
     obtain ⟨x, hx', rfl⟩ := List.mem_map.1 hR
     exact fun b e => hPQ b (ss x hx' b e)
 · rcases e with e | e | e
   · exact ⟨(lt b e).1, Nat.lt_of_lt_of_le (lt b e).2 hz⟩
   · exact hx.lt b e
   · exact hrow.lt b e
 · rcases e with e | e | e
   · exact .inl e
   · exact .inr (hQ b e)
   · rcases hv b e with h | h
     · exact .inl (sc b h)
     · exact .inr h.1
namespace Tr
mutual
def nkeys : Tr → Nat
 | .mk k c => k.length + nkeysL c
def nkeysL : List Tr → Nat
 | [] => 0
 | t :: r => nkeys t + nkeysL r
end
mutual
def remark (k : Int) : Tr → Tr
 | .mk ks cs => .mk (marks k ks.length) (remarks (k + ks.length) cs)
def remarks (k : Int) : List Tr → List Tr
 | [] => []
 | t :: r => remark k t :: remarks (k + nkeys t) r
end
mutual
theorem nkeys_le : ∀ t : Tr, nkeys t ≤ t.weight
 | .mk k c => by have := nkeysL_le c; simp only [nkeys, weight]; omega
theorem nkeysL_le : ∀ c : List Tr, nkeysL c ≤ weights c
 | [] => by simp [nkeysL]
 | t :: r => by have := nkeys_le t; have := nkeysL_le r; simp only [nkeysL, weights]; omega
end
def upTo (k : Int) (j : Nat) (cs : List Tr) : List Tr := remarks k (cs.take j) ++ cs.drop j
mutual
theorem remark_weight (k : Int) : ∀ t : Tr, (remark k t).weight = t.weight
 | .mk ks cs => by simp only [remark, weight, marks_length, remarks_weights]
theorem remarks_weights (k : Int) : ∀ cs : List Tr, weights (remarks k cs) = weights cs
 | [] => rfl
 | t :: r => by simp only [remarks, weights, remark_weight, remarks_weights]
end
end Tr
end Go.Proofs.Ytananonjomfpkaa
