/- The iterator over the parts of a node: kids and keys by turns. -/
import Derived.Test.YtananonjomfpkaaQf13
/- A tree is valid just if evenDepth tells a depth and the keys ascend: plain data. -/
namespace Go.Proofs.Ytananonjomfpkaa
open Go.RowKit
theorem nodesB_parts {wide least d : Int} {ks : List Int} {cs : List Tr} (h : Tr.nodesB wide least d (.mk ks cs) = true) :
   (least ≤ (ks.length : Int) ∧ (ks.length : Int) ≤ wide) ∧ ((cs.length = 0 ∧ d = 1) ∨ (cs.length ≠ 0 ∧ d ≠ 1 ∧ cs.length = ks.length + 1 ∧ ks.length ≠ 0 ∧ ∀ i (hi : i < cs.length), Tr.nodesB wide (wide / 2) (d - 1) cs[i] = true)) := by
 simp only [Tr.nodesB, Bool.and_eq_true, Bool.or_eq_true, inB, decide_eq_true_eq, beq_iff_eq, Bool.not_eq_true', decide_eq_false_iff_not] at h
 obtain ⟨⟨h1, h2⟩, h3⟩ := h
 refine ⟨h1, ?_⟩
 by_cases h0 : cs.length = 0
 · left
   refine ⟨h0, ?_⟩
   simp only [h0, decide_true] at h2
   exact of_decide_eq_true h2.symm
 · right
   rcases h3 with h3 | ⟨⟨h3, h4⟩, h5⟩
   · exact absurd h3 h0
   · refine ⟨h0, fun e => ?_, h3, h4, fun i hi => Tr.nodesAllB_get h5 i hi⟩
     simp [h0, e] at h2
theorem nodesB_leaf {wide least : Int} {ks : List Int} {cs : List Tr} (h1 : least ≤ (ks.length : Int)) (h2 : (ks.length : Int) ≤ wide) (h0 : cs.length = 0) : Tr.nodesB wide least 1 (.mk ks cs) = true := by
 simp [Tr.nodesB, inB, h1, h2, h0]
theorem nodesB_inner {wide least d : Int} {ks : List Int} {cs : List Tr} (h1 : least ≤ (ks.length : Int)) (h2 : (ks.length : Int) ≤ wide) (hd : d ≠ 1) (hl : cs.length = ks.length + 1) (hk : ks.length ≠ 0)
   (hc : ∀ i (hi : i < cs.length), Tr.nodesB wide (wide / 2) (d - 1) cs[i] = true) : Tr.nodesB wide least d (.mk ks cs) = true := by
 have h0 : cs.length ≠ 0 := by omega
 have hall := Tr.nodesAllB_of hc
 have e0 : decide (cs.length = 0) = false := decide_eq_false h0
 have e1 : decide (d = 1) = false := decide_eq_false hd
 have e2 : decide (ks.length = 0) = false := decide_eq_false hk
 have e3 : decide (cs.length = ks.length + 1) = true := decide_eq_true hl
 simp only [Tr.nodesB, inB, h1, h2, decide_true, Bool.and_true, e0, e1, e2, e3, hall, Bool.not_false]
 rfl
theorem depths_same {cs : List Tr} {D : Nat} (h0 : cs.length ≠ 0) (h : ∀ i (hi : i < cs.length), cs[i].depth = D) : Tr.depths cs = D := by
 induction cs with
 | nil => exact absurd rfl h0
 | cons t r ih =>
   have h1 := h 0 (by simp)
   simp only [List.getElem_cons_zero] at h1
   simp only [Tr.depths, h1]
   by_cases hr : r.length = 0
   · have : r = [] := List.length_eq_zero_iff.1 hr
     subst this; simp [Tr.depths]
   · rw [ih hr (fun i hi => by have := h (i + 1) (by simpa using hi); simpa using this)]
     simp
theorem even_yes {ds : List Nat} (h : evenF ds ≠ 0) : ds.getD 0 0 ≠ 0 ∧ (∀ i (hi : i < ds.length), ds[i] = ds.getD 0 0) ∧ evenF ds = ds.getD 0 0 + 1 := by
 unfold evenF at h ⊢
 split at h
 · rename_i hc
   rw [if_pos hc]
   exact ⟨hc.1, fun i hi => hc.2 _ (List.getElem_mem hi), rfl⟩
 · exact absurd rfl h
theorem even_nodes (wide : Int) (hw : 2 ≤ wide) : ∀ (l : Nat) (least : Int) (t : Tr), (∀ ks cs, t = .mk ks cs → cs.length ≠ 0 → 1 ≤ least) → t.evenD wide l least ≠ 0 →
   t.nodesB wide least (t.evenD wide l least) = true ∧ t.depth = t.evenD wide l least
 | 0, _, _, _, h => absurd rfl h
 | l + 1, least, .mk ks cs, hin, h => by
   have hu : Tr.evenD wide (l + 1) least (.mk ks cs) = if (ks.length : Int) < least ∨ wide < (ks.length : Int) then 0 else if cs.length = 0 then 1 else if cs.length ≠ ks.length + 1 then 0 else evenF (cs.map (Tr.evenD wide l (wide / 2))) := by simp only [Tr.evenD]
   rw [hu] at h ⊢
   by_cases g1 : (ks.length : Int) < least ∨ wide < (ks.length : Int)
   · rw [if_pos g1] at h; exact absurd rfl h
   rw [if_neg g1] at h ⊢
   by_cases g2 : cs.length = 0
   · rw [if_pos g2]
     have : cs = [] := List.length_eq_zero_iff.1 g2
     subst this
     exact ⟨nodesB_leaf (by omega) (by omega) rfl, by simp [Tr.depth, Tr.depths]⟩
   rw [if_neg g2] at h ⊢
   by_cases g3 : cs.length ≠ ks.length + 1
   · rw [if_pos g3] at h; exact absurd rfl h
   rw [if_neg g3] at h ⊢
   obtain ⟨y1, y2, y3⟩ := even_yes h
   generalize hD : (cs.map (Tr.evenD wide l (wide / 2))).getD 0 0 = D at y1 y2 y3
   have hk : ∀ i (hi : i < cs.length), cs[i].evenD wide l (wide / 2) = D := fun i hi => by
     have := y2 i (by simpa using hi)
     simpa using this
   have hkid : ∀ i (hi : i < cs.length), cs[i].nodesB wide (wide / 2) D = true ∧ cs[i].depth = D := fun i hi => by
     have := even_nodes wide hw l (wide / 2) cs[i] (fun _ _ _ _ => by omega) (by rw [hk i hi]; exact y1)
     rw [hk i hi] at this
     exact this
   have hl1 := hin ks cs rfl g2
   rw [y3]
   refine ⟨nodesB_inner (by omega) (by omega) (by omega) (by omega) (by omega) (fun i hi => ?_), ?_⟩
   · have := (hkid i hi).1
     rw [show ((D + 1 : Nat) : Int) - 1 = (D : Int) by omega]
     exact this
   · simp only [Tr.depth]
     rw [depths_same g2 (fun i hi => (hkid i hi).2)]
theorem nodesB_pos (wide : Int) : ∀ (n : Nat) (least d : Int) (t : Tr), t.weight ≤ n → t.nodesB wide least d = true → 1 ≤ d := by
 intro n
 induction n with
 | zero =>
   intro least d t hn h
   cases t with
   | mk ks cs =>
     rcases (nodesB_parts h).2 with ⟨_, h2⟩ | ⟨h0, h2, h3, h4, h5⟩
     · omega
     · simp only [Tr.weight] at hn; have := Tr.length_le_weights cs; omega
 | succ n ih =>
   intro least d t hn h
   cases t with
   | mk ks cs =>
     rcases (nodesB_parts h).2 with ⟨_, h2⟩ | ⟨h0, h2, h3, h4, h5⟩
     · omega
     · have hk := h5 0 (by omega)
       simp only [Tr.weight] at hn
       have := Tr.weight_get_le cs 0 (by omega)
       have := ih _ _ _ (by omega) hk
       omega
theorem nodes_even (wide : Int) (hw : 2 ≤ wide) : ∀ (l : Nat) (least d : Int) (t : Tr), t.nodesB wide least d = true → d ≤ l → (t.evenD wide l least : Int) = d
 | 0, least, d, t, h, hd => by have := nodesB_pos wide _ least d t (Nat.le_refl _) h; omega
 | l + 1, least, d, .mk ks cs, h, hd => by
   have hu : Tr.evenD wide (l + 1) least (.mk ks cs) = if (ks.length : Int) < least ∨ wide < (ks.length : Int) then 0 else if cs.length = 0 then 1 else if cs.length ≠ ks.length + 1 then 0 else evenF (cs.map (Tr.evenD wide l (wide / 2))) := by simp only [Tr.evenD]
   obtain ⟨⟨h1, h2⟩, h3⟩ := nodesB_parts h
   rw [hu, if_neg (by omega)]
   rcases h3 with ⟨h3, h4⟩ | ⟨h3, h4, h5, h6, h7⟩
   · rw [if_pos h3, h4]; rfl
   · rw [if_neg h3, if_neg (by omega)]
     have hp := nodesB_pos wide _ _ _ _ (Nat.le_refl _) (h7 0 (by omega))
     rw [evenF_yes (d := (d - 1).toNat) (by simp; omega) (by omega) (fun i hi => ?_)]
     · omega
     · have hi' : i < cs.length := by simpa using hi
       have := nodes_even wide hw l (wide / 2) (d - 1) cs[i] (h7 i hi') (by omega)
       simp only [List.getElem_map]
       omega
theorem lens_ge {cs : List Tr} {m : Nat} (h : ∀ i (hi : i < cs.length), m ≤ cs[i].keys.length + 1) : cs.length * m ≤ Tr.lens (Tr.keyss cs) + cs.length := by
 induction cs with
 | nil => simp
 | cons t r ih =>
   have h1 := h 0 (by simp)
   have h2 := ih (fun i hi => by have := h (i + 1) (by simpa using hi); simpa using this)
   simp only [List.getElem_cons_zero] at h1
   simp only [Tr.keyss, Tr.lens, List.length_cons, Nat.add_mul, Nat.one_mul]
   omega
theorem keys_len (ks : List Int) (cs : List Tr) : (Tr.mk ks cs).keys.length = Tr.lens (Tr.keyss cs) + ks.length := by
 have hk := Tr.length_keyss cs
 rw [Tr.keys, Tr.upto_length, List.take_of_length_le (by omega), List.take_of_length_le (by omega)]
theorem nodes_keys (wide : Int) (hw : 2 ≤ wide) : ∀ (e : Nat) (least d : Int) (t : Tr), d = (e : Int) + 1 → (1 ≤ least ∨ 1 ≤ e) → t.nodesB wide least d = true → 2 ^ (e + 1) ≤ t.keys.length + 1
 | 0, least, d, .mk ks cs, hd, hl, h => by
   obtain ⟨⟨h1, h2⟩, h3⟩ := nodesB_parts h
   rw [keys_len]
   rcases hl with hl | hl
   · omega
   · omega
 | e + 1, least, d, .mk ks cs, hd, hl, h => by
   obtain ⟨⟨h1, h2⟩, h3⟩ := nodesB_parts h
   rcases h3 with ⟨h3, h4⟩ | ⟨h3, h4, h5, h6, h7⟩
   · omega
   · have hkid : ∀ i (hi : i < cs.length), 2 ^ (e + 1) ≤ cs[i].keys.length + 1 := fun i hi => nodes_keys wide hw e (wide / 2) (d - 1) cs[i] (by omega) (.inl (by omega)) (h7 i hi)
     have h8 := lens_ge hkid
     have h9 : 2 * 2 ^ (e + 1) ≤ cs.length * 2 ^ (e + 1) := Nat.mul_le_mul_right _ (by omega)
     rw [keys_len]
     have : 2 ^ (e + 1 + 1) = 2 * 2 ^ (e + 1) := by rw [Nat.pow_succ, Nat.mul_comm]
     omega
theorem okAt_get {ks : List Int} (h : sortedB ks = true) (i : Nat) (hi : i < ks.length) : okAt ks i = true := by
 simp only [sortedB, List.all_eq_true, List.mem_range] at h
 exact h i hi
theorem sorted_ge {ks : List Int} (h : sortedB ks = true) : ∀ i, i < ks.length → (i : Int) ≤ ks.getD i 0 ∧ ks.getD i 0 ≤ 99 := by
 intro i
 induction i with
 | zero =>
   intro hi
   have h1 := okAt_get h 0 hi
   simp only [okAt, inB, Bool.and_eq_true, decide_eq_true_eq] at h1
   omega
 | succ i ih =>
   intro hi
   have h0 := ih (by omega)
   have h1 := okAt_get h (i + 1) hi
   simp only [okAt, inB, Bool.and_eq_true, decide_eq_true_eq, Bool.or_eq_true, Nat.add_sub_cancel] at h1
   omega
theorem sorted_len {ks : List Int} (h : sortedB ks = true) : ks.length ≤ 100 := by
 by_cases h0 : ks.length ≤ 100
 · exact h0
 · have := sorted_ge h 100 (by omega)
   omega
theorem nodesB_root {wide d : Int} {ks : List Int} {cs : List Tr} : Tr.nodesB wide 0 d (.mk ks cs) = Tr.nodesB wide ((min cs.length 1 : Nat) : Int) d (.mk ks cs) := by
 rw [Bool.eq_iff_iff]
 constructor
 · intro h
   obtain ⟨⟨h1, h2⟩, h3⟩ := nodesB_parts h
   rcases h3 with ⟨h3, rfl⟩ | ⟨h3, h4, h5, h6, h7⟩
   · exact nodesB_leaf (by omega) h2 h3
   · exact nodesB_inner (by omega) h2 h4 h5 h6 h7
 · intro h
   obtain ⟨⟨h1, h2⟩, h3⟩ := nodesB_parts h
   rcases h3 with ⟨h3, rfl⟩ | ⟨h3, h4, h5, h6, h7⟩
   · exact nodesB_leaf (by omega) h2 h3
   · exact nodesB_inner (by omega) h2 h4 h5 h6 h7
theorem even_valid {wide : Int} (h1 : 2 ≤ wide) (h2 : wide ≤ 6) (ks : List Int) (cs : List Tr) :
   Tr.validB wide (.mk ks cs) = (decide (0 < Tr.evenD wide 6 ((min cs.length 1 : Nat) : Int) (.mk ks cs)) && sortedB (Tr.mk ks cs).keys) := by
 unfold Tr.validB
 rw [inB_true h1 h2, Bool.true_and, nodesB_root]
 cases hs : sortedB (Tr.mk ks cs).keys with
 | false => simp
 | true =>
   rw [Bool.and_true, Bool.and_true, Bool.eq_iff_iff, decide_eq_true_eq]
   have hlen := sorted_len hs
   have hin : ∀ ks' cs', Tr.mk ks cs = .mk ks' cs' → cs'.length ≠ 0 → (1 : Int) ≤ ((min cs.length 1 : Nat) : Int) := fun ks' cs' e h => by cases e; omega
   constructor
   · intro h
     have hp := nodesB_pos wide _ _ _ _ (Nat.le_refl _) h
     have hd : (Tr.mk ks cs).depth ≤ 6 := by
       by_cases hd : (Tr.mk ks cs).depth ≤ 6
       · exact hd
       · have := nodes_keys wide h1 ((Tr.mk ks cs).depth - 1) _ _ _ (by omega) (.inr (by omega)) h
         have h64 : 2 ^ 7 ≤ 2 ^ ((Tr.mk ks cs).depth - 1 + 1) := Nat.pow_le_pow_right (by omega) (by omega)
         omega
     have := nodes_even wide h1 6 _ _ _ h (by omega)
     omega
   · intro h
     obtain ⟨g1, g2⟩ := even_nodes wide h1 6 _ _ hin (by omega)
     rw [g2]; exact g1
end Go.Proofs.Ytananonjomfpkaa
/- The iterator over the parts of a node: kids and keys by turns. -/
namespace Go.Proofs.Ytananonjomfpkaa
open Go.RowKit
attribute [local go_sem] Oper.semAt_some
inductive Part where
 | kid (i b : Nat)
 | key (k : Int)
def Part.enc : Part → Array Value
 | .kid _ b => #[.pointer (some ⟨b, 0, none⟩), .int .i64 0]
 | .key k => #[.pointer none, .int .i64 k]
def partAt (n : Nat) (ps : Nat → Nat) (ks : List Int) (i : Nat) : List Part :=
 (if i < n then [.kid i (ps i)] else []) ++ (if i < ks.length then [.key (ks.getD i 0)] else [])
def partsTo (n : Nat) (ps : Nat → Nat) (ks : List Int) (j : Nat) : List Part := (List.range j).flatMap (partAt n ps ks)
theorem partsTo_succ (n : Nat) (ps : Nat → Nat) (ks : List Int) (j : Nat) : partsTo n ps ks (j + 1) = partsTo n ps ks j ++ partAt n ps ks j := by
 simp [partsTo, List.range_succ]
theorem partsTo_pre (n : Nat) (ps : Nat → Nat) (ks : List Int) (j m : Nat) (h : j ≤ m) : partsTo n ps ks j <+: partsTo n ps ks m := by
 induction h with
 | refl => exact List.prefix_refl _
 | step _ ih => rw [partsTo_succ]; exact ih.trans (List.prefix_append _ _)
theorem parts_both {n : Nat} {ps : Nat → Nat} {ks : List Int} {j : Nat} (h1 : j < n) (h2 : j < ks.length) : partsTo n ps ks (j + 1) = partsTo n ps ks j ++ [.kid j (ps j)] ++ [.key (ks.getD j 0)] := by
 rw [partsTo_succ, partAt, if_pos h1, if_pos h2, List.append_assoc]
theorem parts_kid {n : Nat} {ps : Nat → Nat} {ks : List Int} {j : Nat} (h1 : j < n) (h2 : ¬ j < ks.length) : partsTo n ps ks (j + 1) = partsTo n ps ks j ++ [.kid j (ps j)] := by
 rw [partsTo_succ, partAt, if_pos h1, if_neg h2, List.append_nil]
theorem parts_key {n : Nat} {ps : Nat → Nat} {ks : List Int} {j : Nat} (h1 : ¬ j < n) (h2 : j < ks.length) : partsTo n ps ks (j + 1) = partsTo n ps ks j ++ [.key (ks.getD j 0)] := by
 rw [partsTo_succ, partAt, if_neg h1, if_pos h2, List.nil_append]
theorem pre_kid {n : Nat} {ps : Nat → Nat} {ks : List Int} {j M : Nat} (h1 : j < n) (hM : j < M) : partsTo n ps ks j ++ [.kid j (ps j)] <+: partsTo n ps ks M := by
 refine List.IsPrefix.trans ?_ (partsTo_pre n ps ks (j + 1) M hM)
 by_cases h2 : j < ks.length
 · rw [parts_both h1 h2]; exact List.prefix_append _ _
 · rw [parts_kid h1 h2]; exact List.prefix_refl _
theorem pre_both {n : Nat} {ps : Nat → Nat} {ks : List Int} {j M : Nat} (h1 : j < n) (h2 : j < ks.length) (hM : j < M) : partsTo n ps ks j ++ [.kid j (ps j)] ++ [.key (ks.getD j 0)] <+: partsTo n ps ks M := by
 rw [← parts_both h1 h2]; exact partsTo_pre n ps ks (j + 1) M hM
theorem pre_key {n : Nat} {ps : Nat → Nat} {ks : List Int} {j M : Nat} (h1 : ¬ j < n) (h2 : j < ks.length) (hM : j < M) : partsTo n ps ks j ++ [.key (ks.getD j 0)] <+: partsTo n ps ks M := by
 rw [← parts_key h1 h2]; exact partsTo_pre n ps ks (j + 1) M hM
set_option maxRecDepth 100000 in
set_option maxHeartbeats 2000000 in
theorem parts_iter {w₀ : World} {lo hi b : Nat} {ks : List Int} {cs : List Tr} {kv : Value} {a : Option Addr} {cap : Nat} {ps : Nat → Nat} (hhi : hi ≤ w₀.heap.size)
   (hlo : lo ≤ b) (hb : b < hi) (hbox : w₀.heap[b]? = some (.cells #[kv, .slice a cs.length cap] 99 (0, 0))) (hk : IntsR w₀ lo hi kv ks) (_hlen : cs.length ≤ cap) (_hcap : cap ≤ maxLen)
   (hat : PtrsR w₀ lo hi a cs.length ps) (_hsz1 : ks.length ≤ 1048576) (hsz2 : cs.length ≤ 1048576) :
   Iter Try.prog 133 #[.pointer (some ⟨b, 0, none⟩)] #[] Part.enc (fun k => lo ≤ k ∧ k < hi) (partsTo cs.length ps ks (max cs.length ks.length)) w₀ := by
 intro l J Jx Pv W hkeep hRd hbnd hJ hJx hY h0
 have hbl : ∀ k, lo ≤ k → k < hi → W.heap[k]? = w₀.heap[k]? := fun k h1 h2 => hkeep.block k (by omega) ⟨h1, h2⟩
 have hbox' := (hbl b hlo hb).trans hbox
 have hk' := hk.same hbl
 have hat' := hat.same hbl
 clear hbox hk hat hbl hkeep
 obtain ⟨ka, kcap, rfl, k1, k2, k3, k4⟩ := hk'
 unfold maxLen at _hcap k2
 refine callsIn_wide (n := 9).1 (callsIn_of_wp Try.func133 rfl trivial ?_ rfl)
 simp only [Try.ntmps133, List.size_toArray, List.length_cons, List.length_nil, Nat.reduceAdd, Nat.reduceSub, Array.replicate_succ, Array.replicate_zero, List.push_toArray, List.append_toArray, List.nil_append, List.cons_append]
 obtain ⟨x1, x2, x3, x4⟩ := box2 hbox'
 obtain ⟨M, hM⟩ : ∃ M, M = max cs.length ks.length := ⟨_, rfl⟩
 have HM := Lib.hid hM
 have K4 := Lib.hid k4
 have HAT := Lib.hid hat'
 have HBOX := Lib.hid hbox'
 clear k4 hat' hbox' hM
 rcases Nat.lt_or_ge cs.length ks.length with hlt | hge
 · gi_wp2
   gi_quiet (fail)
   gi_wp2
   have e0 : (ks.length : Int) = (M : Int) := by have := HM.out; omega
   rw [e0]
   clear e0
   gi_loopw [17] (fun i wr => ∃ (j : Nat), i = .int .i64 j ∧ j ≤ M ∧ J (partsTo cs.length ps ks j) Pv wr ∧ Keep Pv W wr) (fun i _ => M - (intOf i).toNat)
   case atStart => exact ⟨0, rfl, Nat.zero_le _, hJ _ _ _ _ _ h0 (Keep.drewN _ _ _) (fun k h => .inl h), Keep.drewN _ _ _⟩
   case round =>
     obtain ⟨j, rfl, hj, hJs, hkp⟩ := hrel
     have hM1 : cs.length ≤ M := by have := HM.out; omega
     have hM2 : ks.length ≤ M := by have := HM.out; omega
     by_cases hjM : j < M
     · have hbW := (Array.getElem?_eq_some_iff.1 HBOX.out).1
       obtain ⟨y1, y2, y3, y4⟩ := box2 ((hkp.block b hbW (hRd b ⟨hlo, hb⟩)).trans HBOX.out)
       clear x1 x2 x3 x4
       by_cases hkid : j < cs.length
       · rcases HAT.out with h | ⟨qb, qo, rfl, q1, q2, q3⟩
         · omega
         have cq : wr.cell? ⟨qb, qo + j, none⟩ = some (.pointer (some ⟨ps j, 0, none⟩)) := by
           have hb0 := World.block_lt_of_cell? W _ (q3 j hkid)
           rw [cell_of_blk (hkp.block qb hb0 (hRd qb ⟨q1, q2⟩))]; exact q3 j hkid
         clear q3
         have hkidB : decide ((j : Int) < (cs.length : Int)) = true := by simp [hkid]
         obtain ⟨fn, tmps, assign, body, hy, hR⟩ := hY _ (.kid j (ps j)) Pv wr hJs hkp (fun _ h => h) (fun k h => Nat.lt_of_lt_of_le (hbnd k h) hkp.size) (by rw [← HM.out]; exact pre_kid hkid hjM)
         dsimp only [Part.enc] at hy
         gi_wp2
         refine (hR _).mono ?_
         rintro e W3 ⟨hk3, (⟨rfl, hJ3⟩ | ⟨rfl, hJx3⟩)⟩
         · have hk3' := hkp.trans hk3
           clear y1 y2 y3 y4 hy hR
           obtain ⟨y1, y2, y3, y4⟩ := box2 ((hk3'.block b hbW (hRd b ⟨hlo, hb⟩)).trans HBOX.out)
           by_cases hkey : j < ks.length
           · have hpre := pre_both (ps := ps) hkid hkey hjM
             have hnext := parts_both (ps := ps) hkid hkey
             rcases K4.out with h | ⟨pb, po, rfl, g1, g2, g3⟩
             · rw [h] at hkey; simp at hkey
             have ck : W3.cell? ⟨pb, po + j, none⟩ = some (.int .i64 (ks.getD j 0)) := by
               have hb0 := World.block_lt_of_cell? W _ (g3 j hkey)
               rw [cell_of_blk ((hk3').block pb hb0 (hRd pb ⟨g1, g2⟩))]; exact g3 j hkey
             have hkeyB : decide ((j : Int) < (ks.length : Int)) = true := by simp [hkey]
             obtain ⟨fn2, tmps2, assign2, body2, hy2, hR2⟩ := hY _ (.key (ks.getD j 0)) Pv W3 hJ3 (hk3') (fun _ h => h) (fun k h => Nat.lt_of_lt_of_le (hbnd k h) (hk3').size) (by rw [← HM.out]; exact hpre)
             dsimp only [Part.enc] at hy2
             have HPRE := Lib.hid hpre
             have HNEXT := Lib.hid hnext
             clear hpre hnext
             obtain ⟨kk, hkk⟩ : ∃ kk, kk = ks.getD j 0 := ⟨_, rfl⟩
             rw [← hkk] at ck hy2
             have HKK := Lib.hid hkk
             clear g3 hkk
             gi_wp2
             refine (hR2 _).mono ?_
             rintro e W4 ⟨hk4, (⟨rfl, hJ4⟩ | ⟨rfl, hJx4⟩)⟩
             · gi_wp2
               go_roundw
               case rel => exact ⟨j + 1, by go_num, by omega, by rw [HNEXT.out]; exact hJ4, (hk3').trans hk4⟩
               case measure => simp [intOf]; omega
             · gi_wp2
               refine bodyPost_ret (results_none rfl _ _ _) rfl ?_
               exact ⟨⟨_, rfl⟩, (hk3').trans hk4, .inr ⟨_, by rw [← HM.out]; exact HPRE.out, hJx4⟩⟩
           · exfalso; omega
         · gi_wp2
           refine bodyPost_ret (results_none rfl _ _ _) rfl ?_
           exact ⟨⟨_, rfl⟩, hkp.trans hk3, .inr ⟨_, by rw [← HM.out]; exact pre_kid hkid hjM, hJx3⟩⟩
       · have hkidB : decide ((j : Int) < (cs.length : Int)) = false := by simp; omega
         by_cases hkey : j < ks.length
         · have hpre := pre_key (ps := ps) hkid hkey hjM
           have hnext := parts_key (ps := ps) hkid hkey
           rcases K4.out with h | ⟨pb, po, rfl, g1, g2, g3⟩
           · rw [h] at hkey; simp at hkey
           have ck : wr.cell? ⟨pb, po + j, none⟩ = some (.int .i64 (ks.getD j 0)) := by
             have hb0 := World.block_lt_of_cell? W _ (g3 j hkey)
             rw [cell_of_blk ((hkp).block pb hb0 (hRd pb ⟨g1, g2⟩))]; exact g3 j hkey
           have hkeyB : decide ((j : Int) < (ks.length : Int)) = true := by simp [hkey]
           obtain ⟨fn2, tmps2, assign2, body2, hy2, hR2⟩ := hY _ (.key (ks.getD j 0)) Pv wr hJs (hkp) (fun _ h => h) (fun k h => Nat.lt_of_lt_of_le (hbnd k h) (hkp).size) (by rw [← HM.out]; exact hpre)
           dsimp only [Part.enc] at hy2
           have HPRE := Lib.hid hpre
           have HNEXT := Lib.hid hnext
           clear hpre hnext
           obtain ⟨kk, hkk⟩ : ∃ kk, kk = ks.getD j 0 := ⟨_, rfl⟩
           rw [← hkk] at ck hy2
           have HKK := Lib.hid hkk
           clear g3 hkk
           gi_wp2
           refine ⟨fun _ h => (by cases h), ?_⟩
           gi_wp2
           refine (hR2 _).mono ?_
           rintro e W4 ⟨hk4, (⟨rfl, hJ4⟩ | ⟨rfl, hJx4⟩)⟩
           · gi_wp2
             go_roundw
             case rel => exact ⟨j + 1, by go_num, by omega, by rw [HNEXT.out]; exact hJ4, (hkp).trans hk4⟩
             case measure => simp [intOf]; omega
           · gi_wp2
             refine bodyPost_ret (results_none rfl _ _ _) rfl ?_
             exact ⟨⟨_, rfl⟩, (hkp).trans hk4, .inr ⟨_, by rw [← HM.out]; exact HPRE.out, hJx4⟩⟩
         · exfalso; have := HM.out; omega
     · obtain rfl : j = M := by omega
       gi_wp2
       go_end0
       exact ⟨⟨_, rfl⟩, hkp, .inl (by rw [← HM.out]; exact hJs)⟩
 · gi_wp2
   gi_quiet (fail)
   gi_wp2
   have e0 : (cs.length : Int) = (M : Int) := by have := HM.out; omega
   rw [e0]
   clear e0
   gi_loopw [17] (fun i wr => ∃ (j : Nat), i = .int .i64 j ∧ j ≤ M ∧ J (partsTo cs.length ps ks j) Pv wr ∧ Keep Pv W wr) (fun i _ => M - (intOf i).toNat)
   case atStart => exact ⟨0, rfl, Nat.zero_le _, hJ _ _ _ _ _ h0 (Keep.drewN _ _ _) (fun k h => .inl h), Keep.drewN _ _ _⟩
   case round =>
     obtain ⟨j, rfl, hj, hJs, hkp⟩ := hrel
     have hM1 : cs.length ≤ M := by have := HM.out; omega
     have hM2 : ks.length ≤ M := by have := HM.out; omega
     by_cases hjM : j < M
     · have hbW := (Array.getElem?_eq_some_iff.1 HBOX.out).1
       obtain ⟨y1, y2, y3, y4⟩ := box2 ((hkp.block b hbW (hRd b ⟨hlo, hb⟩)).trans HBOX.out)
       clear x1 x2 x3 x4
       by_cases hkid : j < cs.length
       · rcases HAT.out with h | ⟨qb, qo, rfl, q1, q2, q3⟩
         · omega
         have cq : wr.cell? ⟨qb, qo + j, none⟩ = some (.pointer (some ⟨ps j, 0, none⟩)) := by
           have hb0 := World.block_lt_of_cell? W _ (q3 j hkid)
           rw [cell_of_blk (hkp.block qb hb0 (hRd qb ⟨q1, q2⟩))]; exact q3 j hkid
         clear q3
         have hkidB : decide ((j : Int) < (cs.length : Int)) = true := by simp [hkid]
         obtain ⟨fn, tmps, assign, body, hy, hR⟩ := hY _ (.kid j (ps j)) Pv wr hJs hkp (fun _ h => h) (fun k h => Nat.lt_of_lt_of_le (hbnd k h) hkp.size) (by rw [← HM.out]; exact pre_kid hkid hjM)
         dsimp only [Part.enc] at hy
         gi_wp2
         refine (hR _).mono ?_
         rintro e W3 ⟨hk3, (⟨rfl, hJ3⟩ | ⟨rfl, hJx3⟩)⟩
         · have hk3' := hkp.trans hk3
           clear y1 y2 y3 y4 hy hR
           obtain ⟨y1, y2, y3, y4⟩ := box2 ((hk3'.block b hbW (hRd b ⟨hlo, hb⟩)).trans HBOX.out)
           by_cases hkey : j < ks.length
           · have hpre := pre_both (ps := ps) hkid hkey hjM
             have hnext := parts_both (ps := ps) hkid hkey
             rcases K4.out with h | ⟨pb, po, rfl, g1, g2, g3⟩
             · rw [h] at hkey; simp at hkey
             have ck : W3.cell? ⟨pb, po + j, none⟩ = some (.int .i64 (ks.getD j 0)) := by
               have hb0 := World.block_lt_of_cell? W _ (g3 j hkey)
               rw [cell_of_blk ((hk3').block pb hb0 (hRd pb ⟨g1, g2⟩))]; exact g3 j hkey
             have hkeyB : decide ((j : Int) < (ks.length : Int)) = true := by simp [hkey]
             obtain ⟨fn2, tmps2, assign2, body2, hy2, hR2⟩ := hY _ (.key (ks.getD j 0)) Pv W3 hJ3 (hk3') (fun _ h => h) (fun k h => Nat.lt_of_lt_of_le (hbnd k h) (hk3').size) (by rw [← HM.out]; exact hpre)
             dsimp only [Part.enc] at hy2
             have HPRE := Lib.hid hpre
             have HNEXT := Lib.hid hnext
             clear hpre hnext
             obtain ⟨kk, hkk⟩ : ∃ kk, kk = ks.getD j 0 := ⟨_, rfl⟩
             rw [← hkk] at ck hy2
             have HKK := Lib.hid hkk
             clear g3 hkk
             gi_wp2
             refine (hR2 _).mono ?_
             rintro e W4 ⟨hk4, (⟨rfl, hJ4⟩ | ⟨rfl, hJx4⟩)⟩
             · gi_wp2
               go_roundw
               case rel => exact ⟨j + 1, by go_num, by omega, by rw [HNEXT.out]; exact hJ4, (hk3').trans hk4⟩
               case measure => simp [intOf]; omega
             · gi_wp2
               refine bodyPost_ret (results_none rfl _ _ _) rfl ?_
               exact ⟨⟨_, rfl⟩, (hk3').trans hk4, .inr ⟨_, by rw [← HM.out]; exact HPRE.out, hJx4⟩⟩
           · have hnext := parts_kid (ps := ps) hkid hkey
             have HNEXT := Lib.hid hnext
             clear hnext
             have hkeyB : decide ((j : Int) < (ks.length : Int)) = false := by simp; omega
             gi_wp2
             refine ⟨fun _ h => (by cases h), ?_⟩
             gi_wp2
             go_roundw
             case rel => exact ⟨j + 1, by go_num, by omega, by rw [HNEXT.out]; exact hJ3, hk3'⟩
             case measure => simp [intOf]; omega
         · gi_wp2
           refine bodyPost_ret (results_none rfl _ _ _) rfl ?_
           exact ⟨⟨_, rfl⟩, hkp.trans hk3, .inr ⟨_, by rw [← HM.out]; exact pre_kid hkid hjM, hJx3⟩⟩
       · have hkidB : decide ((j : Int) < (cs.length : Int)) = false := by simp; omega
         exfalso; have := HM.out; omega
     · obtain rfl : j = M := by omega
       gi_wp2
       go_end0
       exact ⟨⟨_, rfl⟩, hkp, .inl (by rw [← HM.out]; exact hJs)⟩
end Go.Proofs.Ytananonjomfpkaa
