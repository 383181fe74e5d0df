/- The contract of the program's RankOf. -/
import Derived.Test.YtananonjomfpkaaQd26
import Derived.Sort.CutIn
/- Maps of pointers to counts. -/
namespace Go.Proofs.Ytananonjomfpkaa
open Go.RowKit
def CMap (w : World) (b : Nat) (K : Nat → Option Nat) : Prop :=
 ∃ L clock, PMapIs w b L clock ∧ (∀ e ∈ L, PAddr w e.1 ∧ ∃ k n : Nat, e.1 = ⟨k, 0, none⟩ ∧ e.2.1 = .int .i64 n ∧ K k = some n) ∧ ∀ k n, K k = some n → ∃ e ∈ L, e.1 = ⟨k, 0, none⟩
theorem CMap.kept {w w' : World} {b : Nat} {K : Nat → Option Nat} (h : CMap w b K) (hk : ∀ k, k < w.heap.size → w'.heap[k]? = w.heap[k]?) : CMap w' b K := by
 obtain ⟨L, clock, h1, h2, h3⟩ := h
 have hlt : b < w.heap.size := (Array.getElem?_eq_some_iff.1 h1).1
 exact ⟨L, clock, (hk b hlt).trans h1, fun e he => ⟨(h2 e he).1.kept (fun k hlt _ => hk k hlt), (h2 e he).2⟩, h3⟩
theorem CMap.ne {w : World} {b k : Nat} {K : Nat → Option Nat} {c : Array Value} {t : TypeId} (h : CMap w b K) (hk : w.heap[k]? = some (.cells c t (0, 0))) : k ≠ b := by
 obtain ⟨L, clock, h1, _⟩ := h
 unfold PMapIs at h1
 intro e
 rw [e, h1] at hk
 cases hk
theorem CMap.held {w w' : World} {b : Nat} {K : Nat → Option Nat} (h : CMap w b K) (hb : w'.heap[b]? = w.heap[b]?) (hp : ∀ k n, K k = some n → w'.heap[k]? = w.heap[k]?) : CMap w' b K := by
 obtain ⟨L, clock, h1, h2, h3⟩ := h
 refine ⟨L, clock, hb.trans h1, fun e he => ?_, h3⟩
 obtain ⟨hpa, k, n, e1, e2, e3⟩ := h2 e he
 exact ⟨hpa.kept (fun q _ hq => by rw [hq, e1]; exact hp k n e3), k, n, e1, e2, e3⟩
section
variable {P : Program} {T K E V : TypeId} {j jv : TypeInfo}
theorem cmap_new (w : World) : CMap (w.alloc (.map #[] 0)) w.heap.size (fun _ => none) :=
 ⟨[], 0, by unfold PMapIs; rw [show (w.alloc (.map #[] 0)).heap[w.heap.size]? = some (.map #[] 0) from World.alloc_heap_new w _]; rfl, by simp, by simp⟩
theorem cmap_lookup (w : World) (hT : P.underlying T = some (.map K V)) (hk : P.underlying K = some (.pointer E)) (hE : P.info? E = some j) (hsz : j.size ≠ 0) {z : Value} (hV : P.info? V = some jv) (hz : jv.zero = some z)
   {b : Nat} {M : Nat → Option Nat} (hm : CMap w b M) {q n : Nat} (hq : PAddr w ⟨q, 0, none⟩) (hn : M q = some n) :
   (Instr.lookup T (.map (some b)) (.pointer (some ⟨q, 0, none⟩)) false).run P w = .ok (.int .i64 n) w := by
 obtain ⟨L, clock, h1, h2, h3⟩ := hm
 rw [run_lookup_ptr w hT hk hE hsz hV hz h1 hq (fun e he => (h2 e he).1)]
 obtain ⟨e, he, e1⟩ := h3 q n hn
 cases hp : pfind ⟨q, 0, none⟩ L 0 with
 | none => exact absurd e1.symm (pfind_not hp e he)
 | some r =>
   obtain ⟨i, v⟩ := r
   obtain ⟨_, hi, e2, e3⟩ := pfind_some hp
   obtain ⟨_, k, m, e4, e5, e6⟩ := h2 _ (List.getElem_mem hi)
   rw [e2] at e4
   cases e4
   rw [e3] at e5
   rw [hn] at e6
   cases e6
   simp [e5]
theorem cmap_update (w : World) (hT : P.underlying T = some (.map K V)) (hk : P.underlying K = some (.pointer E)) (hE : P.info? E = some j) (hsz : j.size ≠ 0)
   {b : Nat} {M : Nat → Option Nat} (hm : CMap w b M) {q : Nat} (hq : PAddr w ⟨q, 0, none⟩) (hn : M q = none) (n : Nat) :
   ∃ o : Obj, (Instr.mapUpdate T (.map (some b)) (.pointer (some ⟨q, 0, none⟩)) (.int .i64 n)).run P w = .ok () (w.putObj b o) ∧ CMap (w.putObj b o) b (fun k => if k = q then some n else M k) := by
 obtain ⟨L, clock, h1, h2, h3⟩ := hm
 have hlt : b < w.heap.size := (Array.getElem?_eq_some_iff.1 h1).1
 have hne : ∀ a, PAddr w a → a.block ≠ b := fun a ⟨c, t, h⟩ e => by unfold PMapIs at h1; rw [e, h1] at h; cases h
 have hput : ∀ (o : Obj) a, PAddr w a → PAddr (w.putObj b o) a := fun o a h => h.kept (fun k _ e => World.putObj_heap_other (by rw [e]; exact hne a h))
 have hno : ∀ e ∈ L, (⟨q, 0, none⟩ : Addr) ≠ e.1 := fun e he hqe => by
   obtain ⟨_, k, m, e4, _, e6⟩ := h2 e he
   rw [e4] at hqe
   cases hqe
   rw [hn] at e6
   cases e6
 have hrun := run_mapUpdate_new w hT hk hE hsz h1 hq (fun e he => (h2 e he).1) hno (.int .i64 n)
 refine ⟨.map ((L ++ [((⟨q, 0, none⟩ : Addr), Value.int .i64 n, clock)]).map mkEntry).toArray (clock + 1), by rw [hrun]; rfl, ?_⟩
 refine ⟨L ++ [((⟨q, 0, none⟩ : Addr), Value.int .i64 n, clock)], clock + 1, (by unfold PMapIs; exact World.putObj_heap_same hlt), fun e he => ?_, fun k m hkm => ?_⟩
 · rcases List.mem_append.1 he with he | he
   · obtain ⟨hp, k, m, e4, e5, e6⟩ := h2 e he
     refine ⟨hput _ _ hp, k, m, e4, e5, ?_⟩
     by_cases hkq : k = q
     · rw [hkq, hn] at e6; cases e6
     · show (if k = q then some n else M k) = some m
       rw [if_neg hkq]; exact e6
   · obtain rfl : e = ((⟨q, 0, none⟩ : Addr), Value.int .i64 n, clock) := by simpa using he
     exact ⟨hput _ _ hq, q, n, rfl, rfl, by simp⟩
 · by_cases hkq : k = q
   · subst hkq
     exact ⟨((⟨k, 0, none⟩ : Addr), Value.int .i64 n, clock), by simp, rfl⟩
   · have hkm' : M k = some m := by
       have h : (if k = q then some n else M k) = some m := hkm
       rwa [if_neg hkq] at h
     obtain ⟨e, he, e1⟩ := h3 k m hkm'
     exact ⟨e, by simp [he], e1⟩
end
end Go.Proofs.Ytananonjomfpkaa
/- The contract of count: how many keys lie in each node and below it, kept in a map. -/
namespace Go.Proofs.Ytananonjomfpkaa
open Go.RowKit
def kidAt (w : World) (b i p : Nat) : Prop :=
 ∃ (kv : Value) (qb qo n cap : Nat), w.heap[b]? = some (.cells #[kv, .slice (some ⟨qb, qo, none⟩) n cap] 99 (0, 0)) ∧ w.cell? ⟨qb, qo + i, none⟩ = some (.pointer (some ⟨p, 0, none⟩))
theorem kidAt_unique {w : World} {b i p p' : Nat} (h : kidAt w b i p) (h' : kidAt w b i p') : p = p' := by
 obtain ⟨kv, qb, qo, n, cap, h1, h2⟩ := h
 obtain ⟨kv', qb', qo', n', cap', h1', h2'⟩ := h'
 rw [h1] at h1'
 simp only [Option.some.injEq, Obj.cells.injEq] at h1'
 have e := congrArg Array.toList h1'.1
 simp only [List.cons.injEq, Value.slice.injEq, Option.some.injEq, Addr.mk.injEq] at e
 obtain ⟨_, ⟨⟨rfl, rfl, _⟩, _⟩, _⟩ := e
 rw [h2] at h2'
 simpa using h2'
inductive Counted (w : World) (K : Nat → Option Nat) : Nat → Tr → Prop where
 | mk (b : Nat) (ks : List Int) (cs : List Tr) (h : K b = some (Tr.mk ks cs).keys.length) (kids : ∀ i (hi : i < cs.length) (p : Nat), kidAt w b i p → Counted w K p cs[i]) : Counted w K b (.mk ks cs)
theorem Counted.parts {w : World} {K : Nat → Option Nat} {b : Nat} {ks : List Int} {cs : List Tr} (h : Counted w K b (.mk ks cs)) :
   K b = some (Tr.mk ks cs).keys.length ∧ ∀ i (hi : i < cs.length) (p : Nat), kidAt w b i p → Counted w K p cs[i] := by
 cases h with
 | mk b ks cs h kids => exact ⟨h, kids⟩
theorem Counted.told {w : World} {K : Nat → Option Nat} {b : Nat} {t : Tr} (h : Counted w K b t) : K b = some t.keys.length := by
 cases h with
 | mk b ks cs h kids => exact h
theorem Counted.mono {w : World} {lo hi b : Nat} {t : Tr} (hn : NodeIn w lo hi b t) : ∀ {K K' : Nat → Option Nat}, Counted w K b t → (∀ k, lo ≤ k → k < hi → K' k = K k) → Counted w K' b t := by
 induction hn with
 | mk ks cs lo hi b kv a cap ps s hlo hhi hs0 hsn hs hbox hk hlen hcap hat hkids ih =>
   intro K K' h hK
   obtain ⟨h1, h2⟩ := h.parts
   refine .mk b ks cs (by rw [hK b hlo hhi]; exact h1) (fun i hi' p hp => ?_)
   have h3 := h2 i hi' p hp
   rcases hat with h0 | ⟨qb, qo, rfl, q1, q2, q3⟩
   · omega
   have hps : kidAt w b i (ps i) := ⟨_, _, _, _, _, hbox, q3 i hi'⟩
   obtain rfl := kidAt_unique hp hps
   refine ih i hi' h3 (fun k k1 k2 => hK k ?_ ?_)
   · have := steps_le hs 0 i (by omega) (by omega); omega
   · have := steps_le hs (i + 1) cs.length (by omega) (by omega); omega
theorem Counted.move {w w' : World} {lo hi b : Nat} {t : Tr} (hn : NodeIn w lo hi b t) : ∀ {K : Nat → Option Nat}, Counted w K b t → (∀ k, lo ≤ k → k < hi → w'.heap[k]? = w.heap[k]?) → Counted w' K b t := by
 induction hn with
 | mk ks cs lo hi b kv a cap ps s hlo hhi hs0 hsn hs hbox hk hlen hcap hat hkids ih =>
   intro K h hK
   obtain ⟨h1, h2⟩ := h.parts
   refine .mk b ks cs h1 (fun i hi' p hp => ?_)
   rcases hat with h0 | ⟨qb, qo, rfl, q1, q2, q3⟩
   · omega
   have hps : kidAt w b i (ps i) := ⟨_, _, _, _, _, hbox, q3 i hi'⟩
   have hps' : kidAt w' b i (ps i) := ⟨_, _, _, _, _, (hK b hlo hhi).trans hbox, (cell_of_blk (hK qb q1 q2)).trans (q3 i hi')⟩
   obtain rfl := kidAt_unique hp hps'
   refine ih i hi' (h2 i hi' _ hps) (fun k k1 k2 => hK k ?_ ?_)
   · have := steps_le hs 0 i (by omega) (by omega); omega
   · have := steps_le hs (i + 1) cs.length (by omega) (by omega); omega
theorem Try.infoNodeSz : (Try.prog.info? 99).map (fun i => decide (i.size ≠ 0)) = some true := by kernel_rfl
theorem Try.infoIntZ : (Try.prog.info? 3).map (fun i => i.zero) = some (some (.int .i64 0)) := by kernel_rfl
theorem lens_snoc (cs : List Tr) (j : Nat) (h : j < cs.length) : Tr.lens ((Tr.keyss cs).take (j + 1)) = Tr.lens ((Tr.keyss cs).take j) + cs[j].keys.length := by
 rw [List.take_add_one, Tr.lens_append, Tr.keyss_get cs j h]; rfl
theorem lens_take_le (cs : List Tr) (j : Nat) : Tr.lens ((Tr.keyss cs).take j) ≤ Tr.lens (Tr.keyss cs) := by
 conv => rhs; rw [← List.take_append_drop j (Tr.keyss cs), Tr.lens_append]
 omega
set_option maxRecDepth 100000 in
set_option maxHeartbeats 4000000 in
theorem count_c {w : World} {lo hi b : Nat} {t : Tr} (ht : NodeIn w lo hi b t) : t.weight ≤ 1048576 → hi ≤ w.heap.size → ∀ (W : World) (mb : Nat) (K : Nat → Option Nat), Keep (fun k => lo ≤ k ∧ k < hi) w W → CMap W mb K → (∀ k, lo ≤ k → k < hi → K k = none) → ¬ (lo ≤ mb ∧ mb < hi) →
   Calls Try.prog 68 #[.pointer (some ⟨b, 0, none⟩), .map (some mb)] W fun e W' => e = .returned (.int .i64 t.keys.length) ∧ ∃ K', CMap W' mb K' ∧ Counted w K' b t ∧ (∀ k, ¬ (lo ≤ k ∧ k < hi) → K' k = K k) ∧ Keep (fun k => k ≠ mb) W W' ∧ W'.heap.size = W.heap.size := by
 induction ht with
 | mk ks cs lo hi b kv a cap ps s hlo hhi hs0 hsn hs hbox hk hlen hcap hat hkids ih =>
   intro hwt hhw W mb K hkeep hmap hnone hmb
   obtain ⟨i0, hi0, hi1⟩ := Option.map_eq_some_iff.1 Try.infoNodeSz
   have hsz : i0.size ≠ 0 := by simpa using hi1
   have hboxW : W.heap[b]? = some (.cells #[kv, .slice a cs.length cap] 99 (0, 0)) := (hkeep.block b (by omega) ⟨hlo, hhi⟩).trans hbox
   obtain ⟨ka, kcap, rfl, k1, k2, _⟩ := hk
   have hkl := keys_len ks cs
   have hkle := Tr.keys_length_le (.mk ks cs)
   simp only [Tr.weight] at hwt hkle
   have hl0 := Tr.length_le_weights cs
   have hltk := fun j => lens_take_le cs j
   have hbd : ks.length + Tr.lens (Tr.keyss cs) ≤ 1048576 := by omega
   have hne := hmap.ne hboxW
   obtain ⟨x1, x2, x3, x4⟩ := box2 hboxW
   unfold maxLen at hcap k2
   have HAT := Lib.hid hat
   have IH := Lib.hid ih
   have HKD := Lib.hid hkids
   have HS := Lib.hid hs
   have HKP := Lib.hid hkeep
   have HM := Lib.hid hmap
   have HNO := Lib.hid hnone
   have HBOX := Lib.hid (And.intro hbox hboxW)
   have HKL := Lib.hid hkl
   have HLT := Lib.hid hltk
   have HSZ := Lib.hid (And.intro hi0 hsz)
   clear hat ih hkids hs hkeep hmap hnone hbox hboxW hkl hltk hi1 hi0 hsz
   go_enter Try.func68, Try.ntmps68
   go_wp2_with fail
   go_loopw [5, 19] (fun tot i wr => ∃ (j : Nat) (K' : Nat → Option Nat) (n : Nat), j ≤ cs.length ∧ i = .int .i64 j ∧ tot = .int .i64 n ∧ n = ks.length + Tr.lens ((Tr.keyss cs).take j) ∧ CMap wr mb K' ∧ (∀ q (hq : q < cs.length), q < j → Counted w K' (ps q) cs[q]) ∧
     (∀ k, ¬ (s 0 ≤ k ∧ k < s j) → K' k = K k) ∧ Keep (fun k => k ≠ mb) W wr ∧ wr.heap.size = W.heap.size) (fun _ i _ => cs.length - (intOf i).toNat)
   case atStart => exact ⟨0, K, ks.length, Nat.zero_le _, rfl, rfl, by simp [Tr.lens], HM.out, fun q _ h => by omega, fun k _ => rfl, Keep.refl _ _, rfl⟩
   case round =>
     obtain ⟨j, K', n, hj, rfl, rfl, hn, hm, hcnt, hK, hkp, hsz2⟩ := hrel
     have HM' := Lib.hid hm
     have HCNT := Lib.hid hcnt
     have HK := Lib.hid hK
     have HKP2 := Lib.hid hkp
     have HSZ2 := Lib.hid hsz2
     have hlj := HLT.out j
     have hnb : n ≤ 1048576 := by omega
     have HN := Lib.hid hn
     clear hn hm hcnt hK hkp hsz2 x1 x2 x3 x4
     have hbW : b < W.heap.size := (Array.getElem?_eq_some_iff.1 HBOX.out.2).1
     obtain ⟨x1, x2, x3, x4⟩ := box2 ((HKP2.out.block b hbW hne).trans HBOX.out.2)
     by_cases hlt : j < cs.length
     · have g1 := steps_le HS.out 0 j (by omega) (by omega)
       have g2 := steps_le HS.out (j + 1) cs.length (by omega) (by omega)
       have g3 := HS.out j hlt
       rcases HAT.out with h0 | ⟨qb, qo, rfl, q1, q2, q3⟩
       · omega
       have hqW : W.heap[qb]? = w.heap[qb]? := HKP.out.block qb (by omega) ⟨q1, q2⟩
       have hcW := (cell_of_blk hqW).trans (q3 j hlt)
       have hqm : qb ≠ mb := by
         have hlt9 := World.block_lt_of_cell? W _ hcW
         intro e
         have hc9 := hcW
         obtain ⟨L, clock, h1, _⟩ := HM.out
         unfold PMapIs at h1
         rw [e] at hc9
         simp [World.cell?, h1] at hc9
       have hcell : wr.cell? ⟨qb, qo + j, none⟩ = some (.pointer (some ⟨ps j, 0, none⟩)) := (cell_of_blk (HKP2.out.block qb (World.block_lt_of_cell? W _ hcW) hqm)).trans hcW
       have hsn2 := lens_snoc cs j hlt
       have hl1 := HLT.out (j + 1)
       have hrange := (HKD.out j hlt).range
       have hKeep : Keep (fun k => s j ≤ k ∧ k < s (j + 1)) w wr := by
         refine (HKP.out.mono (fun k _ h => ⟨by omega, by omega⟩)).trans ⟨HKP2.out.os, HKP2.out.tape, HKP2.out.output, HKP2.out.size, fun k h1 h2 => HKP2.out.block k h1 ?_⟩
         intro e
         subst e
         omega
       have hcall := IH.out j hlt (by have := Tr.weight_get_le cs j hlt; omega) (by omega) wr mb K' hKeep HM'.out (fun k h1 h2 => by rw [HK.out k (by omega)]; exact HNO.out k (by omega) (by omega)) (by omega)
       have hn' := HN.out
       generalize hG1 : Tr.lens ((Tr.keyss cs).take j) = g at hlj hsn2 hn'
       generalize hG2 : Tr.lens ((Tr.keyss cs).take (j + 1)) = g' at hl1 hsn2
       have hkj := Tr.keys_length_le cs[j]
       have hwj := Tr.weight_get_le cs j hlt
       generalize hKJ : cs[j].keys.length = kj at hsn2 hcall hkj
       have hnk : n + kj ≤ 1048576 := by omega
       have HG := Lib.hid (And.intro hG2 (And.intro hsn2 hn'))
       have HC := Lib.hid hcall
       have HQ3 := Lib.hid q3
       have hjl : (j : Int) < (cs.length : Int) := by omega
       clear hG1 hG2 hsn2 hn' hcall hKJ q3 hcW hqW hKeep
       go_wp2_with fail
       refine HC.out.mono ?_
       rintro e w3 ⟨rfl, K3, hm3, hc3, hK3, hk3, hs3⟩
       have H3 := Lib.hid (And.intro hm3 (And.intro hc3 (And.intro hK3 (And.intro hk3 hs3))))
       clear hm3 hc3 hK3 hk3 hs3
       go_wp2_with fail
       go_roundw
       case rel =>
         refine ⟨j + 1, K3, n + kj, by omega, by go_num, by go_num, by have := HG.out; omega, H3.out.1, fun q hq hqj => ?_, fun k hk => ?_, HKP2.out.trans H3.out.2.2.2.1, H3.out.2.2.2.2.trans HSZ2.out⟩
         · by_cases e : q = j
           · subst e; exact H3.out.2.1
           · refine Counted.mono (HKD.out q hq) (HCNT.out q hq (by omega)) (fun k h1 h2 => H3.out.2.2.1 k ?_)
             have := steps_le HS.out (q + 1) j (by omega) (by omega)
             omega
         · rw [H3.out.2.2.1 k (by omega), HK.out k (by omega)]
       case measure => simp [intOf]; omega
     · obtain rfl : j = cs.length := by omega
       have hfull : Tr.lens ((Tr.keyss cs).take cs.length) = Tr.lens (Tr.keyss cs) := by rw [List.take_of_length_le (by rw [Tr.length_keyss]; omega)]
       have hKb : K' b = none := by rw [HK.out b (by omega)]; exact HNO.out b hlo hhi
       obtain ⟨o, hrun, hmo⟩ := cmap_update wr Try.underlying89 Try.underlying70 HSZ.out.1 HSZ.out.2 HM'.out (q := b) ⟨_, _, (HKP2.out.block b hbW hne).trans HBOX.out.2⟩ hKb n
       have HMO := Lib.hid hmo
       have HFULL := Lib.hid hfull
       clear hmo hfull hKb
       go_wp2_with fail
       go_ret
       have hnn : n = (Tr.mk ks cs).keys.length := by have h1 := HN.out; rw [HFULL.out] at h1; have h2 := HKL.out; omega
       refine ⟨ret_int (by rw [hnn]), _, HMO.out, .mk b ks cs (by rw [← hnn]; simp) (fun i hi' p hp => ?_), fun k hk => ?_, HKP2.out.trans (Keep.putObj _ _ _ _ (by simp)), by simp [HSZ2.out]⟩
       · rcases HAT.out with h0 | ⟨qb, qo, rfl, q1, q2, q3⟩
         · omega
         have hps : kidAt w b i (ps i) := ⟨_, _, _, _, _, HBOX.out.1, q3 i hi'⟩
         obtain rfl := kidAt_unique hp hps
         refine Counted.mono (HKD.out i hi') (HCNT.out i hi' hi') (fun k h1 h2 => ?_)
         have := steps_le HS.out 0 i (by omega) (by omega)
         show (if k = b then _ else K' k) = K' k
         rw [if_neg (by omega)]
       · show (if k = b then _ else K' k) = K k
         rw [if_neg (by omega), HK.out k (by omega)]
end Go.Proofs.Ytananonjomfpkaa
/- A node's block holds cells. -/
namespace Go.Proofs.Ytananonjomfpkaa
open Go.RowKit
theorem nodeAt_cells {w : World} {lo hi b : Nat} {t : Tr} (h : NodeAt w lo hi b t) : ∃ c, w.heap[b]? = some (.cells c 99 (0, 0)) := by
 cases h with
 | mk ks cs b kv a cap ps hlo hhi hbox hk hlen hcap hat hkids => exact ⟨_, hbox⟩
end Go.Proofs.Ytananonjomfpkaa
/- The contract of the program's RankOf. -/
namespace Go.Proofs.Ytananonjomfpkaa
open Go.RowKit
attribute [local go_sem] Oper.semAt_some
attribute [local go_sem] wide_fn
theorem lens_gen (l : List (List Int)) (j : Nat) : Tr.lens (l.take j) ≤ Tr.lens l := by
 conv => rhs; rw [← List.take_append_drop j l, Tr.lens_append]
 omega
theorem lens_part (cs : List Tr) {j p : Nat} (h : j ≤ p) : Tr.lens ((Tr.keyss cs).take j) ≤ Tr.lens ((Tr.keyss cs).take p) := by
 have h1 := lens_gen ((Tr.keyss cs).take p) j
 rwa [List.take_take, Nat.min_eq_left h] at h1
theorem way_counted {w : World} {lo hi b : Nat} {t : Tr} (c : Int) (h : NodeIn w lo hi b t) : ∀ {K : Nat → Option Nat}, Counted w K b t → Tr.Well t → t.weight ≤ 1048576 → ∃ xs, xs.map Prod.snd = t.way c ∧ WayIn w lo hi c b t xs ∧ ∀ x ∈ xs, Counted w K x.1 x.2 := by
 induction h with
 | mk ks cs lo hi b kv a cap ps s hlo hhi hs0 hsn hs hbox hk hlen hcap hat hkids ih =>
   intro K hcn hw hwt
   have hst : Stop w lo hi b (.mk ks cs) kv a cap := ⟨(NodeIn.mk ks cs lo hi b kv a cap ps s hlo hhi hs0 hsn hs hbox hk hlen hcap hat hkids).nodeAt, hbox, hk, hlo, hhi, hlen, hcap, hw, hwt⟩
   by_cases hc : cs.length = 0
   · exact ⟨[(b, .mk ks cs)], by rw [Tr.way_leaf hc]; rfl, .leaf b _ kv a cap hst hc, fun x hx => by simp at hx; subst hx; exact hcn⟩
   · have hcl := Tr.Well.inner hw hc
     have hp := place_le c ks
     have hi' : place c ks < cs.length := by omega
     have hwk := Tr.weight_get_le cs _ hi'
     simp only [Tr.weight] at hwt
     rcases hat with h | ⟨qb, qo, rfl, q1, q2, q3⟩
     · exact absurd h hc
     have hka : kidAt w b (place c ks) (ps (place c ks)) := ⟨_, _, _, _, _, hbox, q3 _ hi'⟩
     obtain ⟨xs, h1, h2, h3⟩ := ih _ hi' (hcn.parts.2 _ hi' _ hka) (Tr.Well.kid hw _ hi') (by omega)
     refine ⟨(b, .mk ks cs) :: xs, by rw [Tr.way_inner hi', List.map_cons, h1], .inner b _ kv qb qo cap _ _ xs hst hcl q1 q2 (q3 _ hi') (h2.widen ?_ ?_), fun x hx => ?_⟩
     · have := steps_le hs 0 (place c ks) (by omega) (by omega); omega
     · have := steps_le hs (place c ks + 1) cs.length (by omega) (by omega); omega
     · rcases List.mem_cons.1 hx with rfl | hx
       · exact hcn
       · exact h3 x hx
theorem downAt_of {gf : Nat} {n : Int} {t : Tr} {wl : World} {lo hi nb B : Nat} (_hnd : NodeIn wl lo hi nb t) (_hB : B ≤ lo) (_hhi : hi ≤ wl.heap.size) (_hBw : B ≤ wl.heap.size) :
   ∃ b q bn bf : Nat, (Value.func (.func 104) #[] #[.pointer (some ⟨wl.heap.size + 1, 0, none⟩), .pointer (some ⟨wl.heap.size + 1 + 1, 0, none⟩)]) = .func (.func 104) #[] #[.pointer (some ⟨bn, 0, none⟩), .pointer (some ⟨bf, 0, none⟩)] ∧ b = nb ∧ wl.heap.size ≤ q ∧ wl.heap.size ≤ bn ∧ wl.heap.size ≤ bf ∧
   (((wl.alloc (.cells #[.int .i64 n] 3)).alloc (.cells #[.pointer (some ⟨nb, 0, none⟩)] 70)).alloc (.cells #[.func (.func gf) #[] #[.pointer (some ⟨wl.heap.size, 0, none⟩)]] 81)).heap[bn]? = some (.cells #[.pointer (some ⟨b, 0, none⟩)] 70 (0, 0)) ∧
   (((wl.alloc (.cells #[.int .i64 n] 3)).alloc (.cells #[.pointer (some ⟨nb, 0, none⟩)] 70)).alloc (.cells #[.func (.func gf) #[] #[.pointer (some ⟨wl.heap.size, 0, none⟩)]] 81)).heap[bf]? = some (.cells #[.func (.func gf) #[] #[.pointer (some ⟨q, 0, none⟩)]] 81 (0, 0)) ∧
   (((wl.alloc (.cells #[.int .i64 n] 3)).alloc (.cells #[.pointer (some ⟨nb, 0, none⟩)] 70)).alloc (.cells #[.func (.func gf) #[] #[.pointer (some ⟨wl.heap.size, 0, none⟩)]] 81)).heap[q]? = some (.cells #[.int .i64 n] 3 (0, 0)) := by
 refine ⟨nb, wl.heap.size, wl.heap.size + 1, wl.heap.size + 1 + 1, rfl, rfl, Nat.le_refl _, by omega, by omega, ?_, ?_, ?_⟩
 · rw [old_blk _ _ _ (by simp)]
   have h := new_blk (wl.alloc (.cells #[.int .i64 n] 3)) (.cells #[.pointer (some ⟨nb, 0, none⟩)] 70)
   rw [World.size_alloc] at h; exact h
 · have h := new_blk ((wl.alloc (.cells #[.int .i64 n] 3)).alloc (.cells #[.pointer (some ⟨nb, 0, none⟩)] 70)) (.cells #[.func (.func gf) #[] #[.pointer (some ⟨wl.heap.size, 0, none⟩)]] 81)
   rw [World.size_alloc, World.size_alloc] at h; exact h
 · rw [old_blk _ _ _ (by simp; omega), old_blk _ _ _ (by simp), new_blk]
set_option maxRecDepth 100000 in
set_option maxHeartbeats 4000000 in
theorem impl_rank {w : World} {B : Nat} {kv cv : Value} {t : Tr} (ht : TreeIn w B kv cv t) (hw : t.weight ≤ 1048576) (key : Int) (w' : World) (hbw : Below B w w') (hB : B ≤ w'.heap.size) :
   Calls Try.prog 22 #[.agg #[kv, cv], .int .i64 key] w' fun e w'' => e = .returned (.int .i64 (t.rankB key)) ∧ Below w'.heap.size w' w'' := by
 obtain ⟨i0, hi0, hi1⟩ := Option.map_eq_some_iff.1 Try.infoNodeSz
 have hsz : i0.size ≠ 0 := by simpa using hi1
 obtain ⟨iz, hiz, hizz⟩ := Option.map_eq_some_iff.1 Try.infoIntZ
 have hmm := @run_makeMap Try.prog
 obtain ⟨a5, n5, m5, a6, n6, m6, rfl, rfl⟩ := ht.slices
 obtain ⟨W1, hW1⟩ : ∃ W1, W1 = w'.alloc (.cells #[.slice a5 n5 m5, .slice a6 n6 m6] 26) := ⟨_, rfl⟩
 have hs1 : W1.heap.size = w'.heap.size + 1 := by rw [hW1]; simp
 have hb1 : Below w'.heap.size w' W1 := by rw [hW1]; exact (Below.refl _ _).alloc (Nat.le_refl _) _
 have k0 : W1.heap[w'.heap.size]? = some (.cells #[.slice a5 n5 m5, .slice a6 n6 m6] 26 (0, 0)) := by rw [hW1, new_blk]
 obtain ⟨x1, x2, x3, x4⟩ := box2 k0
 have hsome := rankB_is key t
 have HT := Lib.hid ht
 have HBW := Lib.hid hbw
 have HW1 := Lib.hid hW1
 have H1 := Lib.hid (And.intro hb1 k0)
 have HSOME := Lib.hid hsome
 have HSZ := Lib.hid (And.intro hi0 (And.intro hsz (And.intro hiz hizz)))
 clear ht hbw hW1 hb1 k0 hsome hi0 hi1 hsz hiz hizz
 refine (callsIn_wide (n := 9)).1 (callsIn_of_wp_marks Try.func22 rfl trivial ?_ rfl)
 simp only [Try.ntmps22, List.size_toArray, List.length_cons, List.length_nil, Nat.reduceAdd, Nat.reduceSub, Array.replicate_succ, Array.replicate_zero, List.push_toArray, List.append_toArray, List.nil_append, List.cons_append]
 gi_wp2_with fail
 rw [← HW1.out]
 refine ((callsIn_wide (n := _)).2 (validForSome_c HT.out hw W1 (HBW.out.trans (H1.out.1.mono hB)) (by omega))).mono ?_
 rintro e w2 ⟨rfl, hb2⟩
 have hs2 := hb2.size
 clear x1 x2 x3 x4
 have j0 := (hb2.block _ (by omega)).trans H1.out.2
 obtain ⟨x1, x2, x3, x4⟩ := box2 j0
 have hb2' := H1.out.1.trans (hb2.mono (by omega))
 have H2 := Lib.hid (And.intro hb2' j0)
 clear hb2 hb2' j0
 cases hv : t.someB with
 | false =>
   have hp := HSOME.out.2 hv
   have HP := Lib.hid hp
   have HV := Lib.hid hv
   clear hp hv
   gi_wp2_with fail
   exact ⟨.int .i64 (-1), by simp [results, Try.results22, go_sem], ret_int (by rw [HP.out]), H2.out.1⟩
 | true =>
   have hp := HSOME.out.1 hv
   have hwell := Tr.Well.of_some hv
   have HP := Lib.hid hp
   have HV := Lib.hid hv
   have HWELL := Lib.hid hwell
   clear hp hv hwell
   gi_wp2_with fail
   refine CallsIn.mono ((callsIn_wide (n := _)).2 (plant_c HT.out hw _ (HBW.out.trans (H2.out.1.mono hB)) (by omega))) ?_
   rintro e w3 ⟨nb, rfl, hnd, hb3⟩
   have hs3 := hb3.size
   have HND := Lib.hid (And.intro hnd hb3)
   clear hnd hb3 x1 x2 x3 x4
   gi_wp2_with fail
   obtain ⟨W5, hW5⟩ : ∃ W5, W5 = (w3.alloc (.map #[] 0)).alloc (.cells #[.map (some w3.heap.size)] 89) := ⟨_, rfl⟩
   rw [← hW5]
   have hs5 : W5.heap.size = w3.heap.size + 2 := by rw [hW5]; simp
   have hk35 : ∀ P, Keep P w3 W5 := fun P => by rw [hW5]; exact (Keep.alloc P _ _).trans (Keep.alloc P _ _)
   have hm5 : CMap W5 w3.heap.size (fun _ => none) := by
     rw [hW5]; exact (cmap_new w3).kept (fun k h => old_blk _ _ _ h)
   have k6 : W5.heap[w3.heap.size + 1]? = some (.cells #[.map (some w3.heap.size)] 89 (0, 0)) := by
     have h := new_blk (w3.alloc (.map #[] 0)) (.cells #[.map (some w3.heap.size)] 89)
     rw [World.size_alloc] at h; rw [hW5]; exact h
   have HK6 := Lib.hid k6
   have HK35 := Lib.hid hk35
   clear hW5 k6 hmm
   refine CallsIn.mono ((callsIn_wide (n := _)).2 (count_c HND.out.1 hw (Nat.le_refl _) W5 w3.heap.size (fun _ => none) (hk35 _) hm5 (fun _ _ _ => rfl) (by omega))) ?_
   rintro e w6 ⟨rfl, K', hm6, hc6, hK6, hk6, hs6⟩
   have HM6 := Lib.hid (And.intro hm6 (And.intro hc6 (And.intro hK6 hk6)))
   clear hm6 hc6 hK6 hk6 hm5 hk35
   have hnode : NodeIn w6 w2.heap.size w3.heap.size nb t := HND.out.1.same (fun k _ h => (HM6.out.2.2.2.block k (by omega) (by omega)).trans ((HK35.out (fun _ => True)).block k h trivial))
   have hk66 := (HM6.out.2.2.2.block (w3.heap.size + 1) (by omega) (by omega)).trans HK6.out
   obtain ⟨y1, y2⟩ := box1 hk66
   have HNODE := Lib.hid hnode
   clear hnode hk66
   gi_wp2_with fail
   refine CallsIn.mono ((callsIn_wide (n := _)).2 (less_c key _)) ?_
   rintro e w9 ⟨rfl, rfl⟩
   gi_wp2_with fail
   refine CallsIn.mono ((callsIn_wide (n := _)).2 (wayDown_c _ _ _ _)) ?_
   rintro e w10 ⟨rfl, rfl⟩
   obtain ⟨W7, hW7⟩ : ∃ W7, W7 = w6.alloc (.cells #[.int .i64 0] 3) := ⟨_, rfl⟩
   rw [← hW7]
   have hs7 : W7.heap.size = w3.heap.size + 3 := by rw [hW7]; simp; omega
   have hdn := downAt_of (gf := 106) (n := key) (wl := W7) (B := w2.heap.size) (HNODE.out.same (fun k _ h => by rw [hW7]; exact old_blk _ _ _ (by omega))) (Nat.le_refl _) (by omega) (by omega)
   have hkc : ∀ k, k < w3.heap.size + 2 → (((W7.alloc (.cells #[.int .i64 key] 3)).alloc (.cells #[.pointer (some ⟨nb, 0, none⟩)] 70)).alloc (.cells #[.func (.func 106) #[] #[.pointer (some ⟨W7.heap.size, 0, none⟩)]] 81)).heap[k]? = w6.heap[k]? := fun k hk => by
     rw [old_blk _ _ _ (by simp; omega), old_blk _ _ _ (by simp; omega), old_blk _ _ _ (by omega), hW7, old_blk _ _ _ (by omega)]
   have hk7 : (((W7.alloc (.cells #[.int .i64 key] 3)).alloc (.cells #[.pointer (some ⟨nb, 0, none⟩)] 70)).alloc (.cells #[.func (.func 106) #[] #[.pointer (some ⟨W7.heap.size, 0, none⟩)]] 81)).heap[w3.heap.size + 2]? = some (.cells #[.int .i64 0] 3 (0, 0)) := by
     rw [old_blk _ _ _ (by simp; omega), old_blk _ _ _ (by simp; omega), old_blk _ _ _ (by omega), hW7]
     have h := new_blk w6 (.cells #[.int .i64 0] 3)
     rw [hs6, hs5] at h; exact h
   have hkw : Keep (fun k => k < w3.heap.size) w6 (((W7.alloc (.cells #[.int .i64 key] 3)).alloc (.cells #[.pointer (some ⟨nb, 0, none⟩)] 70)).alloc (.cells #[.func (.func 106) #[] #[.pointer (some ⟨W7.heap.size, 0, none⟩)]] 81)) := by
     rw [hW7]; exact (Keep.alloc _ _ _).trans ((Keep.alloc _ _ _).trans ((Keep.alloc _ _ _).trans (Keep.alloc _ _ _)))
   have hsc : (((W7.alloc (.cells #[.int .i64 key] 3)).alloc (.cells #[.pointer (some ⟨nb, 0, none⟩)] 70)).alloc (.cells #[.func (.func 106) #[] #[.pointer (some ⟨W7.heap.size, 0, none⟩)]] 81)).heap.size = w3.heap.size + 6 := by simp; omega
   rw [hs7] at hdn hkc hk7 hkw hsc
   rw [World.size_alloc, hs7]
   generalize (((W7.alloc (.cells #[.int .i64 key] 3)).alloc (.cells #[.pointer (some ⟨nb, 0, none⟩)] 70)).alloc (.cells #[.func (.func 106) #[] #[.pointer (some ⟨w3.heap.size + 3, 0, none⟩)]] 81)) = wc at hdn hkc hk7 hkw hsc ⊢
   obtain ⟨b, q, bn, bf, hfv, rfl, hq0, hbn0, hbf0, hbn, hbf, hq⟩ := hdn
   rw [hfv]
   clear hfv hW7
   have hnd : NodeIn wc w2.heap.size w3.heap.size b t := HNODE.out.same (fun k _ h => hkc k (by omega))
   have hcnt : Counted wc K' b t := Counted.move HND.out.1 HM6.out.2.1 (fun k _ h => (hkc k (by omega)).trans ((HM6.out.2.2.2.block k (by omega) (by omega)).trans ((HK35.out (fun _ => True)).block k h trivial)))
   obtain ⟨xs, hxs, hway, hwc⟩ := way_counted key hnd hcnt HWELL.out hw
   have hit := way_less_iter key key (Lib.hid rfl) hway (by omega) bn bf q hbn hbf hq
   have hst := hway.stops
   have hnr := hnd.range
   have hwp := Tr.rank_way key t HWELL.out
   rw [← hxs] at hwp
   have hmc : CMap wc w3.heap.size K' := HM6.out.1.held (hkc _ (by omega)) (fun k n hk => hkc k (by
     by_cases h : w2.heap.size ≤ k ∧ k < w3.heap.size
     · omega
     · rw [HM6.out.2.2.1 k h] at hk; cases hk))
   have hk6c := (hkc (w3.heap.size + 1) (by omega)).trans ((HM6.out.2.2.2.block (w3.heap.size + 1) (by omega) (by omega)).trans HK6.out)
   have l1 := (Array.getElem?_eq_some_iff.1 hbn).1
   have l2 := (Array.getElem?_eq_some_iff.1 hbf).1
   have l3 := (Array.getElem?_eq_some_iff.1 hq).1
   have HIT := Lib.hid hit
   have HST := Lib.hid hst
   have HWP := Lib.hid hwp
   have HWC := Lib.hid hwc
   have HKW := Lib.hid hkw
   have HE := Lib.hid (And.intro hk7 (And.intro hk6c hmc))
   have HKO := Lib.hid HM6.out.2.2.1
   clear hit hst hwp hwc hkw hk7 hk6c hmc hxs hway hnd hbn hbf hq hkc hcnt y1 y2
   generalize t.keys.length = kl
   gi_wp2_with fail
   refine wp_loop (fb := #[]) (lb := #[.pointer (some ⟨bn, 0, none⟩), .pointer (some ⟨bf, 0, none⟩)]) rfl (enters_of Try.func104 (by kernel_rfl) rfl) HIT.out (Keep.refl _ _) (fun x => rfl)
     (fun k => k < wc.heap.size ∧ k ≠ w3.heap.size + 2) (fun k h => by omega) (fun k h => h.1)
     (fun pre Pv W => ¬ Pv (w3.heap.size + 2) ∧ W.heap[w3.heap.size + 2]? = some (.cells #[.int .i64 ((((pre.map Prod.snd).map (Tr.rankStep key)).sum : Nat) : Int)] 3 (0, 0)))
     (fun c pre Pv W => False)
     (fun pre Pv A Pv' B h hk hp => by
       obtain ⟨h1, h2⟩ := h
       have q2 := (Array.getElem?_eq_some_iff.1 h2).1
       exact ⟨fun h => (hp _ h).elim h1 (fun h => by omega), (hk.block _ q2 h1).trans h2⟩)
     (fun c pre Pv A Pv' B h hk hp => h)
     ⟨by omega, HE.out.1⟩
     (fun x => { tmps := #[.agg #[.slice a5 n5 m5, .slice a6 n6 m6], .int .i64 key, .pointer (some ⟨w'.heap.size, 0, none⟩), undef, .int .i64 0, .pointer (some ⟨b, 0, none⟩), .pointer (some ⟨w3.heap.size + 1, 0, none⟩), .pointer (some ⟨w3.heap.size + 2, 0, none⟩),
       .pointer (some ⟨x.1, 0, none⟩), .int .i64 (place key x.2.ks), undef, undef, .agg #[.slice a5 n5 m5, .slice a6 n6 m6], .bool true, .bool false, .agg #[.slice a5 n5 m5, .slice a6 n6 m6], .pointer (some ⟨b, 0, none⟩), .map (some w3.heap.size), .pointer (some ⟨b, 0, none⟩), .map (some w3.heap.size), .int .i64 kl,
       .pointer (some ⟨b, 0, none⟩), .int .i64 key, .func (.func 106) #[] #[.pointer (some ⟨w3.heap.size + 2 + 1, 0, none⟩)], .func (.func 104) #[] #[.pointer (some ⟨bn, 0, none⟩), .pointer (some ⟨bf, 0, none⟩)], .pointer (some ⟨x.1, 0, none⟩), .int .i64 (place key x.2.ks), undef, undef, undef, undef, undef, undef, undef, undef, undef, undef, undef, undef, undef, undef, undef, undef, undef, undef, undef, undef, undef, undef, undef, undef, undef, undef, undef], defers := [] })
     ?assign ?body ?done ?stop
   case assign =>
     intro l' m x W' K hK
     dsimp only [wayEnc]
     gi_wp2
     exact hK
   case body =>
     intro l' m pre x Pv W' hI hkW hsub hbnd hp
     obtain ⟨xb, ⟨ks, cs⟩⟩ := x
     obtain ⟨h1, h2⟩ := hI
     have hxm : (xb, Tr.mk ks cs) ∈ xs := hp.subset (by simp : (xb, Tr.mk ks cs) ∈ pre ++ [(xb, Tr.mk ks cs)])
     obtain ⟨kvx, ax, capx, hs⟩ := HST.out _ hxm
     have hcx := HWC.out _ hxm
     have hsum : ((pre.map Prod.snd).map (Tr.rankStep key)).sum + Tr.rankStep key (.mk ks cs) ≤ 1048576 := by
       obtain ⟨r, hr⟩ := hp
       have h := HWP.out
       rw [← hr] at h
       simp only [List.map_append, List.map_cons, List.map_nil, List.sum_append, List.sum_cons, List.sum_nil] at h
       have h9 := place_le key t.keys
       have h8 := Tr.keys_length_le t
       omega
     have hnx : (((pre ++ [(xb, Tr.mk ks cs)]).map Prod.snd).map (Tr.rankStep key)).sum = ((pre.map Prod.snd).map (Tr.rankStep key)).sum + Tr.rankStep key (.mk ks cs) := by simp
     have hrs : Tr.rankStep key (.mk ks cs) = Tr.lens ((Tr.keyss cs).take (place key ks)) + place key ks := by
       show (Tr.upto (Tr.keyss cs) ks (place key ks)).length = _
       rw [Tr.upto_length, List.length_take]
       have := place_le key ks
       omega
     have hwell := hs.well
     have hlight := hs.light
     obtain ⟨kv9, a9, cap9, ps, n1, n2, n6, n7, n8, n9, n10, n11⟩ := hs.node.parts
     have n4 : True := trivial
     have n5 : True := trivial
     have hbW : W'.heap[xb]? = some (.cells #[kv9, .slice a9 cs.length cap9] 99 (0, 0)) := (hkW.block xb (by omega) ⟨by omega, by omega⟩).trans n6
     obtain ⟨x1, x2, x3, x4⟩ := box2 hbW
     have hmW : CMap W' w3.heap.size K' := HE.out.2.2.held (hkW.block _ (by omega) ⟨by omega, by omega⟩) (fun k n hk => by
       by_cases h : w2.heap.size ≤ k ∧ k < w3.heap.size
       · exact hkW.block k (by omega) ⟨by omega, by omega⟩
       · rw [HKO.out k h] at hk; cases hk)
     have hk6W := (hkW.block (w3.heap.size + 1) (by omega) ⟨by omega, by omega⟩).trans HE.out.2.1
     obtain ⟨z1, z2⟩ := box1 h2
     obtain ⟨z3, z4⟩ := box1 hk6W
     have hpl := place_le key ks
     dsimp only [Tr.ks]
     rw [hrs] at hsum hnx
     obtain ⟨p, hpp⟩ : ∃ p, p = place key ks := ⟨_, rfl⟩
     rw [← hpp] at hsum hnx hpl ⊢
     obtain ⟨R, hR⟩ : ∃ R, R = ((pre.map Prod.snd).map (Tr.rankStep key)).sum := ⟨_, rfl⟩
     rw [← hR] at hsum hnx z1
     have hinner := fun h => Tr.Well.inner hwell h
     have HH := Lib.hid (And.intro h2 (And.intro hmW (And.intro hk6W (And.intro hbW (And.intro hnx hR)))))
     have HN := Lib.hid (And.intro n4 (And.intro n5 (And.intro n6 (And.intro n10 (And.intro n11 hcx)))))
     have HKWW := Lib.hid hkW
     have HPP := Lib.hid hpp
     have HIN := Lib.hid hinner
     have HSUM := Lib.hid hsum
     have hlw := Tr.length_le_weights cs
     have hcl9 : cs.length ≤ 1048576 := by simp only [Tr.weight] at hlight; omega
     have hRp : R + p ≤ 1048576 := by omega
     unfold maxLen at n9
     clear h2 hmW hk6W hbW hnx hR n4 n5 n6 n7 n10 n11 hcx hkW hpp hinner hs hp hxm hrs hwell hsub hsum
     by_cases hc : cs.length = 0
     · have hce : ((cs.length : Nat) : Int) = 0 := by omega
       have HC0 := Lib.hid hc
       have HCE := Lib.hid hce
       clear hc hce
       gi_wp2
       obtain ⟨W8, hW8⟩ : ∃ W8, W8 = W'.setCell ⟨w3.heap.size + 2, 0, none⟩ (.int .i64 ((R : Int) + (p : Int))) := ⟨_, rfl⟩
       rw [← hW8]
       have h82 : W8.heap[w3.heap.size + 2]? = some (.cells #[.int .i64 ((R : Int) + (p : Int))] 3 (0, 0)) := by rw [hW8]; exact set_blk (o := 0) _ HH.out.1
       have h8o : ∀ k, k ≠ w3.heap.size + 2 → W8.heap[k]? = W'.heap[k]? := fun k hk => by rw [hW8]; exact set_other _ _ _ _ _ hk
       have hk8 : ∀ P : Nat → Prop, ¬ P (w3.heap.size + 2) → Keep P W' W8 := fun P h => by rw [hW8]; exact Keep.setCell _ _ _ _ h
       have hs8 : W8.heap.size = W'.heap.size := by rw [hW8]; simp
       clear x1 x2 x3 x4 z1 z2 z3 z4
       obtain ⟨x1, x2, x3, x4⟩ := box2 ((h8o xb (by omega)).trans HH.out.2.2.2.1)
       have H8 := Lib.hid (And.intro h82 (And.intro h8o (And.intro hk8 hs8)))
       clear hW8 h82 h8o hk8 hs8
       rw [HC0.out] at x2
       by_cases hp0 : p = 0
       · subst hp0
         refine wpIn_quiet_round rfl (by kernel_rfl) (by kernel_rfl) (by kernel_rfl) ?_
         repeat (gi_big_quiet_step (fail))
         refine wpQuietIn_nil ?_
         intro _ hw'
         obtain ⟨nq, hw''⟩ := hw'
         subst hw''
         gi_wp2
         gi_loopw [43] (fun i wr => i = .int .i64 0 ∧ wr = W8.drewN nq) (fun _ _ => 0)
         case atStart => exact ⟨rfl, rfl⟩
         case round =>
           obtain ⟨rfl, rfl⟩ := hrel
           gi_wp2
           refine ⟨(H8.out.2.2.1 Pv h1).trans (Keep.drewN _ _ _), h1, ?_⟩
           have hl0 : Tr.lens ((Tr.keyss cs).take 0) = 0 := by rw [List.length_eq_zero_iff.1 HC0.out]; simp [Tr.keyss, Tr.lens]
           rw [HH.out.2.2.2.2.1, hl0]
           simpa using H8.out.1
       · have hp1 : (0 : Int) < (p : Int) := by omega
         have hp2 : 0 < p := by omega
         have hp3 : ¬ ((p : Int) ≤ 0) := by omega
         have hp4 : ¬ (p ≤ 0) := by omega
         refine wpIn_quiet_round rfl (by kernel_rfl) (by kernel_rfl) (by kernel_rfl) ?_
         repeat (gi_big_quiet_step (fail))
         refine wpQuietIn_nil ?_
         intro _ hw'
         obtain ⟨nq, hw''⟩ := hw'
         subst hw''
         gi_wp2
         gi_loopw [43] (fun i wr => i = .int .i64 0 ∧ wr = W8.drewN nq) (fun _ _ => 0)
         case atStart => exact ⟨rfl, rfl⟩
         case round =>
           obtain ⟨rfl, rfl⟩ := hrel
           gi_wp2
           refine ⟨(H8.out.2.2.1 Pv h1).trans (Keep.drewN _ _ _), h1, ?_⟩
           have hl0 : Tr.lens ((Tr.keyss cs).take p) = 0 := by rw [List.length_eq_zero_iff.1 HC0.out]; simp [Tr.keyss, Tr.lens]
           rw [HH.out.2.2.2.2.1, hl0]
           simpa using H8.out.1
     · have hcl := HIN.out hc
       have hpc : p < cs.length := by omega
       have HCL := Lib.hid hcl
       clear hcl hc
       gi_wp2
       obtain ⟨W8, hW8⟩ : ∃ W8, W8 = W'.setCell ⟨w3.heap.size + 2, 0, none⟩ (.int .i64 ((R : Int) + (p : Int))) := ⟨_, rfl⟩
       rw [← hW8]
       have h82 : W8.heap[w3.heap.size + 2]? = some (.cells #[.int .i64 ((R : Int) + (p : Int))] 3 (0, 0)) := by rw [hW8]; exact set_blk (o := 0) _ HH.out.1
       have h8o : ∀ k, k ≠ w3.heap.size + 2 → W8.heap[k]? = W'.heap[k]? := fun k hk => by rw [hW8]; exact set_other _ _ _ _ _ hk
       have hk8 : ∀ P : Nat → Prop, ¬ P (w3.heap.size + 2) → Keep P W' W8 := fun P h => by rw [hW8]; exact Keep.setCell _ _ _ _ h
       have hs8 : W8.heap.size = W'.heap.size := by rw [hW8]; simp
       clear x1 x2 x3 x4 z1 z2 z3 z4
       obtain ⟨x1, x2, x3, x4⟩ := box2 ((h8o xb (by omega)).trans HH.out.2.2.2.1)
       have H8 := Lib.hid (And.intro h82 (And.intro h8o (And.intro hk8 hs8)))
       clear hW8 h82 h8o hk8 hs8
       have hc0 : (p : Int) ≤ (cs.length : Int) := by omega
       refine wpIn_quiet_round rfl (by kernel_rfl) (by kernel_rfl) (by kernel_rfl) ?_
       repeat (gi_big_quiet_step (fail))
       refine wpQuietIn_nil ?_
       intro _ hw'
       obtain ⟨nq, hw''⟩ := hw'
       subst hw''
       gi_wp2
       rcases HN.out.2.2.2.1 with h | ⟨qb, qo, rfl, q1, q2, q3⟩
       · omega
       have Q3 := Lib.hid q3
       have hkd : ∀ k, k < w3.heap.size → k ≠ w3.heap.size + 2 → W8.heap[k]? = wc.heap[k]? := fun k h h2 => (H8.out.2.1 k h2).trans (HKWW.out.block k (by omega) ⟨by omega, h2⟩)
       have HKD := Lib.hid hkd
       clear q3 hkd
       gi_loopw [43] (fun i wr => ∃ j : Nat, j ≤ p ∧ i = .int .i64 j ∧ wr.heap[w3.heap.size + 2]? = some (.cells #[.int .i64 ((R + p + Tr.lens ((Tr.keyss cs).take j) : Nat) : Int)] 3 (0, 0)) ∧ Keep (fun k => k ≠ w3.heap.size + 2) W8 wr) (fun i _ => p - (intOf i).toNat)
       case atStart => exact ⟨0, Nat.zero_le _, rfl, by simpa [Tr.lens] using H8.out.1, Keep.drewN _ _ _⟩
       case round =>
         obtain ⟨j, hj, rfl, hbx, hkp⟩ := hrel
         clear x1 x2 x3 x4
         obtain ⟨z1, z2⟩ := box1 hbx
         have hs8 := H8.out.2.2.2
         have hsW := HKWW.out.size
         have hw8 : ∀ k, k < w3.heap.size → wr.heap[k]? = wc.heap[k]? := fun k h => (hkp.block k (by omega) (by omega)).trans (HKD.out k h (by omega))
         have hs9 := hkp.size
         have HW8 := Lib.hid hw8
         have HBX := Lib.hid (And.intro hbx hkp)
         clear hbx hkp hw8
         by_cases hlt : j < p
         · have hjc : j < cs.length := by omega
           have hcell : wr.cell? ⟨qb, qo + j, none⟩ = some (.pointer (some ⟨ps j, 0, none⟩)) := (cell_of_blk (HW8.out qb (by omega))).trans (Q3.out j hjc)
           have hbx6 := (HBX.out.2.block (w3.heap.size + 1) (by omega) (by omega)).trans ((H8.out.2.1 (w3.heap.size + 1) (by omega)).trans HH.out.2.2.1)
           obtain ⟨z3, z4⟩ := box1 hbx6
           have hka : kidAt wc xb j (ps j) := ⟨_, _, _, _, _, HN.out.2.2.1, Q3.out j hjc⟩
           have htold := (HN.out.2.2.2.2.2.parts.2 j hjc (ps j) hka).told
           have hkidn := HN.out.2.2.2.2.1 j hjc
           have hrg : w2.heap.size ≤ ps j ∧ ps j < w3.heap.size := by
             by_cases h : w2.heap.size ≤ ps j ∧ ps j < w3.heap.size
             · exact h
             · rw [HKO.out _ h] at htold; cases htold
           have hpa : PAddr wr ⟨ps j, 0, none⟩ := by
             obtain ⟨c, hc⟩ := nodeAt_cells hkidn
             exact ⟨_, _, (HW8.out _ hrg.2).trans hc⟩
           have hmw : CMap wr w3.heap.size K' := HH.out.2.1.held ((HBX.out.2.block _ (by omega) (by omega)).trans (H8.out.2.1 _ (by omega))) (fun k n hk => by
             by_cases h : w2.heap.size ≤ k ∧ k < w3.heap.size
             · exact (HBX.out.2.block k (by omega) (by omega)).trans (H8.out.2.1 k (by omega))
             · rw [HKO.out k h] at hk; cases hk)
           have hlook := cmap_lookup wr Try.underlying89 Try.underlying70 HSZ.out.1 HSZ.out.2.1 HSZ.out.2.2.1 HSZ.out.2.2.2 hmw hpa htold
           have hsn := lens_snoc cs j hjc
           have hmo := lens_part cs (show j + 1 ≤ p from hlt)
           have hsum := HSUM.out
           generalize hG1 : Tr.lens ((Tr.keyss cs).take j) = g at hsn z1
           generalize hG2 : Tr.lens ((Tr.keyss cs).take (j + 1)) = g' at hsn hmo
           generalize hKL : cs[j].keys.length = kj at hsn hlook
           have hbd : R + p + g + kj ≤ 1048576 := by omega
           have HG := Lib.hid (And.intro hG2 (And.intro hsn hG1))
           have hjp : (j : Int) < (p : Int) := by omega
           clear hbx6 hka htold hkidn hpa hmw hsn hmo hG1 hG2 hKL hsum
           gi_wp2
           go_roundw
           case rel =>
             refine ⟨j + 1, by omega, by go_num, ?_, HBX.out.2.trans (Keep.setCell _ _ _ _ (by simp))⟩
             rw [HG.out.1, HG.out.2.1]
             have h := set_blk (o := 0) (.int .i64 (((R + p + (g + kj) : Nat)) : Int)) HBX.out.1
             rw [show ((R + p + (g + kj) : Nat) : Int) = (R : Int) + (p : Int) + (g : Int) + (kj : Int) by omega] at h ⊢
             simpa using h
           case measure => simp [intOf]; omega
         · obtain rfl : j = p := by omega
           gi_wp2
           refine ⟨(H8.out.2.2.1 Pv h1).trans (HBX.out.2.mono (fun k _ h e => h1 (e ▸ h))), h1, ?_⟩
           rw [HH.out.2.2.2.2.1, show R + (Tr.lens ((Tr.keyss cs).take j) + j) = R + j + Tr.lens ((Tr.keyss cs).take j) by omega]
           exact HBX.out.1
   case done =>
     intro W3' hk3 hI hlt hD
     obtain ⟨h1, h2⟩ := hI
     rw [HWP.out, ← HP.out] at h2
     obtain ⟨c6, f6⟩ := box1 h2
     have HH := Lib.hid (And.intro h2 hk3)
     have HD := Lib.hid hD
     clear h1 h2 hk3 hD
     gi_wp2
     refine ⟨by simp, .inl ⟨_, _, rfl, run_takeDeferred HD.out, ?_⟩⟩
     refine ⟨.int .i64 (t.rankB key), by simp [results, Try.results22, go_sem], rfl, ?_⟩
     have hkk : Keep (fun k => k < w'.heap.size) w3 (W3'.putObj wc.heap.size (.deferred none)) :=
       ((HK35.out _).trans ((HM6.out.2.2.2.mono (fun k _ h => by omega)).trans ((HKW.out.mono (fun k _ h => by omega)).trans (HH.out.2.mono (fun k _ h => by omega))))).trans (Keep.putObj _ _ wc.heap.size (.deferred none) (show ¬ wc.heap.size < w'.heap.size by omega))
     exact H2.out.1.trans ((HND.out.2.mono (by omega)).trans (hkk.below (B := w'.heap.size) (by omega) (fun k h => h)))
   case stop =>
     rintro c pre' W3' hk3 hp hI hlt hD
     exact hI.elim
end Go.Proofs.Ytananonjomfpkaa
