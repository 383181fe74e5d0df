/- The contract of the method keyAt. -/
import Derived.Test.YtananonjomfpkaaProg
import Derived.Test.YtananonjomfpkaaPe0
import Derived.Test.YtananonjomfpkaaPe1
import Derived.Test.YtananonjomfpkaaKeys
import Derived.Test.YtananonjomfpkaaPe4
import Derived.Test.YtananonjomfpkaaPe29
import Derived.WalkKit
import Derived.Test.YtananonjomfpkaaPe7
import Derived.Test.YtananonjomfpkaaPe5
import Derived.Test.YtananonjomfpkaaPe17
import Derived.RangeFuncNested
import Derived.Shelf.RegionOpen
import Derived.OwnWalkIn
import Derived.TacticsInMore
import Derived.LoopIn

/- The contract of count: how many keys lie in each node and below it, kept in a map. -/
namespace Go.Proofs.Ytananonjomfpkaa
open Go.RowKit

/-- The memory tells the block of kid i of the node at block b. -/
def kidAt (w : World) (b i p : Nat) : Prop :=
  ∃ (kv : Value) (qb qo n cap : Nat), w.heap[b]? = some (.cells #[kv, .slice (some ⟨qb, qo, none⟩) n cap] 99 (0, 0)) ∧ w.cell? ⟨qb, qo + i, none⟩ = some (.pointer (some ⟨p, 0, none⟩))
theorem kidAt_unique {w : World} {b i p p' : Nat} (h : kidAt w b i p) (h' : kidAt w b i p') : p = p' := by
  obtain ⟨kv, qb, qo, n, cap, h1, h2⟩ := h
  obtain ⟨kv', qb', qo', n', cap', h1', h2'⟩ := h'
  rw [h1] at h1'
  simp only [Option.some.injEq, Obj.cells.injEq] at h1'
  have e := congrArg Array.toList h1'.1
  simp only [List.cons.injEq, Value.slice.injEq, Option.some.injEq, Addr.mk.injEq] at e
  obtain ⟨_, ⟨⟨rfl, rfl, _⟩, _⟩, _⟩ := e
  rw [h2] at h2'
  simpa using h2'

/-- K tells, of a node and of all below it, how many keys they have. -/
inductive Counted (w : World) (K : Nat → Option Nat) : Nat → Tr → Prop where
  | mk (b : Nat) (ks : List Int) (cs : List Tr) (h : K b = some (Tr.mk ks cs).keys.length) (kids : ∀ i (hi : i < cs.length) (p : Nat), kidAt w b i p → Counted w K p cs[i]) : Counted w K b (.mk ks cs)

theorem Counted.parts {w : World} {K : Nat → Option Nat} {b : Nat} {ks : List Int} {cs : List Tr} (h : Counted w K b (.mk ks cs)) :
    K b = some (Tr.mk ks cs).keys.length ∧ ∀ i (hi : i < cs.length) (p : Nat), kidAt w b i p → Counted w K p cs[i] := by
  cases h with
  | mk b ks cs h kids => exact ⟨h, kids⟩

theorem Counted.told {w : World} {K : Nat → Option Nat} {b : Nat} {t : Tr} (h : Counted w K b t) : K b = some t.keys.length := by
  cases h with
  | mk b ks cs h kids => exact h

theorem Counted.mono {w : World} {lo hi b : Nat} {t : Tr} (hn : NodeIn w lo hi b t) : ∀ {K K' : Nat → Option Nat}, Counted w K b t → (∀ k, lo ≤ k → k < hi → K' k = K k) → Counted w K' b t := by
  induction hn with
  | mk ks cs lo hi b kv a cap ps s hlo hhi hs0 hsn hs hbox hk hlen hcap hat hkids ih =>
    intro K K' h hK
    obtain ⟨h1, h2⟩ := h.parts
    refine .mk b ks cs (by rw [hK b hlo hhi]; exact h1) (fun i hi' p hp => ?_)
    have h3 := h2 i hi' p hp
    rcases hat with h0 | ⟨qb, qo, rfl, q1, q2, q3⟩
    · omega
    have hps : kidAt w b i (ps i) := ⟨_, _, _, _, _, hbox, q3 i hi'⟩
    obtain rfl := kidAt_unique hp hps
    refine ih i hi' h3 (fun k k1 k2 => hK k ?_ ?_)
    · have := steps_le hs 0 i (by omega) (by omega); omega
    · have := steps_le hs (i + 1) cs.length (by omega) (by omega); omega

theorem Counted.move {w w' : World} {lo hi b : Nat} {t : Tr} (hn : NodeIn w lo hi b t) : ∀ {K : Nat → Option Nat}, Counted w K b t → (∀ k, lo ≤ k → k < hi → w'.heap[k]? = w.heap[k]?) → Counted w' K b t := by
  induction hn with
  | mk ks cs lo hi b kv a cap ps s hlo hhi hs0 hsn hs hbox hk hlen hcap hat hkids ih =>
    intro K h hK
    obtain ⟨h1, h2⟩ := h.parts
    refine .mk b ks cs h1 (fun i hi' p hp => ?_)
    rcases hat with h0 | ⟨qb, qo, rfl, q1, q2, q3⟩
    · omega
    have hps : kidAt w b i (ps i) := ⟨_, _, _, _, _, hbox, q3 i hi'⟩
    have hps' : kidAt w' b i (ps i) := ⟨_, _, _, _, _, (hK b hlo hhi).trans hbox, (cell_of_blk (hK qb q1 q2)).trans (q3 i hi')⟩
    obtain rfl := kidAt_unique hp hps'
    refine ih i hi' (h2 i hi' _ hps) (fun k k1 k2 => hK k ?_ ?_)
    · have := steps_le hs 0 i (by omega) (by omega); omega
    · have := steps_le hs (i + 1) cs.length (by omega) (by omega); omega

theorem Try.infoNodeSz : (Try.prog.info? 99).map (fun i => decide (i.size ≠ 0)) = some true := by kernel_rfl
theorem Try.infoIntZ : (Try.prog.info? 3).map (fun i => i.zero) = some (some (.int .i64 0)) := by kernel_rfl

theorem lens_snoc (cs : List Tr) (j : Nat) (h : j < cs.length) : Tr.lens ((Tr.keyss cs).take (j + 1)) = Tr.lens ((Tr.keyss cs).take j) + cs[j].keys.length := by
  rw [List.take_add_one, Tr.lens_append, Tr.keyss_get cs j h]; rfl
theorem lens_take_le (cs : List Tr) (j : Nat) : Tr.lens ((Tr.keyss cs).take j) ≤ Tr.lens (Tr.keyss cs) := by
  conv => rhs; rw [← List.take_append_drop j (Tr.keyss cs), Tr.lens_append]
  omega

set_option maxRecDepth 100000 in
set_option maxHeartbeats 4000000 in
theorem count_c {w : World} {lo hi b : Nat} {t : Tr} (ht : NodeIn w lo hi b t) : t.weight ≤ 1048576 → hi ≤ w.heap.size → ∀ (W : World) (mb : Nat) (K : Nat → Option Nat), Keep (fun k => lo ≤ k ∧ k < hi) w W → CMap W mb K → (∀ k, lo ≤ k → k < hi → K k = none) → ¬ (lo ≤ mb ∧ mb < hi) →
    Calls Try.prog 68 #[.pointer (some ⟨b, 0, none⟩), .map (some mb)] W fun e W' => e = .returned (.int .i64 t.keys.length) ∧ ∃ K', CMap W' mb K' ∧ Counted w K' b t ∧ (∀ k, ¬ (lo ≤ k ∧ k < hi) → K' k = K k) ∧ Keep (fun k => k ≠ mb) W W' ∧ W'.heap.size = W.heap.size := by
  induction ht with
  | mk ks cs lo hi b kv a cap ps s hlo hhi hs0 hsn hs hbox hk hlen hcap hat hkids ih =>
    intro hwt hhw W mb K hkeep hmap hnone hmb
    obtain ⟨i0, hi0, hi1⟩ := Option.map_eq_some_iff.1 Try.infoNodeSz
    have hsz : i0.size ≠ 0 := by simpa using hi1
    have hboxW : W.heap[b]? = some (.cells #[kv, .slice a cs.length cap] 99 (0, 0)) := (hkeep.block b (by omega) ⟨hlo, hhi⟩).trans hbox
    obtain ⟨ka, kcap, rfl, k1, k2, _⟩ := hk
    have hkl := keys_len ks cs
    have hkle := Tr.keys_length_le (.mk ks cs)
    simp only [Tr.weight] at hwt hkle
    have hl0 := Tr.length_le_weights cs
    have hltk := fun j => lens_take_le cs j
    have hbd : ks.length + Tr.lens (Tr.keyss cs) ≤ 1048576 := by omega
    have hne := hmap.ne hboxW
    obtain ⟨x1, x2, x3, x4⟩ := box2 hboxW
    unfold maxLen at hcap k2
    have HAT := Lib.hid hat
    have IH := Lib.hid ih
    have HKD := Lib.hid hkids
    have HS := Lib.hid hs
    have HKP := Lib.hid hkeep
    have HM := Lib.hid hmap
    have HNO := Lib.hid hnone
    have HBOX := Lib.hid (And.intro hbox hboxW)
    have HKL := Lib.hid hkl
    have HLT := Lib.hid hltk
    have HSZ := Lib.hid (And.intro hi0 hsz)
    clear hat ih hkids hs hkeep hmap hnone hbox hboxW hkl hltk hi1 hi0 hsz
    go_enter Try.func68, Try.ntmps68
    go_wp2_with fail
    go_loopw [5, 19] (fun tot i wr => ∃ (j : Nat) (K' : Nat → Option Nat) (n : Nat), j ≤ cs.length ∧ i = .int .i64 j ∧ tot = .int .i64 n ∧ n = ks.length + Tr.lens ((Tr.keyss cs).take j) ∧ CMap wr mb K' ∧ (∀ q (hq : q < cs.length), q < j → Counted w K' (ps q) cs[q]) ∧
      (∀ k, ¬ (s 0 ≤ k ∧ k < s j) → K' k = K k) ∧ Keep (fun k => k ≠ mb) W wr ∧ wr.heap.size = W.heap.size) (fun _ i _ => cs.length - (intOf i).toNat)
    case atStart => exact ⟨0, K, ks.length, Nat.zero_le _, rfl, rfl, by simp [Tr.lens], HM.out, fun q _ h => by omega, fun k _ => rfl, Keep.refl _ _, rfl⟩
    case round =>
      obtain ⟨j, K', n, hj, rfl, rfl, hn, hm, hcnt, hK, hkp, hsz2⟩ := hrel
      have HM' := Lib.hid hm
      have HCNT := Lib.hid hcnt
      have HK := Lib.hid hK
      have HKP2 := Lib.hid hkp
      have HSZ2 := Lib.hid hsz2
      have hlj := HLT.out j
      have hnb : n ≤ 1048576 := by omega
      have HN := Lib.hid hn
      clear hn hm hcnt hK hkp hsz2 x1 x2 x3 x4
      have hbW : b < W.heap.size := (Array.getElem?_eq_some_iff.1 HBOX.out.2).1
      obtain ⟨x1, x2, x3, x4⟩ := box2 ((HKP2.out.block b hbW hne).trans HBOX.out.2)
      by_cases hlt : j < cs.length
      · have g1 := steps_le HS.out 0 j (by omega) (by omega)
        have g2 := steps_le HS.out (j + 1) cs.length (by omega) (by omega)
        have g3 := HS.out j hlt
        rcases HAT.out with h0 | ⟨qb, qo, rfl, q1, q2, q3⟩
        · omega
        have hqW : W.heap[qb]? = w.heap[qb]? := HKP.out.block qb (by omega) ⟨q1, q2⟩
        have hcW := (cell_of_blk hqW).trans (q3 j hlt)
        have hqm : qb ≠ mb := by
          have hlt9 := World.block_lt_of_cell? W _ hcW
          intro e
          have hc9 := hcW
          obtain ⟨L, clock, h1, _⟩ := HM.out
          unfold PMapIs at h1
          rw [e] at hc9
          simp [World.cell?, h1] at hc9
        have hcell : wr.cell? ⟨qb, qo + j, none⟩ = some (.pointer (some ⟨ps j, 0, none⟩)) := (cell_of_blk (HKP2.out.block qb (World.block_lt_of_cell? W _ hcW) hqm)).trans hcW
        have hsn2 := lens_snoc cs j hlt
        have hl1 := HLT.out (j + 1)
        have hrange := (HKD.out j hlt).range
        have hKeep : Keep (fun k => s j ≤ k ∧ k < s (j + 1)) w wr := by
          refine (HKP.out.mono (fun k _ h => ⟨by omega, by omega⟩)).trans ⟨HKP2.out.os, HKP2.out.tape, HKP2.out.output, HKP2.out.size, fun k h1 h2 => HKP2.out.block k h1 ?_⟩
          intro e
          subst e
          omega
        have hcall := IH.out j hlt (by have := Tr.weight_get_le cs j hlt; omega) (by omega) wr mb K' hKeep HM'.out (fun k h1 h2 => by rw [HK.out k (by omega)]; exact HNO.out k (by omega) (by omega)) (by omega)
        have hn' := HN.out
        generalize hG1 : Tr.lens ((Tr.keyss cs).take j) = g at hlj hsn2 hn'
        generalize hG2 : Tr.lens ((Tr.keyss cs).take (j + 1)) = g' at hl1 hsn2
        have hkj := Tr.keys_length_le cs[j]
        have hwj := Tr.weight_get_le cs j hlt
        generalize hKJ : cs[j].keys.length = kj at hsn2 hcall hkj
        have hnk : n + kj ≤ 1048576 := by omega
        have HG := Lib.hid (And.intro hG2 (And.intro hsn2 hn'))
        have HC := Lib.hid hcall
        have HQ3 := Lib.hid q3
        have hjl : (j : Int) < (cs.length : Int) := by omega
        clear hG1 hG2 hsn2 hn' hcall hKJ q3 hcW hqW hKeep
        go_wp2_with fail
        refine HC.out.mono ?_
        rintro e w3 ⟨rfl, K3, hm3, hc3, hK3, hk3, hs3⟩
        have H3 := Lib.hid (And.intro hm3 (And.intro hc3 (And.intro hK3 (And.intro hk3 hs3))))
        clear hm3 hc3 hK3 hk3 hs3
        go_wp2_with fail
        go_roundw
        case rel =>
          refine ⟨j + 1, K3, n + kj, by omega, by go_num, by go_num, by have := HG.out; omega, H3.out.1, fun q hq hqj => ?_, fun k hk => ?_, HKP2.out.trans H3.out.2.2.2.1, H3.out.2.2.2.2.trans HSZ2.out⟩
          · by_cases e : q = j
            · subst e; exact H3.out.2.1
            · refine Counted.mono (HKD.out q hq) (HCNT.out q hq (by omega)) (fun k h1 h2 => H3.out.2.2.1 k ?_)
              have := steps_le HS.out (q + 1) j (by omega) (by omega)
              omega
          · rw [H3.out.2.2.1 k (by omega), HK.out k (by omega)]
        case measure => simp [intOf]; omega
      · obtain rfl : j = cs.length := by omega
        have hfull : Tr.lens ((Tr.keyss cs).take cs.length) = Tr.lens (Tr.keyss cs) := by rw [List.take_of_length_le (by rw [Tr.length_keyss]; omega)]
        have hKb : K' b = none := by rw [HK.out b (by omega)]; exact HNO.out b hlo hhi
        obtain ⟨o, hrun, hmo⟩ := cmap_update wr Try.underlying89 Try.underlying70 HSZ.out.1 HSZ.out.2 HM'.out (q := b) ⟨_, _, (HKP2.out.block b hbW hne).trans HBOX.out.2⟩ hKb n
        have HMO := Lib.hid hmo
        have HFULL := Lib.hid hfull
        clear hmo hfull hKb
        go_wp2_with fail
        go_ret
        have hnn : n = (Tr.mk ks cs).keys.length := by have h1 := HN.out; rw [HFULL.out] at h1; have h2 := HKL.out; omega
        refine ⟨ret_int (by rw [hnn]), _, HMO.out, .mk b ks cs (by rw [← hnn]; simp) (fun i hi' p hp => ?_), fun k hk => ?_, HKP2.out.trans (Keep.putObj _ _ _ _ (by simp)), by simp [HSZ2.out]⟩
        · rcases HAT.out with h0 | ⟨qb, qo, rfl, q1, q2, q3⟩
          · omega
          have hps : kidAt w b i (ps i) := ⟨_, _, _, _, _, HBOX.out.1, q3 i hi'⟩
          obtain rfl := kidAt_unique hp hps
          refine Counted.mono (HKD.out i hi') (HCNT.out i hi' hi') (fun k h1 h2 => ?_)
          have := steps_le HS.out 0 i (by omega) (by omega)
          show (if k = b then _ else K' k) = K' k
          rw [if_neg (by omega)]
        · show (if k = b then _ else K' k) = K k
          rw [if_neg (by omega), HK.out k (by omega)]
end Go.Proofs.Ytananonjomfpkaa

/- A node's block holds cells. -/
namespace Go.Proofs.Ytananonjomfpkaa
open Go.RowKit

theorem node_cells {w : World} {lo hi b : Nat} {t : Tr} (h : NodeIn w lo hi b t) : ∃ c, w.heap[b]? = some (.cells c 99 (0, 0)) := by
  cases h with
  | mk ks cs lo hi b kv a cap ps s hlo hhi hs0 hsn hs hbox hk hlen hcap hat hkids => exact ⟨_, hbox⟩
theorem nodeAt_cells {w : World} {lo hi b : Nat} {t : Tr} (h : NodeAt w lo hi b t) : ∃ c, w.heap[b]? = some (.cells c 99 (0, 0)) := by
  cases h with
  | mk ks cs b kv a cap ps hlo hhi hbox hk hlen hcap hat hkids => exact ⟨_, hbox⟩
end Go.Proofs.Ytananonjomfpkaa

/- The contract of the method keyAt. -/
namespace Go.Proofs.Ytananonjomfpkaa
open Go.RowKit
attribute [local go_sem] Oper.semAt_some

theorem keyL_at {pre post : List Int} {k : Int} : keyL (pre ++ [k] ++ post) (pre.length : Int) = (k, true) := by
  unfold keyL
  rw [if_pos (by simp; omega)]
  simp [List.getD_eq_getElem?_getD]
theorem keyL_in {pre mid post : List Int} {r : Nat} (h1 : pre.length ≤ r) (h2 : r - pre.length < mid.length) : keyL (pre ++ mid ++ post) (r : Int) = keyL mid ((r - pre.length : Nat) : Int) := by
  unfold keyL
  rw [if_pos (by simp; omega), if_pos (by omega)]
  have e : (pre ++ mid ++ post).getD r 0 = mid.getD (r - pre.length) 0 := by
    simp only [List.getD_eq_getElem?_getD]
    rw [List.append_assoc, List.getElem?_append_right h1, List.getElem?_append_left h2]
  simpa using e
theorem keyL_out {keys : List Int} {r : Nat} (h : keys.length ≤ r) : keyL keys (r : Int) = (0, false) := by
  unfold keyL; rw [if_neg (by omega)]

set_option maxRecDepth 100000 in
set_option maxHeartbeats 4000000 in
theorem keyAt_c {w₀ : World} {lo hi b : Nat} {t : Tr} (ht : NodeIn w₀ lo hi b t) : t.weight ≤ 1048576 → hi ≤ w₀.heap.size → ∀ (K' : Nat → Option Nat), Counted w₀ K' b t → ∀ (r mb : Nat) (W : World), r ≤ 9223372036854775807 → Keep (fun k => lo ≤ k ∧ k < hi) w₀ W → CMap W mb K' →
    Calls Try.prog 109 #[.pointer (some ⟨b, 0, none⟩), .int .i64 r, .map (some mb)] W fun e W' => e = .returned (.tuple #[.int .i64 (keyL t.keys r).1, .bool (keyL t.keys r).2]) ∧ Below W.heap.size W W' := by
  induction ht with
  | mk ks cs lo hi b kv a cap ps s hlo hhi hs0 hsn hs hbox hk hlen hcap hat hkids ih =>
    intro hwt hhi' K' hcn r mb W hr9 hkeep hmap
    obtain ⟨i0, hi0, hi1⟩ := Option.map_eq_some_iff.1 Try.infoNodeSz
    have hsz : i0.size ≠ 0 := by simpa using hi1
    obtain ⟨iz, hiz, hizz⟩ := Option.map_eq_some_iff.1 Try.infoIntZ
    simp only [Tr.weight] at hwt
    have hl0 := Tr.length_le_weights cs
    have hit := parts_iter hhi' hlo hhi hbox hk hlen hcap hat (by omega) (by omega)
    have hfl := flat_all cs ps ks
    have hbW : b < W.heap.size := by have := hkeep.size; have := (Array.getElem?_eq_some_iff.1 hbox).1; omega
    have hpsk : ∀ i (hi : i < cs.length), K' (ps i) = some cs[i].keys.length ∧ Counted w₀ K' (ps i) cs[i] := fun i hi => by
      rcases hat with h | ⟨qb, qo, rfl, q1, q2, q3⟩
      · omega
      · have hka : kidAt w₀ b i (ps i) := ⟨_, _, _, _, _, hbox, q3 i hi⟩
        exact ⟨(hcn.parts.2 i hi _ hka).told, hcn.parts.2 i hi _ hka⟩
    have HIT := Lib.hid hit
    have HFL := Lib.hid hfl
    have IH := Lib.hid ih
    have HS := Lib.hid hs
    have HKD := Lib.hid hkids
    have HPS := Lib.hid hpsk
    have HKEEP := Lib.hid hkeep
    have HMAP := Lib.hid hmap
    have HSZ := Lib.hid (And.intro hi0 (And.intro hsz (And.intro hiz hizz)))
    clear hit hfl ih hs hkids hpsk hkeep hmap hbox hk hat hcn hi0 hi1 hsz hiz hizz
    refine (callsIn_wide (n := 9)).1 (callsIn_of_wp_marks Try.func109 rfl trivial ?_ rfl)
    simp only [Try.ntmps109, List.size_toArray, List.length_cons, List.length_nil, Nat.reduceAdd, Nat.reduceSub, Array.replicate_succ, Array.replicate_zero, List.push_toArray, List.append_toArray, List.nil_append, List.cons_append]
    gi_wp2
    obtain ⟨W1, hW1⟩ : ∃ W1, W1 = (((W.alloc (.cells #[.int .i64 r] 3)).alloc (.cells #[.map (some mb)] 89)).alloc (.cells #[.int .i64 0] 3)).alloc (.cells #[.bool false] 4) := ⟨_, rfl⟩
    rw [← hW1]
    have hs1 : W1.heap.size = W.heap.size + 4 := by rw [hW1]; simp
    have hk1 : ∀ P, Keep P W W1 := fun P => by rw [hW1]; exact (((Keep.alloc P _ _).trans (Keep.alloc P _ _)).trans (Keep.alloc P _ _)).trans (Keep.alloc P _ _)
    have e0 : W1.heap[W.heap.size]? = some (.cells #[.int .i64 r] 3 (0, 0)) := by rw [hW1, old_blk _ _ _ (by simp <;> omega), old_blk _ _ _ (by simp <;> omega), old_blk _ _ _ (by simp), new_blk]
    have e1 : W1.heap[W.heap.size + 1]? = some (.cells #[.map (some mb)] 89 (0, 0)) := by
      have h := new_blk (W.alloc (.cells #[.int .i64 r] 3)) (.cells #[.map (some mb)] 89)
      rw [World.size_alloc] at h
      rw [hW1, old_blk _ _ _ (by simp <;> omega), old_blk _ _ _ (by simp <;> omega)]; exact h
    have e2 : W1.heap[W.heap.size + 2]? = some (.cells #[.int .i64 0] 3 (0, 0)) := by
      have h := new_blk ((W.alloc (.cells #[.int .i64 r] 3)).alloc (.cells #[.map (some mb)] 89)) (.cells #[.int .i64 0] 3)
      rw [World.size_alloc, World.size_alloc] at h
      rw [hW1, old_blk _ _ _ (by simp)]; exact h
    have e3 : W1.heap[W.heap.size + 3]? = some (.cells #[.bool false] 4 (0, 0)) := by
      have h := new_blk (((W.alloc (.cells #[.int .i64 r] 3)).alloc (.cells #[.map (some mb)] 89)).alloc (.cells #[.int .i64 0] 3)) (.cells #[.bool false] 4)
      rw [World.size_alloc, World.size_alloc, World.size_alloc] at h
      rw [hW1]; exact h
    have HE := Lib.hid (And.intro e0 (And.intro e1 (And.intro e2 e3)))
    have HK1 := Lib.hid hk1
    clear hW1 e0 e1 e2 e3 hk1
    refine wp_loop (fb := #[.pointer (some ⟨b, 0, none⟩)]) (lb := #[]) rfl (enters_of Try.func133 (by kernel_rfl) rfl) HIT.out (HKEEP.out.trans (HK1.out _)) (fun x => by cases x <;> rfl)
      (fun k => k < W.heap.size) (fun k h => by have := HKEEP.out.size; omega) (fun k h => by omega)
      (fun pre Pv W' => ¬ Pv W.heap.size ∧ ¬ Pv (W.heap.size + 1) ∧ ¬ Pv (W.heap.size + 2) ∧ ¬ Pv (W.heap.size + 3) ∧ (flat (Tr.keyss cs) pre).length ≤ r ∧ W'.heap[W.heap.size]? = some (.cells #[.int .i64 ((r - (flat (Tr.keyss cs) pre).length : Nat) : Int)] 3 (0, 0)) ∧
        W'.heap[W.heap.size + 1]? = some (.cells #[.map (some mb)] 89 (0, 0)) ∧ W'.heap[W.heap.size + 2]? = some (.cells #[.int .i64 0] 3 (0, 0)) ∧ W'.heap[W.heap.size + 3]? = some (.cells #[.bool false] 4 (0, 0)))
      (fun c pre Pv W' => c = .ret ∧ ¬ Pv (W.heap.size + 2) ∧ ¬ Pv (W.heap.size + 3) ∧ W'.heap[W.heap.size + 2]? = some (.cells #[.int .i64 (keyL (Tr.mk ks cs).keys r).1] 3 (0, 0)) ∧ W'.heap[W.heap.size + 3]? = some (.cells #[.bool (keyL (Tr.mk ks cs).keys r).2] 4 (0, 0)))
      (fun pre Pv A Pv' B h hk hp => by
        obtain ⟨h1, h2, h3, h4, h5, h6, h7, h8, h9⟩ := h
        have q6 := (Array.getElem?_eq_some_iff.1 h6).1
        have q7 := (Array.getElem?_eq_some_iff.1 h7).1
        have q8 := (Array.getElem?_eq_some_iff.1 h8).1
        have q9 := (Array.getElem?_eq_some_iff.1 h9).1
        exact ⟨fun h => (hp _ h).elim h1 (fun h => by omega), fun h => (hp _ h).elim h2 (fun h => by omega), fun h => (hp _ h).elim h3 (fun h => by omega), fun h => (hp _ h).elim h4 (fun h => by omega), h5,
          (hk.block _ q6 h1).trans h6, (hk.block _ q7 h2).trans h7, (hk.block _ q8 h3).trans h8, (hk.block _ q9 h4).trans h9⟩)
      (fun c pre Pv A Pv' B h hk hp => by
        obtain ⟨h0, h3, h4, h8, h9⟩ := h
        have q8 := (Array.getElem?_eq_some_iff.1 h8).1
        have q9 := (Array.getElem?_eq_some_iff.1 h9).1
        exact ⟨h0, fun h => (hp _ h).elim h3 (fun h => by omega), fun h => (hp _ h).elim h4 (fun h => by omega), (hk.block _ q8 h3).trans h8, (hk.block _ q9 h4).trans h9⟩)
      ⟨by omega, by omega, by omega, by omega, Nat.zero_le _, HE.out.1, HE.out.2.1, HE.out.2.2.1, HE.out.2.2.2⟩
      (fun x => { tmps := #[.pointer (some ⟨b, 0, none⟩), .int .i64 r, .map (some mb), undef, .pointer (some ⟨W.heap.size, 0, none⟩), .pointer (some ⟨W.heap.size + 1, 0, none⟩), .pointer (some ⟨W.heap.size + 1 + 1, 0, none⟩), .pointer (some ⟨W.heap.size + 1 + 1 + 1, 0, none⟩), x.enc.getD 0 undef, x.enc.getD 1 undef,
        .pointer (some ⟨b, 0, none⟩), .func (.func 133) #[.pointer (some ⟨b, 0, none⟩)] #[], x.enc.getD 0 undef, x.enc.getD 1 undef, undef, undef, undef, undef, undef, undef, undef, undef, undef, undef, undef, undef, undef, undef, undef, undef, undef, undef, undef, undef, undef, undef, undef, undef, undef, undef, undef, undef, undef, undef], defers := [] })
      ?assign ?body ?done ?stop
    case assign =>
      intro l' m x W' K hK
      cases x <;> (dsimp only [Part.enc] at hK ⊢; gi_wp2; exact hK)
    case body =>
      intro l' m pre x Pv W' hI hkW hsub hbnd hp
      obtain ⟨h1, h2, h3, h4, h5, h6, h7, h8, h9⟩ := hI
      have hfm := flat_mono (Tr.keyss cs) hp
      rw [HFL.out, flat_append] at hfm
      have hap := flat_append (Tr.keyss cs) pre [x]
      have hwold : ∀ k, k < W.heap.size → W'.heap[k]? = W.heap[k]? := fun k hk => (hkW.block k (by omega) hk).trans ((HK1.out (fun _ => True)).block k hk trivial)
      have hszW := hkW.size
      have hmW := HMAP.out.kept hwold
      obtain ⟨c4, f4⟩ := box1 h6
      obtain ⟨c5, f5⟩ := box1 h7
      obtain ⟨c6, f6⟩ := box1 h8
      obtain ⟨c7, f7⟩ := box1 h9
      have HH := Lib.hid (And.intro h6 (And.intro h7 (And.intro h8 h9)))
      have HB := Lib.hid hbnd
      obtain ⟨d, hd⟩ : ∃ d, d = r - (flat (Tr.keyss cs) pre).length := ⟨_, rfl⟩
      rw [← hd] at c4
      have HD := Lib.hid (And.intro hd h5)
      have HWO := Lib.hid hwold
      have hd9 : d ≤ 9223372036854775807 := by omega
      cases x with
      | key k =>
        have hki : flat (Tr.keyss cs) [Part.key k] = [k] := rfl
        rw [hki] at hfm hap
        have HAP := Lib.hid hap
        have HFM := Lib.hid hfm
        dsimp only [Part.enc]
        clear h5 h6 h7 h8 h9 hfm hap hp hd hwold hmW hki hbnd hkW hsub
        by_cases hd0 : d = 0
        · have hres : keyL (Tr.mk ks cs).keys r = (k, true) := by
            obtain ⟨post, hpost⟩ := HFM.out
            rw [← hpost]
            have e : r = (flat (Tr.keyss cs) pre).length := by have := HD.out; omega
            rw [e]; exact keyL_at
          have HRES := Lib.hid hres
          have hdi : ((d : Int) == 0) = true := by simp [hd0]
          have HD0 := Lib.hid hd0
          clear hres hd0
          gi_wp2
          refine ⟨(Keep.setCell _ _ _ _ h3).trans (Keep.setCell _ _ _ _ h4), rfl, h3, h4, ?_, ?_⟩
          · rw [set_other _ _ _ _ _ (by omega), HRES.out]; exact set_blk (o := 0) (.int .i64 k) HH.out.2.2.1
          · rw [HRES.out]; exact set_blk (o := 0) (.bool true) ((set_other _ _ _ _ _ (by omega)).trans HH.out.2.2.2)
        · obtain ⟨d', rfl⟩ : ∃ d', d = d' + 1 := ⟨d - 1, by omega⟩
          have hdi : ((((d' + 1 : Nat) : Int)) == 0) = false := by rw [beq_eq_false_iff_ne]; omega
          have hdi' : (((d' : Int) + 1) == 0) = false := by rw [beq_eq_false_iff_ne]; omega
          have hdj : ((d' + 1 : Nat) : Int) - 1 = (d' : Int) := by omega
          clear hd0
          gi_wp2
          refine ⟨Keep.setCell _ _ _ _ h1, h1, h2, h3, h4, by rw [HAP.out]; have := HD.out; simp; omega, ?_, ?_, ?_, ?_⟩
          · have e : r - (flat (Tr.keyss cs) (pre ++ [Part.key k])).length = d' := by rw [HAP.out]; have := HD.out; simp; omega
            rw [e]; exact set_blk (o := 0) _ HH.out.1
          · rw [set_other _ _ _ _ _ (by omega)]; exact HH.out.2.1
          · rw [set_other _ _ _ _ _ (by omega)]; exact HH.out.2.2.1
          · rw [set_other _ _ _ _ _ (by omega)]; exact HH.out.2.2.2
      | kid i b' =>
        obtain ⟨hi', rfl⟩ := kid_mem (hp.subset (by simp : Part.kid i b' ∈ pre ++ [Part.kid i b']))
        have hki : flat (Tr.keyss cs) [Part.kid i (ps i)] = cs[i].keys := by
          have h := Tr.keyss_get cs i hi'
          simp [flat, List.getD_eq_getElem?_getD, h]
        rw [hki] at hfm hap
        have hkn := HKD.out i hi'
        have hpa : PAddr W' ⟨ps i, 0, none⟩ := by
          obtain ⟨c, hc⟩ := node_cells hkn
          have hlt := (Array.getElem?_eq_some_iff.1 hc).1
          have hks := HKEEP.out.size
          have g1 := steps_le HS.out 0 i (by omega) (by omega)
          have g2 := steps_le HS.out (i + 1) cs.length (by omega) (by omega)
          have g3 := hkn.range
          exact ⟨c, _, ((HWO.out _ (by omega)).trans (HKEEP.out.block _ hlt ⟨by omega, by omega⟩)).trans hc⟩
        have hlook := cmap_lookup W' Try.underlying89 Try.underlying70 HSZ.out.1 HSZ.out.2.1 HSZ.out.2.2.1 HSZ.out.2.2.2 hmW hpa (HPS.out i hi').1
        have hkj := Tr.keys_length_le cs[i]
        have hwj := Tr.weight_get_le cs i hi'
        have hwi : cs[i].weight ≤ 1048576 := by omega
        have HAP := Lib.hid hap
        have HFM := Lib.hid hfm
        have HMW := Lib.hid hmW
        have HKN := Lib.hid hkn
        dsimp only [Part.enc]
        by_cases hlt : d < cs[i].keys.length
        · have hres : keyL cs[i].keys ((d : Nat) : Int) = keyL (Tr.mk ks cs).keys r := by
            obtain ⟨post, hpost⟩ := HFM.out
            have h := HD.out
            rw [← hpost, keyL_in (by omega) (by omega), ← hd]
          have g1 := steps_le HS.out 0 i (by omega) (by omega)
          have g2 := steps_le HS.out (i + 1) cs.length (by omega) (by omega)
          have hks := HKEEP.out.size
          have hkeepW : Keep (fun k => s i ≤ k ∧ k < s (i + 1)) w₀ W' := (HKEEP.out.mono (fun k _ h => ⟨by omega, by omega⟩)).trans ((HK1.out _).trans (hkW.mono (fun k _ h => by omega)))
          have hcall := IH.out i hi' hwi (by omega) K' (HPS.out i hi').2 d mb W' hd9 hkeepW HMW.out
          rw [hres] at hcall
          generalize hn : cs[i].keys.length = n at hlt hlook hkj
          generalize hres2 : keyL (Tr.mk ks cs).keys r = res at hcall
          have hdl : (d : Int) < (n : Int) := by omega
          have HC := Lib.hid hcall
          have HN := Lib.hid hn
          have HR2 := Lib.hid hres2
          clear h5 h6 h7 h8 h9 hfm hap hp hd hwold hmW hki hbnd hkW hsub hkn hpa hcall hkeepW hres hn hres2
          gi_wp2
          refine ⟨trivial, fun h => (by cases h), ?_⟩
          refine (CallsIn.inRound l' ((callsIn_wide (n := m - 1)).2 HC.out)).mono ?_
          rintro e w4 ⟨rfl, hb4⟩
          have hs4 := hb4.size
          have e2 := (hb4.block (W.heap.size + 2) (by omega)).trans HH.out.2.2.1
          have e3 := (hb4.block (W.heap.size + 3) (by omega)).trans HH.out.2.2.2
          clear c4 f4 c5 f5 c6 f6 c7 f7
          obtain ⟨c6, f6⟩ := box1 e2
          obtain ⟨c7, f7⟩ := box1 e3
          have H4 := Lib.hid (And.intro hb4 (And.intro e2 e3))
          obtain ⟨ra, rb⟩ := res
          clear hb4 e2 e3
          gi_wp2
          refine ⟨((Keep.of_below H4.out.1 (fun k h _ => h)).trans (Keep.setCell _ _ _ _ h3)).trans (Keep.setCell _ _ _ _ h4), rfl, h3, h4, ?_, ?_⟩
          · rw [set_other _ _ _ _ _ (by omega)]; exact set_blk (o := 0) (.int .i64 ra) H4.out.2.1
          · exact set_blk (o := 0) (.bool rb) ((set_other _ _ _ _ _ (by omega)).trans H4.out.2.2)
        · generalize hn : cs[i].keys.length = n at hlt hlook hkj
          have hdl : ¬ ((d : Int) < (n : Int)) := by omega
          have hdn : (d : Int) - (n : Int) = ((d - n : Nat) : Int) := by omega
          have HN := Lib.hid hn
          clear h5 h6 h7 h8 h9 hfm hap hp hd hwold hmW hki hbnd hkW hsub hkn hpa hn
          gi_wp2
          refine ⟨Keep.setCell _ _ _ _ h1, h1, h2, h3, h4, by rw [HAP.out]; have := HD.out; have := HN.out; simp; omega, ?_, ?_, ?_, ?_⟩
          · have e : r - (flat (Tr.keyss cs) (pre ++ [Part.kid i (ps i)])).length = d - n := by rw [HAP.out]; have := HD.out; have := HN.out; simp; omega
            rw [e]; exact set_blk (o := 0) _ HH.out.1
          · rw [set_other _ _ _ _ _ (by omega)]; exact HH.out.2.1
          · rw [set_other _ _ _ _ _ (by omega)]; exact HH.out.2.2.1
          · rw [set_other _ _ _ _ _ (by omega)]; exact HH.out.2.2.2
    case done =>
      intro W3 hk3 hI hlt hD
      obtain ⟨h1, h2, h3, h4, h5, h6, h7, h8, h9⟩ := hI
      rw [HFL.out] at h5
      have hres := keyL_out h5
      obtain ⟨c6, f6⟩ := box1 h8
      obtain ⟨c7, f7⟩ := box1 h9
      have HH := Lib.hid (And.intro h8 (And.intro h9 hk3))
      have HD := Lib.hid hD
      have HRES := Lib.hid hres
      clear h1 h2 h3 h4 h5 h6 h7 h8 h9 hk3 hD hres
      gi_wp2
      obtain ⟨W5, hW5⟩ : ∃ W5, W5 = ((W3.setCell ⟨W.heap.size + 1 + 1, 0, none⟩ (.int .i64 0)).setCell ⟨W.heap.size + 1 + 1 + 1, 0, none⟩ (.bool false)).putObj W1.heap.size (.deferred none) := ⟨_, rfl⟩
      have hD5 : ((W3.setCell ⟨W.heap.size + 1 + 1, 0, none⟩ (.int .i64 0)).setCell ⟨W.heap.size + 1 + 1 + 1, 0, none⟩ (.bool false)).heap[W1.heap.size]? = some (.deferred (some [])) := by
        rw [set_other _ _ _ _ _ (by omega), set_other _ _ _ _ _ (by omega)]; exact HD.out
      refine ⟨by simp, .inl ⟨_, _, rfl, run_takeDeferred hD5, ?_⟩⟩
      have q2 : W5.heap[W.heap.size + 1 + 1]? = some (.cells #[.int .i64 0] 3 (0, 0)) := by
        rw [hW5]; refine (World.putObj_heap_other (by omega)).trans ?_
        rw [set_other _ _ _ _ _ (by omega)]; exact set_blk (o := 0) _ HH.out.1
      have q3 : W5.heap[W.heap.size + 1 + 1 + 1]? = some (.cells #[.bool false] 4 (0, 0)) := by
        rw [hW5]; refine (World.putObj_heap_other (by omega)).trans ?_
        exact set_blk (o := 0) (.bool false) ((set_other _ _ _ _ _ (by omega)).trans HH.out.2.1)
      have c2' := (box1 q2).1
      have c3' := (box1 q3).1
      have hk5 : Keep (fun k => k < W.heap.size) W3 W5 := by rw [hW5]; exact ((Keep.setCell _ _ _ _ (by show ¬ W.heap.size + 1 + 1 < W.heap.size; omega)).trans (Keep.setCell _ _ _ _ (by show ¬ W.heap.size + 1 + 1 + 1 < W.heap.size; omega))).trans (Keep.putObj _ _ _ _ (by omega))
      rw [← hW5]
      refine ⟨.tuple #[.int .i64 0, .bool false], by simp [results, Try.results109, go_sem, c2', c3'], by rw [HRES.out], ?_⟩
      exact (((HK1.out _).trans HH.out.2.2).trans hk5).below (Nat.le_refl _) (fun k h => h)
    case stop =>
      rintro c pre' W3 hk3 hp ⟨rfl, h3, h4, h8, h9⟩ hlt hD
      have HH := Lib.hid (And.intro h8 (And.intro h9 hk3))
      have HD := Lib.hid hD
      clear h3 h4 h8 h9 hk3 hD
      gi_wp2
      refine ⟨by simp, .inl ⟨_, _, rfl, run_takeDeferred HD.out, ?_⟩⟩
      obtain ⟨W5, hW5⟩ : ∃ W5, W5 = W3.putObj W1.heap.size (.deferred none) := ⟨_, rfl⟩
      have q2 : W5.heap[W.heap.size + 1 + 1]? = some (.cells #[.int .i64 (keyL (Tr.mk ks cs).keys r).1] 3 (0, 0)) := by
        rw [hW5]; exact (World.putObj_heap_other (by omega)).trans HH.out.1
      have q3 : W5.heap[W.heap.size + 1 + 1 + 1]? = some (.cells #[.bool (keyL (Tr.mk ks cs).keys r).2] 4 (0, 0)) := by
        rw [hW5]; exact (World.putObj_heap_other (by omega)).trans HH.out.2.1
      have c2' := (box1 q2).1
      have c3' := (box1 q3).1
      have hk5 : Keep (fun k => k < W.heap.size) W3 W5 := by rw [hW5]; exact Keep.putObj _ _ _ _ (by omega)
      rw [← hW5]
      refine ⟨.tuple #[.int .i64 (keyL (Tr.mk ks cs).keys r).1, .bool (keyL (Tr.mk ks cs).keys r).2], by simp [results, Try.results109, go_sem, c2', c3'], rfl, ?_⟩
      exact (((HK1.out _).trans HH.out.2.2).trans hk5).below (Nat.le_refl _) (fun k h => h)
end Go.Proofs.Ytananonjomfpkaa
