/- The iterator over the parts of a node: kids and keys by turns. -/
import Derived.Test.YtodcapgmhginoaaProg
import Derived.Test.YtodcapgmhginoaaBdS0
import Derived.Test.YtodcapgmhginoaaBdS27
import Derived.Test.YtodcapgmhginoaaBdS19
import Derived.RangeFuncNested
import Derived.Shelf.RegionOpen
import Derived.WalkKit
import Derived.OwnWalkIn
import Derived.TacticsInMore
import Derived.LoopNIn
import Derived.LoopIn
import Derived.Sort.QuietIn
namespace Go.Proofs.Ytodcapgmhginoaa
open Go.RowKit
attribute [local go_sem] Oper.semAt_some

/-- A kid, by its place and its block, or a key. -/
inductive Part where
  | kid (i b : Nat)
  | key (k : Int)

def Part.enc : Part → Array Value
  | .kid _ b => #[.pointer (some ⟨b, 0, none⟩), .int .i64 0]
  | .key k => #[.pointer none, .int .i64 k]

/-- The parts at place i. -/
def partAt (n : Nat) (ps : Nat → Nat) (ks : List Int) (i : Nat) : List Part :=
  (if i < n then [.kid i (ps i)] else []) ++ (if i < ks.length then [.key (ks.getD i 0)] else [])
def partsTo (n : Nat) (ps : Nat → Nat) (ks : List Int) (j : Nat) : List Part := (List.range j).flatMap (partAt n ps ks)
theorem partsTo_succ (n : Nat) (ps : Nat → Nat) (ks : List Int) (j : Nat) : partsTo n ps ks (j + 1) = partsTo n ps ks j ++ partAt n ps ks j := by
  simp [partsTo, List.range_succ]
theorem partsTo_pre (n : Nat) (ps : Nat → Nat) (ks : List Int) (j m : Nat) (h : j ≤ m) : partsTo n ps ks j <+: partsTo n ps ks m := by
  induction h with
  | refl => exact List.prefix_refl _
  | step _ ih => rw [partsTo_succ]; exact ih.trans (List.prefix_append _ _)

theorem parts_both {n : Nat} {ps : Nat → Nat} {ks : List Int} {j : Nat} (h1 : j < n) (h2 : j < ks.length) : partsTo n ps ks (j + 1) = partsTo n ps ks j ++ [.kid j (ps j)] ++ [.key (ks.getD j 0)] := by
  rw [partsTo_succ, partAt, if_pos h1, if_pos h2, List.append_assoc]
theorem parts_kid {n : Nat} {ps : Nat → Nat} {ks : List Int} {j : Nat} (h1 : j < n) (h2 : ¬ j < ks.length) : partsTo n ps ks (j + 1) = partsTo n ps ks j ++ [.kid j (ps j)] := by
  rw [partsTo_succ, partAt, if_pos h1, if_neg h2, List.append_nil]
theorem parts_key {n : Nat} {ps : Nat → Nat} {ks : List Int} {j : Nat} (h1 : ¬ j < n) (h2 : j < ks.length) : partsTo n ps ks (j + 1) = partsTo n ps ks j ++ [.key (ks.getD j 0)] := by
  rw [partsTo_succ, partAt, if_neg h1, if_pos h2, List.nil_append]
theorem pre_kid {n : Nat} {ps : Nat → Nat} {ks : List Int} {j M : Nat} (h1 : j < n) (hM : j < M) : partsTo n ps ks j ++ [.kid j (ps j)] <+: partsTo n ps ks M := by
  refine List.IsPrefix.trans ?_ (partsTo_pre n ps ks (j + 1) M hM)
  by_cases h2 : j < ks.length
  · rw [parts_both h1 h2]; exact List.prefix_append _ _
  · rw [parts_kid h1 h2]; exact List.prefix_refl _
theorem pre_both {n : Nat} {ps : Nat → Nat} {ks : List Int} {j M : Nat} (h1 : j < n) (h2 : j < ks.length) (hM : j < M) : partsTo n ps ks j ++ [.kid j (ps j)] ++ [.key (ks.getD j 0)] <+: partsTo n ps ks M := by
  rw [← parts_both h1 h2]; exact partsTo_pre n ps ks (j + 1) M hM
theorem pre_key {n : Nat} {ps : Nat → Nat} {ks : List Int} {j M : Nat} (h1 : ¬ j < n) (h2 : j < ks.length) (hM : j < M) : partsTo n ps ks j ++ [.key (ks.getD j 0)] <+: partsTo n ps ks M := by
  rw [← parts_key h1 h2]; exact partsTo_pre n ps ks (j + 1) M hM

set_option maxRecDepth 100000 in
set_option maxHeartbeats 2000000 in
theorem parts_iter {w₀ : World} {lo hi b : Nat} {ks : List Int} {cs : List Tr} {kv : Value} {a : Option Addr} {cap : Nat} {ps : Nat → Nat} (hhi : hi ≤ w₀.heap.size)
    (hlo : lo ≤ b) (hb : b < hi) (hbox : w₀.heap[b]? = some (.cells #[kv, .slice a cs.length cap] 121 (0, 0))) (hk : IntsR w₀ lo hi kv ks) (_hlen : cs.length ≤ cap) (_hcap : cap ≤ maxLen)
    (hat : PtrsR w₀ lo hi a cs.length ps) (_hsz1 : ks.length ≤ 1048576) (hsz2 : cs.length ≤ 1048576) :
    Iter Try.prog 122 #[.pointer (some ⟨b, 0, none⟩)] #[] Part.enc (fun k => lo ≤ k ∧ k < hi) (partsTo cs.length ps ks (max cs.length ks.length)) w₀ := by
  intro l J Jx Pv W hkeep hRd hbnd hJ hJx hY h0
  have hbl : ∀ k, lo ≤ k → k < hi → W.heap[k]? = w₀.heap[k]? := fun k h1 h2 => hkeep.block k (by omega) ⟨h1, h2⟩
  have hbox' := (hbl b hlo hb).trans hbox
  have hk' := hk.same hbl
  have hat' := hat.same hbl
  clear hbox hk hat hbl hkeep
  obtain ⟨ka, kcap, rfl, k1, k2, k3, k4⟩ := hk'
  unfold maxLen at _hcap k2
  refine callsIn_wide (n := 9).1 (callsIn_of_wp Try.func122 rfl trivial ?_ rfl)
  simp only [Try.ntmps122, List.size_toArray, List.length_cons, List.length_nil, Nat.reduceAdd, Nat.reduceSub, Array.replicate_succ, Array.replicate_zero, List.push_toArray, List.append_toArray, List.nil_append, List.cons_append]
  obtain ⟨x1, x2, x3, x4⟩ := box2 hbox'
  obtain ⟨M, hM⟩ : ∃ M, M = max cs.length ks.length := ⟨_, rfl⟩
  have HM := Lib.hid hM
  have K4 := Lib.hid k4
  have HAT := Lib.hid hat'
  have HBOX := Lib.hid hbox'
  clear k4 hat' hbox' hM
  rcases Nat.lt_or_ge cs.length ks.length with hlt | hge
  · gi_wp2
    gi_quiet (fail)
    gi_wp2
    have e0 : (ks.length : Int) = (M : Int) := by have := HM.out; omega
    rw [e0]
    clear e0
    gi_loopw [17] (fun i wr => ∃ (j : Nat), i = .int .i64 j ∧ j ≤ M ∧ J (partsTo cs.length ps ks j) Pv wr ∧ Keep Pv W wr) (fun i _ => M - (intOf i).toNat)
    case atStart => exact ⟨0, rfl, Nat.zero_le _, hJ _ _ _ _ _ h0 (Keep.drewN _ _ _) (fun k h => .inl h), Keep.drewN _ _ _⟩
    case round =>
      obtain ⟨j, rfl, hj, hJs, hkp⟩ := hrel
      have hM1 : cs.length ≤ M := by have := HM.out; omega
      have hM2 : ks.length ≤ M := by have := HM.out; omega
      by_cases hjM : j < M
      · have hbW := (Array.getElem?_eq_some_iff.1 HBOX.out).1
        obtain ⟨y1, y2, y3, y4⟩ := box2 ((hkp.block b hbW (hRd b ⟨hlo, hb⟩)).trans HBOX.out)
        clear x1 x2 x3 x4
        by_cases hkid : j < cs.length
        · rcases HAT.out with h | ⟨qb, qo, rfl, q1, q2, q3⟩
          · omega
          have cq : wr.cell? ⟨qb, qo + j, none⟩ = some (.pointer (some ⟨ps j, 0, none⟩)) := by
            have hb0 := World.block_lt_of_cell? W _ (q3 j hkid)
            rw [cell_of_blk (hkp.block qb hb0 (hRd qb ⟨q1, q2⟩))]; exact q3 j hkid
          clear q3
          have hkidB : decide ((j : Int) < (cs.length : Int)) = true := by simp [hkid]
          obtain ⟨fn, tmps, assign, body, hy, hR⟩ := hY _ (.kid j (ps j)) Pv wr hJs hkp (fun _ h => h) (fun k h => Nat.lt_of_lt_of_le (hbnd k h) hkp.size) (by rw [← HM.out]; exact pre_kid hkid hjM)
          dsimp only [Part.enc] at hy
          gi_wp2
          refine (hR _).mono ?_
          rintro e W3 ⟨hk3, (⟨rfl, hJ3⟩ | ⟨rfl, hJx3⟩)⟩
          · have hk3' := hkp.trans hk3
            clear y1 y2 y3 y4 hy hR
            obtain ⟨y1, y2, y3, y4⟩ := box2 ((hk3'.block b hbW (hRd b ⟨hlo, hb⟩)).trans HBOX.out)
            by_cases hkey : j < ks.length
            · have hpre := pre_both (ps := ps) hkid hkey hjM
              have hnext := parts_both (ps := ps) hkid hkey
              rcases K4.out with h | ⟨pb, po, rfl, g1, g2, g3⟩
              · rw [h] at hkey; simp at hkey
              have ck : W3.cell? ⟨pb, po + j, none⟩ = some (.int .i64 (ks.getD j 0)) := by
                have hb0 := World.block_lt_of_cell? W _ (g3 j hkey)
                rw [cell_of_blk ((hk3').block pb hb0 (hRd pb ⟨g1, g2⟩))]; exact g3 j hkey
              have hkeyB : decide ((j : Int) < (ks.length : Int)) = true := by simp [hkey]
              obtain ⟨fn2, tmps2, assign2, body2, hy2, hR2⟩ := hY _ (.key (ks.getD j 0)) Pv W3 hJ3 (hk3') (fun _ h => h) (fun k h => Nat.lt_of_lt_of_le (hbnd k h) (hk3').size) (by rw [← HM.out]; exact hpre)
              dsimp only [Part.enc] at hy2
              have HPRE := Lib.hid hpre
              have HNEXT := Lib.hid hnext
              clear hpre hnext
              obtain ⟨kk, hkk⟩ : ∃ kk, kk = ks.getD j 0 := ⟨_, rfl⟩
              rw [← hkk] at ck hy2
              have HKK := Lib.hid hkk
              clear g3 hkk
              gi_wp2
              refine (hR2 _).mono ?_
              rintro e W4 ⟨hk4, (⟨rfl, hJ4⟩ | ⟨rfl, hJx4⟩)⟩
              · gi_wp2
                go_roundw
                case rel => exact ⟨j + 1, by go_num, by omega, by rw [HNEXT.out]; exact hJ4, (hk3').trans hk4⟩
                case measure => simp [intOf]; omega
              · gi_wp2
                refine bodyPost_ret (results_none rfl _ _ _) rfl ?_
                exact ⟨⟨_, rfl⟩, (hk3').trans hk4, .inr ⟨_, by rw [← HM.out]; exact HPRE.out, hJx4⟩⟩
            · exfalso; omega
          · gi_wp2
            refine bodyPost_ret (results_none rfl _ _ _) rfl ?_
            exact ⟨⟨_, rfl⟩, hkp.trans hk3, .inr ⟨_, by rw [← HM.out]; exact pre_kid hkid hjM, hJx3⟩⟩
        · have hkidB : decide ((j : Int) < (cs.length : Int)) = false := by simp; omega
          by_cases hkey : j < ks.length
          · have hpre := pre_key (ps := ps) hkid hkey hjM
            have hnext := parts_key (ps := ps) hkid hkey
            rcases K4.out with h | ⟨pb, po, rfl, g1, g2, g3⟩
            · rw [h] at hkey; simp at hkey
            have ck : wr.cell? ⟨pb, po + j, none⟩ = some (.int .i64 (ks.getD j 0)) := by
              have hb0 := World.block_lt_of_cell? W _ (g3 j hkey)
              rw [cell_of_blk ((hkp).block pb hb0 (hRd pb ⟨g1, g2⟩))]; exact g3 j hkey
            have hkeyB : decide ((j : Int) < (ks.length : Int)) = true := by simp [hkey]
            obtain ⟨fn2, tmps2, assign2, body2, hy2, hR2⟩ := hY _ (.key (ks.getD j 0)) Pv wr hJs (hkp) (fun _ h => h) (fun k h => Nat.lt_of_lt_of_le (hbnd k h) (hkp).size) (by rw [← HM.out]; exact hpre)
            dsimp only [Part.enc] at hy2
            have HPRE := Lib.hid hpre
            have HNEXT := Lib.hid hnext
            clear hpre hnext
            obtain ⟨kk, hkk⟩ : ∃ kk, kk = ks.getD j 0 := ⟨_, rfl⟩
            rw [← hkk] at ck hy2
            have HKK := Lib.hid hkk
            clear g3 hkk
            gi_wp2
            refine ⟨fun _ h => (by cases h), ?_⟩
            gi_wp2
            refine (hR2 _).mono ?_
            rintro e W4 ⟨hk4, (⟨rfl, hJ4⟩ | ⟨rfl, hJx4⟩)⟩
            · gi_wp2
              go_roundw
              case rel => exact ⟨j + 1, by go_num, by omega, by rw [HNEXT.out]; exact hJ4, (hkp).trans hk4⟩
              case measure => simp [intOf]; omega
            · gi_wp2
              refine bodyPost_ret (results_none rfl _ _ _) rfl ?_
              exact ⟨⟨_, rfl⟩, (hkp).trans hk4, .inr ⟨_, by rw [← HM.out]; exact HPRE.out, hJx4⟩⟩
          · exfalso; have := HM.out; omega
      · obtain rfl : j = M := by omega
        gi_wp2
        go_end0
        exact ⟨⟨_, rfl⟩, hkp, .inl (by rw [← HM.out]; exact hJs)⟩
  · gi_wp2
    gi_quiet (fail)
    gi_wp2
    have e0 : (cs.length : Int) = (M : Int) := by have := HM.out; omega
    rw [e0]
    clear e0
    gi_loopw [17] (fun i wr => ∃ (j : Nat), i = .int .i64 j ∧ j ≤ M ∧ J (partsTo cs.length ps ks j) Pv wr ∧ Keep Pv W wr) (fun i _ => M - (intOf i).toNat)
    case atStart => exact ⟨0, rfl, Nat.zero_le _, hJ _ _ _ _ _ h0 (Keep.drewN _ _ _) (fun k h => .inl h), Keep.drewN _ _ _⟩
    case round =>
      obtain ⟨j, rfl, hj, hJs, hkp⟩ := hrel
      have hM1 : cs.length ≤ M := by have := HM.out; omega
      have hM2 : ks.length ≤ M := by have := HM.out; omega
      by_cases hjM : j < M
      · have hbW := (Array.getElem?_eq_some_iff.1 HBOX.out).1
        obtain ⟨y1, y2, y3, y4⟩ := box2 ((hkp.block b hbW (hRd b ⟨hlo, hb⟩)).trans HBOX.out)
        clear x1 x2 x3 x4
        by_cases hkid : j < cs.length
        · rcases HAT.out with h | ⟨qb, qo, rfl, q1, q2, q3⟩
          · omega
          have cq : wr.cell? ⟨qb, qo + j, none⟩ = some (.pointer (some ⟨ps j, 0, none⟩)) := by
            have hb0 := World.block_lt_of_cell? W _ (q3 j hkid)
            rw [cell_of_blk (hkp.block qb hb0 (hRd qb ⟨q1, q2⟩))]; exact q3 j hkid
          clear q3
          have hkidB : decide ((j : Int) < (cs.length : Int)) = true := by simp [hkid]
          obtain ⟨fn, tmps, assign, body, hy, hR⟩ := hY _ (.kid j (ps j)) Pv wr hJs hkp (fun _ h => h) (fun k h => Nat.lt_of_lt_of_le (hbnd k h) hkp.size) (by rw [← HM.out]; exact pre_kid hkid hjM)
          dsimp only [Part.enc] at hy
          gi_wp2
          refine (hR _).mono ?_
          rintro e W3 ⟨hk3, (⟨rfl, hJ3⟩ | ⟨rfl, hJx3⟩)⟩
          · have hk3' := hkp.trans hk3
            clear y1 y2 y3 y4 hy hR
            obtain ⟨y1, y2, y3, y4⟩ := box2 ((hk3'.block b hbW (hRd b ⟨hlo, hb⟩)).trans HBOX.out)
            by_cases hkey : j < ks.length
            · have hpre := pre_both (ps := ps) hkid hkey hjM
              have hnext := parts_both (ps := ps) hkid hkey
              rcases K4.out with h | ⟨pb, po, rfl, g1, g2, g3⟩
              · rw [h] at hkey; simp at hkey
              have ck : W3.cell? ⟨pb, po + j, none⟩ = some (.int .i64 (ks.getD j 0)) := by
                have hb0 := World.block_lt_of_cell? W _ (g3 j hkey)
                rw [cell_of_blk ((hk3').block pb hb0 (hRd pb ⟨g1, g2⟩))]; exact g3 j hkey
              have hkeyB : decide ((j : Int) < (ks.length : Int)) = true := by simp [hkey]
              obtain ⟨fn2, tmps2, assign2, body2, hy2, hR2⟩ := hY _ (.key (ks.getD j 0)) Pv W3 hJ3 (hk3') (fun _ h => h) (fun k h => Nat.lt_of_lt_of_le (hbnd k h) (hk3').size) (by rw [← HM.out]; exact hpre)
              dsimp only [Part.enc] at hy2
              have HPRE := Lib.hid hpre
              have HNEXT := Lib.hid hnext
              clear hpre hnext
              obtain ⟨kk, hkk⟩ : ∃ kk, kk = ks.getD j 0 := ⟨_, rfl⟩
              rw [← hkk] at ck hy2
              have HKK := Lib.hid hkk
              clear g3 hkk
              gi_wp2
              refine (hR2 _).mono ?_
              rintro e W4 ⟨hk4, (⟨rfl, hJ4⟩ | ⟨rfl, hJx4⟩)⟩
              · gi_wp2
                go_roundw
                case rel => exact ⟨j + 1, by go_num, by omega, by rw [HNEXT.out]; exact hJ4, (hk3').trans hk4⟩
                case measure => simp [intOf]; omega
              · gi_wp2
                refine bodyPost_ret (results_none rfl _ _ _) rfl ?_
                exact ⟨⟨_, rfl⟩, (hk3').trans hk4, .inr ⟨_, by rw [← HM.out]; exact HPRE.out, hJx4⟩⟩
            · have hnext := parts_kid (ps := ps) hkid hkey
              have HNEXT := Lib.hid hnext
              clear hnext
              have hkeyB : decide ((j : Int) < (ks.length : Int)) = false := by simp; omega
              gi_wp2
              refine ⟨fun _ h => (by cases h), ?_⟩
              gi_wp2
              go_roundw
              case rel => exact ⟨j + 1, by go_num, by omega, by rw [HNEXT.out]; exact hJ3, hk3'⟩
              case measure => simp [intOf]; omega
          · gi_wp2
            refine bodyPost_ret (results_none rfl _ _ _) rfl ?_
            exact ⟨⟨_, rfl⟩, hkp.trans hk3, .inr ⟨_, by rw [← HM.out]; exact pre_kid hkid hjM, hJx3⟩⟩
        · have hkidB : decide ((j : Int) < (cs.length : Int)) = false := by simp; omega
          exfalso; have := HM.out; omega
      · obtain rfl : j = M := by omega
        gi_wp2
        go_end0
        exact ⟨⟨_, rfl⟩, hkp, .inl (by rw [← HM.out]; exact hJs)⟩
end Go.Proofs.Ytodcapgmhginoaa
