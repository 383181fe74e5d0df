/- The contracts of the functions that mark a result and look whether the marks held. -/
import Derived.ProofKit
import Derived.Deep.Slices
import Derived.Test.YtananonjomfpkaaQhS11
/- From the reading of an argument to the tree that lies in memory. -/
namespace Go.Proofs.Ytananonjomfpkaa
open Go.RowKit Go.ChangeShapes Go.WideShapes
theorem Try.cellsInt : Try.prog.cellsOf 3 = 1 := by kernel_rfl
def Fits (n : Int) : Prop := -9223372036854775808 ≤ n ∧ n ≤ 9223372036854775807
inductive Tr.Fit : Tr → Prop where
 | mk (ks : List Int) (cs : List Tr) (hk : ∀ k ∈ ks, Fits k) (hc : ∀ i (h : i < cs.length), Tr.Fit cs[i]) : Tr.Fit (.mk ks cs)
theorem cell_spot {w : World} {a : Addr} {v : Value} (h : w.cell? a = some v) : a.spot = none := by
 unfold World.cell? at h
 split at h
 · split at h
   · cases h
   · rename_i hs
     cases hsp : a.spot with
     | none => rfl
     | some x => simp [hsp] at hs
 · cases h
theorem add_zero_addr (a : Addr) : a.add 0 = a := by simp [Addr.add]
section
variable {H : Type} {enc : TypeId × Value → H} {w : World} {base : Nat} {spare : Nat → Bool} {held : Bool}
theorem ints_of_trod {fuel : Nat} {cs : List Value} {x : DataW H × List MemPlace} (h : DataW.trod enc Try.prog w base spare held fuel 23 cs = some x) :
   ∃ v ks, cs = [v] ∧ IntsIn w w.heap.size v ks ∧ ∀ k ∈ ks, Fits k := by
 rcases open_ints Try.underlying23 Try.underlying3 Try.cellsInt h with ⟨rfl, _⟩ | ⟨a, len, cap, zs, rfl, _, hl, hm, hz, _, hcell, hwz⟩
 · exact ⟨_, [], rfl, ⟨none, 0, rfl, by simp, by unfold maxLen; omega, fun _ => rfl, .inl rfl⟩, by simp⟩
 · have hle : len ≤ zs.length := by rw [hz]; split <;> omega
   have htl : (zs.take len).length = len := by simp; omega
   refine ⟨_, zs.take len, rfl, ⟨some a, cap, by rw [htl], by omega, hm, by simp, ?_⟩, fun k hk => ?_⟩
   · by_cases h0 : len = 0
     · exact .inl (by subst h0; simp)
     · have hc0 := hcell 0 (by omega)
       have hb := block_lt_of_cell hc0
       rw [add_zero_addr] at hc0 hb
       have hsp := cell_spot hc0
       obtain ⟨b, o, sp⟩ := a
       obtain rfl : sp = none := hsp
       refine .inr ⟨b, o, rfl, hb, fun i hi => ?_⟩
       rw [htl] at hi
       have hci := hcell i (by omega)
       rw [Addr.add_lit] at hci
       rw [hci]
       congr 2
       simp [List.getD_eq_getElem?_getD, hi]
   · have := hwz k (List.mem_of_mem_take hk)
     simpa [Fits, Lit.wf, IntKind.min, IntKind.max, IntKind.signed, IntKind.bits] using this
end
end Go.Proofs.Ytananonjomfpkaa
/- The contracts of the functions that mark a result and look whether the marks held. -/
namespace Go.Proofs.Ytananonjomfpkaa
open Go.RowKit
def marks (k : Int) (n : Nat) : List Int := (List.range n).map (fun (i : Nat) => k + (i : Int))
theorem marks_length (k : Int) (n : Nat) : (marks k n).length = n := by simp [marks]
theorem marks_get (k : Int) (n i : Nat) (h : i < n) : (marks k n).getD i 0 = k + i := by simp [marks, h]
theorem markRow_c (g n cap : Nat) (k : Int) (c : Array Value) (w : World) (hc : w.heap[g]? = some (.cells c 3 (0, 0))) (hn : n ≤ c.size) (hcap : n ≤ 1048576) (hi : ∀ i, i < n → ∃ x : Int, c[i]? = some (.int .i64 x)) (h0 : 0 ≤ k) (h1 : k ≤ 1099511627776) :
   Calls Try.prog 36 #[.slice (some ⟨g, 0, none⟩) n cap, .int .i64 k] w fun e w' => e = .returned (.int .i64 (k + n)) ∧
     ∃ c' : Array Value, w'.heap[g]? = some (.cells c' 3 (0, 0)) ∧ c'.size = c.size ∧ (∀ i, i < n → c'[i]? = some (.int .i64 (k + (i : Int)))) ∧ w.grownBy w' (some g) := by
 have HC := Lib.hid hc
 have HI := Lib.hid hi
 clear hc hi
 go_enter Try.func36, Try.ntmps36
 go_wp2_with fail
 go_loopw [1, 5] (fun l i wr => ∃ (j : Nat) (c' : Array Value), j ≤ n ∧ i = .int .i64 j ∧ l = .int .i64 (k + j) ∧ wr.heap[g]? = some (.cells c' 3 (0, 0)) ∧ c'.size = c.size ∧ (∀ i, i < j → c'[i]? = some (.int .i64 (k + (i : Int)))) ∧ (∀ i, i < n → ∃ x : Int, c'[i]? = some (.int .i64 x)) ∧ w.grownBy wr (some g)) (fun _ i _ => n - (intOf i).toNat)
 case atStart => exact ⟨0, c, Nat.zero_le _, rfl, by simp, HC.out, rfl, fun i h => by omega, HI.out, World.grownBy.refl _ _⟩
 case round =>
   obtain ⟨j, c', hj, rfl, rfl, hblk, hsz, hdone, hints, hgr⟩ := hrel
   by_cases hlt : j < n
   · obtain ⟨x, hx⟩ := hints j hlt
     have ha : wr.cell? ⟨g, j, none⟩ = some (.int .i64 x) := by simp [World.cell?, hblk, hx]
     have hf : wr.frozen? ⟨g, j, none⟩ = false := by simp [World.frozen?, hblk]
     have hgl : g < wr.heap.size := (Array.getElem?_eq_some_iff.1 hblk).1
     have HD := Lib.hid (And.intro hblk (And.intro hsz (And.intro hdone (And.intro hints hgr))))
     clear hblk hsz hdone hints hgr hx
     go_wp2_with fail
     go_roundw
     case rel =>
       obtain ⟨hblk, hsz, hdone, hints, hgr⟩ := HD.out
       refine ⟨j + 1, c'.setIfInBounds j (.int .i64 (k + j)), by omega, by go_num, by go_num, set_blk _ hblk, by simpa using hsz, fun i hi => ?_, fun i hi => ?_, ?_⟩
       · rw [Array.getElem?_setIfInBounds]
         by_cases e : j = i
         · subst e; rw [if_pos rfl, if_pos (by omega)]
         · rw [if_neg e]; exact hdone i (by omega)
       · rw [Array.getElem?_setIfInBounds]
         by_cases e : j = i
         · subst e; exact ⟨_, by rw [if_pos rfl, if_pos (by omega)]⟩
         · rw [if_neg e]; exact hints i hi
       · refine ⟨hgr.os, hgr.tape, hgr.output, by simpa using hgr.size, fun b hb hne => ?_⟩
         rw [set_other _ _ _ _ _ (fun e => hne (by rw [e]))]
         exact hgr.block b hb hne
     case measure => simp [intOf]; omega
   · obtain rfl : j = n := by omega
     have HD := Lib.hid (And.intro hblk (And.intro hsz (And.intro hdone hgr)))
     clear hblk hsz hdone hints hgr
     go_wp2_with fail
     go_ret
     obtain ⟨hblk, hsz, hdone, hgr⟩ := HD.out
     exact ⟨rfl, c', hblk, hsz, hdone, hgr⟩
theorem markNone_c (a : Option Addr) (cap : Nat) (k : Int) (w : World) :
   Calls Try.prog 36 #[.slice a 0 cap, .int .i64 k] w fun e w' => e = .returned (.int .i64 k) ∧ w = w' := by
 go_enter Try.func36, Try.ntmps36
 go_wp2_with fail
 refine wp_loop_rounds 1 ?_
 rw [rounds_succ]
 go_wp2_with fail
 go_ret
 exact ⟨rfl, rfl⟩
theorem markOwn_c {w : World} {lo : Nat} {v : Value} {ks : List Int} (h : IntsOwn w lo v ks) (hl : lo ≤ w.heap.size) (hn : ks.length ≤ 1048576) (k : Int) (h0 : 0 ≤ k) (h1 : k ≤ 1099511627776) :
   Calls Try.prog 36 #[v, .int .i64 k] w fun e w' => e = .returned (.int .i64 (k + ks.length)) ∧ IntsOwn w' lo v (marks k ks.length) ∧ Below lo w w' := by
 obtain ⟨hlen, ⟨hv, hz⟩ | ⟨g, cap, cur, hv, hb, hg, hnc, hm, hs, ht⟩⟩ := h
 · subst hv
   rw [hz]
   refine (markNone_c none 0 k w).mono ?_
   rintro e w' ⟨rfl, rfl⟩
   exact ⟨by simp, World.ownsRow_nil w lo _ _, Below.refl _ _⟩
 · subst hv
   rw [Nat.mul_one] at hs ht
   refine (markRow_c g ks.length cap k cur w hg (by omega) hn (fun i hi => ⟨ks[i], ?_⟩) h0 h1).mono ?_
   · have : (cur.toList.take ks.length)[i]? = some (.int .i64 ks[i]) := by rw [ht]; simp [hi]
     rw [List.getElem?_take_of_lt hi] at this
     simpa using this
   · rintro e w' ⟨rfl, c', hg', hsz, hd, hgr⟩
     refine ⟨rfl, ⟨by simp [marks], .inr ⟨g, cap, c', by rw [marks_length], hb, hg', by rw [marks_length]; exact hnc, hm, by omega, ?_⟩⟩, (Below.refl lo w).grown hgr hl (fun b e => by cases e; exact hb)⟩
     apply List.ext_getElem?
     intro i
     rw [marks_length, Nat.mul_one]
     by_cases hi : i < ks.length
     · rw [List.getElem?_take_of_lt hi]
       have := hd i hi
       simp [marks, hi, this]
     · rw [List.getElem?_eq_none (by simp; omega), List.getElem?_eq_none (by simp [marks]; omega)]
theorem held_c (n : Nat) (v : Value) (k : Int) (w : World) (h : IntsAt w v (marks k n)) (hn : n ≤ 1048576) (h0 : 0 ≤ k) (h1 : k ≤ 1099511627776) :
   Calls Try.prog 51 #[v, .int .i64 k] w fun e w' => e = .returned (.int .i64 (k + n)) ∧ w = w' := by
 obtain ⟨a, cap, rfl, _, hat⟩ := h
 rw [marks_length] at hat ⊢
 have HAT := Lib.hid hat
 clear hat
 go_enter Try.func51, Try.ntmps51
 go_wp2_with fail
 go_loop [1, 5] (fun l i => ∃ (j : Nat), j ≤ n ∧ i = .int .i64 j ∧ l = .int .i64 (k + j)) (fun _ i => n - (intOf i).toNat)
 case atStart => exact ⟨0, Nat.zero_le _, rfl, by simp⟩
 case round =>
   obtain ⟨j, hj, rfl, rfl⟩ := hrel
   by_cases hlt : j < n
   · rcases HAT.out with h | ⟨b, o, rfl, hat⟩
     · have := congrArg List.length h; rw [marks_length] at this; simp at this; omega
     have ha := hat j hlt
     rw [marks_get k n j hlt] at ha
     have hne : ((k + (j : Int)) != k + (j : Int)) = false := by simp
     clear hat
     go_wp2_with fail
     go_round
     case rel => exact ⟨j + 1, by omega, by go_num, by go_num⟩
     case measure => simp [intOf]; omega
   · obtain rfl : j = n := by omega
     go_wp2_with fail
     go_ret
     exact ⟨rfl, rfl⟩
end Go.Proofs.Ytananonjomfpkaa
