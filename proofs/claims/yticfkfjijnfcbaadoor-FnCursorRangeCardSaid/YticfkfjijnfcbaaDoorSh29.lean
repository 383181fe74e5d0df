/- The contracts of slices.AppendSeq and slices.Collect over the keys of a node. -/
import Derived.Test.YticfkfjijnfcbaaDoorSh0
import Derived.Test.YticfkfjijnfcbaaDoorKeys
import Derived.Test.YticfkfjijnfcbaaDoorSh2
import Derived.Test.YticfkfjijnfcbaaDoorSh7
import Derived.Test.YticfkfjijnfcbaaDoorSh11
import Derived.Test.YticfkfjijnfcbaaDoorProg
import Derived.Test.YticfkfjijnfcbaaDoorSh1
import Derived.Test.YticfkfjijnfcbaaDoorSh17
import Derived.Test.YticfkfjijnfcbaaDoorSh26
import Derived.Test.YticfkfjijnfcbaaDoorSh3
import Derived.Test.YticfkfjijnfcbaaDoorIter
import Derived.Test.YticfkfjijnfcbaaDoorSh5
import Derived.Test.YticfkfjijnfcbaaDoorSh6
import Derived.RangeFuncNested
import Derived.Shelf.RegionOpen
import Derived.WalkKit
import Derived.OwnWalkIn
import Derived.TacticsInMore

/- Finding: plain data: the keys of a range. -/
namespace Go.Proofs.YticfkfjijnfcbaaDoor
open Go.RowKit

/-- The keys from a number to a number. -/
def rangeL (low high : Int) (keys : List Int) : List Int := keys.filter (fun k => inB k low high)
theorem rangeL_snoc (low high : Int) (a : List Int) (x : Int) : rangeL low high (a ++ [x]) = if inB x low high = true then rangeL low high a ++ [x] else rangeL low high a := by
  unfold rangeL
  rw [List.filter_append]
  cases h : inB x low high with
  | true => simp [h]
  | false => simp [h]
theorem rangeL_len (low high : Int) (a : List Int) : (rangeL low high a).length ≤ a.length := List.length_filter_le _ _
theorem rangeL_none {low high : Int} (h : ¬ low ≤ high) (keys : List Int) : rangeL low high keys = [] := by
  unfold rangeL
  rw [List.filter_eq_nil_iff]
  intro x _
  simp only [inB, Bool.and_eq_true, decide_eq_true_eq]
  omega
theorem filter_all {p : Int → Bool} : ∀ {l : List Int}, (∀ x ∈ l, p x = true) → l.filter p = l
  | [], _ => rfl
  | x :: r, h => by rw [List.filter_cons, if_pos (h x (by simp)), filter_all (fun y hy => h y (by simp [hy]))]

/-- In a list that ascends, they are what lies between two places. -/
theorem rangeL_cut {low high : Int} (hlh : low ≤ high) {keys : List Int} (hs : keys.Pairwise (· < ·)) : rangeL low high keys = (keys.drop (place low keys)).take (place (high + 1) keys - place low keys) := by
  induction keys with
  | nil => rfl
  | cons x r ih =>
    have hr := List.pairwise_cons.1 hs
    have ih := ih hr.2
    unfold rangeL at ih ⊢
    rw [List.filter_cons]
    simp only [place]
    by_cases h1 : x < low
    · have hin : inB x low high = false := inB_false (by omega)
      rw [hin, if_pos h1, if_pos (show x < high + 1 by omega)]
      simp only [Bool.false_eq_true, if_false, List.drop_succ_cons]
      rw [ih]
      congr 1; omega
    · rw [if_neg h1]
      have hp0 : place low r = 0 := by
        cases r with
        | nil => rfl
        | cons y r' =>
          have := hr.1 y (by simp)
          simp only [place]; rw [if_neg (by omega)]
      rw [hp0] at ih
      simp only [List.drop_zero, Nat.sub_zero] at ih ⊢
      by_cases h2 : x < high + 1
      · have hin : inB x low high = true := inB_true (by omega) (by omega)
        rw [hin, if_pos h2, if_pos rfl, ih]; rfl
      · have hin : inB x low high = false := inB_false (by omega)
        have hp1 : place (high + 1) r = 0 := by
          cases r with
          | nil => rfl
          | cons y r' =>
            have := hr.1 y (by simp)
            simp only [place]; rw [if_neg (by omega)]
        rw [hin, if_neg h2, ih, hp1]; rfl

def Tr.rangeB (low high : Int) (t : Tr) : List Int := if t.someB then rangeL low high t.keys else []
theorem rangeB_is (low high : Int) (t : Tr) : (t.someB = true → t.rangeB low high = rangeL low high t.keys) ∧ (t.someB = false → t.rangeB low high = []) := by
  unfold Tr.rangeB; constructor <;> intro h <;> simp [h]
theorem rangeB_len (low high : Int) (t : Tr) : (t.rangeB low high).length ≤ t.weight := by
  have h1 := Tr.keys_length_le t
  have h2 := rangeL_len low high t.keys
  unfold Tr.rangeB
  split
  · omega
  · simp
end Go.Proofs.YticfkfjijnfcbaaDoor

/- A slice of ints that is cut out of a row of the call's own. -/
namespace Go.Proofs.YticfkfjijnfcbaaDoor
open Go.RowKit

/-- A slice of ints that lies within a block of the call's own, from block lo on. -/
def IntsCut (w : World) (lo : Nat) (v : Value) (ks : List Int) : Prop :=
  ∃ (a : Option Addr) (cap : Nat), v = .slice a ks.length cap ∧ ks.length ≤ cap ∧ cap ≤ maxLen ∧ (a = none → cap = 0) ∧
    (ks = [] ∨ ∃ (g o : Nat) (cur : Array Value), a = some ⟨g, o, none⟩ ∧ lo ≤ g ∧ w.heap[g]? = some (.cells cur 3 (0, 0)) ∧ ∀ i, i < ks.length → cur[o + i]? = some (.int .i64 (ks.getD i 0)))

theorem IntsCut.shown {w : World} {lo : Nat} {v : Value} {ks : List Int} (h : IntsCut w lo v ks) : ∃ a c, v = .slice a ks.length c := by
  obtain ⟨a, cap, hv, _⟩ := h
  exact ⟨a, cap, hv⟩
theorem IntsCut.in {w : World} {lo : Nat} {v : Value} {ks : List Int} (h : IntsCut w lo v ks) : IntsIn w w.heap.size v ks := by
  obtain ⟨a, cap, hv, h1, h2, h3, h4⟩ := h
  refine ⟨a, cap, hv, h1, h2, h3, ?_⟩
  rcases h4 with h4 | ⟨g, o, cur, ha, hl, hg, hc⟩
  · exact .inl h4
  · exact .inr ⟨g, o, ha, (Array.getElem?_eq_some_iff.1 hg).1, fun i hi => by simp [World.cell?, hg, hc i hi]⟩
theorem IntsCut.inB {w : World} {lo B : Nat} {v : Value} {ks : List Int} (h : IntsCut w lo v ks) (hB : w.heap.size ≤ B) : IntsIn w B v ks := (IntsCut.in h).wider hB
theorem IntsCut.later {w w' : World} {lo C : Nat} {v : Value} {ks : List Int} (h : IntsCut w lo v ks) (hb : Below C w w') (hC : w.heap.size ≤ C) : IntsCut w' lo v ks := by
  obtain ⟨a, cap, hv, h1, h2, h3, h4⟩ := h
  refine ⟨a, cap, hv, h1, h2, h3, ?_⟩
  rcases h4 with h4 | ⟨g, o, cur, ha, hl, hg, hc⟩
  · exact .inl h4
  · exact .inr ⟨g, o, cur, ha, hl, (hb.block g (by have := (Array.getElem?_eq_some_iff.1 hg).1; omega)).trans hg, hc⟩
theorem IntsCut.span {w w' : World} {l lo hi : Nat} {v : Value} {ks : List Int} (h : IntsCut w l v ks) (hb : Span lo hi w w') (hl : hi ≤ l) : IntsCut w' l v ks := by
  obtain ⟨a, cap, hv, h1, h2, h3, h4⟩ := h
  refine ⟨a, cap, hv, h1, h2, h3, ?_⟩
  rcases h4 with h4 | ⟨g, o, cur, ha, hl', hg, hc⟩
  · exact .inl h4
  · exact .inr ⟨g, o, cur, ha, hl', (hb.block g (Array.getElem?_eq_some_iff.1 hg).1 (.inr (by omega))).trans hg, hc⟩
theorem IntsCut.lower {w : World} {lo lo' : Nat} {v : Value} {ks : List Int} (h : IntsCut w lo v ks) (hl : lo' ≤ lo) : IntsCut w lo' v ks := by
  obtain ⟨a, cap, hv, h1, h2, h3, h4⟩ := h
  refine ⟨a, cap, hv, h1, h2, h3, ?_⟩
  rcases h4 with h4 | ⟨g, o, cur, ha, hl', hg, hc⟩
  · exact .inl h4
  · exact .inr ⟨g, o, cur, ha, by omega, hg, hc⟩
theorem IntsCut.none {w : World} {lo : Nat} : IntsCut w lo (.slice none 0 0) [] := ⟨_, 0, rfl, Nat.le_refl _, by unfold maxLen; omega, fun _ => rfl, .inl rfl⟩

/-- A part of a row of the call's own is such a slice. -/
theorem IntsOwn.cut {w : World} {lo n cap f p : Nat} {a : Option Addr} {ks : List Int} (h : IntsOwn w lo (.slice a n cap) ks) (h1 : f ≤ p) (h2 : p ≤ ks.length) (a' : Option Addr) (ha : p - f = 0 ∨ a' = a.map (fun x => x.add f)) (hz : a' = none → p - f = 0) :
    IntsCut w lo (.slice a' (p - f) (p - f)) ((ks.drop f).take (p - f)) := by
  have hlen : ((ks.drop f).take (p - f)).length = p - f := by rw [List.length_take, List.length_drop]; omega
  have hkl : ks.length ≤ maxLen := by
    obtain ⟨_, ⟨h2, h3⟩ | ⟨g, cap', cur, hv, hb, hg, hn, hm, hs, ht⟩⟩ := h
    · rw [h3]; exact Nat.zero_le _
    · omega
  refine ⟨a', p - f, by rw [hlen], by rw [hlen]; exact Nat.le_refl _, by omega, hz, ?_⟩
  by_cases h0 : p - f = 0
  · exact .inl (List.length_eq_zero_iff.1 (by rw [hlen]; exact h0))
  · rcases ha with ha | ha
    · exact absurd ha h0
    · obtain ⟨_, ⟨hv, h3⟩ | ⟨g, cap', cur, hv, hb, hg, hn, hm, hs, ht⟩⟩ := h
      · have h9 : ks.length = 0 := h3
        omega
      · injection hv with e1 e2 e3
        subst e1
        refine .inr ⟨g, f, cur, by rw [ha]; simp [Addr.add] <;> omega, hb, hg, fun i hi => ?_⟩
        rw [hlen] at hi
        have hget : (cur.toList.take (ks.length * 1))[f + i]? = (ks.map (Value.int .i64))[f + i]? := by rw [ht]
        rw [Nat.mul_one, List.getElem?_take_of_lt (by omega)] at hget
        rw [← Array.getElem?_toList, hget, List.getElem?_map, List.getD_eq_getElem?_getD, List.getElem?_take_of_lt (by omega), List.getElem?_drop]
        have hlt : f + i < ks.length := by omega
        simp [hlt]

set_option maxHeartbeats 1000000 in
theorem markRowO_c (g o n cap : Nat) (k : Int) (c : Array Value) (w : World) (hc : w.heap[g]? = some (.cells c 3 (0, 0))) (hcap : n ≤ 1048576) (hi : ∀ i, i < n → ∃ x : Int, c[o + i]? = some (.int .i64 x)) (h0 : 0 ≤ k) (h1 : k ≤ 1099511627776) :
    Calls Tryd.prog 63 #[.slice (some ⟨g, o, none⟩) n cap, .int .i64 k] w fun e w' => e = .returned (.int .i64 (k + n)) ∧
      ∃ c' : Array Value, w'.heap[g]? = some (.cells c' 3 (0, 0)) ∧ (∀ i, i < n → c'[o + i]? = some (.int .i64 (k + (i : Int)))) ∧ w.grownBy w' (some g) := by
  have HC := Lib.hid hc
  have HI := Lib.hid hi
  clear hc hi
  go_enter Tryd.func63, Tryd.ntmps63
  go_wp2_with fail
  go_loopw [1, 5] (fun l i wr => ∃ (j : Nat) (c' : Array Value), j ≤ n ∧ i = .int .i64 j ∧ l = .int .i64 (k + j) ∧ wr.heap[g]? = some (.cells c' 3 (0, 0)) ∧ (∀ i, i < j → c'[o + i]? = some (.int .i64 (k + (i : Int)))) ∧ (∀ i, i < n → ∃ x : Int, c'[o + i]? = some (.int .i64 x)) ∧ w.grownBy wr (some g)) (fun _ i _ => n - (intOf i).toNat)
  case atStart => exact ⟨0, c, Nat.zero_le _, rfl, by simp, HC.out, fun i h => by omega, HI.out, World.grownBy.refl _ _⟩
  case round =>
    obtain ⟨j, c', hj, rfl, rfl, hblk, hdone, hints, hgr⟩ := hrel
    by_cases hlt : j < n
    · obtain ⟨x, hx⟩ := hints j hlt
      have ha : wr.cell? ⟨g, o + j, none⟩ = some (.int .i64 x) := by simp [World.cell?, hblk, hx]
      have hf : wr.frozen? ⟨g, o + j, none⟩ = false := by simp [World.frozen?, hblk]
      have hgl : g < wr.heap.size := (Array.getElem?_eq_some_iff.1 hblk).1
      have hsz : o + j < c'.size := (Array.getElem?_eq_some_iff.1 hx).1
      have HD := Lib.hid (And.intro hblk (And.intro hdone (And.intro hints hgr)))
      clear hblk hdone hints hgr hx
      go_wp2_with fail
      go_roundw
      case rel =>
        obtain ⟨hblk, hdone, hints, hgr⟩ := HD.out
        refine ⟨j + 1, c'.setIfInBounds (o + j) (.int .i64 (k + j)), by omega, by go_num, by go_num, set_blk _ hblk, fun i hi => ?_, fun i hi => ?_, ?_⟩
        · rw [Array.getElem?_setIfInBounds]
          by_cases e : o + j = o + i
          · obtain rfl : j = i := by omega
            rw [if_pos rfl, if_pos hsz]
          · rw [if_neg e]; exact hdone i (by omega)
        · rw [Array.getElem?_setIfInBounds]
          by_cases e : o + j = o + i
          · exact ⟨_, by rw [if_pos e, if_pos hsz]⟩
          · rw [if_neg e]; exact hints i hi
        · refine ⟨hgr.os, hgr.tape, hgr.output, by simpa using hgr.size, fun b hb hne => ?_⟩
          rw [set_other _ _ _ _ _ (fun e => hne (by rw [e]))]
          exact hgr.block b hb hne
      case measure => simp [intOf]; omega
    · obtain rfl : j = n := by omega
      have HD := Lib.hid (And.intro hblk (And.intro hdone hgr))
      clear hblk hdone hints hgr
      go_wp2_with fail
      go_ret
      obtain ⟨hblk, hdone, hgr⟩ := HD.out
      exact ⟨rfl, c', hblk, hdone, hgr⟩

/-- Marking such a slice. -/
theorem markCut_c {w : World} {lo : Nat} {v : Value} {ks : List Int} (h : IntsCut w lo v ks) (hl : lo ≤ w.heap.size) (hn : ks.length ≤ 1048576) (k : Int) (h0 : 0 ≤ k) (h1 : k ≤ 1099511627776) :
    Calls Tryd.prog 63 #[v, .int .i64 k] w fun e w' => e = .returned (.int .i64 (k + ks.length)) ∧ IntsCut w' lo v (marks k ks.length) ∧ Below lo w w' := by
  obtain ⟨a, cap, hv, h2, h3, h4, h5⟩ := h
  subst hv
  by_cases hz : ks.length = 0
  · rw [hz]
    refine (markNone_c a cap k w).mono ?_
    rintro e w' ⟨rfl, rfl⟩
    exact ⟨by simp, ⟨a, cap, by rw [marks_length], by rw [marks_length]; omega, h3, h4, .inl rfl⟩, Below.refl _ _⟩
  · rcases h5 with h5 | ⟨g, o, cur, rfl, hb, hg, hc⟩
    · exact absurd (by rw [h5]; rfl) hz
    · refine (markRowO_c g o ks.length cap k cur w hg hn (fun i hi => ⟨_, hc i hi⟩) h0 h1).mono ?_
      rintro e w' ⟨rfl, c', hg', hd, hgr⟩
      refine ⟨rfl, ⟨_, cap, by rw [marks_length], by rw [marks_length]; exact h2, h3, by simp, .inr ⟨g, o, c', rfl, hb, hg', fun i hi => ?_⟩⟩, (Below.refl lo w).grown hgr hl (fun b e => by cases e; exact hb)⟩
      rw [marks_length] at hi
      rw [marks_get _ _ _ hi]; exact hd i hi

end Go.Proofs.YticfkfjijnfcbaaDoor

/- The contracts of slices.AppendSeq and slices.Collect over the keys of a node. -/
namespace Go.Proofs.YticfkfjijnfcbaaDoor
open Go.RowKit
attribute [local go_sem] Oper.semAt_some

set_option maxRecDepth 100000 in
set_option maxHeartbeats 4000000 in
theorem appendSeq_c {w : World} {lo hi b : Nat} {t : Tr} (ht : NodeIn w lo hi b t) (hwt : t.weight ≤ 1048576) (hhi : hi ≤ w.heap.size) :
    Calls Tryd.prog 124 #[.slice none 0 0, .func (.func 101) #[.pointer (some ⟨b, 0, none⟩)] #[]] w fun e w' => ∃ v, e = .returned v ∧ IntsOwn w' w.heap.size v t.keys ∧ Below w.heap.size w w' := by
  have hit := inOrder_iter ht hwt hhi
  have hkl := Tr.keys_length_le t
  have HIT := Lib.hid hit
  have hlt0 := ht.range
  clear hit ht
  refine (callsIn_wide (n := 9)).1 (callsIn_of_wp_marks Tryd.func124 rfl trivial ?_ rfl)
  simp only [Tryd.ntmps124, List.size_toArray, List.length_cons, List.length_nil, Nat.reduceAdd, Nat.reduceSub, Array.replicate_succ, Array.replicate_zero, List.push_toArray, List.append_toArray, List.nil_append, List.cons_append]
  gi_wp2
  obtain ⟨W2, hW2⟩ : ∃ W2, W2 = w.alloc (.cells #[.slice none 0 0] 22) := ⟨_, rfl⟩
  rw [← hW2]
  have hs2 : W2.heap.size = w.heap.size + 1 := by rw [hW2]; simp
  have hk2 : ∀ K, Keep K w W2 := fun K => by rw [hW2]; exact Keep.alloc K _ _
  have b3 : W2.heap[w.heap.size]? = some (.cells #[.slice none 0 0] 22 (0, 0)) := by rw [hW2, new_blk]
  have B3 := Lib.hid b3
  clear hW2 b3
  refine wp_loop (fb := #[.pointer (some ⟨b, 0, none⟩)]) (lb := #[]) rfl (enters_of Tryd.func101 (by kernel_rfl) rfl) HIT.out (hk2 _) (fun x => rfl)
    (fun k => k < w.heap.size) (fun k h => by omega) (fun k h => by omega)
    (fun pre Pv W => ¬ Pv w.heap.size ∧ ∃ v, W.heap[w.heap.size]? = some (.cells #[v] 22 (0, 0)) ∧ IntsOwn W (w.heap.size + 1) v pre ∧ ∀ k, v.ownBlock = some k → ¬ Pv k)
    (fun c pre Pv W => False)
    (fun pre Pv A Pv' B h hk hp => by
      obtain ⟨h1, v, h2, h3, h4⟩ := h
      have l2 := (Array.getElem?_eq_some_iff.1 h2).1
      refine ⟨fun h => ?_, v, (hk.block _ l2 h1).trans h2, ownsRow_held h3 (fun k e => hk.block _ (h3.lt k e).2 (h4 k e)), fun k e h => ?_⟩
      · exact (hp _ h).elim h1 (fun h => by omega)
      · exact (hp _ h).elim (h4 k e) (fun h => by have := (h3.lt k e).2; omega))
    (fun c pre Pv A Pv' B h hk hp => h)
    ⟨by omega, _, B3.out, ⟨rfl, .inl ⟨rfl, rfl⟩⟩, fun k e => by cases e⟩
    (fun x => { tmps := #[.slice none 0 0, .func (.func 101) #[.pointer (some ⟨b, 0, none⟩)] #[], .pointer (some ⟨w.heap.size, 0, none⟩), undef, .slice none 0 0, .int .i64 x, .func (.func 101) #[.pointer (some ⟨b, 0, none⟩)] #[], .int .i64 x, undef, undef, undef, undef, undef], defers := [] })
    ?assign ?body ?done ?stop
  case assign =>
    intro l' m x W' K hK
    dsimp only [intEnc]
    gi_wp2
    exact hK
  case body =>
    intro l' m pre x Pv W' hI hkW hsub hbnd hp
    obtain ⟨h1, v, h2, h3, h4⟩ := hI
    obtain ⟨va, vc, rfl⟩ := IntsOwn.shown h3
    obtain ⟨c1, f1⟩ := box1 h2
    have hlen : pre.length ≤ 1048577 := by have := hp.length_le; simp at this; omega
    have hbase : w.heap.size + 1 ≤ W'.heap.size := by have := hkW.size; omega
    have HH := Lib.hid (And.intro h2 (And.intro h3 h4))
    have HB := Lib.hid hbnd
    have HLN := Lib.hid hlen
    clear h2 h3 h4 hp hkW hsub hbnd hlen
    gi_wp2_with (gi_at_builtin; refine wpListIn_append_one (by rfl) _ _ (by rfl) (w.heap.size + 1) _ _ x (by rfl) HH.out.2.1 (by rfl) HLN.out hbase ?_; intro a8 c8 w8 L8 hL8 hown8 hk8 hat8; have hq6 := (hk8.block w.heap.size (by omega) (fun e => by have := (HH.out.2.1.lt _ e).1; omega)); have c6' := (cell_of_blk hq6).trans c1; have f6' := (World.frozen?_of_block hq6).trans f1; have H8 := Lib.hid (And.intro hown8 (And.intro hk8 hat8)); clear hown8 hk8 hat8 hq6)
    refine ⟨(H8.out.2.1.mono (fun k _ h e => HH.out.2.2 k e h)).trans (Keep.setCell _ _ _ _ h1), h1, _, set_blk (o := 0) _ ((H8.out.2.1.block w.heap.size (by omega) (fun e => by have := (HH.out.2.1.lt _ e).1; omega)).trans HH.out.1), ?_, fun k e hk => ?_⟩
    · rw [← hL8.out]
      exact ownsRow_held H8.out.1 (fun k e => set_other _ _ _ _ _ (by have := (H8.out.1.lt k e).1; omega))
    · rcases H8.out.2.2 with h | h
      · exact HH.out.2.2 k (h.symm.trans e) hk
      · rw [h] at e
        simp only [Option.some.injEq] at e
        have := HB.out k hk
        omega
  case done =>
    intro W3 hk3 hI hlt hD
    obtain ⟨h1, v, h2, h3, h4⟩ := hI
    obtain ⟨va, vc, rfl⟩ := IntsOwn.shown h3
    obtain ⟨c1, f1⟩ := box1 h2
    have hno : ∀ k, (Value.slice va t.keys.length vc).ownBlock = some k → k ≠ W2.heap.size := fun k e e2 => h4 k e (.inr (.inl e2))
    rw [hs2] at hD hno
    have HD := Lib.hid hD
    have HH := Lib.hid (And.intro h3 (And.intro hno hk3))
    clear h2 h3 h4 hD hno hk3
    gi_wp2
    refine ⟨by simp, .inl ⟨_, _, rfl, run_takeDeferred HD.out, ?_⟩⟩
    refine ⟨_, results_tmp rfl _ _ _, _, rfl, ?_, ?_⟩
    · exact IntsOwn.lower (lo := w.heap.size + 1) (ownsRow_held HH.out.1 (fun q e => World.putObj_heap_other (HH.out.2.1 q e))) (by omega)
    · exact (((hk2 _).trans HH.out.2.2).trans (Keep.putObj _ _ (w.heap.size + 1) (.deferred none) (show ¬ w.heap.size + 1 < w.heap.size by omega))).below (Nat.le_refl _) (fun k h => h)
  case stop =>
    rintro c pre' W3 hk3 hp h hlt hD
    exact h.elim

theorem collect_c {w : World} {lo hi b : Nat} {t : Tr} (ht : NodeIn w lo hi b t) (hwt : t.weight ≤ 1048576) (hhi : hi ≤ w.heap.size) :
    Calls Tryd.prog 100 #[.func (.func 101) #[.pointer (some ⟨b, 0, none⟩)] #[]] w fun e w' => ∃ v, e = .returned v ∧ IntsOwn w' w.heap.size v t.keys ∧ Below w.heap.size w w' := by
  have hc := appendSeq_c ht hwt hhi
  have HC := Lib.hid hc
  clear hc ht
  go_enter Tryd.func100, Tryd.ntmps100
  go_wp2_with fail
  refine HC.out.mono ?_
  rintro e w1 ⟨v, rfl, hv, hb⟩
  obtain ⟨va, vc, rfl⟩ := IntsOwn.shown hv
  have H := Lib.hid (And.intro hv hb)
  clear hv hb
  go_wp2_with fail
  go_ret
  exact ⟨_, rfl, H.out⟩
end Go.Proofs.YticfkfjijnfcbaaDoor
