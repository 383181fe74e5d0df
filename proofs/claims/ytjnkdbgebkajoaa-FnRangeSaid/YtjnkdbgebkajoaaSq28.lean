/- The model's RangeOf. -/
import Derived.Test.YtjnkdbgebkajoaaProg
import Derived.Test.YtjnkdbgebkajoaaSq0
import Derived.Test.YtjnkdbgebkajoaaIter
import Derived.Deep.AppendLies
import Derived.Maps.OwnIn
import Derived.WalkKit
import Derived.Test.YtjnkdbgebkajoaaKeys
import Derived.Test.YtjnkdbgebkajoaaValid
import Derived.Test.YtjnkdbgebkajoaaSq6
import Derived.Test.YtjnkdbgebkajoaaSq17

/- Appends of one int onto a slice of the call's own. -/
namespace Go.Proofs.Ytjnkdbgebkajoaa
open Go.RowKit

/-- An int just laid, appended onto a slice of the call's own. -/
theorem wpList_append_one {W : World} {ops : Array Oper} {rest : List Oper} {o : Oper} {a : Act} {Q : Exit → Act → World → Prop} (hgd : o.guard = none) (s x : Operand)
    (ho : o.op = .call { callee := .builtin .append, args := #[s, x], argTypes := #[23, 23] }) (lo : Nat) (v : Value) (xs : List Int) (k : Int)
    (hs : a.eval s = v) (hown : IntsOwn W lo v xs) (hx : a.eval x = .slice (some ⟨W.heap.size, 0, none⟩) 1 1) (hlen : xs.length ≤ 1048577) (hlo : lo ≤ W.heap.size)
    (h : ∀ a' c' w' (L : List Int), Hid (L = xs ++ [k]) → IntsOwn w' lo (.slice a' L.length c') L → Keep (fun q => v.ownBlock ≠ some q) W w' → ((Value.slice a' L.length c').ownBlock = v.ownBlock ∨ (Value.slice a' L.length c').ownBlock = some (W.heap.size + 1)) →
      wpList Try.prog ops Q rest (a.put o.dst (.slice a' L.length c')) w') : wpList Try.prog ops Q (o :: rest) a (W.alloc (.cells #[.int .i64 k] 3)) := by
  obtain ⟨i0, hi0, hz0, hz1, hz2⟩ := info_parts Try.appInfo
  refine wpList_append_own_at _ hgd s x _ ho lo 3 i0 _ 1 8 Try.underlying23 hi0 hz0 hz1 hz2 rfl (by decide) v xs.length (xs.map (Value.int .i64)) hs (IntsOwn.alloc' hown _) ⟨W.heap.size, 0, none⟩ 1 1 [.int .i64 k] hx (by rfl) (World.news_of_block (cs := #[.int .i64 k]) (t := 3) (fr := (0, 0)) (heap_alloc_new W _)) (by simp [Value.oneCell']) (by unfold maxLen; omega) (by omega) (by simp; omega) ?_
  intro v' w' hown' hgrow _ hat
  have hown2 : IntsOwn w' lo v' (xs ++ [k]) := by
    unfold IntsOwn
    rw [List.length_append, List.map_append]
    exact hown'
  obtain ⟨a', c', rfl⟩ := IntsOwn.shown hown2
  refine h a' c' w' _ (Lib.hid rfl) hown2 ?_ (by simpa using hat)
  refine ⟨hgrow.os, hgrow.tape, hgrow.output, by have := hgrow.size; simp at this; omega, fun q h1 h2 => ?_⟩
  rw [hgrow.block q (by simp; omega) (fun e => h2 e.symm), old_blk _ _ _ h1]
end Go.Proofs.Ytjnkdbgebkajoaa

/- The model's RangeOf. -/
namespace Go.Proofs.Ytjnkdbgebkajoaa
open Go.RowKit

set_option maxRecDepth 100000 in
set_option maxHeartbeats 2000000 in
theorem specRangeOf_c {w : World} {B : Nat} {kv cv : Value} {t : Tr} (ht : TreeIn w B kv cv t) (hw : t.weight ≤ 1048576) (low high : Int) (w' : World) (hbw : Below B w w') (hB : B ≤ w'.heap.size) :
    Calls Try.prog 27 #[.agg #[kv, cv], .int .i64 low, .int .i64 high] w' fun e w'' => ∃ v, e = .returned v ∧ IntsOwn w'' w'.heap.size v (t.rangeB low high) ∧ Below w'.heap.size w' w'' := by
  obtain ⟨i0, hi0, hz0, hz1, hz2⟩ := info_parts Try.appInfo
  obtain ⟨a5, n5, m5, a6, n6, m6, rfl, rfl⟩ := ht.slices
  obtain ⟨W1, hW1⟩ : ∃ W1, W1 = w'.alloc (.cells #[.slice a5 n5 m5, .slice a6 n6 m6] 26) := ⟨_, rfl⟩
  have hs1 : W1.heap.size = w'.heap.size + 1 := by rw [hW1]; simp
  obtain ⟨W2, hW2⟩ : ∃ W2, W2 = (w'.alloc (.cells #[.slice a5 n5 m5, .slice a6 n6 m6] 26)).alloc (.cells #[] 3) := ⟨_, rfl⟩
  have hs2 : W2.heap.size = w'.heap.size + 2 := by rw [hW2]; simp
  have hb2 : Below w'.heap.size w' W2 := by rw [hW2]; exact ((Below.refl _ _).alloc (Nat.le_refl _) _).alloc (by simp) _
  have kb : W2.heap[w'.heap.size]? = some (.cells #[.slice a5 n5 m5, .slice a6 n6 m6] 26 (0, 0)) := by rw [hW2, old_blk _ _ _ (by simp), new_blk]
  have ho2 : IntsOwn W2 (w'.heap.size + 1) (.slice (some ⟨w'.heap.size + 1, 0, none⟩) 0 0) [] := by
    rw [hW2, ← hW1, ← hs1]; exact World.ownsRow_made W1 #[] 0 (Nat.le_refl _) (by unfold maxLen; omega) rfl
  obtain ⟨x1, x2, x3, x4⟩ := box2 kb
  have hv := rangeB_is low high t
  have hl := Tr.keys_length_le t
  have HB := Lib.hid hbw
  have HT := Lib.hid ht
  have HW2 := Lib.hid hW2
  have H2 := Lib.hid (And.intro hb2 (And.intro kb ho2))
  have HV := Lib.hid hv
  clear hbw ht hW1 hW2 hb2 kb ho2 hv hs1
  clear W1
  go_enter Try.func27, Try.ntmps27
  go_wp2_with fail
  rw [← HW2.out]
  refine (l2Valid_c HT.out hw W2 (HB.out.trans (H2.out.1.mono hB)) (by omega)).mono ?_
  rintro e w3 ⟨rfl, hb3⟩
  have hs3 := hb3.size
  have kb3 := (hb3.block w'.heap.size (by omega)).trans H2.out.2.1
  have ho3 := IntsOwn.later H2.out.2.2 hb3 (Nat.le_refl _)
  clear x1 x2 x3 x4
  obtain ⟨x1, x2, x3, x4⟩ := box2 kb3
  have H3 := Lib.hid (And.intro (H2.out.1.trans (hb3.mono (by omega))) ho3)
  clear hb3 kb3 ho3
  cases hsb : t.someB with
  | false =>
    have h := HV.out.2 hsb
    have HZ := Lib.hid h
    have HSB := Lib.hid hsb
    clear h hsb
    go_wp2_with fail
    go_ret
    exact ⟨_, rfl, by rw [HZ.out]; exact IntsOwn.lower H3.out.2 (by omega), H3.out.1⟩
  | true =>
    have h := HV.out.1 hsb
    have HZ := Lib.hid h
    have HSB := Lib.hid hsb
    clear h hsb
    go_wp2_with fail
    refine (specKeys_c HT.out hw _ (HB.out.trans (H3.out.1.mono hB)) (by omega)).mono ?_
    rintro e w4 ⟨v, rfl, hv, hb4⟩
    obtain ⟨va, vc, rfl⟩ := IntsOwn.shown hv
    have hs4 := hb4.size
    have hki := IntsOwn.in hv
    have ho4 := IntsOwn.later H3.out.2 hb4 (Nat.le_refl _)
    have hlo4 := fun q h => (World.ownsRow.lt hv q h).1
    have H4 := Lib.hid (And.intro (H3.out.1.trans (hb4.mono (by omega))) ho4)
    have HKI := Lib.hid (And.intro hki hv)
    clear hb4 hv hki ho4 hlo4 x1 x2 x3 x4
    generalize t.keys = ks at HKI HZ hl
    go_wp2_with fail
    go_loopw [7, 18] (fun l i wr => ∃ (j : Nat) (v : Value), j ≤ ks.length ∧ i = .int .i64 j ∧ l = v ∧ IntsOwn wr (w'.heap.size + 1) v (rangeL low high (ks.take j)) ∧ (∀ k, v.ownBlock = some k → (k < w3.heap.size ∨ w4.heap.size ≤ k)) ∧ Below w'.heap.size w' wr ∧ w4.heap.size ≤ wr.heap.size ∧ (∀ k, w3.heap.size ≤ k → k < w4.heap.size → wr.heap[k]? = w4.heap[k]?)) (fun _ i _ => ks.length - (intOf i).toNat)
    case atStart => exact ⟨0, _, Nat.zero_le _, rfl, rfl, by simpa [rangeL] using H4.out.2, fun k h => .inl (by simp only [Value.ownBlock, Option.some.injEq] at h; omega), H4.out.1, Nat.le_refl _, fun _ _ _ => rfl⟩
    case round =>
      obtain ⟨j, v, hj, rfl, rfl, hown, hfar, hbel, hsz, hold⟩ := hrel
      obtain ⟨oa, oc, rfl⟩ := IntsOwn.shown hown
      have hlr := rangeL_len low high (ks.take j)
      rw [List.length_take] at hlr
      have HR := Lib.hid (And.intro hown (And.intro hfar (And.intro hbel hold)))
      clear hown hfar hbel hold
      by_cases hlt : j < ks.length
      · obtain ⟨_, hrow⟩ := HKI.out.2
        rcases hrow with ⟨_, h0⟩ | ⟨g, cap', cur, hv, hb, hg, hn, hm, hs, htk⟩
        · omega
        injection hv with e1 e2 e3
        subst e1 e3
        have hgw : wr.heap[g]? = some (.cells cur 3 (0, 0)) := (HR.out.2.2.2 g hb (Array.getElem?_eq_some_iff.1 hg).1).trans hg
        have hcj : cur[j]? = some (.int .i64 (ks.getD j 0)) := by
          have hget : (cur.toList.take (ks.length * 1))[j]? = (ks.map (Value.int .i64))[j]? := by rw [htk]
          rw [Nat.mul_one, List.getElem?_take_of_lt hlt] at hget
          rw [← Array.getElem?_toList, hget, List.getElem?_map]
          simp [hlt, List.getD_eq_getElem?_getD]
        have ha' : wr.cell? ⟨g, j, none⟩ = some (.int .i64 (ks.getD j 0)) := by simp [World.cell?, hgw, hcj]
        have htake : ks.take (j + 1) = ks.take j ++ [ks.getD j 0] := by rw [List.take_add_one]; simp [hlt, List.getD_eq_getElem?_getD]
        have hsnoc := rangeL_snoc low high (ks.take j) (ks.getD j 0)
        rw [← htake] at hsnoc
        obtain ⟨x, hx⟩ : ∃ x, x = ks.getD j 0 := ⟨_, rfl⟩
        rw [← hx] at ha' hsnoc
        have hjl : (j : Int) < (ks.length : Int) := by omega
        have HSN := Lib.hid hsnoc
        unfold maxLen at hm
        clear hgw hcj htake hsnoc hx hs htk hg
        go_wp2_with fail
        refine (l1In_c x low high wr).mono ?_
        rintro e w5 ⟨rfl, rfl⟩
        cases hin : inB x low high with
        | false =>
          have hn9 := HSN.out
          rw [hin] at hn9
          have HN9 := Lib.hid hn9
          have HIN := Lib.hid hin
          clear hn9 hin
          go_wp2_with fail
          go_roundw
          case rel => exact ⟨j + 1, _, by omega, by go_num, rfl, by rw [HN9.out]; exact HR.out.1, HR.out.2.1, HR.out.2.2.1, hsz, HR.out.2.2.2⟩
          case measure => simp [intOf]; omega
        | true =>
          have hn9 := HSN.out
          rw [hin] at hn9
          have HN9 := Lib.hid hn9
          have HIN := Lib.hid hin
          clear hn9 hin
          have HLN : Hid ((rangeL low high (ks.take j)).length ≤ 1048577) := Lib.hid (by omega)
          have hlo9 : w'.heap.size + 1 ≤ wr.heap.size := by omega
          go_wp2_with (at_builtin; refine wpList_append_one (by rfl) _ _ (by rfl) (w'.heap.size + 1) _ _ x (by rfl) HR.out.1 (by rfl) HLN.out hlo9 ?_; intro a9 c9 w9 L9 hL9 hown9 hk9 hat9; have H9 := Lib.hid (And.intro hown9 (And.intro hk9 hat9)); clear hown9 hk9 hat9)
          go_roundw
          case rel =>
            have hsz9 := H9.out.2.1.size
            have hob : ∀ k, (Value.slice oa (rangeL low high (ks.take j)).length oc).ownBlock = some k → w'.heap.size + 1 ≤ k := fun k h => (World.ownsRow.lt HR.out.1 k h).1
            refine ⟨j + 1, _, by omega, by go_num, rfl, by rw [HN9.out, if_pos (by simp), ← hL9.out]; exact H9.out.1, fun k h => ?_, ?_, by omega, fun k h1 h2 => ?_⟩
            · rcases H9.out.2.2 with h9 | h9
              · exact HR.out.2.1 k (h9.symm.trans h)
              · rw [h9] at h
                simp only [Option.some.injEq] at h
                omega
            · refine ⟨H9.out.2.1.os.trans HR.out.2.2.1.os, H9.out.2.1.tape.trans HR.out.2.2.1.tape, H9.out.2.1.output.trans HR.out.2.2.1.output, by have := HR.out.2.2.1.size; omega, fun k hk => ?_⟩
              have h3 := HR.out.2.2.1.size
              rw [H9.out.2.1.block k (by omega) (fun e => by have := hob k e; omega)]
              exact HR.out.2.2.1.block k hk
            · rw [H9.out.2.1.block k (by omega) (fun e => by have := HR.out.2.1 k e; omega)]
              exact HR.out.2.2.2 k h1 h2
          case measure => simp [intOf]; omega
      · obtain rfl : j = ks.length := by omega
        have hfull : ks.take ks.length = ks := List.take_length
        have HF := Lib.hid hfull
        have hjl : ¬ ((ks.length : Int) < (ks.length : Int)) := by omega
        clear hfull
        go_wp2_with fail
        go_ret
        have h := IntsOwn.lower (lo' := w'.heap.size) HR.out.1 (by omega)
        simp only [List.take_length] at h
        exact ⟨_, rfl, by rw [HZ.out]; exact h, HR.out.2.2.1⟩
end Go.Proofs.Ytjnkdbgebkajoaa
