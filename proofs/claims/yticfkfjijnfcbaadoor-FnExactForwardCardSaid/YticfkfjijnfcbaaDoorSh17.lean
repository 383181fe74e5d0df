/- The contract of markTree over a copy that toTree made. -/
import Derived.Test.YticfkfjijnfcbaaDoorProg
import Derived.Test.YticfkfjijnfcbaaDoorSh0
import Derived.Test.YticfkfjijnfcbaaDoorSh1

/- The contracts of the functions that mark a result and look whether the marks held. -/
namespace Go.Proofs.YticfkfjijnfcbaaDoor
open Go.RowKit

/-- n numbers from k on. -/
def marks (k : Int) (n : Nat) : List Int := (List.range n).map (fun (i : Nat) => k + (i : Int))
theorem marks_length (k : Int) (n : Nat) : (marks k n).length = n := by simp [marks]
theorem marks_get (k : Int) (n i : Nat) (h : i < n) : (marks k n).getD i 0 = k + i := by simp [marks, h]

/-- Marking a row of ints: block g. -/
theorem markRow_c (g n cap : Nat) (k : Int) (c : Array Value) (w : World) (hc : w.heap[g]? = some (.cells c 3 (0, 0))) (hn : n ≤ c.size) (hcap : n ≤ 1048576) (hi : ∀ i, i < n → ∃ x : Int, c[i]? = some (.int .i64 x)) (h0 : 0 ≤ k) (h1 : k ≤ 1099511627776) :
    Calls Tryd.prog 63 #[.slice (some ⟨g, 0, none⟩) n cap, .int .i64 k] w fun e w' => e = .returned (.int .i64 (k + n)) ∧
      ∃ c' : Array Value, w'.heap[g]? = some (.cells c' 3 (0, 0)) ∧ c'.size = c.size ∧ (∀ i, i < n → c'[i]? = some (.int .i64 (k + (i : Int)))) ∧ w.grownBy w' (some g) := by
  have HC := Lib.hid hc
  have HI := Lib.hid hi
  clear hc hi
  go_enter Tryd.func63, Tryd.ntmps63
  go_wp2_with fail
  go_loopw [1, 5] (fun l i wr => ∃ (j : Nat) (c' : Array Value), j ≤ n ∧ i = .int .i64 j ∧ l = .int .i64 (k + j) ∧ wr.heap[g]? = some (.cells c' 3 (0, 0)) ∧ c'.size = c.size ∧ (∀ i, i < j → c'[i]? = some (.int .i64 (k + (i : Int)))) ∧ (∀ i, i < n → ∃ x : Int, c'[i]? = some (.int .i64 x)) ∧ w.grownBy wr (some g)) (fun _ i _ => n - (intOf i).toNat)
  case atStart => exact ⟨0, c, Nat.zero_le _, rfl, by simp, HC.out, rfl, fun i h => by omega, HI.out, World.grownBy.refl _ _⟩
  case round =>
    obtain ⟨j, c', hj, rfl, rfl, hblk, hsz, hdone, hints, hgr⟩ := hrel
    by_cases hlt : j < n
    · obtain ⟨x, hx⟩ := hints j hlt
      have ha : wr.cell? ⟨g, j, none⟩ = some (.int .i64 x) := by simp [World.cell?, hblk, hx]
      have hf : wr.frozen? ⟨g, j, none⟩ = false := by simp [World.frozen?, hblk]
      have hgl : g < wr.heap.size := (Array.getElem?_eq_some_iff.1 hblk).1
      have HD := Lib.hid (And.intro hblk (And.intro hsz (And.intro hdone (And.intro hints hgr))))
      clear hblk hsz hdone hints hgr hx
      go_wp2_with fail
      go_roundw
      case rel =>
        obtain ⟨hblk, hsz, hdone, hints, hgr⟩ := HD.out
        refine ⟨j + 1, c'.setIfInBounds j (.int .i64 (k + j)), by omega, by go_num, by go_num, set_blk _ hblk, by simpa using hsz, fun i hi => ?_, fun i hi => ?_, ?_⟩
        · rw [Array.getElem?_setIfInBounds]
          by_cases e : j = i
          · subst e; rw [if_pos rfl, if_pos (by omega)]
          · rw [if_neg e]; exact hdone i (by omega)
        · rw [Array.getElem?_setIfInBounds]
          by_cases e : j = i
          · subst e; exact ⟨_, by rw [if_pos rfl, if_pos (by omega)]⟩
          · rw [if_neg e]; exact hints i hi
        · refine ⟨hgr.os, hgr.tape, hgr.output, by simpa using hgr.size, fun b hb hne => ?_⟩
          rw [set_other _ _ _ _ _ (fun e => hne (by rw [e]))]
          exact hgr.block b hb hne
      case measure => simp [intOf]; omega
    · obtain rfl : j = n := by omega
      have HD := Lib.hid (And.intro hblk (And.intro hsz (And.intro hdone hgr)))
      clear hblk hsz hdone hints hgr
      go_wp2_with fail
      go_ret
      obtain ⟨hblk, hsz, hdone, hgr⟩ := HD.out
      exact ⟨rfl, c', hblk, hsz, hdone, hgr⟩

theorem markNone_c (a : Option Addr) (cap : Nat) (k : Int) (w : World) :
    Calls Tryd.prog 63 #[.slice a 0 cap, .int .i64 k] w fun e w' => e = .returned (.int .i64 k) ∧ w = w' := by
  go_enter Tryd.func63, Tryd.ntmps63
  go_wp2_with fail
  refine wp_loop_rounds 1 ?_
  rw [rounds_succ]
  go_wp2_with fail
  go_ret
  exact ⟨rfl, rfl⟩

/-- Marking a slice of ints of the call's own. -/
theorem markOwn_c {w : World} {lo : Nat} {v : Value} {ks : List Int} (h : IntsOwn w lo v ks) (hl : lo ≤ w.heap.size) (hn : ks.length ≤ 1048576) (k : Int) (h0 : 0 ≤ k) (h1 : k ≤ 1099511627776) :
    Calls Tryd.prog 63 #[v, .int .i64 k] w fun e w' => e = .returned (.int .i64 (k + ks.length)) ∧ IntsOwn w' lo v (marks k ks.length) ∧ Below lo w w' := by
  obtain ⟨hlen, ⟨hv, hz⟩ | ⟨g, cap, cur, hv, hb, hg, hnc, hm, hs, ht⟩⟩ := h
  · subst hv
    rw [hz]
    refine (markNone_c none 0 k w).mono ?_
    rintro e w' ⟨rfl, rfl⟩
    exact ⟨by simp, World.ownsRow_nil w lo _ _, Below.refl _ _⟩
  · subst hv
    rw [Nat.mul_one] at hs ht
    refine (markRow_c g ks.length cap k cur w hg (by omega) hn (fun i hi => ⟨ks[i], ?_⟩) h0 h1).mono ?_
    · have : (cur.toList.take ks.length)[i]? = some (.int .i64 ks[i]) := by rw [ht]; simp [hi]
      rw [List.getElem?_take_of_lt hi] at this
      simpa using this
    · rintro e w' ⟨rfl, c', hg', hsz, hd, hgr⟩
      refine ⟨rfl, ⟨by simp [marks], .inr ⟨g, cap, c', by rw [marks_length], hb, hg', by rw [marks_length]; exact hnc, hm, by omega, ?_⟩⟩, (Below.refl lo w).grown hgr hl (fun b e => by cases e; exact hb)⟩
      apply List.ext_getElem?
      intro i
      rw [marks_length, Nat.mul_one]
      by_cases hi : i < ks.length
      · rw [List.getElem?_take_of_lt hi]
        have := hd i hi
        simp [marks, hi, this]
      · rw [List.getElem?_eq_none (by simp; omega), List.getElem?_eq_none (by simp [marks]; omega)]

/-- Looking whether the marks held. -/
theorem held_c (n : Nat) (v : Value) (k : Int) (w : World) (h : IntsAt w v (marks k n)) (hn : n ≤ 1048576) (h0 : 0 ≤ k) (h1 : k ≤ 1099511627776) :
    Calls Tryd.prog 65 #[v, .int .i64 k] w fun e w' => e = .returned (.int .i64 (k + n)) ∧ w = w' := by
  obtain ⟨a, cap, rfl, _, hat⟩ := h
  rw [marks_length] at hat ⊢
  have HAT := Lib.hid hat
  clear hat
  go_enter Tryd.func65, Tryd.ntmps65
  go_wp2_with fail
  go_loop [1, 5] (fun l i => ∃ (j : Nat), j ≤ n ∧ i = .int .i64 j ∧ l = .int .i64 (k + j)) (fun _ i => n - (intOf i).toNat)
  case atStart => exact ⟨0, Nat.zero_le _, rfl, by simp⟩
  case round =>
    obtain ⟨j, hj, rfl, rfl⟩ := hrel
    by_cases hlt : j < n
    · rcases HAT.out with h | ⟨b, o, rfl, hat⟩
      · have := congrArg List.length h; rw [marks_length] at this; simp at this; omega
      have ha := hat j hlt
      rw [marks_get k n j hlt] at ha
      have hne : ((k + (j : Int)) != k + (j : Int)) = false := by simp
      clear hat
      go_wp2_with fail
      go_round
      case rel => exact ⟨j + 1, by omega, by go_num, by go_num⟩
      case measure => simp [intOf]; omega
    · obtain rfl : j = n := by omega
      go_wp2_with fail
      go_ret
      exact ⟨rfl, rfl⟩

end Go.Proofs.YticfkfjijnfcbaaDoor

/- The contract of markTree over a copy that toTree made. -/
namespace Go.Proofs.YticfkfjijnfcbaaDoor
open Go.RowKit

/-- Rows of ints may have been written; all other rows are as they were. -/
structure Touch (w w' : World) : Prop where
  other : ∀ (b : Nat) (c : Array Value) (t : TypeId), w.heap[b]? = some (.cells c t (0, 0)) → t ≠ 3 → w'.heap[b]? = w.heap[b]?
  ints : ∀ (b : Nat) (c : Array Value), w.heap[b]? = some (.cells c 3 (0, 0)) → (∀ i, i < c.size → ∃ x : Int, c[i]? = some (.int .i64 x)) →
    ∃ c' : Array Value, w'.heap[b]? = some (.cells c' 3 (0, 0)) ∧ c'.size = c.size ∧ (∀ i, i < c'.size → ∃ x : Int, c'[i]? = some (.int .i64 x))

theorem Touch.refl (w : World) : Touch w w := ⟨fun _ _ _ _ _ => rfl, fun _ c h hi => ⟨c, h, rfl, hi⟩⟩
theorem Touch.trans {a b c : World} (h : Touch a b) (k : Touch b c) : Touch a c :=
  ⟨fun x cc t hx ht => by
      have h1 := h.other x cc t hx ht
      exact (k.other x cc t (h1.trans hx) ht).trans h1,
    fun x cc hx hi => by
      obtain ⟨c1, h1, h2, h3⟩ := h.ints x cc hx hi
      obtain ⟨c2, k1, k2, k3⟩ := k.ints x c1 h1 h3
      exact ⟨c2, k1, k2.trans h2, k3⟩⟩
theorem Touch.of_below {w w' : World} {C : Nat} (h : Below C w w') (hC : w.heap.size ≤ C) : Touch w w' :=
  have hb : ∀ b o, w.heap[b]? = some o → w'.heap[b]? = w.heap[b]? := fun b o ho => h.block b (by have := (Array.getElem?_eq_some_iff.1 ho).1; omega)
  ⟨fun b c t hx _ => hb b _ hx, fun b c hx hi => ⟨c, (hb b _ hx).trans hx, rfl, hi⟩⟩

/-- Nothing that lay outside the blocks from lo to hi has turned. -/
structure Span (lo hi : Nat) (w w' : World) : Prop where
  os : w'.os = w.os
  tape : w'.tape = w.tape
  output : w'.output = w.output
  size : w.heap.size ≤ w'.heap.size
  block : ∀ k, k < w.heap.size → (k < lo ∨ hi ≤ k) → w'.heap[k]? = w.heap[k]?

theorem Span.refl (lo hi : Nat) (w : World) : Span lo hi w w := ⟨rfl, rfl, rfl, Nat.le_refl _, fun _ _ _ => rfl⟩
theorem Span.trans {lo hi : Nat} {a b c : World} (h : Span lo hi a b) (k : Span lo hi b c) : Span lo hi a c :=
  ⟨k.os.trans h.os, k.tape.trans h.tape, k.output.trans h.output, Nat.le_trans h.size k.size, fun i h1 h2 => (k.block i (Nat.lt_of_lt_of_le h1 h.size) h2).trans (h.block i h1 h2)⟩
theorem Span.of_below {lo hi C : Nat} {a b : World} (h : Below C a b) (hC : a.heap.size ≤ C) : Span lo hi a b := ⟨h.os, h.tape, h.output, h.size, fun k h1 _ => h.block k (by omega)⟩
theorem Span.below {lo hi : Nat} {a b : World} (h : Span lo hi a b) (hl : lo ≤ a.heap.size) : Below lo a b := ⟨h.os, h.tape, h.output, h.size, fun k hk => h.block k (by omega) (.inl hk)⟩

/-- A slice of ints beyond the span lies as it lay. -/
theorem IntsOwn.span {w w' : World} {l lo hi : Nat} {v : Value} {ks : List Int} (h : IntsOwn w l v ks) (hb : Span lo hi w w') (hl : hi ≤ l) : IntsOwn w' l v ks := by
  obtain ⟨h1, h2 | ⟨g, cap, cur, hv, hbb, hg, hr⟩⟩ := h
  · exact ⟨h1, .inl h2⟩
  · exact ⟨h1, .inr ⟨g, cap, cur, hv, hbb, (hb.block g (Array.getElem?_eq_some_iff.1 hg).1 (.inr (by omega))).trans hg, hr⟩⟩

/-- A tree in rows of its own, its keys any ints. -/
inductive TreeMem (w : World) (lo hi : Nat) : Value → Value → Tr → Prop where
  | mk (ks : List Int) (cs : List Tr) (g h : Nat) (kvs cvs : Nat → Value) (f : Nat → Int) (hg : lo ≤ g) (hgh : g < hi) (hh : lo ≤ h)
      (hk : w.rowIs g 3 ks.length (fun i => .int .i64 (f i)))
      (hc : w.rowIs h 33 (cs.length * 2) (fun j => if j % 2 = 0 then kvs (j / 2) else cvs (j / 2)))
      (hkids : ∀ i (h : i < cs.length), TreeMem w lo hi (kvs i) (cvs i) cs[i]) :
      TreeMem w lo hi (.slice (some ⟨g, 0, none⟩) ks.length ks.length) (.slice (some ⟨h, 0, none⟩) cs.length cs.length) (.mk ks cs)

theorem TreeNew.mem {w : World} {lo : Nat} {kv cv : Value} {t : Tr} (h : TreeNew w lo kv cv t) : TreeMem w lo w.heap.size kv cv t := by
  induction h with
  | mk ks cs g h kvs cvs hg hh hk hc hkids ih => exact .mk ks cs g h kvs cvs (fun i => ks.getD i 0) hg hk.lt hh hk hc ih

theorem rowInts {w : World} {g n : Nat} {f : Nat → Int} (h : w.rowIs g 3 n (fun i => .int .i64 (f i))) {w' : World} (ht : Touch w w') : ∃ f' : Nat → Int, w'.rowIs g 3 n (fun i => .int .i64 (f' i)) := by
  obtain ⟨c, hb, hn, hc⟩ := h
  obtain ⟨c', h1, h2, h3⟩ := ht.ints g c hb (fun i hi => ⟨f i, hc i (by omega)⟩)
  refine ⟨fun i => if h : i < c'.size then (h3 i h).choose else 0, c', h1, by omega, fun i hi => ?_⟩
  have hlt : i < c'.size := by omega
  simp only [dif_pos hlt]
  exact (h3 i hlt).choose_spec

theorem TreeMem.touch {w w' : World} {lo hi : Nat} {kv cv : Value} {t : Tr} (h : TreeMem w lo hi kv cv t) (ht : Touch w w') : TreeMem w' lo hi kv cv t := by
  induction h with
  | mk ks cs g h kvs cvs f hg hgh hh hk hc hkids ih =>
    obtain ⟨f', hf'⟩ := rowInts hk ht
    exact .mk ks cs g h kvs cvs f' hg hgh hh hf' (hc.of_block (by obtain ⟨c, hb, _⟩ := hc; exact ht.other h c _ hb (by decide))) ih

theorem TreeMem.slices {w : World} {lo hi : Nat} {kv cv : Value} {t : Tr} (h : TreeMem w lo hi kv cv t) : ∃ (ks : List Int) (cs : List Tr) (g h : Nat) (f : Nat → Int), t = .mk ks cs ∧ kv = .slice (some ⟨g, 0, none⟩) ks.length ks.length ∧ cv = .slice (some ⟨h, 0, none⟩) cs.length cs.length ∧ lo ≤ g ∧ g < hi ∧
    w.rowIs g 3 ks.length (fun i => .int .i64 (f i)) := by
  cases h with
  | mk ks cs g h kvs cvs f hg hgh hh hk hc hkids => exact ⟨ks, cs, g, h, f, rfl, rfl, rfl, hg, hgh, hk⟩

/-- Marking one row of a copy. -/
theorem markKeys_c {w : World} {lo hi g n : Nat} {f : Nat → Int} (h : w.rowIs g 3 n (fun i => .int .i64 (f i))) (hlo : lo ≤ g) (hgh : g < hi) (hn : n ≤ 1048576) (k : Int) (h0 : 0 ≤ k) (h1 : k ≤ 1099511627776) :
    Calls Tryd.prog 63 #[.slice (some ⟨g, 0, none⟩) n n, .int .i64 k] w fun e w' => e = .returned (.int .i64 (k + n)) ∧ Touch w w' ∧ Span lo hi w w' := by
  obtain ⟨c, hb, hs, hc⟩ := h
  refine (markRow_c g n n k c w hb (by omega) hn (fun i hi => ⟨f i, hc i hi⟩) h0 h1).mono ?_
  rintro e w' ⟨rfl, c', hg', hsz, hd, hgr⟩
  refine ⟨rfl, ⟨fun b cc t hx ht => ?_, fun b cc hx hi => ?_⟩, ⟨hgr.os, hgr.tape, hgr.output, hgr.size, fun b h1 h2 => hgr.block b h1 (fun e => by cases e; omega)⟩⟩
  · refine hgr.block b (Array.getElem?_eq_some_iff.1 hx).1 (fun e => ?_)
    cases e
    rw [hx] at hb
    cases hb
    exact ht rfl
  · by_cases e : b = g
    · subst e
      rw [hb] at hx
      cases hx
      exact ⟨c', hg', hsz, fun i hi => ⟨_, hd i (by omega)⟩⟩
    · exact ⟨cc, (hgr.block b (Array.getElem?_eq_some_iff.1 hx).1 (fun h => e (by cases h; rfl))).trans hx, rfl, hi⟩

/-- The weight of the kids. -/
def Tr.kidsW : Tr → Nat
  | .mk _ c => Tr.weights c

set_option maxHeartbeats 1000000 in
theorem markTreeS_c {w0 : World} {lo hi : Nat} {kv cv : Value} {t : Tr} (ht : TreeMem w0 lo hi kv cv t) (hw : t.weight ≤ 1048576) :
    ∀ w (k : Int), Touch w0 w → 0 ≤ k → k + t.kidsW ≤ 1099511627776 →
    Calls Tryd.prog 64 #[cv, .int .i64 k] w fun e w' => ∃ m : Int, e = .returned (.int .i64 m) ∧ k ≤ m ∧ m ≤ k + t.kidsW ∧ Touch w w' ∧ Span lo hi w w' := by
  induction ht with
  | mk ks cs g h kvs cvs f hg hgh hh hk hc hkids ih =>
    intro w k htw h0 h1
    simp only [Tr.weight] at hw
    simp only [Tr.kidsW] at h1 ⊢
    have hcl := Tr.length_le_weights cs
    have HC := Lib.hid (hc.of_block (by obtain ⟨c, hb, _⟩ := hc; exact htw.other h c _ hb (by decide)))
    have IH := Lib.hid ih
    have HKI := Lib.hid hkids
    clear hk hc ih hkids
    go_enter Tryd.func64, Tryd.ntmps64
    go_wp2_with fail
    go_loopw [1, 5] (fun l i wr => ∃ (j : Nat) (m : Int), j ≤ cs.length ∧ i = .int .i64 j ∧ l = .int .i64 m ∧ k ≤ m ∧ m ≤ k + Tr.weights (cs.take j) ∧ Touch w wr ∧ Span lo hi w wr) (fun _ i _ => cs.length - (intOf i).toNat)
    case atStart => exact ⟨0, k, Nat.zero_le _, rfl, rfl, Int.le_refl _, by simp [Tr.weights], Touch.refl _, Span.refl _ _ _⟩
    case round =>
      obtain ⟨j, m, hj, rfl, rfl, hm1, hm2, htr, hbel⟩ := hrel
      by_cases hlt : j < cs.length
      · have hrow := HC.out.of_block (w' := wr) (by obtain ⟨c, hb, _⟩ := HC.out; exact htr.other h c _ hb (by decide))
        have ha := hrow.cell (i := j * 2) (by omega)
        have hcv := hrow.cell (i := j * 2 + 1) (by omega)
        rw [if_pos (by omega), show j * 2 / 2 = j from by omega] at ha
        rw [if_neg (by omega), show (j * 2 + 1) / 2 = j from by omega] at hcv
        have hmem := (HKI.out j hlt).touch (htw.trans htr)
        obtain ⟨ks1, cs1, g1, h1', f1, et, e1, e2, hg1, hgh1, hr1⟩ := hmem.slices
        have hwt := Tr.weight_get_le cs j hlt
        have hts := Tr.weights_take_succ cs j hlt
        have htl := Tr.weights_take_ge cs (j + 1)
        have hwj : cs[j].weight = ks1.length + Tr.weights cs1 := by rw [et]; rfl
        rw [e1] at ha
        rw [e2] at hcv
        have HR := Lib.hid hrow
        have HR1 := Lib.hid hr1
        have HE := Lib.hid (And.intro et (And.intro e1 e2))
        have HT := Lib.hid (And.intro hts hwj)
        clear hrow hmem hr1 et e1 e2
        have hb1 : m ≤ 1099511627776 := by omega
        have hkw : cs[j].kidsW = Tr.weights cs1 := by rw [HE.out.1]; rfl
        have hb2 : (m + ks1.length) + cs[j].kidsW ≤ 1099511627776 := by omega
        have HKW := Lib.hid hkw
        have HB2 := Lib.hid hb2
        clear hts hwj hb2 hkw
        go_wp2_with fail
        refine (markKeys_c HR1.out hg1 hgh1 (by have := HT.out.2; omega) m (by omega) hb1).mono ?_
        rintro e w1 ⟨rfl, ht1, hbb1⟩
        have hrow1 := HR.out.of_block (w' := w1) (by obtain ⟨c, hb, _⟩ := HR.out; exact ht1.other h c _ hb (by decide))
        have hcv1 := hrow1.cell (i := j * 2 + 1) (by omega)
        rw [if_neg (by omega), show (j * 2 + 1) / 2 = j from by omega, HE.out.2.2] at hcv1
        have hI := IH.out j hlt (by omega) w1 (m + ks1.length) (htw.trans (htr.trans ht1)) (by omega) HB2.out
        rw [HE.out.2.2] at hI
        have HI := Lib.hid hI
        have HX := Lib.hid (And.intro ht1 hbb1)
        clear hrow1 hI ht1 hbb1 ha hcv
        go_wp2_with fail
        refine HI.out.mono ?_
        rintro e w2 ⟨m2, rfl, q1, q2, ht2, hbb2⟩
        have HY := Lib.hid (And.intro ht2 hbb2)
        clear ht2 hbb2
        go_wp2_with fail
        go_roundw
        case rel =>
          have h3 := HT.out.1
          have h4 := HT.out.2
          have h5 := HKW.out
          refine ⟨j + 1, m2, by omega, by go_num, rfl, by omega, ?_, htr.trans (HX.out.1.trans HY.out.1), hbel.trans (HX.out.2.trans HY.out.2)⟩
          omega
        case measure => simp [intOf]; omega
      · obtain rfl : j = cs.length := by omega
        rw [List.take_length] at hm2
        have HX := Lib.hid (And.intro htr hbel)
        clear htr hbel
        go_wp2_with fail
        go_ret
        exact ⟨m, rfl, hm1, by omega, HX.out.1, HX.out.2⟩

set_option maxHeartbeats 1000000 in
theorem markTree_c {w : World} {lo hi : Nat} {kv cv : Value} {t : Tr} (ht : TreeMem w lo hi kv cv t) (hw : t.weight ≤ 1048576) (hhi : hi ≤ w.heap.size) (k : Int) (h0 : 0 ≤ k) (h1 : k ≤ 1048576) :
    Calls Tryd.prog 21 #[.agg #[kv, cv], .int .i64 k] w fun e w' => ∃ m : Int, e = .returned (.int .i64 m) ∧ k ≤ m ∧ Span lo hi w w' := by
  obtain ⟨ks, cs, g, h, f, rfl, rfl, rfl, hg, hgh, hr⟩ := ht.slices
  simp only [Tr.weight] at hw
  obtain ⟨W1, hW1⟩ : ∃ W1, W1 = w.alloc (.cells #[.slice (some ⟨g, 0, none⟩) ks.length ks.length, .slice (some ⟨h, 0, none⟩) cs.length cs.length] 33) := ⟨_, rfl⟩
  have hs1 : W1.heap.size = w.heap.size + 1 := by rw [hW1]; simp
  have hb1 : Below w.heap.size w W1 := by rw [hW1]; exact (Below.refl _ _).alloc (Nat.le_refl _) _
  have kb : W1.heap[w.heap.size]? = some (.cells #[.slice (some ⟨g, 0, none⟩) ks.length ks.length, .slice (some ⟨h, 0, none⟩) cs.length cs.length] 33 (0, 0)) := by rw [hW1, new_blk]
  have ht1 : Touch w W1 := Touch.of_below hb1 (Nat.le_refl _)
  have hr1 : W1.rowIs g 3 ks.length (fun i => .int .i64 (f i)) := hr.of_block (hb1.block g hr.lt)
  have HW1 := Lib.hid hW1
  have HX := Lib.hid (And.intro hs1 (And.intro hb1 (And.intro kb (And.intro ht1 hr1))))
  have HT := Lib.hid ht
  clear hW1 hs1 hb1 kb ht1 hr1 hr ht
  go_enter Tryd.func21, Tryd.ntmps21
  go_wp2_with fail
  rw [← HW1.out]
  have hs1 := HX.out.1
  refine (markKeys_c HX.out.2.2.2.2 hg hgh (by omega) k h0 (by omega)).mono ?_
  rintro e w1 ⟨rfl, ht1, hbb1⟩
  have hblk := (ht1.other w.heap.size _ _ HX.out.2.2.1 (by decide)).trans HX.out.2.2.1
  obtain ⟨x1, x2, x3, x4⟩ := box2 hblk
  have hsz := hbb1.size
  have HY := Lib.hid (And.intro ht1 (And.intro hbb1 hblk))
  clear hs1 ht1 hbb1 hblk
  go_wp2_with fail
  have hs1 := HX.out.1
  refine (markTreeS_c HT.out (by simp only [Tr.weight]; omega) w1 (k + ks.length) (HX.out.2.2.2.1.trans HY.out.1) (by omega) (by simp only [Tr.kidsW]; omega)).mono ?_
  rintro e w2 ⟨m, rfl, q1, q2, ht2, hbb2⟩
  have HZ := Lib.hid hbb2
  clear hbb2 ht2 hs1
  go_wp2_with fail
  go_ret
  exact ⟨m, rfl, by omega, (Span.of_below HX.out.2.1 (Nat.le_refl _)).trans (HY.out.2.1.trans HZ.out)⟩

end Go.Proofs.YticfkfjijnfcbaaDoor
