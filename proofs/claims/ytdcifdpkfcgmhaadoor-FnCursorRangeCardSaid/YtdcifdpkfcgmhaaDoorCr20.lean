/- A slice of ints that is cut out of a row of the call's own. -/
import Derived.Test.YtdcifdpkfcgmhaaDoorCr0
import Derived.Test.YtdcifdpkfcgmhaaDoorCrS2
import Derived.Test.YtdcifdpkfcgmhaaDoorCr5
import Derived.Test.YtdcifdpkfcgmhaaDoorCr13
import Derived.Test.YtdcifdpkfcgmhaaDoorCr18
import Derived.Test.YtdcifdpkfcgmhaaDoorProg
import Derived.Test.YtdcifdpkfcgmhaaDoorCrS1

/- Finding: plain data: the keys of a range. -/
namespace Go.Proofs.YtdcifdpkfcgmhaaDoor
open Go.RowKit

/-- The keys from a number to a number. -/
def rangeL (low high : Int) (keys : List Int) : List Int := keys.filter (fun k => inB k low high)
theorem rangeL_snoc (low high : Int) (a : List Int) (x : Int) : rangeL low high (a ++ [x]) = if inB x low high = true then rangeL low high a ++ [x] else rangeL low high a := by
  unfold rangeL
  rw [List.filter_append]
  cases h : inB x low high with
  | true => simp [h]
  | false => simp [h]
theorem rangeL_len (low high : Int) (a : List Int) : (rangeL low high a).length ≤ a.length := List.length_filter_le _ _
theorem rangeL_none {low high : Int} (h : ¬ low ≤ high) (keys : List Int) : rangeL low high keys = [] := by
  unfold rangeL
  rw [List.filter_eq_nil_iff]
  intro x _
  simp only [inB, Bool.and_eq_true, decide_eq_true_eq]
  omega
theorem filter_all {p : Int → Bool} : ∀ {l : List Int}, (∀ x ∈ l, p x = true) → l.filter p = l
  | [], _ => rfl
  | x :: r, h => by rw [List.filter_cons, if_pos (h x (by simp)), filter_all (fun y hy => h y (by simp [hy]))]

/-- In a list that ascends, they are what lies between two places. -/
theorem rangeL_cut {low high : Int} (hlh : low ≤ high) {keys : List Int} (hs : keys.Pairwise (· < ·)) : rangeL low high keys = (keys.drop (place low keys)).take (place (high + 1) keys - place low keys) := by
  induction keys with
  | nil => rfl
  | cons x r ih =>
    have hr := List.pairwise_cons.1 hs
    have ih := ih hr.2
    unfold rangeL at ih ⊢
    rw [List.filter_cons]
    simp only [place]
    by_cases h1 : x < low
    · have hin : inB x low high = false := inB_false (by omega)
      rw [hin, if_pos h1, if_pos (show x < high + 1 by omega)]
      simp only [Bool.false_eq_true, if_false, List.drop_succ_cons]
      rw [ih]
      congr 1; omega
    · rw [if_neg h1]
      have hp0 : place low r = 0 := by
        cases r with
        | nil => rfl
        | cons y r' =>
          have := hr.1 y (by simp)
          simp only [place]; rw [if_neg (by omega)]
      rw [hp0] at ih
      simp only [List.drop_zero, Nat.sub_zero] at ih ⊢
      by_cases h2 : x < high + 1
      · have hin : inB x low high = true := inB_true (by omega) (by omega)
        rw [hin, if_pos h2, if_pos rfl, ih]; rfl
      · have hin : inB x low high = false := inB_false (by omega)
        have hp1 : place (high + 1) r = 0 := by
          cases r with
          | nil => rfl
          | cons y r' =>
            have := hr.1 y (by simp)
            simp only [place]; rw [if_neg (by omega)]
        rw [hin, if_neg h2, ih, hp1]; rfl

def Tr.rangeB (low high : Int) (t : Tr) : List Int := if t.someB then rangeL low high t.keys else []
theorem rangeB_is (low high : Int) (t : Tr) : (t.someB = true → t.rangeB low high = rangeL low high t.keys) ∧ (t.someB = false → t.rangeB low high = []) := by
  unfold Tr.rangeB; constructor <;> intro h <;> simp [h]
theorem rangeB_len (low high : Int) (t : Tr) : (t.rangeB low high).length ≤ t.weight := by
  have h1 := Tr.keys_length_le t
  have h2 := rangeL_len low high t.keys
  unfold Tr.rangeB
  split
  · omega
  · simp
end Go.Proofs.YtdcifdpkfcgmhaaDoor

/- The contracts of the functions that mark a result and look whether the marks held. -/
namespace Go.Proofs.YtdcifdpkfcgmhaaDoor
open Go.RowKit

/-- n numbers from k on. -/
def marks (k : Int) (n : Nat) : List Int := (List.range n).map (fun (i : Nat) => k + (i : Int))
theorem marks_length (k : Int) (n : Nat) : (marks k n).length = n := by simp [marks]
theorem marks_get (k : Int) (n i : Nat) (h : i < n) : (marks k n).getD i 0 = k + i := by simp [marks, h]

/-- Marking a row of ints: block g. -/
theorem markRow_c (g n cap : Nat) (k : Int) (c : Array Value) (w : World) (hc : w.heap[g]? = some (.cells c 3 (0, 0))) (hn : n ≤ c.size) (hcap : n ≤ 1048576) (hi : ∀ i, i < n → ∃ x : Int, c[i]? = some (.int .i64 x)) (h0 : 0 ≤ k) (h1 : k ≤ 1099511627776) :
    Calls Tryd.prog 63 #[.slice (some ⟨g, 0, none⟩) n cap, .int .i64 k] w fun e w' => e = .returned (.int .i64 (k + n)) ∧
      ∃ c' : Array Value, w'.heap[g]? = some (.cells c' 3 (0, 0)) ∧ c'.size = c.size ∧ (∀ i, i < n → c'[i]? = some (.int .i64 (k + (i : Int)))) ∧ w.grownBy w' (some g) := by
  have HC := Lib.hid hc
  have HI := Lib.hid hi
  clear hc hi
  go_enter Tryd.func63, Tryd.ntmps63
  go_wp2_with fail
  go_loopw [1, 5] (fun l i wr => ∃ (j : Nat) (c' : Array Value), j ≤ n ∧ i = .int .i64 j ∧ l = .int .i64 (k + j) ∧ wr.heap[g]? = some (.cells c' 3 (0, 0)) ∧ c'.size = c.size ∧ (∀ i, i < j → c'[i]? = some (.int .i64 (k + (i : Int)))) ∧ (∀ i, i < n → ∃ x : Int, c'[i]? = some (.int .i64 x)) ∧ w.grownBy wr (some g)) (fun _ i _ => n - (intOf i).toNat)
  case atStart => exact ⟨0, c, Nat.zero_le _, rfl, by simp, HC.out, rfl, fun i h => by omega, HI.out, World.grownBy.refl _ _⟩
  case round =>
    obtain ⟨j, c', hj, rfl, rfl, hblk, hsz, hdone, hints, hgr⟩ := hrel
    by_cases hlt : j < n
    · obtain ⟨x, hx⟩ := hints j hlt
      have ha : wr.cell? ⟨g, j, none⟩ = some (.int .i64 x) := by simp [World.cell?, hblk, hx]
      have hf : wr.frozen? ⟨g, j, none⟩ = false := by simp [World.frozen?, hblk]
      have hgl : g < wr.heap.size := (Array.getElem?_eq_some_iff.1 hblk).1
      have HD := Lib.hid (And.intro hblk (And.intro hsz (And.intro hdone (And.intro hints hgr))))
      clear hblk hsz hdone hints hgr hx
      go_wp2_with fail
      go_roundw
      case rel =>
        obtain ⟨hblk, hsz, hdone, hints, hgr⟩ := HD.out
        refine ⟨j + 1, c'.setIfInBounds j (.int .i64 (k + j)), by omega, by go_num, by go_num, set_blk _ hblk, by simpa using hsz, fun i hi => ?_, fun i hi => ?_, ?_⟩
        · rw [Array.getElem?_setIfInBounds]
          by_cases e : j = i
          · subst e; rw [if_pos rfl, if_pos (by omega)]
          · rw [if_neg e]; exact hdone i (by omega)
        · rw [Array.getElem?_setIfInBounds]
          by_cases e : j = i
          · subst e; exact ⟨_, by rw [if_pos rfl, if_pos (by omega)]⟩
          · rw [if_neg e]; exact hints i hi
        · refine ⟨hgr.os, hgr.tape, hgr.output, by simpa using hgr.size, fun b hb hne => ?_⟩
          rw [set_other _ _ _ _ _ (fun e => hne (by rw [e]))]
          exact hgr.block b hb hne
      case measure => simp [intOf]; omega
    · obtain rfl : j = n := by omega
      have HD := Lib.hid (And.intro hblk (And.intro hsz (And.intro hdone hgr)))
      clear hblk hsz hdone hints hgr
      go_wp2_with fail
      go_ret
      obtain ⟨hblk, hsz, hdone, hgr⟩ := HD.out
      exact ⟨rfl, c', hblk, hsz, hdone, hgr⟩

theorem markNone_c (a : Option Addr) (cap : Nat) (k : Int) (w : World) :
    Calls Tryd.prog 63 #[.slice a 0 cap, .int .i64 k] w fun e w' => e = .returned (.int .i64 k) ∧ w = w' := by
  go_enter Tryd.func63, Tryd.ntmps63
  go_wp2_with fail
  refine wp_loop_rounds 1 ?_
  rw [rounds_succ]
  go_wp2_with fail
  go_ret
  exact ⟨rfl, rfl⟩

/-- Marking a slice of ints of the call's own. -/
theorem markOwn_c {w : World} {lo : Nat} {v : Value} {ks : List Int} (h : IntsOwn w lo v ks) (hl : lo ≤ w.heap.size) (hn : ks.length ≤ 1048576) (k : Int) (h0 : 0 ≤ k) (h1 : k ≤ 1099511627776) :
    Calls Tryd.prog 63 #[v, .int .i64 k] w fun e w' => e = .returned (.int .i64 (k + ks.length)) ∧ IntsOwn w' lo v (marks k ks.length) ∧ Below lo w w' := by
  obtain ⟨hlen, ⟨hv, hz⟩ | ⟨g, cap, cur, hv, hb, hg, hnc, hm, hs, ht⟩⟩ := h
  · subst hv
    rw [hz]
    refine (markNone_c none 0 k w).mono ?_
    rintro e w' ⟨rfl, rfl⟩
    exact ⟨by simp, World.ownsRow_nil w lo _ _, Below.refl _ _⟩
  · subst hv
    rw [Nat.mul_one] at hs ht
    refine (markRow_c g ks.length cap k cur w hg (by omega) hn (fun i hi => ⟨ks[i], ?_⟩) h0 h1).mono ?_
    · have : (cur.toList.take ks.length)[i]? = some (.int .i64 ks[i]) := by rw [ht]; simp [hi]
      rw [List.getElem?_take_of_lt hi] at this
      simpa using this
    · rintro e w' ⟨rfl, c', hg', hsz, hd, hgr⟩
      refine ⟨rfl, ⟨by simp [marks], .inr ⟨g, cap, c', by rw [marks_length], hb, hg', by rw [marks_length]; exact hnc, hm, by omega, ?_⟩⟩, (Below.refl lo w).grown hgr hl (fun b e => by cases e; exact hb)⟩
      apply List.ext_getElem?
      intro i
      rw [marks_length, Nat.mul_one]
      by_cases hi : i < ks.length
      · rw [List.getElem?_take_of_lt hi]
        have := hd i hi
        simp [marks, hi, this]
      · rw [List.getElem?_eq_none (by simp; omega), List.getElem?_eq_none (by simp [marks]; omega)]

/-- Looking whether the marks held. -/
theorem held_c (n : Nat) (v : Value) (k : Int) (w : World) (h : IntsAt w v (marks k n)) (hn : n ≤ 1048576) (h0 : 0 ≤ k) (h1 : k ≤ 1099511627776) :
    Calls Tryd.prog 65 #[v, .int .i64 k] w fun e w' => e = .returned (.int .i64 (k + n)) ∧ w = w' := by
  obtain ⟨a, cap, rfl, _, hat⟩ := h
  rw [marks_length] at hat ⊢
  have HAT := Lib.hid hat
  clear hat
  go_enter Tryd.func65, Tryd.ntmps65
  go_wp2_with fail
  go_loop [1, 5] (fun l i => ∃ (j : Nat), j ≤ n ∧ i = .int .i64 j ∧ l = .int .i64 (k + j)) (fun _ i => n - (intOf i).toNat)
  case atStart => exact ⟨0, Nat.zero_le _, rfl, by simp⟩
  case round =>
    obtain ⟨j, hj, rfl, rfl⟩ := hrel
    by_cases hlt : j < n
    · rcases HAT.out with h | ⟨b, o, rfl, hat⟩
      · have := congrArg List.length h; rw [marks_length] at this; simp at this; omega
      have ha := hat j hlt
      rw [marks_get k n j hlt] at ha
      have hne : ((k + (j : Int)) != k + (j : Int)) = false := by simp
      clear hat
      go_wp2_with fail
      go_round
      case rel => exact ⟨j + 1, by omega, by go_num, by go_num⟩
      case measure => simp [intOf]; omega
    · obtain rfl : j = n := by omega
      go_wp2_with fail
      go_ret
      exact ⟨rfl, rfl⟩

end Go.Proofs.YtdcifdpkfcgmhaaDoor

/- The contract of markTree over a copy that toTree made. -/
namespace Go.Proofs.YtdcifdpkfcgmhaaDoor
open Go.RowKit

/-- Rows of ints may have been written; all other rows are as they were. -/
structure Touch (w w' : World) : Prop where
  other : ∀ (b : Nat) (c : Array Value) (t : TypeId), w.heap[b]? = some (.cells c t (0, 0)) → t ≠ 3 → w'.heap[b]? = w.heap[b]?
  ints : ∀ (b : Nat) (c : Array Value), w.heap[b]? = some (.cells c 3 (0, 0)) → (∀ i, i < c.size → ∃ x : Int, c[i]? = some (.int .i64 x)) →
    ∃ c' : Array Value, w'.heap[b]? = some (.cells c' 3 (0, 0)) ∧ c'.size = c.size ∧ (∀ i, i < c'.size → ∃ x : Int, c'[i]? = some (.int .i64 x))

theorem Touch.refl (w : World) : Touch w w := ⟨fun _ _ _ _ _ => rfl, fun _ c h hi => ⟨c, h, rfl, hi⟩⟩
theorem Touch.trans {a b c : World} (h : Touch a b) (k : Touch b c) : Touch a c :=
  ⟨fun x cc t hx ht => by
      have h1 := h.other x cc t hx ht
      exact (k.other x cc t (h1.trans hx) ht).trans h1,
    fun x cc hx hi => by
      obtain ⟨c1, h1, h2, h3⟩ := h.ints x cc hx hi
      obtain ⟨c2, k1, k2, k3⟩ := k.ints x c1 h1 h3
      exact ⟨c2, k1, k2.trans h2, k3⟩⟩
theorem Touch.of_below {w w' : World} {C : Nat} (h : Below C w w') (hC : w.heap.size ≤ C) : Touch w w' :=
  have hb : ∀ b o, w.heap[b]? = some o → w'.heap[b]? = w.heap[b]? := fun b o ho => h.block b (by have := (Array.getElem?_eq_some_iff.1 ho).1; omega)
  ⟨fun b c t hx _ => hb b _ hx, fun b c hx hi => ⟨c, (hb b _ hx).trans hx, rfl, hi⟩⟩

/-- Nothing that lay outside the blocks from lo to hi has turned. -/
structure Span (lo hi : Nat) (w w' : World) : Prop where
  os : w'.os = w.os
  tape : w'.tape = w.tape
  output : w'.output = w.output
  size : w.heap.size ≤ w'.heap.size
  block : ∀ k, k < w.heap.size → (k < lo ∨ hi ≤ k) → w'.heap[k]? = w.heap[k]?

theorem Span.refl (lo hi : Nat) (w : World) : Span lo hi w w := ⟨rfl, rfl, rfl, Nat.le_refl _, fun _ _ _ => rfl⟩
theorem Span.trans {lo hi : Nat} {a b c : World} (h : Span lo hi a b) (k : Span lo hi b c) : Span lo hi a c :=
  ⟨k.os.trans h.os, k.tape.trans h.tape, k.output.trans h.output, Nat.le_trans h.size k.size, fun i h1 h2 => (k.block i (Nat.lt_of_lt_of_le h1 h.size) h2).trans (h.block i h1 h2)⟩
theorem Span.of_below {lo hi C : Nat} {a b : World} (h : Below C a b) (hC : a.heap.size ≤ C) : Span lo hi a b := ⟨h.os, h.tape, h.output, h.size, fun k h1 _ => h.block k (by omega)⟩
theorem Span.below {lo hi : Nat} {a b : World} (h : Span lo hi a b) (hl : lo ≤ a.heap.size) : Below lo a b := ⟨h.os, h.tape, h.output, h.size, fun k hk => h.block k (by omega) (.inl hk)⟩

/-- A slice of ints beyond the span lies as it lay. -/
theorem IntsOwn.span {w w' : World} {l lo hi : Nat} {v : Value} {ks : List Int} (h : IntsOwn w l v ks) (hb : Span lo hi w w') (hl : hi ≤ l) : IntsOwn w' l v ks := by
  obtain ⟨h1, h2 | ⟨g, cap, cur, hv, hbb, hg, hr⟩⟩ := h
  · exact ⟨h1, .inl h2⟩
  · exact ⟨h1, .inr ⟨g, cap, cur, hv, hbb, (hb.block g (Array.getElem?_eq_some_iff.1 hg).1 (.inr (by omega))).trans hg, hr⟩⟩

/-- A tree in rows of its own, its keys any ints. -/
inductive TreeMem (w : World) (lo hi : Nat) : Value → Value → Tr → Prop where
  | mk (ks : List Int) (cs : List Tr) (g h : Nat) (kvs cvs : Nat → Value) (f : Nat → Int) (hg : lo ≤ g) (hgh : g < hi) (hh : lo ≤ h)
      (hk : w.rowIs g 3 ks.length (fun i => .int .i64 (f i)))
      (hc : w.rowIs h 33 (cs.length * 2) (fun j => if j % 2 = 0 then kvs (j / 2) else cvs (j / 2)))
      (hkids : ∀ i (h : i < cs.length), TreeMem w lo hi (kvs i) (cvs i) cs[i]) :
      TreeMem w lo hi (.slice (some ⟨g, 0, none⟩) ks.length ks.length) (.slice (some ⟨h, 0, none⟩) cs.length cs.length) (.mk ks cs)

theorem TreeNew.mem {w : World} {lo : Nat} {kv cv : Value} {t : Tr} (h : TreeNew w lo kv cv t) : TreeMem w lo w.heap.size kv cv t := by
  induction h with
  | mk ks cs g h kvs cvs hg hh hk hc hkids ih => exact .mk ks cs g h kvs cvs (fun i => ks.getD i 0) hg hk.lt hh hk hc ih

theorem rowInts {w : World} {g n : Nat} {f : Nat → Int} (h : w.rowIs g 3 n (fun i => .int .i64 (f i))) {w' : World} (ht : Touch w w') : ∃ f' : Nat → Int, w'.rowIs g 3 n (fun i => .int .i64 (f' i)) := by
  obtain ⟨c, hb, hn, hc⟩ := h
  obtain ⟨c', h1, h2, h3⟩ := ht.ints g c hb (fun i hi => ⟨f i, hc i (by omega)⟩)
  refine ⟨fun i => if h : i < c'.size then (h3 i h).choose else 0, c', h1, by omega, fun i hi => ?_⟩
  have hlt : i < c'.size := by omega
  simp only [dif_pos hlt]
  exact (h3 i hlt).choose_spec

theorem TreeMem.touch {w w' : World} {lo hi : Nat} {kv cv : Value} {t : Tr} (h : TreeMem w lo hi kv cv t) (ht : Touch w w') : TreeMem w' lo hi kv cv t := by
  induction h with
  | mk ks cs g h kvs cvs f hg hgh hh hk hc hkids ih =>
    obtain ⟨f', hf'⟩ := rowInts hk ht
    exact .mk ks cs g h kvs cvs f' hg hgh hh hf' (hc.of_block (by obtain ⟨c, hb, _⟩ := hc; exact ht.other h c _ hb (by decide))) ih

theorem TreeMem.slices {w : World} {lo hi : Nat} {kv cv : Value} {t : Tr} (h : TreeMem w lo hi kv cv t) : ∃ (ks : List Int) (cs : List Tr) (g h : Nat) (f : Nat → Int), t = .mk ks cs ∧ kv = .slice (some ⟨g, 0, none⟩) ks.length ks.length ∧ cv = .slice (some ⟨h, 0, none⟩) cs.length cs.length ∧ lo ≤ g ∧ g < hi ∧
    w.rowIs g 3 ks.length (fun i => .int .i64 (f i)) := by
  cases h with
  | mk ks cs g h kvs cvs f hg hgh hh hk hc hkids => exact ⟨ks, cs, g, h, f, rfl, rfl, rfl, hg, hgh, hk⟩

/-- Marking one row of a copy. -/
theorem markKeys_c {w : World} {lo hi g n : Nat} {f : Nat → Int} (h : w.rowIs g 3 n (fun i => .int .i64 (f i))) (hlo : lo ≤ g) (hgh : g < hi) (hn : n ≤ 1048576) (k : Int) (h0 : 0 ≤ k) (h1 : k ≤ 1099511627776) :
    Calls Tryd.prog 63 #[.slice (some ⟨g, 0, none⟩) n n, .int .i64 k] w fun e w' => e = .returned (.int .i64 (k + n)) ∧ Touch w w' ∧ Span lo hi w w' := by
  obtain ⟨c, hb, hs, hc⟩ := h
  refine (markRow_c g n n k c w hb (by omega) hn (fun i hi => ⟨f i, hc i hi⟩) h0 h1).mono ?_
  rintro e w' ⟨rfl, c', hg', hsz, hd, hgr⟩
  refine ⟨rfl, ⟨fun b cc t hx ht => ?_, fun b cc hx hi => ?_⟩, ⟨hgr.os, hgr.tape, hgr.output, hgr.size, fun b h1 h2 => hgr.block b h1 (fun e => by cases e; omega)⟩⟩
  · refine hgr.block b (Array.getElem?_eq_some_iff.1 hx).1 (fun e => ?_)
    cases e
    rw [hx] at hb
    cases hb
    exact ht rfl
  · by_cases e : b = g
    · subst e
      rw [hb] at hx
      cases hx
      exact ⟨c', hg', hsz, fun i hi => ⟨_, hd i (by omega)⟩⟩
    · exact ⟨cc, (hgr.block b (Array.getElem?_eq_some_iff.1 hx).1 (fun h => e (by cases h; rfl))).trans hx, rfl, hi⟩

/-- The weight of the kids. -/
def Tr.kidsW : Tr → Nat
  | .mk _ c => Tr.weights c

set_option maxHeartbeats 1000000 in
theorem markTreeS_c {w0 : World} {lo hi : Nat} {kv cv : Value} {t : Tr} (ht : TreeMem w0 lo hi kv cv t) (hw : t.weight ≤ 1048576) :
    ∀ w (k : Int), Touch w0 w → 0 ≤ k → k + t.kidsW ≤ 1099511627776 →
    Calls Tryd.prog 64 #[cv, .int .i64 k] w fun e w' => ∃ m : Int, e = .returned (.int .i64 m) ∧ k ≤ m ∧ m ≤ k + t.kidsW ∧ Touch w w' ∧ Span lo hi w w' := by
  induction ht with
  | mk ks cs g h kvs cvs f hg hgh hh hk hc hkids ih =>
    intro w k htw h0 h1
    simp only [Tr.weight] at hw
    simp only [Tr.kidsW] at h1 ⊢
    have hcl := Tr.length_le_weights cs
    have HC := Lib.hid (hc.of_block (by obtain ⟨c, hb, _⟩ := hc; exact htw.other h c _ hb (by decide)))
    have IH := Lib.hid ih
    have HKI := Lib.hid hkids
    clear hk hc ih hkids
    go_enter Tryd.func64, Tryd.ntmps64
    go_wp2_with fail
    go_loopw [1, 5] (fun l i wr => ∃ (j : Nat) (m : Int), j ≤ cs.length ∧ i = .int .i64 j ∧ l = .int .i64 m ∧ k ≤ m ∧ m ≤ k + Tr.weights (cs.take j) ∧ Touch w wr ∧ Span lo hi w wr) (fun _ i _ => cs.length - (intOf i).toNat)
    case atStart => exact ⟨0, k, Nat.zero_le _, rfl, rfl, Int.le_refl _, by simp [Tr.weights], Touch.refl _, Span.refl _ _ _⟩
    case round =>
      obtain ⟨j, m, hj, rfl, rfl, hm1, hm2, htr, hbel⟩ := hrel
      by_cases hlt : j < cs.length
      · have hrow := HC.out.of_block (w' := wr) (by obtain ⟨c, hb, _⟩ := HC.out; exact htr.other h c _ hb (by decide))
        have ha := hrow.cell (i := j * 2) (by omega)
        have hcv := hrow.cell (i := j * 2 + 1) (by omega)
        rw [if_pos (by omega), show j * 2 / 2 = j from by omega] at ha
        rw [if_neg (by omega), show (j * 2 + 1) / 2 = j from by omega] at hcv
        have hmem := (HKI.out j hlt).touch (htw.trans htr)
        obtain ⟨ks1, cs1, g1, h1', f1, et, e1, e2, hg1, hgh1, hr1⟩ := hmem.slices
        have hwt := Tr.weight_get_le cs j hlt
        have hts := Tr.weights_take_succ cs j hlt
        have htl := Tr.weights_take_ge cs (j + 1)
        have hwj : cs[j].weight = ks1.length + Tr.weights cs1 := by rw [et]; rfl
        rw [e1] at ha
        rw [e2] at hcv
        have HR := Lib.hid hrow
        have HR1 := Lib.hid hr1
        have HE := Lib.hid (And.intro et (And.intro e1 e2))
        have HT := Lib.hid (And.intro hts hwj)
        clear hrow hmem hr1 et e1 e2
        have hb1 : m ≤ 1099511627776 := by omega
        have hkw : cs[j].kidsW = Tr.weights cs1 := by rw [HE.out.1]; rfl
        have hb2 : (m + ks1.length) + cs[j].kidsW ≤ 1099511627776 := by omega
        have HKW := Lib.hid hkw
        have HB2 := Lib.hid hb2
        clear hts hwj hb2 hkw
        go_wp2_with fail
        refine (markKeys_c HR1.out hg1 hgh1 (by have := HT.out.2; omega) m (by omega) hb1).mono ?_
        rintro e w1 ⟨rfl, ht1, hbb1⟩
        have hrow1 := HR.out.of_block (w' := w1) (by obtain ⟨c, hb, _⟩ := HR.out; exact ht1.other h c _ hb (by decide))
        have hcv1 := hrow1.cell (i := j * 2 + 1) (by omega)
        rw [if_neg (by omega), show (j * 2 + 1) / 2 = j from by omega, HE.out.2.2] at hcv1
        have hI := IH.out j hlt (by omega) w1 (m + ks1.length) (htw.trans (htr.trans ht1)) (by omega) HB2.out
        rw [HE.out.2.2] at hI
        have HI := Lib.hid hI
        have HX := Lib.hid (And.intro ht1 hbb1)
        clear hrow1 hI ht1 hbb1 ha hcv
        go_wp2_with fail
        refine HI.out.mono ?_
        rintro e w2 ⟨m2, rfl, q1, q2, ht2, hbb2⟩
        have HY := Lib.hid (And.intro ht2 hbb2)
        clear ht2 hbb2
        go_wp2_with fail
        go_roundw
        case rel =>
          have h3 := HT.out.1
          have h4 := HT.out.2
          have h5 := HKW.out
          refine ⟨j + 1, m2, by omega, by go_num, rfl, by omega, ?_, htr.trans (HX.out.1.trans HY.out.1), hbel.trans (HX.out.2.trans HY.out.2)⟩
          omega
        case measure => simp [intOf]; omega
      · obtain rfl : j = cs.length := by omega
        rw [List.take_length] at hm2
        have HX := Lib.hid (And.intro htr hbel)
        clear htr hbel
        go_wp2_with fail
        go_ret
        exact ⟨m, rfl, hm1, by omega, HX.out.1, HX.out.2⟩

set_option maxHeartbeats 1000000 in
theorem markTree_c {w : World} {lo hi : Nat} {kv cv : Value} {t : Tr} (ht : TreeMem w lo hi kv cv t) (hw : t.weight ≤ 1048576) (hhi : hi ≤ w.heap.size) (k : Int) (h0 : 0 ≤ k) (h1 : k ≤ 1048576) :
    Calls Tryd.prog 21 #[.agg #[kv, cv], .int .i64 k] w fun e w' => ∃ m : Int, e = .returned (.int .i64 m) ∧ k ≤ m ∧ Span lo hi w w' := by
  obtain ⟨ks, cs, g, h, f, rfl, rfl, rfl, hg, hgh, hr⟩ := ht.slices
  simp only [Tr.weight] at hw
  obtain ⟨W1, hW1⟩ : ∃ W1, W1 = w.alloc (.cells #[.slice (some ⟨g, 0, none⟩) ks.length ks.length, .slice (some ⟨h, 0, none⟩) cs.length cs.length] 33) := ⟨_, rfl⟩
  have hs1 : W1.heap.size = w.heap.size + 1 := by rw [hW1]; simp
  have hb1 : Below w.heap.size w W1 := by rw [hW1]; exact (Below.refl _ _).alloc (Nat.le_refl _) _
  have kb : W1.heap[w.heap.size]? = some (.cells #[.slice (some ⟨g, 0, none⟩) ks.length ks.length, .slice (some ⟨h, 0, none⟩) cs.length cs.length] 33 (0, 0)) := by rw [hW1, new_blk]
  have ht1 : Touch w W1 := Touch.of_below hb1 (Nat.le_refl _)
  have hr1 : W1.rowIs g 3 ks.length (fun i => .int .i64 (f i)) := hr.of_block (hb1.block g hr.lt)
  have HW1 := Lib.hid hW1
  have HX := Lib.hid (And.intro hs1 (And.intro hb1 (And.intro kb (And.intro ht1 hr1))))
  have HT := Lib.hid ht
  clear hW1 hs1 hb1 kb ht1 hr1 hr ht
  go_enter Tryd.func21, Tryd.ntmps21
  go_wp2_with fail
  rw [← HW1.out]
  have hs1 := HX.out.1
  refine (markKeys_c HX.out.2.2.2.2 hg hgh (by omega) k h0 (by omega)).mono ?_
  rintro e w1 ⟨rfl, ht1, hbb1⟩
  have hblk := (ht1.other w.heap.size _ _ HX.out.2.2.1 (by decide)).trans HX.out.2.2.1
  obtain ⟨x1, x2, x3, x4⟩ := box2 hblk
  have hsz := hbb1.size
  have HY := Lib.hid (And.intro ht1 (And.intro hbb1 hblk))
  clear hs1 ht1 hbb1 hblk
  go_wp2_with fail
  have hs1 := HX.out.1
  refine (markTreeS_c HT.out (by simp only [Tr.weight]; omega) w1 (k + ks.length) (HX.out.2.2.2.1.trans HY.out.1) (by omega) (by simp only [Tr.kidsW]; omega)).mono ?_
  rintro e w2 ⟨m, rfl, q1, q2, ht2, hbb2⟩
  have HZ := Lib.hid hbb2
  clear hbb2 ht2 hs1
  go_wp2_with fail
  go_ret
  exact ⟨m, rfl, by omega, (Span.of_below HX.out.2.1 (Nat.le_refl _)).trans (HY.out.2.1.trans HZ.out)⟩

end Go.Proofs.YtdcifdpkfcgmhaaDoor

/- A slice of ints that is cut out of a row of the call's own. -/
namespace Go.Proofs.YtdcifdpkfcgmhaaDoor
open Go.RowKit

/-- A slice of ints that lies within a block of the call's own, from block lo on. -/
def IntsCut (w : World) (lo : Nat) (v : Value) (ks : List Int) : Prop :=
  ∃ (a : Option Addr) (cap : Nat), v = .slice a ks.length cap ∧ ks.length ≤ cap ∧ cap ≤ maxLen ∧ (a = none → cap = 0) ∧
    (ks = [] ∨ ∃ (g o : Nat) (cur : Array Value), a = some ⟨g, o, none⟩ ∧ lo ≤ g ∧ w.heap[g]? = some (.cells cur 3 (0, 0)) ∧ ∀ i, i < ks.length → cur[o + i]? = some (.int .i64 (ks.getD i 0)))

theorem IntsCut.shown {w : World} {lo : Nat} {v : Value} {ks : List Int} (h : IntsCut w lo v ks) : ∃ a c, v = .slice a ks.length c := by
  obtain ⟨a, cap, hv, _⟩ := h
  exact ⟨a, cap, hv⟩
theorem IntsCut.in {w : World} {lo : Nat} {v : Value} {ks : List Int} (h : IntsCut w lo v ks) : IntsIn w w.heap.size v ks := by
  obtain ⟨a, cap, hv, h1, h2, h3, h4⟩ := h
  refine ⟨a, cap, hv, h1, h2, h3, ?_⟩
  rcases h4 with h4 | ⟨g, o, cur, ha, hl, hg, hc⟩
  · exact .inl h4
  · exact .inr ⟨g, o, ha, (Array.getElem?_eq_some_iff.1 hg).1, fun i hi => by simp [World.cell?, hg, hc i hi]⟩
theorem IntsCut.inB {w : World} {lo B : Nat} {v : Value} {ks : List Int} (h : IntsCut w lo v ks) (hB : w.heap.size ≤ B) : IntsIn w B v ks := (IntsCut.in h).wider hB
theorem IntsCut.later {w w' : World} {lo C : Nat} {v : Value} {ks : List Int} (h : IntsCut w lo v ks) (hb : Below C w w') (hC : w.heap.size ≤ C) : IntsCut w' lo v ks := by
  obtain ⟨a, cap, hv, h1, h2, h3, h4⟩ := h
  refine ⟨a, cap, hv, h1, h2, h3, ?_⟩
  rcases h4 with h4 | ⟨g, o, cur, ha, hl, hg, hc⟩
  · exact .inl h4
  · exact .inr ⟨g, o, cur, ha, hl, (hb.block g (by have := (Array.getElem?_eq_some_iff.1 hg).1; omega)).trans hg, hc⟩
theorem IntsCut.span {w w' : World} {l lo hi : Nat} {v : Value} {ks : List Int} (h : IntsCut w l v ks) (hb : Span lo hi w w') (hl : hi ≤ l) : IntsCut w' l v ks := by
  obtain ⟨a, cap, hv, h1, h2, h3, h4⟩ := h
  refine ⟨a, cap, hv, h1, h2, h3, ?_⟩
  rcases h4 with h4 | ⟨g, o, cur, ha, hl', hg, hc⟩
  · exact .inl h4
  · exact .inr ⟨g, o, cur, ha, hl', (hb.block g (Array.getElem?_eq_some_iff.1 hg).1 (.inr (by omega))).trans hg, hc⟩
theorem IntsCut.lower {w : World} {lo lo' : Nat} {v : Value} {ks : List Int} (h : IntsCut w lo v ks) (hl : lo' ≤ lo) : IntsCut w lo' v ks := by
  obtain ⟨a, cap, hv, h1, h2, h3, h4⟩ := h
  refine ⟨a, cap, hv, h1, h2, h3, ?_⟩
  rcases h4 with h4 | ⟨g, o, cur, ha, hl', hg, hc⟩
  · exact .inl h4
  · exact .inr ⟨g, o, cur, ha, by omega, hg, hc⟩
theorem IntsCut.none {w : World} {lo : Nat} : IntsCut w lo (.slice none 0 0) [] := ⟨_, 0, rfl, Nat.le_refl _, by unfold maxLen; omega, fun _ => rfl, .inl rfl⟩

/-- A part of a row of the call's own is such a slice. -/
theorem IntsOwn.cut {w : World} {lo n cap f p : Nat} {a : Option Addr} {ks : List Int} (h : IntsOwn w lo (.slice a n cap) ks) (h1 : f ≤ p) (h2 : p ≤ ks.length) (a' : Option Addr) (ha : p - f = 0 ∨ a' = a.map (fun x => x.add f)) (hz : a' = none → p - f = 0) :
    IntsCut w lo (.slice a' (p - f) (p - f)) ((ks.drop f).take (p - f)) := by
  have hlen : ((ks.drop f).take (p - f)).length = p - f := by rw [List.length_take, List.length_drop]; omega
  have hkl : ks.length ≤ maxLen := by
    obtain ⟨_, ⟨h2, h3⟩ | ⟨g, cap', cur, hv, hb, hg, hn, hm, hs, ht⟩⟩ := h
    · rw [h3]; exact Nat.zero_le _
    · omega
  refine ⟨a', p - f, by rw [hlen], by rw [hlen]; exact Nat.le_refl _, by omega, hz, ?_⟩
  by_cases h0 : p - f = 0
  · exact .inl (List.length_eq_zero_iff.1 (by rw [hlen]; exact h0))
  · rcases ha with ha | ha
    · exact absurd ha h0
    · obtain ⟨_, ⟨hv, h3⟩ | ⟨g, cap', cur, hv, hb, hg, hn, hm, hs, ht⟩⟩ := h
      · have h9 : ks.length = 0 := h3
        omega
      · injection hv with e1 e2 e3
        subst e1
        refine .inr ⟨g, f, cur, by rw [ha]; simp [Addr.add] <;> omega, hb, hg, fun i hi => ?_⟩
        rw [hlen] at hi
        have hget : (cur.toList.take (ks.length * 1))[f + i]? = (ks.map (Value.int .i64))[f + i]? := by rw [ht]
        rw [Nat.mul_one, List.getElem?_take_of_lt (by omega)] at hget
        rw [← Array.getElem?_toList, hget, List.getElem?_map, List.getD_eq_getElem?_getD, List.getElem?_take_of_lt (by omega), List.getElem?_drop]
        have hlt : f + i < ks.length := by omega
        simp [hlt]

set_option maxHeartbeats 1000000 in
theorem markRowO_c (g o n cap : Nat) (k : Int) (c : Array Value) (w : World) (hc : w.heap[g]? = some (.cells c 3 (0, 0))) (hcap : n ≤ 1048576) (hi : ∀ i, i < n → ∃ x : Int, c[o + i]? = some (.int .i64 x)) (h0 : 0 ≤ k) (h1 : k ≤ 1099511627776) :
    Calls Tryd.prog 63 #[.slice (some ⟨g, o, none⟩) n cap, .int .i64 k] w fun e w' => e = .returned (.int .i64 (k + n)) ∧
      ∃ c' : Array Value, w'.heap[g]? = some (.cells c' 3 (0, 0)) ∧ (∀ i, i < n → c'[o + i]? = some (.int .i64 (k + (i : Int)))) ∧ w.grownBy w' (some g) := by
  have HC := Lib.hid hc
  have HI := Lib.hid hi
  clear hc hi
  go_enter Tryd.func63, Tryd.ntmps63
  go_wp2_with fail
  go_loopw [1, 5] (fun l i wr => ∃ (j : Nat) (c' : Array Value), j ≤ n ∧ i = .int .i64 j ∧ l = .int .i64 (k + j) ∧ wr.heap[g]? = some (.cells c' 3 (0, 0)) ∧ (∀ i, i < j → c'[o + i]? = some (.int .i64 (k + (i : Int)))) ∧ (∀ i, i < n → ∃ x : Int, c'[o + i]? = some (.int .i64 x)) ∧ w.grownBy wr (some g)) (fun _ i _ => n - (intOf i).toNat)
  case atStart => exact ⟨0, c, Nat.zero_le _, rfl, by simp, HC.out, fun i h => by omega, HI.out, World.grownBy.refl _ _⟩
  case round =>
    obtain ⟨j, c', hj, rfl, rfl, hblk, hdone, hints, hgr⟩ := hrel
    by_cases hlt : j < n
    · obtain ⟨x, hx⟩ := hints j hlt
      have ha : wr.cell? ⟨g, o + j, none⟩ = some (.int .i64 x) := by simp [World.cell?, hblk, hx]
      have hf : wr.frozen? ⟨g, o + j, none⟩ = false := by simp [World.frozen?, hblk]
      have hgl : g < wr.heap.size := (Array.getElem?_eq_some_iff.1 hblk).1
      have hsz : o + j < c'.size := (Array.getElem?_eq_some_iff.1 hx).1
      have HD := Lib.hid (And.intro hblk (And.intro hdone (And.intro hints hgr)))
      clear hblk hdone hints hgr hx
      go_wp2_with fail
      go_roundw
      case rel =>
        obtain ⟨hblk, hdone, hints, hgr⟩ := HD.out
        refine ⟨j + 1, c'.setIfInBounds (o + j) (.int .i64 (k + j)), by omega, by go_num, by go_num, set_blk _ hblk, fun i hi => ?_, fun i hi => ?_, ?_⟩
        · rw [Array.getElem?_setIfInBounds]
          by_cases e : o + j = o + i
          · obtain rfl : j = i := by omega
            rw [if_pos rfl, if_pos hsz]
          · rw [if_neg e]; exact hdone i (by omega)
        · rw [Array.getElem?_setIfInBounds]
          by_cases e : o + j = o + i
          · exact ⟨_, by rw [if_pos e, if_pos hsz]⟩
          · rw [if_neg e]; exact hints i hi
        · refine ⟨hgr.os, hgr.tape, hgr.output, by simpa using hgr.size, fun b hb hne => ?_⟩
          rw [set_other _ _ _ _ _ (fun e => hne (by rw [e]))]
          exact hgr.block b hb hne
      case measure => simp [intOf]; omega
    · obtain rfl : j = n := by omega
      have HD := Lib.hid (And.intro hblk (And.intro hdone hgr))
      clear hblk hdone hints hgr
      go_wp2_with fail
      go_ret
      obtain ⟨hblk, hdone, hgr⟩ := HD.out
      exact ⟨rfl, c', hblk, hdone, hgr⟩

/-- Marking such a slice. -/
theorem markCut_c {w : World} {lo : Nat} {v : Value} {ks : List Int} (h : IntsCut w lo v ks) (hl : lo ≤ w.heap.size) (hn : ks.length ≤ 1048576) (k : Int) (h0 : 0 ≤ k) (h1 : k ≤ 1099511627776) :
    Calls Tryd.prog 63 #[v, .int .i64 k] w fun e w' => e = .returned (.int .i64 (k + ks.length)) ∧ IntsCut w' lo v (marks k ks.length) ∧ Below lo w w' := by
  obtain ⟨a, cap, hv, h2, h3, h4, h5⟩ := h
  subst hv
  by_cases hz : ks.length = 0
  · rw [hz]
    refine (markNone_c a cap k w).mono ?_
    rintro e w' ⟨rfl, rfl⟩
    exact ⟨by simp, ⟨a, cap, by rw [marks_length], by rw [marks_length]; omega, h3, h4, .inl rfl⟩, Below.refl _ _⟩
  · rcases h5 with h5 | ⟨g, o, cur, rfl, hb, hg, hc⟩
    · exact absurd (by rw [h5]; rfl) hz
    · refine (markRowO_c g o ks.length cap k cur w hg hn (fun i hi => ⟨_, hc i hi⟩) h0 h1).mono ?_
      rintro e w' ⟨rfl, c', hg', hd, hgr⟩
      refine ⟨rfl, ⟨_, cap, by rw [marks_length], by rw [marks_length]; exact h2, h3, by simp, .inr ⟨g, o, c', rfl, hb, hg', fun i hi => ?_⟩⟩, (Below.refl lo w).grown hgr hl (fun b e => by cases e; exact hb)⟩
      rw [marks_length] at hi
      rw [marks_get _ _ _ hi]; exact hd i hi

end Go.Proofs.YtdcifdpkfcgmhaaDoor
