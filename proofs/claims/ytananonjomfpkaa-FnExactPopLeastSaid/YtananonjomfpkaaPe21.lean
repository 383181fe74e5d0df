/- Trees in rows of a call's own, no two of which share a block. -/
import Derived.Test.YtananonjomfpkaaProg
import Derived.Test.YtananonjomfpkaaPe0
import Derived.Laws.AppendOwnNone
import Derived.OwnWalk
import Derived.Test.YtananonjomfpkaaTo
import Derived.Test.YtananonjomfpkaaPe8

/- Appends onto a slice of trees of the call's own; slices of trees that can be read. -/
namespace Go.Proofs.Ytananonjomfpkaa
open Go.RowKit

/-- The cells of a row of trees. -/
def flatT (K : List (Value × Value)) : List Value := K.flatMap (fun p => [p.1, p.2])
theorem flatT_length (K : List (Value × Value)) : (flatT K).length = K.length * 2 := by
  induction K with
  | nil => rfl
  | cons p r ih => simp [flatT] at ih ⊢; omega
theorem flatT_append (K M : List (Value × Value)) : flatT (K ++ M) = flatT K ++ flatT M := by simp [flatT]
theorem flatT_get (K : List (Value × Value)) (i : Nat) (h : i < K.length) : (flatT K)[i * 2]? = some K[i].1 ∧ (flatT K)[i * 2 + 1]? = some K[i].2 := by
  induction K generalizing i with
  | nil => simp at h
  | cons p r ih =>
    cases i with
    | zero => simp [flatT]
    | succ i =>
      have := ih i (by simpa using h)
      rw [show (i + 1) * 2 = i * 2 + 1 + 1 by omega]
      simpa [flatT] using this
theorem flatT_drop (K : List (Value × Value)) (i : Nat) : flatT (K.drop i) = (flatT K).drop (i * 2) := by
  induction K generalizing i with
  | nil => simp [flatT]
  | cons p r ih =>
    cases i with
    | zero => simp
    | succ i =>
      rw [show (i + 1) * 2 = i * 2 + 1 + 1 by omega]
      simpa [flatT] using ih i
theorem flatT_take (K : List (Value × Value)) (i : Nat) : flatT (K.take i) = (flatT K).take (i * 2) := by
  induction K generalizing i with
  | nil => simp [flatT]
  | cons p r ih =>
    cases i with
    | zero => simp [flatT]
    | succ i =>
      rw [show (i + 1) * 2 = i * 2 + 1 + 1 by omega]
      simpa [flatT] using ih i

/-- A slice of trees that can be read. -/
def KidsAt (w : World) (v : Value) (K : List (Value × Value)) : Prop :=
  ∃ (a : Option Addr) (cap : Nat), v = .slice a K.length cap ∧ (a = none → cap = 0) ∧
    (K = [] ∨ ∃ b o, a = some ⟨b, o, none⟩ ∧ ∀ j u, (flatT K)[j]? = some u → w.cell? ⟨b, o + j, none⟩ = some u)

abbrev TreesOwn (w : World) (lo : Nat) (v : Value) (K : List (Value × Value)) : Prop := w.ownsRow lo 26 2 v K.length (flatT K)

theorem TreesOwn.shown {w : World} {lo : Nat} {v : Value} {K : List (Value × Value)} (h : TreesOwn w lo v K) : ∃ a c, v = .slice a K.length c := by
  obtain ⟨h1, ⟨h2, h3⟩ | ⟨g, cap, cur, hv, hbb, hr⟩⟩ := h
  · exact ⟨_, _, by rw [h2, h3]⟩
  · exact ⟨_, _, hv⟩

theorem wpList_append_trees {w : World} {ops : Array Oper} {rest : List Oper} {o : Oper} {a : Act} {Q : Exit → Act → World → Prop} (hgd : o.guard = none) (s x : Operand)
    (ho : o.op = .call { callee := .builtin .append, args := #[s, x], argTypes := #[24, 24] })
    (lo : Nat) (v y : Value) (K M : List (Value × Value)) (hs : a.eval s = v) (hown : TreesOwn w lo v K) (hx : a.eval x = y) (hsrc : KidsAt w y M) (h1 : ∀ u, u ∈ flatT M → u.oneCell' = true)
    (hlen : K.length + M.length ≤ 100000000) (hlo : lo ≤ w.heap.size)
    (h : ∀ v' w', TreesOwn w' lo v' (K ++ M) → Below lo w w' → w.grownBy w' v.ownBlock → (∃ a c, v' = .slice a (K ++ M).length c) → wpList Try.prog ops Q rest (a.put o.dst v') w') : wpList Try.prog ops Q (o :: rest) a w := by
  obtain ⟨i0, hi, hz0, hz1, hz2⟩ := info_parts Try.infoTree
  obtain ⟨pa, cap, rfl, hnl, hat⟩ := hsrc
  rcases pa with _ | p
  · obtain rfl := hnl rfl
    obtain rfl : M = [] := by
      rcases hat with h | ⟨b, o, h, _⟩
      · exact h
      · cases h
    refine wpList_append_own_none hgd s x 24 ho lo 26 i0 2 Try.underlying24 hi v _ _ hs hown hx (h v w (by simpa using hown) (Below.refl _ _) (World.grownBy.refl _ _) ?_)
    simpa using TreesOwn.shown hown
  · refine wpList_append_own w hgd s x 24 ho lo 26 i0 _ 2 48 Try.underlying24 hi hz0 hz1 hz2 rfl (by decide) v _ _ hs hown p M.length cap (flatT M) hx (flatT_length M) (fun j u hj => ?_) h1 (by unfold maxLen; omega) (by omega) hlo (fun v' w' hown' hgrow _ => ?_)
    · rcases hat with h | ⟨b, o, h, hc⟩
      · rw [h] at hj; simp [flatT] at hj
      · cases h
        rw [Addr.add_lit]
        exact hc j u hj
    · have hown2 : TreesOwn w' lo v' (K ++ M) := by
        unfold TreesOwn
        rw [List.length_append, flatT_append]
        exact hown'
      refine h v' w' hown2 ((Below.refl lo w).grown hgrow hlo (fun k hk => (hown.lt k hk).1)) hgrow (TreesOwn.shown hown2)

/-- What lies in memory as kids, as such a slice. -/
theorem KidsIn.at {w : World} {B n cap : Nat} {a : Option Addr} {kvs cvs : Nat → Value} (h : KidsIn w B a n kvs cvs) (hn : a = none → cap = 0) :
    KidsAt w (.slice a n cap) ((List.range n).map (fun i => (kvs i, cvs i))) := by
  refine ⟨a, cap, by simp, hn, ?_⟩
  rcases h with h | ⟨b, o, rfl, hb, hc⟩
  · subst h; exact .inl rfl
  · refine .inr ⟨b, o, rfl, fun j u hj => ?_⟩
    have hl : j < n * 2 := by
      have := (List.getElem?_eq_some_iff.1 hj).1
      rwa [flatT_length, List.length_map, List.length_range] at this
    have hg := flatT_get ((List.range n).map (fun i => (kvs i, cvs i))) (j / 2) (by simp; omega)
    have hc' := hc (j / 2) (by omega)
    rcases Nat.mod_two_eq_zero_or_one j with e | e
    · rw [show j / 2 * 2 = j by omega] at hg hc'
      rw [hg.1] at hj
      simp at hj; subst hj
      simpa using hc'.1
    · rw [show j / 2 * 2 + 1 = j by omega] at hg
      rw [hg.2] at hj
      simp at hj; subst hj
      rw [show o + j = o + j / 2 * 2 + 1 by omega]
      simpa using hc'.2

/-- A part of such a slice. -/
theorem KidsAt.part {w : World} {b o n : Nat} {K : List (Value × Value)} (h : ∀ j u, (flatT K)[j]? = some u → w.cell? ⟨b, o + j, none⟩ = some u) (lo hi cap : Nat) (h1 : lo ≤ hi) (h2 : hi ≤ K.length) (hn : n = hi - lo) :
    KidsAt w (.slice (some ⟨b, o + lo * 2, none⟩) n cap) ((K.drop lo).take (hi - lo)) := by
  have hl : ((K.drop lo).take (hi - lo)).length = hi - lo := by simp; omega
  refine ⟨some ⟨b, o + lo * 2, none⟩, cap, by rw [hl, hn], by simp, .inr ⟨b, o + lo * 2, rfl, fun j u hj => ?_⟩⟩
  rw [flatT_take, flatT_drop, List.getElem?_take] at hj
  split at hj
  · rw [List.getElem?_drop] at hj
    rw [Nat.add_assoc]
    exact h _ _ hj
  · cases hj
theorem KidsAt.none' {w : World} (a : Option Addr) (cap : Nat) (h : a = none → cap = 0) : KidsAt w (.slice a 0 cap) [] := ⟨a, cap, rfl, h, .inl rfl⟩
theorem KidsAt.one (w : World) (x y : Value) : KidsAt (w.alloc (.cells #[x, y] 26)) (.slice (some ⟨w.heap.size, 0, none⟩) 1 1) [(x, y)] := by
  refine ⟨_, _, rfl, by simp, .inr ⟨_, 0, rfl, fun j u hj => ?_⟩⟩
  have hb := box2 (new_blk w (.cells #[x, y] 26))
  have hl : j < 2 := by have := (List.getElem?_eq_some_iff.1 hj).1; simpa [flatT] using this
  rw [Nat.zero_add]
  rcases (by omega : j = 0 ∨ j = 1) with rfl | rfl
  · simp [flatT] at hj; subst hj; exact hb.1
  · simp [flatT] at hj; subst hj; exact hb.2.1

/-- A row of trees of the call's own: a tree's kids. -/
theorem TreesOwn.kids {w : World} {lo : Nat} {v : Value} {K : List (Value × Value)} (h : TreesOwn w lo v K) :
    ∃ a cap, v = .slice a K.length cap ∧ K.length ≤ cap ∧ cap ≤ maxLen ∧ KidsIn w w.heap.size a K.length (fun i => (K.getD i (undef, undef)).1) (fun i => (K.getD i (undef, undef)).2) := by
  have h0 := h
  obtain ⟨h1, ⟨h2, h3⟩ | ⟨g, cap, cur, hv, hb, hg, hn, hm, hs, ht⟩⟩ := h
  · exact ⟨none, 0, by rw [h2, h3], by omega, by unfold maxLen; omega, .inl h3⟩
  · subst hv
    refine ⟨_, cap, rfl, hn, hm, .inr ⟨g, 0, rfl, (Array.getElem?_eq_some_iff.1 hg).1, fun i hi => ?_⟩⟩
    have hfg := flatT_get K i hi
    have e1 := World.ownsRow.cellAt h0 (i * 2) (by omega)
    have e2 := World.ownsRow.cellAt h0 (i * 2 + 1) (by omega)
    rw [Nat.zero_add, e1, e2]
    simp only [List.getD_eq_getElem?_getD, List.getElem?_eq_getElem hi, Option.getD_some]
    exact hfg
end Go.Proofs.Ytananonjomfpkaa

/- The contracts of the functions that mark a result and look whether the marks held. -/
namespace Go.Proofs.Ytananonjomfpkaa
open Go.RowKit

/-- n numbers from k on. -/
def marks (k : Int) (n : Nat) : List Int := (List.range n).map (fun (i : Nat) => k + (i : Int))
theorem marks_length (k : Int) (n : Nat) : (marks k n).length = n := by simp [marks]
theorem marks_get (k : Int) (n i : Nat) (h : i < n) : (marks k n).getD i 0 = k + i := by simp [marks, h]

/-- Marking a row of ints: block g. -/
theorem markRow_c (g n cap : Nat) (k : Int) (c : Array Value) (w : World) (hc : w.heap[g]? = some (.cells c 3 (0, 0))) (hn : n ≤ c.size) (hcap : n ≤ 1048576) (hi : ∀ i, i < n → ∃ x : Int, c[i]? = some (.int .i64 x)) (h0 : 0 ≤ k) (h1 : k ≤ 1099511627776) :
    Calls Try.prog 36 #[.slice (some ⟨g, 0, none⟩) n cap, .int .i64 k] w fun e w' => e = .returned (.int .i64 (k + n)) ∧
      ∃ c' : Array Value, w'.heap[g]? = some (.cells c' 3 (0, 0)) ∧ c'.size = c.size ∧ (∀ i, i < n → c'[i]? = some (.int .i64 (k + (i : Int)))) ∧ w.grownBy w' (some g) := by
  have HC := Lib.hid hc
  have HI := Lib.hid hi
  clear hc hi
  go_enter Try.func36, Try.ntmps36
  go_wp2_with fail
  go_loopw [1, 5] (fun l i wr => ∃ (j : Nat) (c' : Array Value), j ≤ n ∧ i = .int .i64 j ∧ l = .int .i64 (k + j) ∧ wr.heap[g]? = some (.cells c' 3 (0, 0)) ∧ c'.size = c.size ∧ (∀ i, i < j → c'[i]? = some (.int .i64 (k + (i : Int)))) ∧ (∀ i, i < n → ∃ x : Int, c'[i]? = some (.int .i64 x)) ∧ w.grownBy wr (some g)) (fun _ i _ => n - (intOf i).toNat)
  case atStart => exact ⟨0, c, Nat.zero_le _, rfl, by simp, HC.out, rfl, fun i h => by omega, HI.out, World.grownBy.refl _ _⟩
  case round =>
    obtain ⟨j, c', hj, rfl, rfl, hblk, hsz, hdone, hints, hgr⟩ := hrel
    by_cases hlt : j < n
    · obtain ⟨x, hx⟩ := hints j hlt
      have ha : wr.cell? ⟨g, j, none⟩ = some (.int .i64 x) := by simp [World.cell?, hblk, hx]
      have hf : wr.frozen? ⟨g, j, none⟩ = false := by simp [World.frozen?, hblk]
      have hgl : g < wr.heap.size := (Array.getElem?_eq_some_iff.1 hblk).1
      have HD := Lib.hid (And.intro hblk (And.intro hsz (And.intro hdone (And.intro hints hgr))))
      clear hblk hsz hdone hints hgr hx
      go_wp2_with fail
      go_roundw
      case rel =>
        obtain ⟨hblk, hsz, hdone, hints, hgr⟩ := HD.out
        refine ⟨j + 1, c'.setIfInBounds j (.int .i64 (k + j)), by omega, by go_num, by go_num, set_blk _ hblk, by simpa using hsz, fun i hi => ?_, fun i hi => ?_, ?_⟩
        · rw [Array.getElem?_setIfInBounds]
          by_cases e : j = i
          · subst e; rw [if_pos rfl, if_pos (by omega)]
          · rw [if_neg e]; exact hdone i (by omega)
        · rw [Array.getElem?_setIfInBounds]
          by_cases e : j = i
          · subst e; exact ⟨_, by rw [if_pos rfl, if_pos (by omega)]⟩
          · rw [if_neg e]; exact hints i hi
        · refine ⟨hgr.os, hgr.tape, hgr.output, by simpa using hgr.size, fun b hb hne => ?_⟩
          rw [set_other _ _ _ _ _ (fun e => hne (by rw [e]))]
          exact hgr.block b hb hne
      case measure => simp [intOf]; omega
    · obtain rfl : j = n := by omega
      have HD := Lib.hid (And.intro hblk (And.intro hsz (And.intro hdone hgr)))
      clear hblk hsz hdone hints hgr
      go_wp2_with fail
      go_ret
      obtain ⟨hblk, hsz, hdone, hgr⟩ := HD.out
      exact ⟨rfl, c', hblk, hsz, hdone, hgr⟩

theorem markNone_c (a : Option Addr) (cap : Nat) (k : Int) (w : World) :
    Calls Try.prog 36 #[.slice a 0 cap, .int .i64 k] w fun e w' => e = .returned (.int .i64 k) ∧ w = w' := by
  go_enter Try.func36, Try.ntmps36
  go_wp2_with fail
  refine wp_loop_rounds 1 ?_
  rw [rounds_succ]
  go_wp2_with fail
  go_ret
  exact ⟨rfl, rfl⟩

/-- Marking a slice of ints of the call's own. -/
theorem markOwn_c {w : World} {lo : Nat} {v : Value} {ks : List Int} (h : IntsOwn w lo v ks) (hl : lo ≤ w.heap.size) (hn : ks.length ≤ 1048576) (k : Int) (h0 : 0 ≤ k) (h1 : k ≤ 1099511627776) :
    Calls Try.prog 36 #[v, .int .i64 k] w fun e w' => e = .returned (.int .i64 (k + ks.length)) ∧ IntsOwn w' lo v (marks k ks.length) ∧ Below lo w w' := by
  obtain ⟨hlen, ⟨hv, hz⟩ | ⟨g, cap, cur, hv, hb, hg, hnc, hm, hs, ht⟩⟩ := h
  · subst hv
    rw [hz]
    refine (markNone_c none 0 k w).mono ?_
    rintro e w' ⟨rfl, rfl⟩
    exact ⟨by simp, World.ownsRow_nil w lo _ _, Below.refl _ _⟩
  · subst hv
    rw [Nat.mul_one] at hs ht
    refine (markRow_c g ks.length cap k cur w hg (by omega) hn (fun i hi => ⟨ks[i], ?_⟩) h0 h1).mono ?_
    · have : (cur.toList.take ks.length)[i]? = some (.int .i64 ks[i]) := by rw [ht]; simp [hi]
      rw [List.getElem?_take_of_lt hi] at this
      simpa using this
    · rintro e w' ⟨rfl, c', hg', hsz, hd, hgr⟩
      refine ⟨rfl, ⟨by simp [marks], .inr ⟨g, cap, c', by rw [marks_length], hb, hg', by rw [marks_length]; exact hnc, hm, by omega, ?_⟩⟩, (Below.refl lo w).grown hgr hl (fun b e => by cases e; exact hb)⟩
      apply List.ext_getElem?
      intro i
      rw [marks_length, Nat.mul_one]
      by_cases hi : i < ks.length
      · rw [List.getElem?_take_of_lt hi]
        have := hd i hi
        simp [marks, hi, this]
      · rw [List.getElem?_eq_none (by simp; omega), List.getElem?_eq_none (by simp [marks]; omega)]

/-- Looking whether the marks held. -/
theorem held_c (n : Nat) (v : Value) (k : Int) (w : World) (h : IntsAt w v (marks k n)) (hn : n ≤ 1048576) (h0 : 0 ≤ k) (h1 : k ≤ 1099511627776) :
    Calls Try.prog 51 #[v, .int .i64 k] w fun e w' => e = .returned (.int .i64 (k + n)) ∧ w = w' := by
  obtain ⟨a, cap, rfl, _, hat⟩ := h
  rw [marks_length] at hat ⊢
  have HAT := Lib.hid hat
  clear hat
  go_enter Try.func51, Try.ntmps51
  go_wp2_with fail
  go_loop [1, 5] (fun l i => ∃ (j : Nat), j ≤ n ∧ i = .int .i64 j ∧ l = .int .i64 (k + j)) (fun _ i => n - (intOf i).toNat)
  case atStart => exact ⟨0, Nat.zero_le _, rfl, by simp⟩
  case round =>
    obtain ⟨j, hj, rfl, rfl⟩ := hrel
    by_cases hlt : j < n
    · rcases HAT.out with h | ⟨b, o, rfl, hat⟩
      · have := congrArg List.length h; rw [marks_length] at this; simp at this; omega
      have ha := hat j hlt
      rw [marks_get k n j hlt] at ha
      have hne : ((k + (j : Int)) != k + (j : Int)) = false := by simp
      clear hat
      go_wp2_with fail
      go_round
      case rel => exact ⟨j + 1, by omega, by go_num, by go_num⟩
      case measure => simp [intOf]; omega
    · obtain rfl : j = n := by omega
      go_wp2_with fail
      go_ret
      exact ⟨rfl, rfl⟩

end Go.Proofs.Ytananonjomfpkaa

/- Trees in rows of a call's own, no two of which share a block. -/
namespace Go.Proofs.Ytananonjomfpkaa
open Go.RowKit

/-- Blocks. -/
abbrev Blocks := Nat → Prop
def ownB (v : Value) : Blocks := fun b => v.ownBlock = some b
def ApartB (P Q : Blocks) : Prop := ∀ b, P b → ¬ Q b

structure KidO where
  kv : Value
  cv : Value
  P : Blocks
  t : Tr
def KidO.pair (x : KidO) : Value × Value := (x.kv, x.cv)

inductive TreeO (w : World) (lo : Nat) : Blocks → Value → Value → Tr → Prop where
  | mk (ks : List Int) (kids : List KidO) (P : Blocks) (kv cv : Value)
      (hk : IntsOwn w lo kv ks) (hc : TreesOwn w lo cv (kids.map KidO.pair))
      (hkids : ∀ x, x ∈ kids → TreeO w lo x.P x.kv x.cv x.t)
      (sk : ∀ b, ownB kv b → P b) (sc : ∀ b, ownB cv b → P b) (ss : ∀ x, x ∈ kids → ∀ b, x.P b → P b)
      (ap : (ownB kv :: ownB cv :: kids.map KidO.P).Pairwise ApartB) (lt : ∀ b, P b → lo ≤ b ∧ b < w.heap.size) : TreeO w lo P kv cv (.mk ks (kids.map KidO.t))

theorem TreeO.parts {w : World} {lo : Nat} {P : Blocks} {kv cv : Value} {ks : List Int} {cs : List Tr} (h : TreeO w lo P kv cv (.mk ks cs)) : ∃ kids : List KidO, cs = kids.map KidO.t ∧
    IntsOwn w lo kv ks ∧ TreesOwn w lo cv (kids.map KidO.pair) ∧ (∀ x, x ∈ kids → TreeO w lo x.P x.kv x.cv x.t) ∧ (∀ b, ownB kv b → P b) ∧ (∀ b, ownB cv b → P b) ∧ (∀ x, x ∈ kids → ∀ b, x.P b → P b) ∧
    (ownB kv :: ownB cv :: kids.map KidO.P).Pairwise ApartB ∧ (∀ b, P b → lo ≤ b ∧ b < w.heap.size) := by
  cases h with
  | mk _ kids _ _ _ hk hc hkids sk sc ss ap lt => exact ⟨kids, rfl, hk, hc, hkids, sk, sc, ss, ap, lt⟩

theorem ownsRow_heldB {w w' : World} {lo : Nat} {e : TypeId} {c : Nat} {v : Value} {n : Nat} {xs : List Value} (h : w.ownsRow lo e c v n xs) (hb : ∀ b, ownB v b → w'.heap[b]? = w.heap[b]?) : w'.ownsRow lo e c v n xs := ownsRow_held h (fun k e => hb k e)

theorem TreeO.same {w w' : World} {lo : Nat} {P : Blocks} {kv cv : Value} {t : Tr} (h : TreeO w lo P kv cv t) (hz : w.heap.size ≤ w'.heap.size) (hb : ∀ b, P b → w'.heap[b]? = w.heap[b]?) : TreeO w' lo P kv cv t := by
  induction h with
  | mk ks kids P kv cv hk hc hkids sk sc ss ap lt ih =>
    exact .mk ks kids P kv cv (ownsRow_heldB hk (fun b e => hb b (sk b e))) (ownsRow_heldB hc (fun b e => hb b (sc b e))) (fun x hx => ih x hx (fun b e => hb b (ss x hx b e))) sk sc ss ap
      (fun b e => ⟨(lt b e).1, Nat.lt_of_lt_of_le (lt b e).2 hz⟩)

theorem TreeO.later {w w' : World} {lo C : Nat} {P : Blocks} {kv cv : Value} {t : Tr} (h : TreeO w lo P kv cv t) (hb : Below C w w') (hC : w.heap.size ≤ C) : TreeO w' lo P kv cv t := by
  refine h.same hb.size (fun b e => hb.block b ?_)
  cases h with
  | mk ks kids _ _ _ hk hc hkids sk sc ss ap lt => have := (lt b e).2; omega

theorem TreeO.lt {w : World} {lo : Nat} {P : Blocks} {kv cv : Value} {t : Tr} (h : TreeO w lo P kv cv t) : ∀ b, P b → lo ≤ b ∧ b < w.heap.size := by
  cases h with
  | mk ks kids _ _ _ hk hc hkids sk sc ss ap lt => exact lt

theorem ownsRow_lower {w : World} {lo lo' : Nat} {e : TypeId} {c : Nat} {v : Value} {n : Nat} {xs : List Value} (h : w.ownsRow lo e c v n xs) (hl : lo' ≤ lo) : w.ownsRow lo' e c v n xs := by
  obtain ⟨h1, h2 | ⟨g, cap, cur, hv, hb, hr⟩⟩ := h
  · exact ⟨h1, .inl h2⟩
  · exact ⟨h1, .inr ⟨g, cap, cur, hv, by omega, hr⟩⟩

theorem TreeO.lower {w : World} {lo lo' : Nat} {P : Blocks} {kv cv : Value} {t : Tr} (h : TreeO w lo P kv cv t) (hl : lo' ≤ lo) : TreeO w lo' P kv cv t := by
  induction h with
  | mk ks kids P kv cv hk hc hkids sk sc ss ap lt ih =>
    exact .mk ks kids P kv cv (ownsRow_lower hk hl) (ownsRow_lower hc hl) ih sk sc ss ap (fun b e => ⟨by have := (lt b e).1; omega, (lt b e).2⟩)

theorem TreeO.tree {w : World} {lo : Nat} {P : Blocks} {kv cv : Value} {t : Tr} (h : TreeO w lo P kv cv t) : TreeIn w w.heap.size kv cv t := by
  induction h with
  | mk ks kids P kv cv hk hc hkids sk sc ss ap lt ih =>
    obtain ⟨a, cap, rfl, hn, hm, hat⟩ := TreesOwn.kids hc
    have e1 : (kids.map KidO.pair).length = (kids.map KidO.t).length := by simp
    rw [e1] at hn hat ⊢
    refine .mk ks (kids.map KidO.t) _ a cap _ _ (IntsOwn.in hk) hn hm hat (fun i hi => ?_)
    simp at hi
    have := ih kids[i] (List.getElem_mem hi)
    simpa [hi, KidO.pair] using this

theorem TreeO.nil (w : World) (lo : Nat) : TreeO w lo (fun _ => False) (.slice none 0 0) (.slice none 0 0) (.mk [] []) :=
  .mk [] [] _ _ _ ⟨rfl, .inl ⟨rfl, rfl⟩⟩ ⟨rfl, .inl ⟨rfl, rfl⟩⟩ (fun x h => by cases h) (fun b h => by cases h) (fun b h => by cases h) (fun x h => by cases h)
    (List.pairwise_cons.2 ⟨fun _ _ b h => (by cases h), List.pairwise_cons.2 ⟨fun _ _ b h => (by cases h), List.Pairwise.nil⟩⟩) (fun b h => h.elim)

theorem TreeO.shown {w : World} {lo : Nat} {P : Blocks} {kv cv : Value} {ks : List Int} {cs : List Tr} (h : TreeO w lo P kv cv (.mk ks cs)) : ∃ a c a' c', kv = .slice a ks.length c ∧ cv = .slice a' cs.length c' := by
  obtain ⟨kids, rfl, hk, hc, _⟩ := h.parts
  obtain ⟨a, c, e⟩ := IntsOwn.shown hk
  obtain ⟨a', c', e'⟩ := TreesOwn.shown hc
  exact ⟨a, c, a', c', e, by simpa using e'⟩

/-- Pairwise apart, as a list splits. -/
theorem pair_mid {A B : List Blocks} {x : Blocks} (h : (A ++ x :: B).Pairwise ApartB) : (∀ y, y ∈ A → ApartB y x) ∧ (∀ y, y ∈ B → ApartB x y) := by
  rw [List.pairwise_append] at h
  exact ⟨fun y hy => h.2.2 y hy x (by simp), fun y hy => (List.pairwise_cons.1 h.2.1).1 y hy⟩

/-- A kid is opened: its place in the row, itself, and what it takes to put another tree in the same rows. -/
theorem TreeO.open {w : World} {lo : Nat} {P : Blocks} {kv cv : Value} {ks : List Int} {cs : List Tr} (h : TreeO w lo P kv cv (.mk ks cs)) (j : Nat) (hj : j < cs.length) :
    ∃ (b cap : Nat) (xk xc : Value) (Q : Blocks), cv = .slice (some ⟨b, 0, none⟩) cs.length cap ∧ P b ∧ ¬ Q b ∧ w.cell? ⟨b, j * 2, none⟩ = some xk ∧ w.cell? ⟨b, j * 2 + 1, none⟩ = some xc ∧
      TreeO w lo Q xk xc cs[j] ∧ (∀ q, Q q → P q) ∧
      ∀ (w' : World) (t' : Tr), w.heap.size ≤ w'.heap.size → (∀ q, P q → ¬ Q q → w'.heap[q]? = w.heap[q]?) → TreeO w' lo Q xk xc t' → TreeO w' lo P kv cv (.mk ks (cs.set j t')) := by
  obtain ⟨kids, rfl, hk, hc, hkids, sk, sc, ss, ap, lt⟩ := h.parts
  have hjk : j < kids.length := by simpa using hj
  have hc0 := hc
  obtain ⟨h1, ⟨h2, h3⟩ | ⟨g, cap, cur, hv, hb, hg, hn, hm, hs, ht⟩⟩ := hc
  · rw [List.length_map] at h3; omega
  subst hv
  have hx := List.getElem_mem hjk
  have hfg := flatT_get (kids.map KidO.pair) j (by simpa using hjk)
  have e1 := World.ownsRow.cellAt hc0 (j * 2) (by simp; omega)
  have e2 := World.ownsRow.cellAt hc0 (j * 2 + 1) (by simp; omega)
  rw [hfg.1] at e1
  rw [hfg.2] at e2
  simp [KidO.pair] at e1 e2
  have hsplit : kids.map KidO.P = (kids.take j).map KidO.P ++ kids[j].P :: (kids.drop (j + 1)).map KidO.P := by rw [← List.map_cons, ← List.map_append, List.getElem_cons_drop, List.take_append_drop]
  have hap := ap
  rw [hsplit, ← List.cons_append, ← List.cons_append] at hap
  have hmid := pair_mid hap
  have hcb : ∀ q, ownB (.slice (some ⟨g, 0, none⟩) (kids.map KidO.pair).length cap) q → ¬ kids[j].P q := fun q e => hmid.1 _ (by simp) q e
  have hkb : ∀ q, ownB kv q → ¬ kids[j].P q := fun q e => hmid.1 _ (by simp) q e
  refine ⟨g, cap, kids[j].kv, kids[j].cv, kids[j].P, by simp, sc g rfl, hcb g rfl, e1, e2, by simpa using hkids _ hx, ss _ hx, fun w' t' hz hw ht' => ?_⟩
  have hset : (kids.map KidO.t).set j t' = (kids.set j { kids[j] with t := t' }).map KidO.t := by rw [List.map_set]
  have hp : (kids.set j { kids[j] with t := t' }).map KidO.pair = kids.map KidO.pair := by
    rw [List.map_set]
    apply List.ext_getElem (by simp)
    intro i _ h2
    rw [List.getElem_set]
    split
    · subst j; simp [KidO.pair]
    · rfl
  have hP : (kids.set j { kids[j] with t := t' }).map KidO.P = kids.map KidO.P := by
    rw [List.map_set]
    apply List.ext_getElem (by simp)
    intro i _ h2
    rw [List.getElem_set]
    split
    · subst j; simp
    · rfl
  have hmem : ∀ x, x ∈ kids.set j { kids[j] with t := t' } → (x = { kids[j] with t := t' }) ∨ ∃ i, ∃ hi : i < kids.length, i ≠ j ∧ x = kids[i] := fun x hx => by
    obtain ⟨i, hi, rfl⟩ := List.mem_iff_getElem.1 hx
    rw [List.getElem_set]
    split
    · exact .inl rfl
    · exact .inr ⟨i, by simpa using hi, fun e => by omega, rfl⟩
  rw [hset]
  have hapk : ∀ i (hi : i < kids.length), i ≠ j → ∀ q, kids[i].P q → ¬ kids[j].P q := fun i hi hne q hq => by
    rcases Nat.lt_or_ge i j with hlt | hge
    · exact hmid.1 kids[i].P (by
        refine List.mem_append_right [_, _] (List.mem_map.2 ⟨kids[i], ?_, rfl⟩)
        exact List.mem_iff_getElem.2 ⟨i, by simp; omega, by simp⟩) q hq
    · intro hq'
      exact hmid.2 kids[i].P (List.mem_map.2 ⟨kids[i], List.mem_iff_getElem.2 ⟨i - (j + 1), by simp; omega, by simp; congr 1; omega⟩, rfl⟩) q hq' hq
  refine .mk ks _ P kv _ (ownsRow_heldB hk (fun q e => hw q (sk q e) (hkb q e))) (by rw [hp]; exact ownsRow_heldB hc0 (fun q e => hw q (sc q e) (hcb q e))) (fun x hx => ?_) sk sc (fun x hx => ?_) (by rw [hP]; exact ap) (fun b e => ⟨(lt b e).1, Nat.lt_of_lt_of_le (lt b e).2 hz⟩)
  · rcases hmem x hx with rfl | ⟨i, hi, hne, rfl⟩
    · exact ht'
    · exact (hkids _ (List.getElem_mem hi)).same hz (fun q hq => hw q (ss _ (List.getElem_mem hi) q hq) (hapk i hi hne q hq))
  · rcases hmem x hx with rfl | ⟨i, hi, hne, rfl⟩
    · exact ss kids[j] (List.getElem_mem hjk)
    · exact ss _ (List.getElem_mem hi)

/-- Other keys in the same row of keys. -/
theorem TreeO.keys {w w' : World} {lo : Nat} {P : Blocks} {kv cv : Value} {ks ks' : List Int} {cs : List Tr} (h : TreeO w lo P kv cv (.mk ks cs)) (hz : w.heap.size ≤ w'.heap.size) (hb : ∀ b, P b → ¬ ownB kv b → w'.heap[b]? = w.heap[b]?) (hk' : IntsOwn w' lo kv ks') :
    TreeO w' lo P kv cv (.mk ks' cs) := by
  obtain ⟨kids, rfl, hk, hc, hkids, sk, sc, ss, ap, lt⟩ := h.parts
  have hap := List.pairwise_cons.1 ap
  refine .mk ks' kids P kv cv hk' (ownsRow_heldB hc (fun b e => hb b (sc b e) (fun g => hap.1 (ownB cv) (by simp) b g e))) (fun x hx => (hkids x hx).same hz (fun b e => hb b (ss x hx b e) (fun g => hap.1 x.P (List.mem_cons_of_mem _ (List.mem_map_of_mem hx)) b g e))) sk sc ss ap
    (fun b e => ⟨(lt b e).1, Nat.lt_of_lt_of_le (lt b e).2 hz⟩)

/-- One kid more, its row behind the others or in a block that is new. -/
theorem TreeO.push {w w' : World} {lo : Nat} {P Q : Blocks} {kv cv v' xk xc : Value} {ks : List Int} {kids : List KidO} {u : Tr}
    (hk : IntsOwn w lo kv ks) (hkids : ∀ x, x ∈ kids → TreeO w lo x.P x.kv x.cv x.t) (sk : ∀ b, ownB kv b → P b) (sc : ∀ b, ownB cv b → P b) (ss : ∀ x, x ∈ kids → ∀ b, x.P b → P b)
    (ap : (ownB kv :: ownB cv :: kids.map KidO.P).Pairwise ApartB) (lt : ∀ b, P b → lo ≤ b ∧ b < w.heap.size) (hz : w.heap.size ≤ w'.heap.size)
    (hb : ∀ b, P b → ¬ ownB cv b → w'.heap[b]? = w.heap[b]?) (hx : TreeO w' lo Q xk xc u) (hQ : ∀ b, Q b → w.heap.size ≤ b)
    (hrow : TreesOwn w' lo v' (kids.map KidO.pair ++ [(xk, xc)])) (hv : ∀ b, ownB v' b → ownB cv b ∨ (w.heap.size ≤ b ∧ ¬ Q b)) :
    TreeO w' lo (fun b => P b ∨ Q b ∨ ownB v' b) kv v' (.mk ks (kids.map KidO.t ++ [u])) ∧ (∀ b, (P b ∨ Q b ∨ ownB v' b) → P b ∨ w.heap.size ≤ b) := by
  have hap := List.pairwise_cons.1 ap
  have hap2 := List.pairwise_cons.1 hap.2
  have hPQ : ∀ b, P b → ¬ Q b := fun b h1 h2 => by have := (lt b h1).2; have := hQ b h2; omega
  have he : kids.map KidO.t ++ [u] = (kids ++ [(⟨xk, xc, Q, u⟩ : KidO)]).map KidO.t := by simp
  rw [he]
  refine ⟨.mk ks (kids ++ [⟨xk, xc, Q, u⟩]) _ kv v' (ownsRow_heldB hk (fun b e => hb b (sk b e) (fun g => hap.1 (ownB cv) (by simp) b e g))) (by rw [List.map_append]; exact hrow) (fun x h => ?_) (fun b e => .inl (sk b e)) (fun b e => .inr (.inr e)) (fun x h b e => ?_) ?_ (fun b e => ?_), fun b e => ?_⟩
  · rcases List.mem_append.1 h with h | h
    · exact (hkids x h).same hz (fun b e => hb b (ss x h b e) (fun g => hap2.1 x.P (List.mem_map_of_mem h) b g e))
    · simp at h; subst h; exact hx
  · rcases List.mem_append.1 h with h | h
    · exact .inl (ss x h b e)
    · simp at h; subst h; exact .inr (.inl e)
  · have hvP : ∀ R : Blocks, (∀ b, R b → P b) → (∀ b, ownB cv b → ¬ R b) → ∀ b, ownB v' b → ¬ R b := fun R h1 h2 b e g => by
      rcases hv b e with h | h
      · exact h2 b h g
      · have := (lt b (h1 b g)).2; omega
    rw [List.map_append, List.map_cons, List.map_nil]
    refine List.pairwise_cons.2 ⟨fun R hR => ?_, List.pairwise_cons.2 ⟨fun R hR => ?_, ?_⟩⟩
    · simp only [List.mem_cons, List.mem_append, List.not_mem_nil, or_false] at hR
      rcases hR with rfl | hR | rfl
      · intro b e g; exact hvP (ownB kv) sk (fun b h1 h2 => hap.1 (ownB cv) (by simp) b h2 h1) b g e
      · exact hap.1 R (List.mem_cons_of_mem _ hR)
      · exact fun b e => hPQ b (sk b e)
    · simp only [List.mem_append, List.mem_cons, List.not_mem_nil, or_false] at hR
      rcases hR with hR | rfl
      · obtain ⟨x, hx', rfl⟩ := List.mem_map.1 hR
        exact hvP x.P (ss x hx') (hap2.1 x.P hR)
      · intro b e g
        rcases hv b e with h | h
        · exact hPQ b (sc b h) g
        · exact h.2 g
    · refine List.pairwise_append.2 ⟨hap2.2, List.pairwise_singleton _ _, fun R hR S hS => ?_⟩
      simp only [List.mem_cons, List.not_mem_nil, or_false] at hS
      subst hS
      obtain ⟨x, hx', rfl⟩ := List.mem_map.1 hR
      exact fun b e => hPQ b (ss x hx' b e)
  · rcases e with e | e | e
    · exact ⟨(lt b e).1, Nat.lt_of_lt_of_le (lt b e).2 hz⟩
    · exact hx.lt b e
    · exact hrow.lt b e
  · rcases e with e | e | e
    · exact .inl e
    · exact .inr (hQ b e)
    · rcases hv b e with h | h
      · exact .inl (sc b h)
      · exact .inr h.1

namespace Tr
mutual
/-- How many keys a tree has. -/
def nkeys : Tr → Nat
  | .mk k c => k.length + nkeysL c
def nkeysL : List Tr → Nat
  | [] => 0
  | t :: r => nkeys t + nkeysL r
end
mutual
/-- The tree with marks in place of its keys. -/
def remark (k : Int) : Tr → Tr
  | .mk ks cs => .mk (marks k ks.length) (remarks (k + ks.length) cs)
def remarks (k : Int) : List Tr → List Tr
  | [] => []
  | t :: r => remark k t :: remarks (k + nkeys t) r
end
theorem nkeysL_append (a b : List Tr) : nkeysL (a ++ b) = nkeysL a + nkeysL b := by
  induction a with
  | nil => simp [nkeysL]
  | cons t r ih => simp only [List.cons_append, nkeysL, ih]; omega
theorem remarks_append (k : Int) (a b : List Tr) : remarks k (a ++ b) = remarks k a ++ remarks (k + nkeysL a) b := by
  induction a generalizing k with
  | nil => simp [remarks, nkeysL]
  | cons t r ih =>
    simp only [List.cons_append, remarks, ih, nkeysL]
    rw [show k + (nkeys t : Int) + (nkeysL r : Int) = k + ((nkeys t + nkeysL r : Nat) : Int) by omega]
theorem remarks_length (k : Int) (a : List Tr) : (remarks k a).length = a.length := by
  induction a generalizing k with
  | nil => rfl
  | cons t r ih => simp [remarks, ih]
mutual
theorem nkeys_le : ∀ t : Tr, nkeys t ≤ t.weight
  | .mk k c => by have := nkeysL_le c; simp only [nkeys, weight]; omega
theorem nkeysL_le : ∀ c : List Tr, nkeysL c ≤ weights c
  | [] => by simp [nkeysL]
  | t :: r => by have := nkeys_le t; have := nkeysL_le r; simp only [nkeysL, weights]; omega
end
theorem nkeysL_take_le (cs : List Tr) (j : Nat) : nkeysL (cs.take j) ≤ nkeysL cs := by
  have := nkeysL_append (cs.take j) (cs.drop j)
  rw [List.take_append_drop] at this
  omega
theorem nkeysL_take_succ (cs : List Tr) (j : Nat) (h : j < cs.length) : nkeysL (cs.take (j + 1)) = nkeysL (cs.take j) + nkeys cs[j] := by
  rw [← List.take_append_getElem h, nkeysL_append]; simp [nkeysL]
/-- The first j kids with marks. -/
def upTo (k : Int) (j : Nat) (cs : List Tr) : List Tr := remarks k (cs.take j) ++ cs.drop j
theorem upTo_zero (k : Int) (cs : List Tr) : upTo k 0 cs = cs := by simp [upTo, remarks]
theorem upTo_all (k : Int) (cs : List Tr) : upTo k cs.length cs = remarks k cs := by simp [upTo]
theorem upTo_length (k : Int) (j : Nat) (cs : List Tr) : (upTo k j cs).length = cs.length := by simp [upTo, remarks_length]; omega
theorem upTo_get (k : Int) (j : Nat) (cs : List Tr) (h : j < cs.length) : (upTo k j cs)[j]'(by rw [upTo_length]; exact h) = cs[j] := by
  have hl : (remarks k (cs.take j)).length = j := by simp [remarks_length]; omega
  simp only [upTo]
  rw [List.getElem_append_right (by omega)]
  simp [hl]
theorem upTo_succ (k : Int) (j : Nat) (cs : List Tr) (h : j < cs.length) : (upTo k j cs).set j (remark (k + nkeysL (cs.take j)) cs[j]) = upTo k (j + 1) cs := by
  have hl : (remarks k (cs.take j)).length = j := by simp [remarks_length]; omega
  simp only [upTo]
  rw [List.set_append_right _ _ (by omega), hl, Nat.sub_self, ← List.getElem_cons_drop h, List.set_cons_zero, ← List.take_append_getElem h, remarks_append]
  simp [remarks]
theorem remarks_get (k : Int) (cs : List Tr) (j : Nat) (h : j < cs.length) : (remarks k cs)[j]'(by rw [remarks_length]; exact h) = remark (k + nkeysL (cs.take j)) cs[j] := by
  have h2 : remarks k cs = remarks k (cs.take j) ++ remark (k + nkeysL (cs.take j)) cs[j] :: remarks (k + nkeysL (cs.take j) + nkeys cs[j]) (cs.drop (j + 1)) := by
    conv => lhs; rw [← List.take_append_drop j cs, remarks_append, ← List.getElem_cons_drop h]
    simp [remarks]
  have hl : (remarks k (cs.take j)).length = j := by simp [remarks_length]; omega
  simp only [h2]
  rw [List.getElem_append_right (by omega)]
  simp [hl]
mutual
theorem remark_weight (k : Int) : ∀ t : Tr, (remark k t).weight = t.weight
  | .mk ks cs => by simp only [remark, weight, marks_length, remarks_weights]
theorem remarks_weights (k : Int) : ∀ cs : List Tr, weights (remarks k cs) = weights cs
  | [] => rfl
  | t :: r => by simp only [remarks, weights, remark_weight, remarks_weights]
end
end Tr
end Go.Proofs.Ytananonjomfpkaa
