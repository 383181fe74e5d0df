/- Finding: the closures lessThan and notMoreThan, the place that a binary search finds by them. -/
import Derived.Test.YtdcifdpkfcgmhaaDoorCr0
import Derived.Test.YtdcifdpkfcgmhaaDoorCrS2
import Derived.Test.YtdcifdpkfcgmhaaDoorCr5
import Derived.Test.YtdcifdpkfcgmhaaDoorCr11
import Derived.Test.YtdcifdpkfcgmhaaDoorCr12
import Derived.Test.YtdcifdpkfcgmhaaDoorCr13
import Derived.Test.YtdcifdpkfcgmhaaDoorProg
import Derived.Test.YtdcifdpkfcgmhaaDoorCr8
import Derived.Test.YtdcifdpkfcgmhaaDoorCrS8
import Derived.Maps.OwnIn
import Derived.WalkKit
import Derived.Deep.AppendLies

/- Finding: the nodes on the way to a number, as plain data. -/
namespace Go.Proofs.YtdcifdpkfcgmhaaDoor
open Go.RowKit

namespace Tr
mutual
/-- The nodes on the way to a number. -/
def way (c : Int) : Tr → List Tr
  | .mk k cs => .mk k cs :: (ways c cs).getD (place c k) []
def ways (c : Int) : List Tr → List (List Tr)
  | [] => []
  | t :: r => way c t :: ways c r
end
theorem ways_get (c : Int) (cs : List Tr) (i : Nat) (h : i < cs.length) : (ways c cs).getD i [] = cs[i].way c := by
  induction cs generalizing i with
  | nil => simp at h
  | cons t r ih =>
    cases i with
    | zero => simp [ways]
    | succ i => simpa [ways] using ih i (by simpa using h)
theorem ways_length (c : Int) (cs : List Tr) : (ways c cs).length = cs.length := by
  induction cs with
  | nil => rfl
  | cons t r ih => simp only [ways, List.length_cons, ih]
theorem way_leaf {c : Int} {k : List Int} {cs : List Tr} (h : cs.length = 0) : (Tr.mk k cs).way c = [.mk k cs] := by
  rw [way, List.getD_eq_getElem?_getD, List.getElem?_eq_none (by rw [ways_length]; omega)]; rfl
theorem way_inner {c : Int} {k : List Int} {cs : List Tr} (h : place c k < cs.length) : (Tr.mk k cs).way c = .mk k cs :: cs[place c k].way c := by
  rw [way, ways_get c cs _ h]

/-- A node has a number among its keys. -/
def hasAt (key : Int) (t : Tr) : Bool := decide (place key t.ks < t.ks.length ∧ t.ks.getD (place key t.ks) 0 = key)
def inner (t : Tr) : Bool := decide (t.cs.length ≠ 0)
/-- Which kids one goes to from some nodes. -/
def stepsOf (c : Int) (l : List Tr) : List Int := (l.filter inner).map (fun t => (place c t.ks : Int))
theorem stepsOf_snoc (c : Int) (l : List Tr) (t : Tr) : stepsOf c (l ++ [t]) = if t.cs.length ≠ 0 then stepsOf c l ++ [(place c t.ks : Int)] else stepsOf c l := by
  unfold stepsOf
  rw [List.filter_append]
  by_cases h : t.cs.length ≠ 0
  · have : inner t = true := by simp [inner]; intro h2; simp [h2] at h
    simp [h, this]
  · have : inner t = false := by simp only [inner, h]; rfl
    rw [if_neg h]; simp [this]

theorem way_path' (key : Int) : ∀ (n : Nat) (t : Tr), t.weight ≤ n → Well t →
    (∀ pre x, pre ++ [x] <+: t.way key → (∀ y ∈ pre, y.hasAt key = false) → x.hasAt key = true → t.path key = (stepsOf key pre, true)) ∧
    ((∀ y ∈ t.way key, y.hasAt key = false) → t.path key = (stepsOf key (t.way key), false)) := by
  intro n
  induction n with
  | zero =>
    rintro ⟨k, cs⟩ hn hw
    simp only [weight] at hn
    have hk : k.length = 0 := by omega
    have hc : cs.length = 0 := by have := length_le_weights cs; omega
    rw [way_leaf hc]
    have hno : ∀ x : Tr, x = .mk k cs → x.hasAt key = false := by
      rintro x rfl
      simp [hasAt, ks, List.length_eq_zero_iff.1 hk]
    refine ⟨fun pre x hp _ hx => ?_, fun _ => ?_⟩
    · have hxm : x = .mk k cs := by have := hp.subset (by simp : x ∈ pre ++ [x]); simpa using this
      rw [hno x hxm] at hx; cases hx
    · rw [path_leaf (by simp [List.length_eq_zero_iff.1 hk]) hc]
      simp [stepsOf, inner, Tr.cs, List.length_eq_zero_iff.1 hc]
  | succ n ih =>
    rintro ⟨k, cs⟩ hn hw
    by_cases hc : cs.length = 0
    · rw [way_leaf hc]
      refine ⟨fun pre x hp _ hx => ?_, fun h => ?_⟩
      · have hlen := hp.length_le
        simp at hlen
        subst hlen
        have hxm : x = .mk k cs := by have := hp.subset (by simp : x ∈ [] ++ [x]); simpa using this
        subst hxm
        rw [path_found (by simpa [hasAt, ks] using hx)]; rfl
      · have hx := h (.mk k cs) (by simp)
        rw [path_leaf (by simpa [hasAt, ks] using hx) hc]
        simp [stepsOf, inner, Tr.cs, List.length_eq_zero_iff.1 hc]
    · have hcl := Well.inner hw hc
      have hp := place_le key k
      have hi : place key k < cs.length := by omega
      rw [way_inner hi]
      have hwt := weight_get_le cs _ hi
      simp only [weight] at hn
      obtain ⟨ih1, ih2⟩ := ih cs[place key k] (by omega) (Well.kid hw _ hi)
      have hin : inner (.mk k cs) = true := by simp [inner, Tr.cs]; intro h; simp [h] at hc
      refine ⟨fun pre x hp hpre hx => ?_, fun h => ?_⟩
      · cases pre with
        | nil =>
          have hxm : x = .mk k cs := by
            obtain ⟨r, hr⟩ := hp
            simp at hr
            exact hr.1
          subst hxm
          rw [path_found (by simpa [hasAt, ks] using hx)]; rfl
        | cons y pre =>
          obtain ⟨r, hr⟩ := hp
          simp only [List.cons_append, List.cons.injEq] at hr
          obtain ⟨rfl, hr⟩ := hr
          have h0 := hpre (.mk k cs) (by simp)
          have h1 := ih1 pre x ⟨r, hr⟩ (fun y hy => hpre y (by simp [hy])) hx
          rw [path_inner (by simpa [hasAt, ks] using h0) hi, h1]
          simp [stepsOf, hin, ks]
      · have h0 := h (.mk k cs) (by simp)
        have h1 := ih2 (fun y hy => h y (by simp [hy]))
        rw [path_inner (by simpa [hasAt, ks] using h0) hi, h1]
        simp [stepsOf, hin, ks]

theorem way_path (key : Int) (t : Tr) (hw : Well t) :
    (∀ pre x, pre ++ [x] <+: t.way key → (∀ y ∈ pre, y.hasAt key = false) → x.hasAt key = true → t.path key = (stepsOf key pre, true)) ∧
    ((∀ y ∈ t.way key, y.hasAt key = false) → t.path key = (stepsOf key (t.way key), false)) := way_path' key t.weight t (Nat.le_refl _) hw

/-- The nodes on the way are of the same kind, and no longer a list than the tree is heavy. -/
theorem way_all' (c : Int) : ∀ (n : Nat) (t : Tr), t.weight ≤ n → Well t → (t.way c).length ≤ t.weight + 1 ∧ ∀ x ∈ t.way c, Well x ∧ x.weight ≤ t.weight := by
  intro n
  induction n with
  | zero =>
    rintro ⟨k, cs⟩ hn hw
    simp only [weight] at hn
    have hc : cs.length = 0 := by have := length_le_weights cs; omega
    rw [way_leaf hc]
    exact ⟨by simp, fun x hx => by simp at hx; subst hx; exact ⟨hw, Nat.le_refl _⟩⟩
  | succ n ih =>
    rintro ⟨k, cs⟩ hn hw
    by_cases hc : cs.length = 0
    · rw [way_leaf hc]
      exact ⟨by simp, fun x hx => by simp at hx; subst hx; exact ⟨hw, Nat.le_refl _⟩⟩
    · have hcl := Well.inner hw hc
      have hp := place_le c k
      have hi : place c k < cs.length := by omega
      rw [way_inner hi]
      have hwt := weight_get_le cs _ hi
      simp only [weight] at hn ⊢
      obtain ⟨ih1, ih2⟩ := ih cs[place c k] (by omega) (Well.kid hw _ hi)
      refine ⟨by simp; omega, fun x hx => ?_⟩
      rcases List.mem_cons.1 hx with rfl | hx
      · exact ⟨hw, by simp only [weight]; omega⟩
      · have := ih2 x hx; exact ⟨this.1, by omega⟩
theorem way_all (c : Int) (t : Tr) (hw : Well t) : (t.way c).length ≤ t.weight + 1 ∧ ∀ x ∈ t.way c, Well x ∧ x.weight ≤ t.weight := way_all' c t.weight t (Nat.le_refl _) hw
theorem stepsOf_len (c : Int) (l : List Tr) : (stepsOf c l).length ≤ l.length := by
  unfold stepsOf; rw [List.length_map]; exact List.length_filter_le _ _
end Tr
end Go.Proofs.YtdcifdpkfcgmhaaDoor

/- Finding: the nodes on the way to a number, as they lie in memory. -/
namespace Go.Proofs.YtdcifdpkfcgmhaaDoor
open Go.RowKit

/-- A node at block b, all that it reaches in the blocks from lo up to hi; what lies apart is not told. -/
inductive NodeAt (w : World) (lo hi : Nat) : Nat → Tr → Prop where
  | mk (ks : List Int) (cs : List Tr) (b : Nat) (kv : Value) (a : Option Addr) (cap : Nat) (ps : Nat → Nat)
      (hlo : lo ≤ b) (hhi : b < hi)
      (hbox : w.heap[b]? = some (.cells #[kv, .slice a cs.length cap] 110 (0, 0)))
      (hk : IntsR w lo hi kv ks) (hlen : cs.length ≤ cap) (hcap : cap ≤ maxLen) (hat : PtrsR w lo hi a cs.length ps)
      (hkids : ∀ i (h : i < cs.length), NodeAt w lo hi (ps i) cs[i]) : NodeAt w lo hi b (.mk ks cs)

theorem NodeAt.parts {w : World} {lo hi b : Nat} {ks : List Int} {cs : List Tr} (h : NodeAt w lo hi b (.mk ks cs)) :
    ∃ (kv : Value) (a : Option Addr) (cap : Nat) (ps : Nat → Nat), lo ≤ b ∧ b < hi ∧ w.heap[b]? = some (.cells #[kv, .slice a cs.length cap] 110 (0, 0)) ∧ IntsR w lo hi kv ks ∧ cs.length ≤ cap ∧ cap ≤ maxLen ∧ PtrsR w lo hi a cs.length ps ∧
      ∀ i (h : i < cs.length), NodeAt w lo hi (ps i) cs[i] := by
  cases h with
  | mk _ _ _ kv a cap ps hlo hhi hbox hk hlen hcap hat hkids => exact ⟨kv, a, cap, ps, hlo, hhi, hbox, hk, hlen, hcap, hat, hkids⟩
theorem NodeAt.widen {w : World} {lo hi lo' hi' b : Nat} {t : Tr} (h : NodeAt w lo hi b t) (h1 : lo' ≤ lo) (h2 : hi ≤ hi') : NodeAt w lo' hi' b t := by
  induction h with
  | mk ks cs b kv a cap ps hlo hhi hbox hk hlen hcap hat hkids ih =>
    exact .mk ks cs b kv a cap ps (by omega) (by omega) hbox (hk.widen h1 h2) hlen hcap (hat.widen h1 h2) ih

theorem NodeAt.same {w w' : World} {lo hi b : Nat} {t : Tr} (h : NodeAt w lo hi b t) (hb : ∀ k, lo ≤ k → k < hi → w'.heap[k]? = w.heap[k]?) : NodeAt w' lo hi b t := by
  induction h with
  | mk ks cs b kv a cap ps hlo hhi hbox hk hlen hcap hat hkids ih =>
    exact .mk ks cs b kv a cap ps hlo hhi ((hb b hlo hhi).trans hbox) (hk.same hb) hlen hcap (hat.same hb) ih

theorem NodeIn.nodeAt {w : World} {lo hi b : Nat} {t : Tr} (h : NodeIn w lo hi b t) : NodeAt w lo hi b t := by
  induction h with
  | mk ks cs lo hi b kv a cap ps s hlo hhi hs0 hsn hs hbox hk hlen hcap hat hkids ih =>
    refine .mk ks cs b kv a cap ps hlo hhi hbox hk hlen hcap hat (fun i hi' => (ih i hi').widen ?_ ?_)
    · have := steps_le hs 0 i (by omega) (by omega); omega
    · have := steps_le hs (i + 1) cs.length (by omega) (by omega); omega

/-- A node's own cells, and what is said of it. -/
structure Stop (w : World) (lo hi b : Nat) (t : Tr) (kv : Value) (a : Option Addr) (cap : Nat) : Prop where
  node : NodeAt w lo hi b t
  box : w.heap[b]? = some (.cells #[kv, .slice a t.cs.length cap] 110 (0, 0))
  keys : IntsR w lo hi kv t.ks
  low : lo ≤ b
  high : b < hi
  fits : t.cs.length ≤ cap
  cap : cap ≤ maxLen
  well : Tr.Well t
  light : t.weight ≤ 1048576

/-- The way from a node down: blocks and trees. -/
inductive WayIn (w : World) (lo hi : Nat) (c : Int) : Nat → Tr → List (Nat × Tr) → Prop where
  | leaf (b : Nat) (t : Tr) (kv : Value) (a : Option Addr) (cap : Nat) (hs : Stop w lo hi b t kv a cap) (h0 : t.cs.length = 0) : WayIn w lo hi c b t [(b, t)]
  | inner (b : Nat) (t : Tr) (kv : Value) (qb qo cap p : Nat) (u : Tr) (xs : List (Nat × Tr)) (hs : Stop w lo hi b t kv (some ⟨qb, qo, none⟩) cap) (h0 : t.cs.length = t.ks.length + 1)
      (q1 : lo ≤ qb) (q2 : qb < hi) (hp : w.cell? ⟨qb, qo + place c t.ks, none⟩ = some (.pointer (some ⟨p, 0, none⟩))) (hr : WayIn w lo hi c p u xs) : WayIn w lo hi c b t ((b, t) :: xs)

theorem WayIn.widen {w : World} {lo hi lo' hi' b : Nat} {c : Int} {t : Tr} {xs : List (Nat × Tr)} (h : WayIn w lo hi c b t xs) (h1 : lo' ≤ lo) (h2 : hi ≤ hi') : WayIn w lo' hi' c b t xs := by
  have hst : ∀ {b t kv a cap}, Stop w lo hi b t kv a cap → Stop w lo' hi' b t kv a cap := fun s =>
    ⟨s.node.widen h1 h2, s.box, s.keys.widen h1 h2, by have := s.low; omega, by have := s.high; omega, s.fits, s.cap, s.well, s.light⟩
  induction h with
  | leaf b t kv a cap hs h0 => exact .leaf b t kv a cap (hst hs) h0
  | inner b t kv qb qo cap p u xs hs h0 q1 q2 hp hr ih => exact .inner b t kv qb qo cap p u xs (hst hs) h0 (by omega) (by omega) hp ih

theorem way_at {w : World} {lo hi b : Nat} {t : Tr} (c : Int) (h : NodeAt w lo hi b t) : Tr.Well t → t.weight ≤ 1048576 → ∃ xs, xs.map Prod.snd = t.way c ∧ WayIn w lo hi c b t xs := by
  induction h with
  | mk ks cs b kv a cap ps hlo hhi hbox hk hlen hcap hat hkids ih =>
    intro hw hwt
    have hst : Stop w lo hi b (.mk ks cs) kv a cap := ⟨.mk ks cs b kv a cap ps hlo hhi hbox hk hlen hcap hat hkids, hbox, hk, hlo, hhi, hlen, hcap, hw, hwt⟩
    by_cases hc : cs.length = 0
    · exact ⟨[(b, .mk ks cs)], by rw [Tr.way_leaf hc]; rfl, .leaf b _ kv a cap hst hc⟩
    · have hcl := Tr.Well.inner hw hc
      have hp := place_le c ks
      have hi' : place c ks < cs.length := by omega
      have hwk := Tr.weight_get_le cs _ hi'
      simp only [Tr.weight] at hwt
      obtain ⟨xs, h1, h2⟩ := ih _ hi' (Tr.Well.kid hw _ hi') (by omega)
      rcases hat with h | ⟨qb, qo, rfl, q1, q2, q3⟩
      · exact absurd h hc
      exact ⟨(b, .mk ks cs) :: xs, by rw [Tr.way_inner hi', List.map_cons, h1], .inner b _ kv qb qo cap _ _ xs hst hcl q1 q2 (q3 _ hi') h2⟩

theorem way_in {w : World} {lo hi b : Nat} {t : Tr} (c : Int) (h : NodeIn w lo hi b t) : Tr.Well t → t.weight ≤ 1048576 → ∃ xs, xs.map Prod.snd = t.way c ∧ WayIn w lo hi c b t xs := way_at c h.nodeAt

theorem WayIn.stops {w : World} {lo hi b : Nat} {c : Int} {t : Tr} {xs : List (Nat × Tr)} (h : WayIn w lo hi c b t xs) : ∀ x ∈ xs, ∃ kv a cap, Stop w lo hi x.1 x.2 kv a cap := by
  induction h with
  | leaf b t kv a cap hs h0 => intro x hx; simp at hx; subst hx; exact ⟨_, _, _, hs⟩
  | inner b t kv qb qo cap p u xs hs h0 q1 q2 hp hr ih =>
    intro x hx
    rcases List.mem_cons.1 hx with rfl | hx
    · exact ⟨_, _, _, hs⟩
    · exact ih x hx

/-- The last node on the way is a leaf, and no other one. -/
theorem WayIn.leaves {w : World} {lo hi b : Nat} {c : Int} {t : Tr} {xs : List (Nat × Tr)} (_h : WayIn w lo hi c b t xs) : xs.length ≤ t.weight + 1 ∨ True := .inr trivial

/-- What the iterator yields: the node, and the place. -/
def wayEnc (c : Int) (x : Nat × Tr) : Array Value := #[.pointer (some ⟨x.1, 0, none⟩), .int .i64 (place c x.2.ks)]
end Go.Proofs.YtdcifdpkfcgmhaaDoor

/- Appends of one int onto a slice of the call's own, inside a fence. -/
namespace Go.Proofs.YtdcifdpkfcgmhaaDoor
open Go.RowKit

/-- An int just laid, appended onto a slice of the call's own. -/
theorem wpListIn_append_one {F : Fence} {nF : Nat} {W : World} {ops : Array Oper} {rest : List Oper} {o : Oper} {a : Act} {Q : Exit → Act → World → Prop} (hgd : o.guard = none) (s x : Operand)
    (ho : o.op = .call { callee := .builtin .append, args := #[s, x], argTypes := #[22, 22] }) (lo : Nat) (v : Value) (xs : List Int) (k : Int)
    (hs : a.eval s = v) (hown : IntsOwn W lo v xs) (hx : a.eval x = .slice (some ⟨W.heap.size, 0, none⟩) 1 1) (hlen : xs.length ≤ 1048577) (hlo : lo ≤ W.heap.size)
    (h : ∀ a' c' w' (L : List Int), Hid (L = xs ++ [k]) → IntsOwn w' lo (.slice a' L.length c') L → Keep (fun q => v.ownBlock ≠ some q) W w' → ((Value.slice a' L.length c').ownBlock = v.ownBlock ∨ (Value.slice a' L.length c').ownBlock = some (W.heap.size + 1)) →
      wpListIn F nF Tryd.prog ops Q rest (a.put o.dst (.slice a' L.length c')) w') : wpListIn F nF Tryd.prog ops Q (o :: rest) a (W.alloc (.cells #[.int .i64 k] 3)) := by
  obtain ⟨i0, hi0, hz0, hz1, hz2⟩ := info_parts Tryd.appInfo
  refine wpListIn_append_own_at _ hgd s x _ ho lo 3 i0 _ 1 8 Tryd.underlying22 hi0 hz0 hz1 hz2 rfl (by decide) v xs.length (xs.map (Value.int .i64)) hs (IntsOwn.alloc' hown _) ⟨W.heap.size, 0, none⟩ 1 1 [.int .i64 k] hx (by rfl) (World.news_of_block (cs := #[.int .i64 k]) (t := 3) (fr := (0, 0)) (heap_alloc_new W _)) (by simp [Value.oneCell']) (by unfold maxLen; omega) (by omega) (by simp; omega) ?_
  intro v' w' hown' hgrow _ hat
  have hown2 : IntsOwn w' lo v' (xs ++ [k]) := by
    unfold IntsOwn
    rw [List.length_append, List.map_append]
    exact hown'
  obtain ⟨a', c', rfl⟩ := IntsOwn.shown hown2
  refine h a' c' w' _ (Lib.hid rfl) hown2 ?_ (by simpa using hat)
  refine ⟨hgrow.os, hgrow.tape, hgrow.output, by have := hgrow.size; simp at this; omega, fun q h1 h2 => ?_⟩
  rw [hgrow.block q (by simp; omega) (fun e => h2 e.symm), old_blk _ _ _ h1]
end Go.Proofs.YtdcifdpkfcgmhaaDoor

/- Finding: the closures lessThan and notMoreThan, the place that a binary search finds by them. -/
namespace Go.Proofs.YtdcifdpkfcgmhaaDoor
open Go.RowKit

theorem place_pair {c : Int} {ks : List Int} (hs : ks.Pairwise (· < ·)) {i j : Nat} (hij : i ≤ j) (hj : j < ks.length) (h : ks.getD j 0 < c) : ks.getD i 0 < c := by
  by_cases e : i = j
  · subst e; exact h
  · have h1 := List.pairwise_iff_getElem.1 hs i j (by omega) hj (by omega)
    have e1 : ks.getD i 0 = ks[i] := by simp [List.getD_eq_getElem?_getD, show i < ks.length by omega]
    have e2 : ks.getD j 0 = ks[j] := by simp [List.getD_eq_getElem?_getD, hj]
    rw [e1]; rw [e2] at h; omega

theorem mid_le {l h : Nat} (hl : l < h) : l ≤ (l + h) / 2 ∧ (l + h) / 2 < h := by omega

theorem less1_c (k n : Int) (q : Nat) (w : World) (hq : w.cell? ⟨q, 0, none⟩ = some (.int .i64 n)) :
    Calls Tryd.prog 107 #[.int .i64 k, .pointer (some ⟨q, 0, none⟩)] w fun e w' => e = .returned (.bool (decide (k < n))) ∧ w' = w := by
  go_enter Tryd.func107, Tryd.ntmps107
  go_wp2_with fail
  go_ret
  exact ⟨rfl, rfl⟩

theorem less_c (n : Int) (w : World) :
    Calls Tryd.prog 74 #[.int .i64 n] w fun e w' => e = .returned (.func (.func 107) #[] #[.pointer (some ⟨w.heap.size, 0, none⟩)]) ∧ w' = w.alloc (.cells #[.int .i64 n] 3) := by
  go_enter Tryd.func74, Tryd.ntmps74
  go_wp2_with fail
  go_ret
  exact ⟨rfl, rfl⟩

set_option maxRecDepth 100000 in
set_option maxHeartbeats 1000000 in
theorem place_less_c {v : Value} {ks : List Int} (w : World) (B : Nat) (hk : IntsIn w B v ks) (hs : ks.Pairwise (· < ·)) (hn : ks.length ≤ 1048576) (n c : Int) (hc : Hid (c = n)) (q : Nat) (hq : w.cell? ⟨q, 0, none⟩ = some (.int .i64 n)) :
    Calls Tryd.prog 100 #[v, .func (.func 107) #[] #[.pointer (some ⟨q, 0, none⟩)]] w fun e w' => e = .returned (.int .i64 (place c ks)) ∧ w' = w := by
  obtain ⟨a, cap, rfl, h1, h2, _, h3⟩ := hk
  unfold maxLen at h2
  have HK := Lib.hid h3
  have HS := Lib.hid hs
  clear h3 hs
  go_enter Tryd.func100, Tryd.ntmps100
  go_wp2_with fail
  go_loop [5, 6] (fun u v => ∃ (l h : Nat), l ≤ h ∧ h ≤ ks.length ∧ u = .int .i64 l ∧ v = .int .i64 h ∧ (∀ i, i < l → ks.getD i 0 < c) ∧ (∀ i, h ≤ i → i < ks.length → c ≤ ks.getD i 0)) (fun u v => (intOf v).toNat - (intOf u).toNat)
  case atStart => exact ⟨0, ks.length, Nat.zero_le _, Nat.le_refl _, rfl, rfl, fun i h => by omega, fun i h h' => by omega⟩
  case round =>
    obtain ⟨l, h, hlh, hhl, rfl, rfl, hlo, hhi⟩ := hrel
    have HLO := Lib.hid hlo
    have HHI := Lib.hid hhi
    clear hlo hhi
    by_cases hlt : l < h
    · obtain ⟨m, hm⟩ : ∃ m, m = (l + h) / 2 := ⟨_, rfl⟩
      have hmm := mid_le hlt
      rw [← hm] at hmm
      have hmi : ((l : Int) + (h : Int)) / 2 = (m : Int) := by omega
      have HM := Lib.hid hm
      clear hm
      obtain ⟨m1, m2⟩ := hmm
      rcases HK.out with h0 | ⟨b, off, rfl, hb, hat⟩
      · rw [h0] at hhl; simp at hhl; omega
      have ha' : w.cell? ⟨b, off + m, none⟩ = some (.int .i64 (ks.getD m 0)) := hat m (by omega)
      obtain ⟨x, hx⟩ : ∃ x, x = ks.getD m 0 := ⟨_, rfl⟩
      rw [← hx] at ha'
      have HX := Lib.hid hx
      clear hat hx
      have m3 : (m : Int) < (ks.length : Int) := by omega
      by_cases hT : x < n
      · go_wp2_with fail
        refine (less1_c x n q w hq).mono ?_
        rintro e w' ⟨rfl, rfl⟩
        go_wp2_with fail
        go_round
        case rel =>
          refine ⟨m + 1, h, by omega, hhl, by go_num, rfl, fun i hi => place_pair HS.out (show i ≤ m by omega) (by omega) (by rw [← HX.out]; have := hc.out; omega), HHI.out⟩
        case measure => simp [intOf]; omega
      · go_wp2_with fail
        refine (less1_c x n q w hq).mono ?_
        rintro e w' ⟨rfl, rfl⟩
        go_wp2_with fail
        go_round
        case rel =>
          refine ⟨l, m, m1, by omega, rfl, rfl, HLO.out, fun i hi hi2 => Int.not_lt.1 (fun hlt2 => ?_)⟩
          have h1 := place_pair HS.out hi hi2 hlt2
          have h2 := hc.out
          rw [← HX.out] at h1; omega
        case measure => simp [intOf]; omega
    · obtain rfl : l = h := by omega
      have hp : place c ks = l := place_eq hhl HLO.out (fun h => Int.not_lt.2 (HHI.out l (Nat.le_refl _) h))
      have HP := Lib.hid hp
      clear hp
      go_wp2_with fail
      go_ret
      exact ⟨ret_int (by rw [HP.out]), rfl⟩

theorem place_less_d {v : Value} {ks : List Int} (w : World) (B : Nat) (hk : IntsIn w B v ks) (hs : ks.Pairwise (· < ·)) (hn : ks.length ≤ 1048576) (n c : Int) (hc : Hid (c = n)) (q : Nat) (hq : w.cell? ⟨q, 0, none⟩ = some (.int .i64 n)) (m : Nat) :
    Calls Tryd.prog 100 #[v, .func (.func 107) #[] #[.pointer (some ⟨q, 0, none⟩)]] (w.drewN m) fun e w' => e = .returned (.int .i64 (place c ks)) ∧ w' = w.drewN m :=
  place_less_c (w.drewN m) B hk hs hn n c hc q hq

theorem upTo1_c (k n : Int) (q : Nat) (w : World) (hq : w.cell? ⟨q, 0, none⟩ = some (.int .i64 n)) :
    Calls Tryd.prog 118 #[.int .i64 k, .pointer (some ⟨q, 0, none⟩)] w fun e w' => e = .returned (.bool (decide (k ≤ n))) ∧ w' = w := by
  go_enter Tryd.func118, Tryd.ntmps118
  go_wp2_with fail
  go_ret
  exact ⟨rfl, rfl⟩

theorem upTo_c (n : Int) (w : World) :
    Calls Tryd.prog 92 #[.int .i64 n] w fun e w' => e = .returned (.func (.func 118) #[] #[.pointer (some ⟨w.heap.size, 0, none⟩)]) ∧ w' = w.alloc (.cells #[.int .i64 n] 3) := by
  go_enter Tryd.func92, Tryd.ntmps92
  go_wp2_with fail
  go_ret
  exact ⟨rfl, rfl⟩

set_option maxRecDepth 100000 in
set_option maxHeartbeats 1000000 in
theorem place_upTo_c {v : Value} {ks : List Int} (w : World) (B : Nat) (hk : IntsIn w B v ks) (hs : ks.Pairwise (· < ·)) (hn : ks.length ≤ 1048576) (n c : Int) (hc : Hid (c = n + 1)) (q : Nat) (hq : w.cell? ⟨q, 0, none⟩ = some (.int .i64 n)) :
    Calls Tryd.prog 100 #[v, .func (.func 118) #[] #[.pointer (some ⟨q, 0, none⟩)]] w fun e w' => e = .returned (.int .i64 (place c ks)) ∧ w' = w := by
  obtain ⟨a, cap, rfl, h1, h2, _, h3⟩ := hk
  unfold maxLen at h2
  have HK := Lib.hid h3
  have HS := Lib.hid hs
  clear h3 hs
  go_enter Tryd.func100, Tryd.ntmps100
  go_wp2_with fail
  go_loop [5, 6] (fun u v => ∃ (l h : Nat), l ≤ h ∧ h ≤ ks.length ∧ u = .int .i64 l ∧ v = .int .i64 h ∧ (∀ i, i < l → ks.getD i 0 < c) ∧ (∀ i, h ≤ i → i < ks.length → c ≤ ks.getD i 0)) (fun u v => (intOf v).toNat - (intOf u).toNat)
  case atStart => exact ⟨0, ks.length, Nat.zero_le _, Nat.le_refl _, rfl, rfl, fun i h => by omega, fun i h h' => by omega⟩
  case round =>
    obtain ⟨l, h, hlh, hhl, rfl, rfl, hlo, hhi⟩ := hrel
    have HLO := Lib.hid hlo
    have HHI := Lib.hid hhi
    clear hlo hhi
    by_cases hlt : l < h
    · obtain ⟨m, hm⟩ : ∃ m, m = (l + h) / 2 := ⟨_, rfl⟩
      have hmm := mid_le hlt
      rw [← hm] at hmm
      have hmi : ((l : Int) + (h : Int)) / 2 = (m : Int) := by omega
      have HM := Lib.hid hm
      clear hm
      obtain ⟨m1, m2⟩ := hmm
      rcases HK.out with h0 | ⟨b, off, rfl, hb, hat⟩
      · rw [h0] at hhl; simp at hhl; omega
      have ha' : w.cell? ⟨b, off + m, none⟩ = some (.int .i64 (ks.getD m 0)) := hat m (by omega)
      obtain ⟨x, hx⟩ : ∃ x, x = ks.getD m 0 := ⟨_, rfl⟩
      rw [← hx] at ha'
      have HX := Lib.hid hx
      clear hat hx
      have m3 : (m : Int) < (ks.length : Int) := by omega
      by_cases hT : x ≤ n
      · go_wp2_with fail
        refine (upTo1_c x n q w hq).mono ?_
        rintro e w' ⟨rfl, rfl⟩
        go_wp2_with fail
        go_round
        case rel =>
          refine ⟨m + 1, h, by omega, hhl, by go_num, rfl, fun i hi => place_pair HS.out (show i ≤ m by omega) (by omega) (by rw [← HX.out]; have := hc.out; omega), HHI.out⟩
        case measure => simp [intOf]; omega
      · go_wp2_with fail
        refine (upTo1_c x n q w hq).mono ?_
        rintro e w' ⟨rfl, rfl⟩
        go_wp2_with fail
        go_round
        case rel =>
          refine ⟨l, m, m1, by omega, rfl, rfl, HLO.out, fun i hi hi2 => Int.not_lt.1 (fun hlt2 => ?_)⟩
          have h1 := place_pair HS.out hi hi2 hlt2
          have h2 := hc.out
          rw [← HX.out] at h1; omega
        case measure => simp [intOf]; omega
    · obtain rfl : l = h := by omega
      have hp : place c ks = l := place_eq hhl HLO.out (fun h => Int.not_lt.2 (HHI.out l (Nat.le_refl _) h))
      have HP := Lib.hid hp
      clear hp
      go_wp2_with fail
      go_ret
      exact ⟨ret_int (by rw [HP.out]), rfl⟩

theorem place_upTo_d {v : Value} {ks : List Int} (w : World) (B : Nat) (hk : IntsIn w B v ks) (hs : ks.Pairwise (· < ·)) (hn : ks.length ≤ 1048576) (n c : Int) (hc : Hid (c = n + 1)) (q : Nat) (hq : w.cell? ⟨q, 0, none⟩ = some (.int .i64 n)) (m : Nat) :
    Calls Tryd.prog 100 #[v, .func (.func 118) #[] #[.pointer (some ⟨q, 0, none⟩)]] (w.drewN m) fun e w' => e = .returned (.int .i64 (place c ks)) ∧ w' = w.drewN m :=
  place_upTo_c (w.drewN m) B hk hs hn n c hc q hq

end Go.Proofs.YtdcifdpkfcgmhaaDoor
