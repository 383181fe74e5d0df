/- The contract of the program's keysBehind. -/
import Derived.Test.YticfkfjijnfcbaaDoorProg
import Derived.Test.YticfkfjijnfcbaaDoorSh0
import Derived.Test.YticfkfjijnfcbaaDoorSh18
import Derived.Test.YticfkfjijnfcbaaDoorSh22
import Derived.Test.YticfkfjijnfcbaaDoorRoseData
import Derived.WalkKit
import Derived.Test.YticfkfjijnfcbaaDoorSh3
import Derived.Test.YticfkfjijnfcbaaDoorKeys
import Derived.Test.YticfkfjijnfcbaaDoorIter
import Derived.Test.YticfkfjijnfcbaaDoorSh5
import Derived.Deep.QuietTactic
import Derived.BigQuiet

/- A tree in memory as the tree of nodes whose kids the program's kidsOf tells; the program's DepthOf. -/
namespace Go.Proofs.YticfkfjijnfcbaaDoor
open Go.RowKit

namespace ATr
mutual
/-- The nodes, each with the tree below it. -/
def ro : ATr → Ro ATr
  | .mk nb no k c => .mk (.mk nb no k c) nb no (ros c)
def ros : List ATr → List (Ro ATr)
  | [] => []
  | a :: r => ro a :: ros r
end
theorem ros_length (c : List ATr) : (ros c).length = c.length := by
  induction c with
  | nil => rfl
  | cons a r ih => simp [ros, ih]
theorem ros_get (c : List ATr) (i : Nat) (h : i < c.length) : (ros c)[i]'(by rw [ros_length]; exact h) = c[i].ro := by
  induction c generalizing i with
  | nil => simp at h
  | cons a r ih =>
    cases i with
    | zero => rfl
    | succ i => simpa [ros] using ih i (by simpa using h)
theorem ro_lab (a : ATr) : a.ro.lab = a := by cases a; rfl
theorem ro_nb (a : ATr) : a.ro.nb = a.nb := by cases a; rfl
theorem ro_no (a : ATr) : a.ro.no = a.no := by cases a; rfl
theorem ro_addr (a : ATr) : a.ro.addr = a.addr := by cases a; rfl
theorem ro_cs (a : ATr) : a.ro.cs = ros a.cs := by cases a; rfl
mutual
theorem ro_siz : ∀ a : ATr, a.ro.siz ≤ a.tr.weight
  | .mk nb no k c => by
    have := ros_siz c
    simp only [ro, Ro.siz, tr, Tr.weight]; omega
theorem ros_siz : ∀ c : List ATr, Ro.sizs (ros c) ≤ Tr.weights (trs c)
  | [] => Nat.le_refl _
  | a :: r => by
    have h1 := ro_siz a
    have h2 := ros_siz r
    simp only [ros, Ro.sizs, trs, Tr.weights]; omega
end
mutual
theorem ro_depth : ∀ a : ATr, a.ro.depth = a.tr.depth
  | .mk nb no k c => by
    simp only [ro, Ro.depth, tr, Tr.depth, ros_depth c]; omega
theorem ros_depth : ∀ c : List ATr, Ro.depths (ros c) = Tr.depths (trs c)
  | [] => rfl
  | a :: r => by simp only [ros, Ro.depths, trs, Tr.depths, ro_depth a, ros_depth r]
end
end ATr

/-- The slice of a node's kids, in its second cell. -/
def kidsFn (w : World) (b o : Nat) : Option Addr × Nat × Nat :=
  match w.cell? ⟨b, o + 1, none⟩ with
  | some (.slice a n c) => (a, n, c)
  | _ => (none, 0, 0)
open Classical in
/-- The tree at an address. -/
noncomputable def treeFn (w : World) (b o : Nat) : ATr := if h : ∃ a, AT w a ∧ a.nb = b ∧ a.no = o then h.choose else .mk 0 0 [] []
theorem treeFn_is {w : World} {a : ATr} (h : AT w a) : treeFn w a.nb a.no = a := by
  have hx : ∃ c, AT w c ∧ c.nb = a.nb ∧ c.no = a.no := ⟨a, h, rfl, rfl⟩
  unfold treeFn
  rw [dif_pos hx]
  exact h.one hx.choose_spec.1 hx.choose_spec.2.1 hx.choose_spec.2.2

theorem kidsOf_c (b o : Nat) (a : Option Addr) (n c : Nat) (w : World) (h : w.cell? ⟨b, o + 1, none⟩ = some (.slice a n c)) :
    Calls Tryd.prog 94 #[.pointer (some ⟨b, o, none⟩)] w fun e w' => e = .returned (.slice a n c) ∧ Below w.heap.size w w' := by
  go_enter Tryd.func94, Tryd.ntmps94
  go_wp2_with fail
  go_ret
  exact ⟨rfl, Below.refl _ _⟩

theorem AT.ro {w : World} {a : ATr} (h : AT w a) : RoAt Tryd.prog 94 2 (kidsFn w) (treeFn w) w a.ro := by
  have h00 := h
  induction h with
  | mk nb no ks cs ka ha kc hc g go h ho hp h0 h1 hk hn hkids e0 e1 e2 ih =>
    have hl := ATr.ros_length cs
    refine .mk _ nb no (ATr.ros cs) ha hc h ho hp (treeFn_is h00).symm ?_ ?_ ?_ ?_ ?_
    · simp only [kidsFn, h1, hl]
    · intro W hW
      rw [hl]
      exact kidsOf_c nb no ha cs.length hc W (by rw [below_cell hW (World.block_lt_of_cell? w _ h1)]; exact h1)
    · intro i hi
      rw [ATr.ros_get cs i (by omega), ATr.ro_nb, ATr.ro_no]
      exact hn i (by omega)
    · intro i hi
      rw [ATr.ros_get cs i (by omega)]
      exact ih i (by omega) (hkids i (by omega))
    · rw [hl]; exact e1
end Go.Proofs.YticfkfjijnfcbaaDoor

/- What one comes by on the way through a tree, turn by turn. -/
namespace Go.Proofs.YticfkfjijnfcbaaDoor
open Go.RowKit

/-- The keys that a node yields at its p-th turn. -/
def ATr.behind (a : ATr) (p : Nat) : List Int := (a.ks.take (if p = a.cs.length then a.ks.length else p)).drop (p - 1)
/-- What a node yields at its p-th turn. -/
def ATr.turn (a : ATr) (p : Nat) : List Step := (if p = 0 then [Step.beg a] else []) ++ (a.behind p).map (Step.key a) ++ (if p = a.cs.length then [Step.fin a] else [])
def turnS (f : Ro ATr × Nat) : List Step := f.1.lab.turn f.2

theorem remS_tail (a : ATr) : ∀ n i, a.ks.length - i ≤ n → a.cs.length ≤ i + 1 → remS (a, 2 * i + 1) = (a.ks.drop i).map (Step.key a) ++ [.fin a] := by
  intro n
  induction n with
  | zero =>
    intro i hi hc
    rw [List.drop_eq_nil_of_le (by omega)]
    by_cases h : 2 * i + 1 < 2 * max a.cs.length a.ks.length
    · rw [remS_step h, hev_nokey (by omega), List.nil_append]
      exact remS_end (by omega)
    · exact remS_end (by omega)
  | succ n ih =>
    intro i hi hc
    by_cases hk : i < a.ks.length
    · rw [remS_step (by omega), hev_key hk, List.drop_eq_getElem_cons hk]
      have hnext : remS (a, 2 * i + 1 + 1) = (a.ks.drop (i + 1)).map (Step.key a) ++ [.fin a] := by
        by_cases h : 2 * i + 1 + 1 < 2 * max a.cs.length a.ks.length
        · rw [remS_step h]
          have h2 := hev_nokid (a := a) (i := i + 1) (by omega)
          rw [show 2 * (i + 1) = 2 * i + 1 + 1 by omega] at h2
          rw [h2, List.nil_append]
          have h3 := ih (i + 1) (by omega) (by omega)
          rw [show 2 * (i + 1) + 1 = 2 * i + 1 + 1 + 1 by omega] at h3
          exact h3
        · rw [List.drop_eq_nil_of_le (by omega)]
          exact remS_end (by omega)
      have hg : a.ks.getD i 0 = a.ks[i] := by simp [List.getD_eq_getElem?_getD, hk]
      rw [hnext, hg]
      rfl
    · exact ih i (by omega) hc

theorem turn_mid (a : ATr) (p : Nat) (h0 : 0 < p) (h : p < a.cs.length) : a.turn p = hev a (ATr.evss a.cs) (2 * (p - 1) + 1) := by
  unfold ATr.turn ATr.behind
  rw [if_neg (by omega), if_neg (by omega), if_neg (by omega), List.nil_append, List.append_nil]
  by_cases hk : p - 1 < a.ks.length
  · rw [hev_key hk]
    have : (a.ks.take p).drop (p - 1) = [a.ks[p - 1]] := by
      apply List.ext_getElem
      · simp; omega
      · intro i i1 i2
        simp at i1 i2 ⊢
        congr 1
        omega
    rw [this]
    simp [List.getD_eq_getElem?_getD, hk]
  · rw [hev_nokey hk]
    rw [List.drop_eq_nil_of_le (by simp; omega)]; rfl

/-- The turns of a tree yield its steps. -/
theorem evs_turns : ∀ n (a : ATr), a.weight ≤ n → a.ro.trn.flatMap turnS = a.evs := by
  intro n
  induction n with
  | zero =>
    intro a ha
    have := ATr.ks_le a
    have hcs : a.cs = [] := List.length_eq_zero_iff.1 (by omega)
    have hks : a.ks = [] := List.length_eq_zero_iff.1 (by omega)
    rw [trn_eq, remT_end (by rw [ATr.ro_cs, ATr.ros_length]; omega), evs_eq]
    simp only [List.flatMap_cons, List.flatMap_nil, List.append_nil, turnS, ATr.ro_lab, ATr.turn, ATr.behind]
    rw [remS_end (by simp [hcs, hks])]
    simp [hcs, hks]
  | succ n ih =>
    intro a ha
    have hcl : a.ro.cs.length = a.cs.length := by rw [ATr.ro_cs, ATr.ros_length]
    have hkid : ∀ p (h : p < a.cs.length), (remT (a.ro.cs[p]'(by omega), 0)).flatMap turnS = hev a (ATr.evss a.cs) (2 * p) := fun p h => by
      have e : a.ro.cs[p]'(by omega) = a.cs[p].ro := by
        have := ATr.ros_get a.cs p h
        simpa [ATr.ro_cs] using this
      rw [e, ← trn_eq, ih a.cs[p] (by have := ATr.weight_kid h; omega), hev_kid h]
    have hD : ∀ m p, 0 < p → p ≤ a.cs.length → a.cs.length - p ≤ m → (remT (a.ro, p)).flatMap turnS = remS (a, 2 * (p - 1) + 1) := by
      intro m
      induction m with
      | zero =>
        intro p h0 h1 h2
        obtain rfl : p = a.cs.length := by omega
        rw [remT_end (by omega), remS_tail a _ (a.cs.length - 1) (Nat.le_refl _) (by omega)]
        simp only [List.flatMap_cons, List.flatMap_nil, List.append_nil, turnS, ATr.ro_lab, ATr.turn, ATr.behind]
        rw [if_neg (by omega)]
        simp
      | succ m ihm =>
        intro p h0 h1 h2
        by_cases h : p < a.cs.length
        · rw [remT_kid (by omega)]
          simp only [List.flatMap_cons, List.flatMap_append]
          rw [hkid p h, ihm (p + 1) (by omega) (by omega) (by omega)]
          show a.ro.lab.turn p ++ _ = _
          rw [ATr.ro_lab, turn_mid a p h0 h, remS_step (p := 2 * (p - 1) + 1) (by omega), show 2 * (p - 1) + 1 + 1 = 2 * p by omega, remS_step (p := 2 * p) (by omega), Nat.add_sub_cancel]
        · exact ihm p h0 h1 (by omega)
    rw [evs_eq, trn_eq]
    by_cases h : 0 < a.cs.length
    · rw [remT_kid (by omega)]
      simp only [List.flatMap_cons, List.flatMap_append]
      rw [hkid 0 h, hD _ 1 (by omega) (by omega) (Nat.le_refl _)]
      show a.ro.lab.turn 0 ++ _ = _
      rw [ATr.ro_lab, show (remS (a, 0)) = hev a (ATr.evss a.cs) (2 * 0) ++ remS (a, 0 + 1) from remS_step (by omega)]
      unfold ATr.turn ATr.behind
      rw [if_pos rfl, if_neg (by omega), if_neg (by omega)]
      simp
    · rw [remT_end (by omega)]
      have hn : a.cs.length = 0 := by omega
      simp only [List.flatMap_cons, List.flatMap_nil, List.append_nil, turnS, ATr.ro_lab, ATr.turn, ATr.behind]
      have h0 : remS (a, 0) = a.ks.map (Step.key a) ++ [.fin a] := by
        by_cases hk : 0 < a.ks.length
        · rw [remS_step (by omega)]
          have h2 := hev_nokid (a := a) (i := 0) (by omega)
          rw [show 2 * 0 = 0 by omega] at h2
          rw [h2, List.nil_append]
          exact remS_tail a _ 0 (Nat.le_refl _) (by omega)
        · have hks : a.ks = [] := List.length_eq_zero_iff.1 (by omega)
          rw [remS_end (by omega), hks]; rfl
      rw [h0, hn]
      simp
end Go.Proofs.YticfkfjijnfcbaaDoor

/- One yield of a loop within a loop; the nodes that a tree's turns are of. -/
namespace Go.Proofs.YticfkfjijnfcbaaDoor
open Go.RowKit

theorem yield_step {α : Type} {P : Program} {l : Nat} {encs : α → Array Value} {J Jx : List α → (Nat → Prop) → World → Prop} {xs pre : List α} {x : α} {Pv₀ Pv : Nat → Prop} {W₀ W : World} {B : Nat} {o : Obj}
    (hY : Rounds P l encs J Jx xs Pv₀ W₀) (hK : Keep Pv₀ W₀ W) (hU : Under (J pre) Pv₀ B B o o Pv W) (hpre : pre ++ [x] <+: xs) (hb : ∀ k, Pv k → k < W.heap.size) :
    Round1 P l (encs x) W fun e W4 => Keep Pv W W4 ∧ ((e = .returned (.bool true) ∧ Under (J (pre ++ [x])) Pv₀ B B o o Pv W4) ∨ (e = .returned (.bool false) ∧ Under (Jx (pre ++ [x])) Pv₀ B B o o Pv W4)) := by
  obtain ⟨Pv2, hj, e1, e2, e3, e4, e5, e6, e7, e8, e9⟩ := hU
  refine (hY pre x Pv2 W hj hK e2 e7 hpre).mono ?_
  rintro e W4 ⟨hk4, (⟨rfl, hj4⟩ | ⟨rfl, hj4⟩)⟩
  · exact ⟨hk4.mono (fun k hlt h => e1 k h hlt), .inl ⟨rfl, Pv2, hj4, fun k h _ => e1 k h (hb k h), e2, e3, e4, e5, e6, fun k h => Nat.lt_of_lt_of_le (e7 k h) hk4.size, (hk4.block _ (e7 _ e3) e3).trans e8, (hk4.block _ (e7 _ e4) e4).trans e9⟩⟩
  · exact ⟨hk4.mono (fun k hlt h => e1 k h hlt), .inr ⟨rfl, Pv2, hj4, fun k h _ => e1 k h (hb k h), e2, e3, e4, e5, e6, fun k h => Nat.lt_of_lt_of_le (e7 k h) hk4.size, (hk4.block _ (e7 _ e3) e3).trans e8, (hk4.block _ (e7 _ e4) e4).trans e9⟩⟩

theorem Under.weaken {X Y : (Nat → Prop) → World → Prop} (h : ∀ Pv W, X Pv W → Y Pv W) {Pv₀ Pv : Nat → Prop} {B3 B4 : Nat} {o3 o4 : Obj} {W : World} (hU : Under X Pv₀ B3 B4 o3 o4 Pv W) : Under Y Pv₀ B3 B4 o3 o4 Pv W := by
  obtain ⟨Pv2, hj, r⟩ := hU
  exact ⟨Pv2, h _ _ hj, r⟩

theorem pre_two {α : Type} {A B C E : List α} (h : A ++ B ++ C <+: E) : A <+: E := List.IsPrefix.trans ⟨B ++ C, by simp⟩ h
theorem pre_at {α : Type} {A B C E : List α} (h : A ++ B ++ C <+: E) (j : Nat) (hj : j < B.length) : A ++ B.take j ++ [B[j]] <+: E := by
  refine List.IsPrefix.trans ⟨B.drop (j + 1) ++ C, ?_⟩ h
  have h1 := List.take_append_drop (j + 1) B
  rw [List.take_succ_eq_append_getElem hj] at h1
  have h2 : A ++ B ++ C = A ++ (B.take j ++ [B[j]] ++ B.drop (j + 1)) ++ C := by rw [h1]
  rw [h2]
  simp only [List.append_assoc]

theorem mem_trns_ro : ∀ (c : List ATr) (a : Ro ATr) (i : Nat) (x : Ro ATr × Nat), x ∈ Ro.trns a i (ATr.ros c) → (x.1 = a ∧ x.2 ≤ i + c.length) ∨ ∃ k ∈ c, x ∈ k.ro.trn
  | [], a, i, x, h => by simp [ATr.ros, Ro.trns] at h
  | k :: r, a, i, x, h => by
    simp only [ATr.ros, Ro.trns, List.mem_append, List.mem_cons] at h
    rcases h with h | h | h
    · exact .inr ⟨k, by simp, h⟩
    · exact .inl ⟨by rw [h], by rw [h]; simp⟩
    · rcases mem_trns_ro r a (i + 1) x h with ⟨h1, h2⟩ | ⟨q, hq, h1⟩
      · exact .inl ⟨h1, by simp; omega⟩
      · exact .inr ⟨q, by simp [hq], h1⟩

theorem mem_trn_ro : ∀ n (a : ATr) {w : World}, a.weight ≤ n → AT w a → ∀ x ∈ a.ro.trn, AT w x.1.lab ∧ x.1.addr = x.1.lab.addr ∧ x.1.lab.weight ≤ a.weight ∧ x.2 ≤ x.1.lab.cs.length := by
  intro n
  induction n with
  | zero =>
    intro a w hn ha x hx
    have := ATr.ks_le a
    have hcs : a.cs = [] := List.length_eq_zero_iff.1 (by omega)
    rw [trn_eq] at hx
    rw [remT_end (by rw [ATr.ro_cs, ATr.ros_length, hcs]; simp)] at hx
    obtain rfl := List.mem_singleton.1 hx
    exact ⟨by rw [ATr.ro_lab]; exact ha, by rw [ATr.ro_lab, ATr.ro_addr], by rw [ATr.ro_lab]; exact Nat.le_refl _, Nat.zero_le _⟩
  | succ n ih =>
    intro a w hn ha x hx
    have hself : ∀ p, p ≤ a.cs.length → x = (a.ro, p) → AT w x.1.lab ∧ x.1.addr = x.1.lab.addr ∧ x.1.lab.weight ≤ a.weight ∧ x.2 ≤ x.1.lab.cs.length := by
      rintro p hp rfl
      exact ⟨by rw [ATr.ro_lab]; exact ha, by rw [ATr.ro_lab, ATr.ro_addr], by rw [ATr.ro_lab]; exact Nat.le_refl _, by rw [ATr.ro_lab]; exact hp⟩
    rw [trn_eq] at hx
    have hx' : x ∈ (a.ro, 0) :: Ro.trns a.ro 0 (a.ro.cs.drop 0) := hx
    rw [List.drop_zero, ATr.ro_cs] at hx'
    rcases List.mem_cons.1 hx' with h | h
    · exact hself 0 (Nat.zero_le _) h
    · rcases mem_trns_ro a.cs a.ro 0 x h with ⟨h1, h2⟩ | ⟨k, hk, h1⟩
      · exact hself x.2 (by omega) (by rw [← h1])
      · obtain ⟨i, hi, rfl⟩ := List.getElem_of_mem hk
        have hw := ATr.weight_kid hi
        obtain ⟨_, _, _, _, _, _, _, _, _, _, _, _, _, hkids, _⟩ := ha.parts
        obtain ⟨r1, r2, r3, r4⟩ := ih a.cs[i] (w := w) (by omega) (hkids i hi) x h1
        exact ⟨r1, r2, by omega, r4⟩
end Go.Proofs.YticfkfjijnfcbaaDoor

/- The contract of the program's keysBehind. -/
namespace Go.Proofs.YticfkfjijnfcbaaDoor
open Go.RowKit

/-- A part of a row of ints, as a slice. -/
def PartAt (w : World) (v : Value) (l : List Int) : Prop :=
  ∃ (k : Option Addr) (c : Nat), v = .slice k l.length c ∧ (l.length = 0 ∨ ∃ g o, k = some ⟨g, o, none⟩ ∧ ∀ i, i < l.length → w.cell? ⟨g, o + i, none⟩ = some (.int .i64 (l.getD i 0)))

theorem part_none (w : World) (k : Option Addr) (c : Nat) {l : List Int} (hl : l.length = 0) : PartAt w (.slice k 0 c) l := ⟨k, c, by rw [hl], .inl hl⟩
theorem part_all {w : World} {ks : List Int} {ka : Option Addr} {g go : Nat} (hk : ∀ i, i < ks.length → w.cell? ⟨g, go + i, none⟩ = some (.int .i64 (ks.getD i 0))) (e0 : ks.length = 0 ∨ ka = some ⟨g, go, none⟩) (c : Nat) : PartAt w (.slice ka ks.length c) ks :=
  ⟨ka, c, rfl, e0.imp id (fun e => ⟨g, go, e, hk⟩)⟩
theorem part_of {w : World} {ks : List Int} {ka : Option Addr} {g go : Nat} (hk : ∀ i, i < ks.length → w.cell? ⟨g, go + i, none⟩ = some (.int .i64 (ks.getD i 0))) (e0 : ks.length = 0 ∨ ka = some ⟨g, go, none⟩) (s e : Nat) (he : e ≤ ks.length) (hs : s ≤ e) (c : Nat) :
    PartAt w (.slice (ka.map (fun x => x.add s)) (e - s) c) ((ks.take e).drop s) := by
  have hl : ((ks.take e).drop s).length = e - s := by simp; omega
  refine ⟨_, c, by rw [hl], ?_⟩
  rcases e0 with e0 | e0
  · exact .inl (by omega)
  · subst e0
    refine .inr ⟨g, go + s, ?_, fun i hi => ?_⟩
    · unfold Addr.add
      by_cases h0 : s = 0
      · subst h0; rfl
      · simp [h0]
    · rw [hl] at hi
      have := hk (s + i) (by omega)
      rw [← Nat.add_assoc] at this
      rw [this]
      simp only [List.getD_eq_getElem?_getD]
      rw [List.getElem?_drop, List.getElem?_take_of_lt (by omega)]

set_option maxRecDepth 100000 in
set_option maxHeartbeats 2000000 in
theorem keysBehind_c {w : World} {a : ATr} (ha : AT w a) (hw : a.weight ≤ 1048576) (p : Nat) (hp : p ≤ a.cs.length) (W : World) (hW : ∀ k, k < w.heap.size → W.heap[k]? = w.heap[k]?) :
    Calls Tryd.prog 111 #[.pointer (some a.addr), .int .i64 p] W fun e w' => (∃ v, e = .returned v ∧ PartAt w v (a.behind p)) ∧ Below W.heap.size W w' := by
  obtain ⟨ka, ha', kc, hc, g, go, h, ho, hpa, h0, h1, hk, hn, hkids, e0, e1⟩ := ha.parts
  obtain ⟨ka', kc', r0, r1, r2⟩ := ha.room
  rw [h0] at r0
  cases r0
  have hl := ATr.ks_le a
  have HP := Lib.hid (fun s e he hs c => part_of hk e0 s e he hs c)
  have HA := Lib.hid (fun c => part_all hk e0 c)
  have hc0 : ∀ (b o : Nat) (v : Value), w.cell? ⟨b, o, none⟩ = some v → W.cell? ⟨b, o, none⟩ = some v := fun b o v hv => by
    have := World.block_lt_of_cell? w _ hv
    rw [← hv]
    exact World.cell?_of_block (w := w) (a := ⟨b, o, none⟩) (hW b this)
  replace h0 := hc0 _ _ _ h0
  replace h1 := hc0 _ _ _ h1
  clear hk hn hkids e0 e1 ha hpa hW hc0
  unfold ATr.addr ATr.behind
  have hcase : (p = 0) ∨ (1 ≤ p ∧ p ≤ a.ks.length) ∨ (1 ≤ p ∧ p = a.ks.length + 1) ∨ (a.ks.length + 1 < p) := by omega
  by_cases hpn : p = a.cs.length
  · have f4 : ((p : Int) == (a.cs.length : Int)) = true := by rw [hpn]; simp
    rw [if_pos hpn]
    rcases hcase with hc0 | ⟨hc0, hc1⟩ | ⟨hc0, hc1⟩ | hc0
    · have f1 : ((p : Int) - 1 < 0) := by omega
      have f2 : ¬ (a.ks.length < p) := by omega
      have f3 : ¬ ((a.ks.length : Int) < 0) := by omega
      go_enter Tryd.func111, Tryd.ntmps111
      go_wp2_with fail
      go_quiet (fail)
      go_wp2_with fail
      go_ret
      refine ⟨⟨_, rfl, ?_⟩, ⟨rfl, rfl, rfl, Nat.le_refl _, fun _ _ => rfl⟩⟩
      rw [hc0, List.take_length]
      exact HA.out _
    · have f1 : ¬ ((p : Int) - 1 < 0) := by omega
      have f2 : ¬ (a.ks.length < p) := by omega
      have f3 : ¬ ((a.ks.length : Int) < (p : Int) - 1) := by omega
      have f5 : (0 : Int) ≤ (p : Int) - 1 := by omega
      have f6 : (p : Int) - 1 ≤ (a.ks.length : Int) := by omega
      go_enter Tryd.func111, Tryd.ntmps111
      go_wp2_with fail
      go_quiet (fail)
      go_wp2_with fail
      go_ret
      refine ⟨⟨_, rfl, ?_⟩, ⟨rfl, rfl, rfl, Nat.le_refl _, fun _ _ => rfl⟩⟩
      rw [hpn]
      exact HP.out (a.cs.length - 1) a.ks.length (Nat.le_refl _) (by omega) _
    · have f1 : ¬ ((p : Int) - 1 < 0) := by omega
      have f2 : (a.ks.length < p) := by omega
      have f3 : ¬ ((a.ks.length : Int) < (p : Int) - 1) := by omega
      have f5 : (0 : Int) ≤ (p : Int) - 1 := by omega
      have f6 : (p : Int) - 1 ≤ (a.ks.length : Int) := by omega
      go_enter Tryd.func111, Tryd.ntmps111
      go_wp2_with fail
      go_quiet (fail)
      go_wp2_with fail
      go_ret
      exact ⟨⟨_, rfl, part_none w _ _ (by simp <;> omega)⟩, ⟨rfl, rfl, rfl, Nat.le_refl _, fun _ _ => rfl⟩⟩
    · have f1 : ¬ ((p : Int) - 1 < 0) := by omega
      have f2 : (a.ks.length < p) := by omega
      have f3 : ((a.ks.length : Int) < (p : Int) - 1) := by omega
      go_enter Tryd.func111, Tryd.ntmps111
      go_wp2_with fail
      go_quiet (fail)
      go_wp2_with fail
      go_ret
      exact ⟨⟨_, rfl, part_none w _ _ (by simp <;> omega)⟩, ⟨rfl, rfl, rfl, Nat.le_refl _, fun _ _ => rfl⟩⟩
  · have f4 : ((p : Int) == (a.cs.length : Int)) = false := by simp; omega
    rw [if_neg hpn]
    rcases hcase with hc0 | ⟨hc0, hc1⟩ | ⟨hc0, hc1⟩ | hc0
    · have f1 : ((p : Int) - 1 < 0) := by omega
      have f2 : ¬ (a.ks.length < p) := by omega
      have f3 : ¬ ((a.ks.length : Int) < 0) := by omega
      go_enter Tryd.func111, Tryd.ntmps111
      go_wp2_with fail
      go_quiet (fail)
      go_wp2_with fail
      go_ret
      exact ⟨⟨_, rfl, part_none w _ _ (by simp <;> omega)⟩, ⟨rfl, rfl, rfl, Nat.le_refl _, fun _ _ => rfl⟩⟩
    · have f1 : ¬ ((p : Int) - 1 < 0) := by omega
      have f2 : ¬ (a.ks.length < p) := by omega
      have f3 : ¬ ((a.ks.length : Int) < (p : Int) - 1) := by omega
      have f7 : (p : Int) ≤ (kc : Int) := by omega
      have f5 : (0 : Int) ≤ (p : Int) - 1 := by omega
      have f6 : (p : Int) - 1 ≤ (a.ks.length : Int) := by omega
      go_enter Tryd.func111, Tryd.ntmps111
      go_wp2_with fail
      go_quiet (fail)
      go_wp2_with fail
      go_ret
      exact ⟨⟨_, rfl, HP.out (p - 1) p (by omega) (by omega) _⟩, ⟨rfl, rfl, rfl, Nat.le_refl _, fun _ _ => rfl⟩⟩
    · have f1 : ¬ ((p : Int) - 1 < 0) := by omega
      have f2 : (a.ks.length < p) := by omega
      have f3 : ¬ ((a.ks.length : Int) < (p : Int) - 1) := by omega
      have f5 : (0 : Int) ≤ (p : Int) - 1 := by omega
      have f6 : (p : Int) - 1 ≤ (a.ks.length : Int) := by omega
      go_enter Tryd.func111, Tryd.ntmps111
      go_wp2_with fail
      go_quiet (fail)
      go_wp2_with fail
      go_ret
      exact ⟨⟨_, rfl, part_none w _ _ (by simp <;> omega)⟩, ⟨rfl, rfl, rfl, Nat.le_refl _, fun _ _ => rfl⟩⟩
    · have f1 : ¬ ((p : Int) - 1 < 0) := by omega
      have f2 : (a.ks.length < p) := by omega
      have f3 : ((a.ks.length : Int) < (p : Int) - 1) := by omega
      go_enter Tryd.func111, Tryd.ntmps111
      go_wp2_with fail
      go_quiet (fail)
      go_wp2_with fail
      go_ret
      exact ⟨⟨_, rfl, part_none w _ _ (by simp <;> omega)⟩, ⟨rfl, rfl, rfl, Nat.le_refl _, fun _ _ => rfl⟩⟩
end Go.Proofs.YticfkfjijnfcbaaDoor
