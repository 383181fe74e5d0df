/- The contract of hasAt: whether a key is the one at a place of a node. -/
import Derived.Test.YticfkfjijnfcbaaDoorProg
import Derived.Test.YticfkfjijnfcbaaDoorSh0
import Derived.Test.YticfkfjijnfcbaaDoorKeys
import Derived.Test.YticfkfjijnfcbaaDoorSh3
import Derived.Test.YticfkfjijnfcbaaDoorSh7
import Derived.Test.YticfkfjijnfcbaaDoorSh15
import Derived.Test.YticfkfjijnfcbaaDoorSh11
import Derived.Test.YticfkfjijnfcbaaDoorSh2
import Derived.Test.YticfkfjijnfcbaaDoorCurWalk
import Derived.Test.YticfkfjijnfcbaaDoorSh12
import Derived.Test.YticfkfjijnfcbaaDoorSh24
import Derived.Test.YticfkfjijnfcbaaDoorIter
import Derived.Maps.OwnIn
import Derived.WalkKit
import Derived.Deep.AppendLies
import Derived.Sort.QuietIn
import Derived.TacticsInMore
import Derived.RangeFuncCalls
import Derived.Deep.QuietTactic
import Derived.BigQuiet
import Derived.StillTailTactics
import Derived.WalkSmall

/- The model's NextKey, PrevKey, RankOf. -/
namespace Go.Proofs.YticfkfjijnfcbaaDoor
open Go.RowKit

theorem next_at {key : Int} {ks : List Int} {j : Nat} (h : place (key + 1) ks = j) : Tr.optOr (ks.find? (fun x => decide (key + 1 ≤ x))) (0, false) = if j < ks.length then (ks.getD j 0, true) else (0, false) := by
  rw [find_place, h]
  by_cases hj : j < ks.length
  · rw [if_pos hj]; simp [Tr.optOr, hj, List.getD_eq_getElem?_getD]
  · rw [if_neg hj, List.getElem?_eq_none (by omega)]; rfl

theorem ret_ib {a a' : Int} {b b' : Bool} (h : a = a') (h2 : b = b') : Ending.returned (.tuple #[.int .i64 a, .bool b]) = .returned (.tuple #[.int .i64 a', .bool b']) := by rw [h, h2]


-- END


-- END

/-- How many keys are less than a number, in a tree that is valid. -/
def Tr.rankB (key : Int) (t : Tr) : Int := if t.someB then (place key t.keys : Int) else -1
theorem rankB_is (key : Int) (t : Tr) : (t.someB = true → t.rankB key = (place key t.keys : Int)) ∧ (t.someB = false → t.rankB key = -1) := by
  unfold Tr.rankB; constructor <;> intro h <;> simp [h]

set_option maxRecDepth 100000 in
set_option maxHeartbeats 1000000 in
theorem specRankOf_c {w : World} {B : Nat} {kv cv : Value} {t : Tr} (ht : TreeIn w B kv cv t) (hw : t.weight ≤ 1048576) (key : Int) (w' : World) (hbw : Below B w w') (hB : B ≤ w'.heap.size) :
    Calls Tryd.prog 52 #[.agg #[kv, cv], .int .i64 key] w' fun e w'' => e = .returned (.int .i64 (t.rankB key)) ∧ Below w'.heap.size w' w'' := by
  obtain ⟨a5, n5, m5, a6, n6, m6, rfl, rfl⟩ := ht.slices
  obtain ⟨W1, hW1⟩ : ∃ W1, W1 = w'.alloc (.cells #[.slice a5 n5 m5, .slice a6 n6 m6] 33) := ⟨_, rfl⟩
  have hs1 : W1.heap.size = w'.heap.size + 1 := by rw [hW1]; simp
  have hb1 : Below w'.heap.size w' W1 := by rw [hW1]; exact (Below.refl _ _).alloc (Nat.le_refl _) _
  have kb : W1.heap[w'.heap.size]? = some (.cells #[.slice a5 n5 m5, .slice a6 n6 m6] 33 (0, 0)) := by rw [hW1, new_blk]
  obtain ⟨x1, x2, x3, x4⟩ := box2 kb
  have hv := rankB_is key t
  have HB := Lib.hid hbw
  have HT := Lib.hid ht
  have HW1 := Lib.hid hW1
  have H1 := Lib.hid (And.intro hb1 kb)
  have HV := Lib.hid hv
  clear hbw ht hW1 hb1 kb hv
  go_enter Tryd.func52, Tryd.ntmps52
  go_wp2_with fail
  rw [← HW1.out]
  refine (l2Valid_c HT.out hw W1 (HB.out.trans (H1.out.1.mono hB)) (by omega)).mono ?_
  rintro e w2 ⟨rfl, hb2⟩
  have hs2 := hb2.size
  have kb2 := (hb2.block w'.heap.size (by omega)).trans H1.out.2
  clear x1 x2 x3 x4
  obtain ⟨x1, x2, x3, x4⟩ := box2 kb2
  have H2 := Lib.hid (H1.out.1.trans (hb2.mono (by omega)))
  clear hb2 kb2
  cases hsb : t.someB with
  | false =>
    have h := HV.out.2 hsb
    have HZ := Lib.hid h
    have HSB := Lib.hid hsb
    clear h hsb
    go_wp2_with fail
    go_ret
    exact ⟨ret_int HZ.out.symm, H2.out⟩
  | true =>
    have h := HV.out.1 hsb
    have HZ := Lib.hid h
    have HSB := Lib.hid hsb
    clear h hsb
    go_wp2_with fail
    refine (specKeys_c HT.out hw _ (HB.out.trans (H2.out.mono hB)) (by omega)).mono ?_
    rintro e w3 ⟨v, rfl, hv, hb3⟩
    obtain ⟨va, vc, rfl⟩ := IntsOwn.shown hv
    have hki := IntsOwn.in hv
    have H3 := Lib.hid (H2.out.trans (hb3.mono (by omega)))
    have hs3 := hb3.size
    have HKI := Lib.hid hki
    clear hb3 hv hki x1 x2 x3 x4
    go_wp2_with fail
    refine (l2Place_c w3 w3.heap.size HKI.out key).mono ?_
    rintro e w4 ⟨rfl, hb4⟩
    have H4 := Lib.hid (H3.out.trans (hb4.mono (by omega)))
    clear hb4
    go_wp2_with fail
    go_ret
    exact ⟨ret_int HZ.out.symm, H4.out⟩

end Go.Proofs.YticfkfjijnfcbaaDoor

/- The model's KeyAt. -/
namespace Go.Proofs.YticfkfjijnfcbaaDoor
open Go.RowKit

/-- The key with so many less ones. -/
def keyL (keys : List Int) (r : Int) : Int × Bool := if 0 ≤ r ∧ r < (keys.length : Int) then (keys.getD r.toNat 0, true) else (0, false)
def Tr.keyAtB (r : Int) (t : Tr) : Int × Bool := if t.someB then keyL t.keys r else (0, false)
theorem keyAtB_is (r : Int) (t : Tr) : (t.someB = true → t.keyAtB r = keyL t.keys r) ∧ (t.someB = false → t.keyAtB r = (0, false)) := by
  unfold Tr.keyAtB; constructor <;> intro h <;> simp [h]


-- END

end Go.Proofs.YticfkfjijnfcbaaDoor

/- Finding: a key is found where it is among the keys in order; plain data. -/
namespace Go.Proofs.YticfkfjijnfcbaaDoor
open Go.RowKit

theorem sorted_get {ks : List Int} (h : ks.Pairwise (· < ·)) {i j : Nat} (hij : i < j) (hj : j < ks.length) : ks.getD i 0 < ks.getD j 0 := by
  have := List.pairwise_iff_getElem.1 h i j (by omega) hj hij
  simpa [List.getD_eq_getElem?_getD, hj, show i < ks.length by omega] using this

/-- The place of a key is its index. -/
theorem place_get {ks : List Int} (h : ks.Pairwise (· < ·)) {i : Nat} (hi : i < ks.length) : place (ks.getD i 0) ks = i :=
  place_eq (by omega) (fun j hj => sorted_get h hj hi) (fun _ => by omega)

theorem place_mem {ks : List Int} (h : ks.Pairwise (· < ·)) {x : Int} (hx : x ∈ ks) : place x ks < ks.length ∧ ks.getD (place x ks) 0 = x := by
  obtain ⟨i, hi, rfl⟩ := List.mem_iff_getElem.1 hx
  have e : ks[i] = ks.getD i 0 := by simp [List.getD_eq_getElem?_getD, hi]
  rw [e, place_get h hi]
  exact ⟨hi, rfl⟩

namespace Tr
theorem path_mem (key : Int) : ∀ (n : Nat) (t : Tr), t.weight ≤ n → Well t → (t.path key).2 = true → key ∈ t.keys := by
  intro n
  induction n with
  | zero =>
    rintro ⟨k, cs⟩ hn hw hp
    simp only [weight] at hn
    have hc : cs.length = 0 := by have := length_le_weights cs; omega
    by_cases hf : place key k < k.length ∧ k.getD (place key k) 0 = key
    · have := hf.1
      omega
    · rw [path_leaf hf hc] at hp
      cases hp
  | succ n ih =>
    rintro ⟨k, cs⟩ hn hw hp
    by_cases hf : place key k < k.length ∧ k.getD (place key k) 0 = key
    · refine (own_sub k cs).subset ?_
      have : k[place key k] = key := by have h := hf.2; simpa [List.getD_eq_getElem?_getD, hf.1] using h
      rw [← this]
      exact List.getElem_mem hf.1
    · by_cases hc : cs.length = 0
      · rw [path_leaf hf hc] at hp
        cases hp
      · have hcl := Well.inner hw hc
        have hpl := place_le key k
        have hi : place key k < cs.length := by omega
        rw [path_inner hf hi] at hp
        have hwt := weight_get_le cs _ hi
        simp only [weight] at hn
        exact (kid_sub _ hi).subset (ih _ (by omega) (Well.kid hw _ hi) hp)

theorem mem_path (key : Int) : ∀ (n : Nat) (t : Tr), t.weight ≤ n → Well t → key ∈ t.keys → (t.path key).2 = true := by
  intro n
  induction n with
  | zero =>
    rintro ⟨k, cs⟩ hn hw hm
    simp only [weight] at hn
    have hc : cs.length = 0 := by have := length_le_weights cs; omega
    rw [keys_leaf hc] at hm
    have hk : k = [] := List.length_eq_zero_iff.1 (by omega)
    rw [hk] at hm
    cases hm
  | succ n ih =>
    rintro ⟨k, cs⟩ hn hw hm
    by_cases hf : place key k < k.length ∧ k.getD (place key k) 0 = key
    · rw [path_found hf]
    · by_cases hc : cs.length = 0
      · rw [keys_leaf hc] at hm
        exact absurd (place_mem hw.keys hm) hf
      · have hcl := Well.inner hw hc
        have hpl := place_le key k
        have hi : place key k < cs.length := by omega
        rw [path_inner hf hi]
        have hwt := weight_get_le cs _ hi
        simp only [weight] at hn
        refine ih _ (by omega) (Well.kid hw _ hi) ?_
        obtain ⟨R, hk, hA, hR⟩ := Well.split hw hc key hi
        have hs := hw.2
        rw [hk] at hm hs
        rcases List.mem_append.1 hm with h | h
        · have := hA key h; omega
        rcases List.mem_append.1 h with h | h
        · exact h
        exfalso
        by_cases hpe : place key k = k.length
        · rw [hR hpe, hpe] at h
          simp at h
        · have hlt : place key k < k.length := by omega
          rw [List.getElem?_eq_getElem hlt] at h hs
          simp only [Option.toList_some, List.cons_append, List.nil_append, List.mem_cons] at h hs
          have hge := place_ge hlt
          have hne : ¬ k.getD (place key k) 0 = key := fun e => hf ⟨hlt, e⟩
          have e : k.getD (place key k) 0 = k[place key k] := by simp [List.getD_eq_getElem?_getD, hlt]
          rw [e] at hge hne
          rcases h with h | h
          · omega
          · have h2 := (List.pairwise_append.1 (List.pairwise_append.1 hs).2.1).2.1
            have := (List.pairwise_cons.1 h2).1 key h
            omega

/-- A key is found if it is one of the keys in order. -/
theorem path_iff (key : Int) (t : Tr) (hw : Well t) : (t.path key).2 = true ↔ key ∈ t.keys :=
  ⟨path_mem key t.weight t (Nat.le_refl _) hw, mem_path key t.weight t (Nat.le_refl _) hw⟩

theorem hasB_iff (key : Int) (t : Tr) (hs : t.someB = true) : (t.pathB key).2 = true ↔ key ∈ t.keys := by
  rw [(someB_path key t).1 hs]
  exact path_iff key t (Well.of_some hs)
end Tr
end Go.Proofs.YticfkfjijnfcbaaDoor

/- What seeking a key comes to, beside its rank: plain data. -/
namespace Go.Proofs.YticfkfjijnfcbaaDoor
open Go.RowKit
namespace Tr

theorem whole_seek (t : Tr) (key : Int) : walkB t [] 0 (fun _ => goF key t []) = if t.someB = true ∧ place key t.keys < t.keys.length then curAt t (place key t.keys) else ([], 0, false) := by
  unfold walkB
  obtain ⟨k, cs⟩ := t
  by_cases hs : (Tr.mk k cs).someB = true
  · have hk := keys_own hs
    obtain ⟨g1, g2⟩ := goF_curAt hs key
    by_cases h0 : place key (Tr.mk k cs).keys < (Tr.mk k cs).keys.length
    · have hb : curB (.mk k cs) [] 0 = true := by unfold curB; simp only [nodeTo]; rw [hs]; have := hk.2 (by omega); simp [inB]; omega
      rw [if_pos hb, if_pos ⟨hs, h0⟩]
      exact g1 h0
    · have hr : (if (Tr.mk k cs).someB = true ∧ place key (Tr.mk k cs).keys < (Tr.mk k cs).keys.length then curAt (Tr.mk k cs) (place key (Tr.mk k cs).keys) else ([], 0, false)) = ([], 0, false) := if_neg (fun h => h0 h.2)
      rw [hr]
      by_cases hb : curB (.mk k cs) [] 0 = true
      · rw [if_pos hb]
        exact g2 h0
      · rw [if_neg hb]
  · have hb : ¬ curB (.mk k cs) [] 0 = true := by unfold curB; simp only [nodeTo]; simp [hs]
    rw [if_neg hb, if_neg (fun h => hs h.1)]

theorem seek_facts {t : Tr} (hs : t.someB = true) {key : Int} (hp : place key t.keys < t.keys.length) :
    t.rankB key = (place key t.keys : Int) ∧ t.keyAtB (t.rankB key) = (t.keys.getD (place key t.keys) 0, true) ∧ key ≤ t.keys.getD (place key t.keys) 0 ∧
    (t.keys.getD (place key t.keys) 0 = key ↔ (t.pathB key).2 = true) := by
  have hr : t.rankB key = (place key t.keys : Int) := by unfold Tr.rankB; simp [hs]
  refine ⟨hr, ?_, place_ge hp, ?_⟩
  · rw [hr, (keyAtB_is _ t).1 hs]
    unfold keyL
    rw [if_pos ⟨by omega, by omega⟩, Int.toNat_natCast]
  · rw [hasB_iff key t hs]
    constructor
    · intro h
      rw [← h, List.getD_eq_getElem?_getD, List.getElem?_eq_getElem hp]
      exact List.getElem_mem hp
    · exact fun h => (place_mem (Well.of_some hs).2 h).2
theorem rank_none {t : Tr} (hs : ¬ t.someB = true) (key : Int) : t.rankB key = -1 := by unfold Tr.rankB; simp [hs]
theorem rank_end {t : Tr} (hs : t.someB = true) {key : Int} (hp : ¬ place key t.keys < t.keys.length) : t.rankB key = (t.keys.length : Int) := by
  have := place_le key t.keys
  unfold Tr.rankB
  simp [hs]
  omega
end Tr
end Go.Proofs.YticfkfjijnfcbaaDoor

/- Appends of one int onto a slice of the call's own, inside a fence. -/
namespace Go.Proofs.YticfkfjijnfcbaaDoor
open Go.RowKit

/-- An int just laid, appended onto a slice of the call's own. -/
theorem wpListIn_append_one {F : Fence} {nF : Nat} {W : World} {ops : Array Oper} {rest : List Oper} {o : Oper} {a : Act} {Q : Exit → Act → World → Prop} (hgd : o.guard = none) (s x : Operand)
    (ho : o.op = .call { callee := .builtin .append, args := #[s, x], argTypes := #[22, 22] }) (lo : Nat) (v : Value) (xs : List Int) (k : Int)
    (hs : a.eval s = v) (hown : IntsOwn W lo v xs) (hx : a.eval x = .slice (some ⟨W.heap.size, 0, none⟩) 1 1) (hlen : xs.length ≤ 1048577) (hlo : lo ≤ W.heap.size)
    (h : ∀ a' c' w' (L : List Int), Hid (L = xs ++ [k]) → IntsOwn w' lo (.slice a' L.length c') L → Keep (fun q => v.ownBlock ≠ some q) W w' → ((Value.slice a' L.length c').ownBlock = v.ownBlock ∨ (Value.slice a' L.length c').ownBlock = some (W.heap.size + 1)) →
      wpListIn F nF Tryd.prog ops Q rest (a.put o.dst (.slice a' L.length c')) w') : wpListIn F nF Tryd.prog ops Q (o :: rest) a (W.alloc (.cells #[.int .i64 k] 3)) := by
  obtain ⟨i0, hi0, hz0, hz1, hz2⟩ := info_parts Tryd.appInfo
  refine wpListIn_append_own_at _ hgd s x _ ho lo 3 i0 _ 1 8 Tryd.underlying22 hi0 hz0 hz1 hz2 rfl (by decide) v xs.length (xs.map (Value.int .i64)) hs (IntsOwn.alloc' hown _) ⟨W.heap.size, 0, none⟩ 1 1 [.int .i64 k] hx (by rfl) (World.news_of_block (cs := #[.int .i64 k]) (t := 3) (fr := (0, 0)) (heap_alloc_new W _)) (by simp [Value.oneCell']) (by unfold maxLen; omega) (by omega) (by simp; omega) ?_
  intro v' w' hown' hgrow _ hat
  have hown2 : IntsOwn w' lo v' (xs ++ [k]) := by
    unfold IntsOwn
    rw [List.length_append, List.map_append]
    exact hown'
  obtain ⟨a', c', rfl⟩ := IntsOwn.shown hown2
  refine h a' c' w' _ (Lib.hid rfl) hown2 ?_ (by simpa using hat)
  refine ⟨hgrow.os, hgrow.tape, hgrow.output, by have := hgrow.size; simp at this; omega, fun q h1 h2 => ?_⟩
  rw [hgrow.block q (by simp; omega) (fun e => h2 e.symm), old_blk _ _ _ h1]
end Go.Proofs.YticfkfjijnfcbaaDoor

/- Regions that draw their order and only read, inside a round of a loop over an iterator. -/
namespace Go.Proofs.YticfkfjijnfcbaaDoor
open Go.RowKit

/-- An operation that is no deferring. -/
def undeferred (o : Oper) : Bool := match o.op with | .defer _ => false | _ => true

theorem undeferred_ne {o : Oper} (h : undeferred o = true) : ∀ c, o.op ≠ .defer c := by
  intro c hc
  unfold undeferred at h
  rw [hc] at h
  cases h

variable {F : Fence} {n : Nat} {P : Program} {ops : Array Oper} {Q : Exit → Act → World → Prop} {md : Region.Mode}

/-- What an operation does in a frame outside a round, it does inside one. -/
theorem wpAnyIn_round (l : Nat) (hro : F.round = none) (hp : ∀ (i : Nat) (o : Oper), ops[i]? = some o → undeferred o = true) : ∀ (fuel : Nat) (listed : Array Bool) (a : Act) (w : World),
    wpAnyIn F n P md ops Q fuel listed a w → wpAnyIn (F.inRound l) n P md ops Q fuel listed a w := by
  intro fuel
  induction fuel with
  | zero => intro listed a w h; exact h
  | succ fuel ih =>
    intro listed a w h
    refine ⟨h.1, fun i hi => ?_⟩
    have hh := h.2 i hi
    unfold wpOpIn at hh ⊢
    cases ho : ops[i]? with
    | none => simp only [ho] at hh ⊢; exact ih _ _ _ hh
    | some o =>
      simp only [ho] at hh ⊢
      by_cases hw : Region.wanted o (yielded ops a.tmps) = true
      · rw [if_pos hw] at hh ⊢
        have hh' := Oper.wpIn_mono (fun a w h => ih (listed.setIfInBounds i true) a w h) hh
        unfold Oper.wpIn at hh' ⊢
        refine ⟨hh'.1, ?_⟩
        have e := hh'.2
        rw [hro, Oper.semAt_eq none _ _ (undeferred_ne (hp i o ho))] at e
        rw [Oper.semAt_eq _ _ _ (undeferred_ne (hp i o ho))]
        exact e
      · rw [if_neg hw] at hh ⊢
        exact ⟨hh.1, ih _ _ _ hh.2⟩

/-- The law of quiet regions, inside a round. -/
theorem wpIn_quiet_round {id l : Nat} {a : Act} {w : World} {lst : List Oper} (hro : F.round = none) (hm : P.follows .mixedOrders = true) (hB : Region.lexB .any lst.toArray = true) (hp : lst.all undeferred = true)
    (h : wpQuietIn F n P lst.toArray (fun w' => ∃ n, w' = w.drewN n) (fun a' => ∀ w', (∃ n, w' = w.drewN n) → Q .normal a' w') lst a) : (Code.region id lst.toArray true).wpIn (F.inRound l) n P Q a w := by
  have hB' := hB
  simp only [Region.lexB, Bool.and_eq_true] at hB'
  refine wpIn_region_any hm (wpAnyIn_round l hro ?_ _ _ _ _ (wpAnyIn_of_quiet (C := fun w' => ∃ n, w' = w.drewN n) (Q := fun a' => ∀ w', (∃ n, w' = w.drewN n) → Q .normal a' w') hro (fun _ w' hw' h => h w' hw') _ _ _ _ ⟨1, rfl⟩ ?_))
  · intro i o ho
    rw [List.getElem?_toArray] at ho
    exact List.all_eq_true.1 hp o (List.mem_of_getElem? ho)
  · have h0 := wpAnyQIn_lex (F := F) (n := n) (P := P) (C := fun w' => ∃ n, w' = w.drewN n) (md := .any) hB'.1 lst 0 (Array.replicate lst.toArray.size false) a (by simp) (by simpa using hB'.2) h
    simpa using h0
end Go.Proofs.YticfkfjijnfcbaaDoor

/- Finding: what the planting of a tree and the making of the iterator over the way down leave. -/
namespace Go.Proofs.YticfkfjijnfcbaaDoor
open Go.RowKit

/-- What the planting of a tree and the making of the iterator over the way down leave, from block B on. -/
def DownAt (B gf : Nat) (n : Int) (t : Tr) (s : Value) (W : World) : Prop :=
  ∃ lo hi b q bn bf : Nat, s = .func (.func 118) #[] #[.pointer (some ⟨bn, 0, none⟩), .pointer (some ⟨bf, 0, none⟩)] ∧ NodeIn W lo hi b t ∧ B ≤ lo ∧ hi ≤ W.heap.size ∧ B ≤ q ∧ B ≤ bn ∧ B ≤ bf ∧
    W.heap[bn]? = some (.cells #[.pointer (some ⟨b, 0, none⟩)] 99 (0, 0)) ∧
    W.heap[bf]? = some (.cells #[.func (.func gf) #[] #[.pointer (some ⟨q, 0, none⟩)]] 86 (0, 0)) ∧
    W.heap[q]? = some (.cells #[.int .i64 n] 3 (0, 0))

theorem ownsRow_held {w w' : World} {base : Nat} {e : TypeId} {size n : Nat} {v : Value} {xs : List Value} (h : w.ownsRow base e size v n xs) (hb : ∀ k, v.ownBlock = some k → w'.heap[k]? = w.heap[k]?) : w'.ownsRow base e size v n xs := by
  obtain ⟨h1, h2 | ⟨g, cap, cur, hv, hbb, hg, hr⟩⟩ := h
  · exact ⟨h1, .inl h2⟩
  · exact ⟨h1, .inr ⟨g, cap, cur, hv, hbb, (hb g (by rw [hv]; rfl)).trans hg, hr⟩⟩

theorem downAt_mk {B gf : Nat} {n : Int} {t : Tr} {wp w8 wl : World} {nb : Nat} (hB : B ≤ wp.heap.size) (hnd : NodeIn w8 wp.heap.size w8.heap.size nb t) (hl : wl.heap = w8.heap) (hs8 : wp.heap.size ≤ w8.heap.size) :
    DownAt B gf n t (.func (.func 118) #[] #[.pointer (some ⟨(wl.alloc (.cells #[.int .i64 n] 3)).heap.size, 0, none⟩), .pointer (some ⟨(wl.alloc (.cells #[.int .i64 n] 3)).heap.size + 1, 0, none⟩)])
      (((wl.alloc (.cells #[.int .i64 n] 3)).alloc (.cells #[.pointer (some ⟨nb, 0, none⟩)] 99)).alloc (.cells #[.func (.func gf) #[] #[.pointer (some ⟨wl.heap.size, 0, none⟩)]] 86)) := by
  have hls : wl.heap.size = w8.heap.size := by rw [hl]
  refine ⟨wp.heap.size, w8.heap.size, nb, wl.heap.size, _, _, rfl, hnd.same (fun k _ h => ?_), hB, by simp; omega, by omega, by simp; omega, by simp; omega, ?_, ?_, ?_⟩
  · rw [old_blk _ _ _ (by simp <;> omega), old_blk _ _ _ (by simp <;> omega), old_blk _ _ _ (by omega), hl]
  · rw [old_blk _ _ _ (by simp), new_blk]
  · rw [show (wl.alloc (.cells #[.int .i64 n] 3)).heap.size + 1 = ((wl.alloc (.cells #[.int .i64 n] 3)).alloc (.cells #[.pointer (some ⟨nb, 0, none⟩)] 99)).heap.size by simp, new_blk]
  · rw [old_blk _ _ _ (by simp <;> omega), old_blk _ _ _ (by simp), new_blk]
end Go.Proofs.YticfkfjijnfcbaaDoor

/- The contract of hasAt: whether a key is the one at a place of a node. -/
namespace Go.Proofs.YticfkfjijnfcbaaDoor
open Go.RowKit

set_option maxRecDepth 100000 in
set_option maxHeartbeats 1000000 in
theorem hasAt_c {w : World} {b : Nat} {kv cv : Value} {ks : List Int} (hbox : w.heap[b]? = some (.cells #[kv, cv] 110 (0, 0))) (hk : IntsAt w kv ks) (_hl : ks.length ≤ 9223372036854775807) (i : Nat) (hi : i ≤ ks.length) (key : Int) :
    Calls Tryd.prog 134 #[.pointer (some ⟨b, 0, none⟩), .int .i64 (i : Int), .int .i64 key] w fun e w' => e = .returned (.bool (decide (i < ks.length ∧ ks.getD i 0 = key))) ∧ w' = w := by
  obtain ⟨ka, kcap, rfl, k1, k2⟩ := hk
  obtain ⟨x1, x2, x3, x4⟩ := box2 hbox
  by_cases f1 : i < ks.length
  · rcases k2 with h0 | ⟨kb, ko, rfl, g3⟩
    · rw [h0] at f1; simp at f1
    have z1 := g3 i f1
    have f1' : ((i : Int) < (ks.length : Int)) := by omega
    have hd : decide (i < ks.length ∧ ks.getD i 0 = key) = (ks.getD i 0 == key) := by
      rw [Bool.eq_iff_iff]; simp [f1]
    rw [hd]
    clear g3 hd f1 k1 hbox
    generalize ks.getD i 0 = x at z1 ⊢
    go_enter Tryd.func134, Tryd.ntmps134
    go_wp2_with fail
    go_ret
    exact ⟨rfl, rfl⟩
  · have hd : decide (i < ks.length ∧ ks.getD i 0 = key) = false := by simp [f1]
    rw [hd]
    have f1' : ¬ ((i : Int) < (ks.length : Int)) := by omega
    clear hd f1 k1 k2 hbox
    go_enter Tryd.func134, Tryd.ntmps134
    go_wp2_with fail
    go_ret
    exact ⟨rfl, rfl⟩
end Go.Proofs.YticfkfjijnfcbaaDoor
